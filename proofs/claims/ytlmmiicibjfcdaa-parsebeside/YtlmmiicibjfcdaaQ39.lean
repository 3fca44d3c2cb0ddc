/- The reference of token: brackets that do not begin with ^: the walk. -/
import Derived.Test.YtlmmiicibjfcdaaQ38
namespace Go.Proofs.Ytlmmiicibjfcdaa.X
open Go.RowKit Go.Shelf
def RetBr (w : World) (z : Nat → Nat) (n op : Nat) (e : Ending) (w' : World) : Prop := RetO w (tokOf (brkS z n op).z) (brkS z n op).en (brkS z n op).er e w'
theorem RetBr.bad {w w' : World} {z : Nat → Nat} {n op en : Nat} {er : Int} {e : Ending} (h : brkS z n op = .bad en er) (he : e = .returned (.tuple #[tokV 0 0 0 0 0 0 false 0 0 false 0, .int .i64 (en : Nat), .int .i64 er])) (hb : Below w.heap.size w w') : RetBr w z n op e w' := by
  unfold RetBr
  rw [h, tokOf_bad]
  exact ⟨he, hb⟩
theorem rbr_start {w : World} {z : Nat → Nat} {n op : Nat} {nt : Bool} (hn : (n : Int) ≤ 1024) (h1 : op + 1 < n) (hq : (z (op + 1) = 94 ∧ nt = true) ∨ (z (op + 1) ≠ 94 ∧ nt = false)) : BrI w z n op nt (if nt = true then op + 2 else op + 1) 0 (fun _ => false) ((w.alloc (.cells #[.int .i64 0, .int .u8 0, .int .u64 0, .int .u64 0, .int .u64 0, .int .u64 0, .bool false, .int .i64 0, .int .i64 0, .bool false, .int .i64 0] 42)).alloc (.cells #[.int .u64 0, .int .u64 0, .int .u64 0, .int .u64 0] 40)) := by
  have hb : hasP z n (op + 1) 94 = nt := by
    rcases hq with ⟨h, rfl⟩ | ⟨h, rfl⟩
    · exact hasP_eq h1 h
    · exact hasP_ne h
  refine ⟨by split <;> omega, by omega, ⟨1100, ?_, ?_⟩, .inl ⟨rfl, rfl⟩, (Cl.new w 42 _).alloc _, ⟨0, 0, 0, 0, c4_none, ?_⟩, bel2 _ _ _⟩
  · split <;> omega
  · unfold brkS; rw [hb]
  · have := Bx.new (w.alloc (.cells #[.int .i64 0, .int .u8 0, .int .u64 0, .int .u64 0, .int .u64 0, .int .u64 0, .bool false, .int .i64 0, .int .i64 0, .bool false, .int .i64 0] 42)) (.int .u64 0) (.int .u64 0) (.int .u64 0) (.int .u64 0)
    simpa using this
theorem runion_two {P Q : Nat → Bool} {a b c d e f g h : Nat} (k : C4 P a b c d) (l : C4 Q e f g h) (W : World) : Calls Try.prog 111 #[.slice (some ⟨W.heap.size, 0, none⟩) 2 2] (W.alloc (.cells #[.int .u64 (a : Nat), .int .u64 (b : Nat), .int .u64 (c : Nat), .int .u64 (d : Nat), .int .u64 (e : Nat), .int .u64 (f : Nat), .int .u64 (g : Nat), .int .u64 (h : Nat)] 40)) (RetC W fun x => P x || Q x) := by
  refine (runion_any _ 2 2 _ (fun i => if i = 0 then P else Q) _ (rdc_two W a b c d e f g h) (fun i hi => ?_) (by decide)).mono ?_
  · have h1 : i = 0 ∨ i = 1 := by omega
    rcases h1 with rfl | rfl
    · exact k
    · exact l
  · rintro en w' ⟨⟨p, q, r, s, rfl, h4⟩, hb⟩
    refine ⟨⟨p, q, r, s, rfl, h4.congr fun x _ => ?_⟩, ((Below.refl _ _).alloc (Nat.le_refl _) _).trans (hb.mono (by simp))⟩
    simp [unN]
set_option maxRecDepth 20000 in
set_option maxHeartbeats 40000000 in
theorem rbr_no (bb off n cap op : Nat) (z : Nat → Nat) (w : World) (hr : Rd w (some ⟨bb, off, none⟩) n z) (hn : (n : Int) ≤ 1024) (h1 : op + 1 < n) (x : Nat) (hx : z (op + 1) = x) (hq : x ≠ 94) : Calls Try.prog 90 #[.slice (some ⟨bb, off, none⟩) n cap, .int .i64 (op : Nat)] w (RetBr w z n op) := by
  have hI0 := rbr_start (w := w) (z := z) (nt := false) hn h1 (.inr ⟨by rw [hx]; exact hq, rfl⟩)
  have HU : Hid (∀ k, k < n → ∀ W, Below w.heap.size w W → Calls Try.prog 110 #[.slice (some ⟨bb, off, none⟩) n cap, .int .i64 (k : Nat)] W (RetP W (refR (uniS z n k)).1 (refR (uniS z n k)).2)) := fun k hk W hb => runit_any _ n cap k z W (hr.below hb) hn hk
  have HC : Hid (∀ W, Below w.heap.size w W → ∀ k, k < n → W.cell? ⟨bb, off + k, none⟩ = some (.int .u8 (z k : Nat))) := fun W hb k hk => by
    obtain ⟨b', o', e, hlt, hc⟩ := hr.at_ (by omega)
    cases e
    rw [hb.cell (p := ⟨bb, off + k, none⟩) hlt]; exact hc k hk
  have HZ : Hid (∀ i, i < n → z i < 256) := hr.small
  have t0 := HC.out _ (bel2 w (.cells #[.int .i64 0, .int .u8 0, .int .u64 0, .int .u64 0, .int .u64 0, .int .u64 0, .bool false, .int .i64 0, .int .i64 0, .bool false, .int .i64 0] 42) (.cells #[.int .u64 0, .int .u64 0, .int .u64 0, .int .u64 0] 40)) (op + 1) h1
  rw [hx] at t0
  have q94 : ((x : Int) == 94) = false := by simp; omega
  have j1 : (op : Int) + 1 < (n : Int) := by omega
  clear hr hx hq
  go_enter Try.func90, Try.ntmps90
  go_wp2
  go_loopw [8, 10] (fun i u wr => ∃ (k m : Nat) (P : Nat → Bool), i = .int .i64 (k : Nat) ∧ u = .int .i64 (m : Nat) ∧ BrI w z n op false k m P wr) (fun i _ _ => n - (intOf i).toNat)
  case atStart => exact ⟨op + 1, 0, fun _ => false, by go_num, rfl, hI0⟩
  case round =>
    obtain ⟨k, m, P, rfl, rfl, hI⟩ := hrel
    clear hI0 t0 q94 j1
    by_cases hlt : k < n
    · have hki : (k : Int) < (n : Int) := by omega
      have tk := HC.out wr hI.bel k hlt
      by_cases h93 : z k = 93
      · have hge : ¬ (k : Int) ≥ (n : Int) := by omega
        have hcl := brk_close hI hlt h93
        have hres := hI.res
        obtain ⟨⟨b0, b1, b2, b3, b4, b5, b6, b7, b8, b9, b10⟩, g0, g1, g2, g3, g4, g5, g6, g7, g8, g9, g10⟩ := hres.eleven
        have HR : Hid (Cl wr w.heap.size 42 [.int .i64 0, .int .u8 0, .int .u64 0, .int .u64 0, .int .u64 0, .int .u64 0, .bool false, .int .i64 0, .int .i64 0, .bool false, .int .i64 0]) := hres
        have HF : Hid (Below w.heap.size w wr) := hI.bel
        have hub := hI.ub
        rw [h93] at tk
        rcases hI.un with ⟨rfl, rfl⟩ | ⟨hm, hs⟩
        · rw [may_none, if_neg (by decide)] at hcl
          have HE : Hid (brkS z n op = .bad op 41) := hcl
          clear hcl hres hI HU HC HZ h93
          go_wp2
          go_quiet (fail)
          go_wp2
          have k1 := HR.out.below (bel_drewN wr nq)
          have F := (k1.put11 (.int .i64 0) (.int .u8 0) (.int .u64 0) (.int .u64 0) (.int .u64 0) (.int .u64 0) (.bool false) (.int .i64 0) (.int .i64 0) (.bool false) (.int .i64 0)).eleven.1
          have hB4 := below_put11 (b := w.heap.size) (HF.out.trans ((bel_drewN wr nq).mono HF.out.size)) (Nat.le_refl _) (.int .i64 0) (.int .u8 0) (.int .u64 0) (.int .u64 0) (.int .u64 0) (.int .u64 0) (.bool false) (.int .i64 0) (.int .i64 0) (.bool false) (.int .i64 0)
          simp only [put11] at F hB4
          obtain ⟨F0, F1, F2, F3, F4, F5, F6, F7, F8, F9, F10⟩ := F
          exact bodyPost_ret (v := .tuple #[tokV 0 0 0 0 0 0 false 0 0 false 0, .int .i64 (op : Nat), .int .i64 41]) (by simp [results, Try.results90, go_sem, tokV, F0, F1, F2, F3, F4, F5, F6, F7, F8, F9, F10]) rfl (RetBr.bad HE.out rfl hB4)
        · rw [may_some _ hs] at hcl
          have HE : Hid (brkS z n op = .cls P false op (k + 1)) := by
            rw [if_pos (by simp)] at hcl; exact hcl
          obtain ⟨a, b, c, d, h4, hx⟩ := hI.box
          obtain ⟨rfl, rfl, rfl, rfl⟩ := h4.uniq (wds_is P)
          have m0 : ((m : Int) == 0) = false := by simp; omega
          obtain ⟨y0, y1, y2, y3, v0, v1, v2, v3⟩ := hx.cells
          have ki : (k : Int) + 1 ≤ 1025 := by omega
          clear hcl hres hI HU HC HZ h93 hx h4 hs hm hub
          have HW : Hid (tokOf (TokS.cls P false op (k + 1)).z = tokV 2 0 (wds P 0) (wds P 1) (wds P 2) (wds P 3) false 0 0 false 0) := rfl
          generalize wds P 0 = a0 at *
          generalize wds P 1 = a1 at *
          generalize wds P 2 = a2 at *
          generalize wds P 3 = a3 at *
          go_wp2
          go_quiet (fail)
          go_wp2
          have k1 := HR.out.below (bel_drewN wr nq)
          have F := (k1.put11 (.int .i64 2) (.int .u8 0) (.int .u64 (a0 : Nat)) (.int .u64 (a1 : Nat)) (.int .u64 (a2 : Nat)) (.int .u64 (a3 : Nat)) (.bool false) (.int .i64 0) (.int .i64 0) (.bool false) (.int .i64 0)).eleven.1
          have hB4 := below_put11 (b := w.heap.size) (HF.out.trans ((bel_drewN wr nq).mono HF.out.size)) (Nat.le_refl _) (.int .i64 2) (.int .u8 0) (.int .u64 (a0 : Nat)) (.int .u64 (a1 : Nat)) (.int .u64 (a2 : Nat)) (.int .u64 (a3 : Nat)) (.bool false) (.int .i64 0) (.int .i64 0) (.bool false) (.int .i64 0)
          simp only [put11] at F hB4
          obtain ⟨F0, F1, F2, F3, F4, F5, F6, F7, F8, F9, F10⟩ := F
          exact bodyPost_ret (v := .tuple #[tokV 2 0 a0 a1 a2 a3 false 0 0 false 0, .int .i64 ((k : Int) + 1), .int .i64 0]) (by simp [results, Try.results90, go_sem, tokV, F0, F1, F2, F3, F4, F5, F6, F7, F8, F9, F10]) rfl (by unfold RetBr; rw [HE.out, HW.out]; exact ⟨rfl, hB4⟩)
      have q93 : ((z k : Int) != 93) = true := by simp; omega
      rcases uniS_two z n k with he | he
      · have hsome := uniS_some z n k HZ.out hlt he
        obtain ⟨hu1, hu2, hu3⟩ := uniS_unit z n k HZ.out hlt he
        have HU1 := HU.out k hlt wr hI.bel
        obtain ⟨t0, t1, a0, a1, a2, a3, eT, hK, eK, eB⟩ : ∃ (t0 : Int) (t1 a0 a1 a2 a3 : Nat), tokOf (uniS z n k).z = .agg #[.int .i64 t0, .int .u8 (t1 : Nat), .int .u64 (a0 : Nat), .int .u64 (a1 : Nat), .int .u64 (a2 : Nat), .int .u64 (a3 : Nat), .bool false, .int .i64 0, .int .i64 0, .bool false, .int .i64 0] ∧ (∀ W, Calls Try.prog 112 #[.agg #[.int .i64 t0, .int .u8 (t1 : Nat), .int .u64 (a0 : Nat), .int .u64 (a1 : Nat), .int .u64 (a2 : Nat), .int .u64 (a3 : Nat), .bool false, .int .i64 0, .int .i64 0, .bool false, .int .i64 0]] W (RetC W (oneS (uniS z n k)))) ∧ (uniS z n k).k = t0 ∧ (uniS z n k).b = t1 := by
          rcases hu3 with ⟨b, hb, e⟩ | ⟨Q, e⟩
          · rw [e, tokOf_sgn]
            exact ⟨1, b, 0, 0, 0, 0, rfl, fun W => classOf_byte b hb 0 W, rfl, rfl⟩
          · rw [e]
            exact ⟨2, 0, wds Q 0, wds Q 1, wds Q 2, wds Q 3, rfl, fun W => classOf_class (wds_is Q) false 0 0 false 0 W, rfl, rfl⟩
        unfold refR at HU1
        rw [if_pos he, eT] at HU1
        simp only [] at HU1
        by_cases hd : dashP z n (uniS z n k).en = false
        · have e1 : untS z n k = (oneS (uniS z n k), (uniS z n k).en, 0) := by unfold untS; rw [if_neg (by simp [he]), if_pos hd]
          have HN : Hid (∀ W' R a b c d, (∀ x, x < 256 → R x = (P x || oneS (uniS z n k) x)) → Below wr.heap.size wr W' → C4 R a b c d → BrI w z n op false (uniS z n k).en (m + 1) (fun x => P x || oneS (uniS z n k) x) (put4 W' (w.heap.size + 1) (.int .u64 (a : Nat)) (.int .u64 (b : Nat)) (.int .u64 (c : Nat)) (.int .u64 (d : Nat)))) := by
            intro W' R a b c d hR hb h4
            have := hI.next hlt h93 (by rw [e1]) (by rw [e1]) hR hsome hb h4
            rw [e1] at this
            exact this
          obtain ⟨p, q, r, s, hp4, hx⟩ := hI.box
          have hbel := hI.bel
          have hub := hI.ub
          have hm1 : (m : Int) + 1 ≤ 1025 := by omega
          have HM : Hid (k < (uniS z n k).en ∧ (uniS z n k).en ≤ n) := ⟨hu1, hu2⟩
          have HC2 := HC
          clear e1 hu3 hsome eT he hI HU HC HZ h93 eK eB
          generalize hen : (uniS z n k).en = en at *
          generalize hQ : oneS (uniS z n k) = Q at *
          have en1 : (en : Int) + 1 ≤ 1025 := by omega
          clear hen hQ
          obtain ⟨o0, o1, o2, o3, ho⟩ : ∃ a b c d, C4 Q a b c d := ⟨_, _, _, _, wds_is Q⟩
          generalize z k = zk at *
          have en0 : ((en : Int) == 0) = false := by simp; omega
          by_cases d1 : en + 1 < n
          · have d2 : ¬ (en : Int) + 1 ≥ (n : Int) := by omega
            have d3 : (en : Int) + 1 < (n : Int) := by omega
            have d4 : (en : Int) < (n : Int) := by omega
            by_cases d5 : z en = 45
            · have d6 : z (en + 1) = 93 := by
                unfold dashP at hd
                rw [hasP_eq (by omega) d5] at hd
                simpa [d1] using hd
              have D : Hid (z en = 45 ∧ z (en + 1) = 93 ∧ en < n ∧ en + 1 < n) := ⟨d5, d6, by omega, d1⟩
              clear hd d5 d6 d1
              go_wp2_with fail
              refine HU1.mono ?_
              rintro e w1 ⟨rfl, hb⟩
              replace hx := (hx.below hb).alloc (.cells #[.int .i64 t0, .int .u8 (t1 : Nat), .int .u64 (a0 : Nat), .int .u64 (a1 : Nat), .int .u64 (a2 : Nat), .int .u64 (a3 : Nat), .bool false, .int .i64 0, .int .i64 0, .bool false, .int .i64 0] 42)
              have hT := Cl.new w1 42 [.int .i64 t0, .int .u8 (t1 : Nat), .int .u64 (a0 : Nat), .int .u64 (a1 : Nat), .int .u64 (a2 : Nat), .int .u64 (a3 : Nat), .bool false, .int .i64 0, .int .i64 0, .bool false, .int .i64 0]
              have hB1 := hb.alloc hb.size (.cells #[.int .i64 t0, .int .u8 (t1 : Nat), .int .u64 (a0 : Nat), .int .u64 (a1 : Nat), .int .u64 (a2 : Nat), .int .u64 (a3 : Nat), .bool false, .int .i64 0, .int .i64 0, .bool false, .int .i64 0] 42)
              have hHK : Hid (∀ W, Calls Try.prog 112 #[.agg #[.int .i64 t0, .int .u8 (t1 : Nat), .int .u64 (a0 : Nat), .int .u64 (a1 : Nat), .int .u64 (a2 : Nat), .int .u64 (a3 : Nat), .bool false, .int .i64 0, .int .i64 0, .bool false, .int .i64 0]] W fun e w' => e = .returned (.agg #[.int .u64 (o0 : Nat), .int .u64 (o1 : Nat), .int .u64 (o2 : Nat), .int .u64 (o3 : Nat)]) ∧ Below W.heap.size W w') := fun W => (hK W).mono fun e w' h => by
                obtain ⟨⟨g0, g1, g2, g3, rfl, h4⟩, hb⟩ := h
                obtain ⟨rfl, rfl, rfl, rfl⟩ := h4.uniq ho
                exact ⟨rfl, hb⟩
              have hrel0 : Hid (Below wr.heap.size wr (w1.alloc (.cells #[.int .i64 t0, .int .u8 (t1 : Nat), .int .u64 (a0 : Nat), .int .u64 (a1 : Nat), .int .u64 (a2 : Nat), .int .u64 (a3 : Nat), .bool false, .int .i64 0, .int .i64 0, .bool false, .int .i64 0] 42))) := hB1
              clear HU1 hb tk hK
              have wc := HC2.out _ (hbel.trans (hrel0.out.mono hbel.size)) en D.out.2.2.1
              have wd := HC2.out _ (hbel.trans (hrel0.out.mono hbel.size)) (en + 1) D.out.2.2.2
              rw [D.out.1] at wc
              rw [D.out.2.1] at wd
              go_wp2_with fail
              have hlt1 : w1.heap.size < (w1.alloc (.cells #[.int .i64 t0, .int .u8 (t1 : Nat), .int .u64 (a0 : Nat), .int .u64 (a1 : Nat), .int .u64 (a2 : Nat), .int .u64 (a3 : Nat), .bool false, .int .i64 0, .int .i64 0, .bool false, .int .i64 0] 42)).heap.size := by simp
              obtain ⟨br, hbr⟩ : ∃ br, w1.heap.size = br := ⟨_, rfl⟩
              rw [hbr] at hT hlt1 ⊢
              generalize w1.alloc (.cells #[.int .i64 t0, .int .u8 (t1 : Nat), .int .u64 (a0 : Nat), .int .u64 (a1 : Nat), .int .u64 (a2 : Nat), .int .u64 (a3 : Nat), .bool false, .int .i64 0, .int .i64 0, .bool false, .int .i64 0] 42) = W0 at *
              obtain ⟨c0, c1, c2, c3, c4, c5, c6, c7, c8, c9, c10⟩ := hT.eleven.1
              obtain ⟨y0, y1, y2, y3, v0, v1, v2, v3⟩ := hx.cells
              replace c0 := Near.cell c0 hlt1
              replace c1 := Near.cell c1 hlt1
              replace c2 := Near.cell c2 hlt1
              replace c3 := Near.cell c3 hlt1
              replace c4 := Near.cell c4 hlt1
              replace c5 := Near.cell c5 hlt1
              replace c6 := Near.cell c6 hlt1
              replace c7 := Near.cell c7 hlt1
              replace c8 := Near.cell c8 hlt1
              replace c9 := Near.cell c9 hlt1
              replace c10 := Near.cell c10 hlt1
              replace y0 := Near.cell y0 hx.lt
              replace y1 := Near.cell y1 hx.lt
              replace y2 := Near.cell y2 hx.lt
              replace y3 := Near.cell y3 hx.lt
              clear v0 v1 v2 v3 hbr hlt1
              refine wp_region_quiet_tail 3 (fun w' => ∃ u : World, w' = near W0 u) (by kernel_rfl) (by kernel_rfl) (Near.start _) ?_
              simp only [List.take_succ_cons, List.take_zero, List.drop_succ_cons, List.drop_zero]
              repeat (go_big_quiet_step ((go_at_call 112; exact Near.call (hHK.out _))))
              refine wpQuiet_nil ?_
              rintro _ ⟨u, rfl⟩
              clear c0 c1 c2 c3 c4 c5 c6 c7 c8 c9 c10 y0 y1 y2 y3
              replace hx := hx.below (near_below W0 u)
              have hB2 : Hid (Below wr.heap.size wr (near W0 u)) := hrel0.out.trans ((near_below W0 u).mono hrel0.out.size)
              clear hrel0 hHK hT
              generalize near W0 u = W1 at *
              go_wp2_with (go_at_call 111; refine (runion_two hp4 ho _).mono ?_; rintro en' v2 ⟨⟨p2, q2, r2, s2, rfl, k2⟩, qq⟩; have hx2 := hx.below qq; obtain ⟨y0, y1, y2, y3, f0, f1, f2, f3⟩ := hx2.cells)
              have HX := HN.out v2 _ p2 q2 r2 s2 (fun _ _ => rfl) (hB2.out.trans (qq.mono hB2.out.size)) k2
              go_wp2
              go_roundw
              case rel => exact ⟨en, m + 1, _, rfl, by go_num, HX⟩
              case measure => have := HM.out; simp [intOf]; omega
            · have D : Hid (en < n) := by show en < n; omega
              have d6 : ((z en : Int) != 45) = true := by simp; omega
              have wc0 := HC2.out
              clear hd d5 d1
              generalize hze : z en = ze at *
              go_wp2_with fail
              refine HU1.mono ?_
              rintro e w1 ⟨rfl, hb⟩
              replace hx := (hx.below hb).alloc (.cells #[.int .i64 t0, .int .u8 (t1 : Nat), .int .u64 (a0 : Nat), .int .u64 (a1 : Nat), .int .u64 (a2 : Nat), .int .u64 (a3 : Nat), .bool false, .int .i64 0, .int .i64 0, .bool false, .int .i64 0] 42)
              have hT := Cl.new w1 42 [.int .i64 t0, .int .u8 (t1 : Nat), .int .u64 (a0 : Nat), .int .u64 (a1 : Nat), .int .u64 (a2 : Nat), .int .u64 (a3 : Nat), .bool false, .int .i64 0, .int .i64 0, .bool false, .int .i64 0]
              have hB1 := hb.alloc hb.size (.cells #[.int .i64 t0, .int .u8 (t1 : Nat), .int .u64 (a0 : Nat), .int .u64 (a1 : Nat), .int .u64 (a2 : Nat), .int .u64 (a3 : Nat), .bool false, .int .i64 0, .int .i64 0, .bool false, .int .i64 0] 42)
              have hHK : Hid (∀ W, Calls Try.prog 112 #[.agg #[.int .i64 t0, .int .u8 (t1 : Nat), .int .u64 (a0 : Nat), .int .u64 (a1 : Nat), .int .u64 (a2 : Nat), .int .u64 (a3 : Nat), .bool false, .int .i64 0, .int .i64 0, .bool false, .int .i64 0]] W fun e w' => e = .returned (.agg #[.int .u64 (o0 : Nat), .int .u64 (o1 : Nat), .int .u64 (o2 : Nat), .int .u64 (o3 : Nat)]) ∧ Below W.heap.size W w') := fun W => (hK W).mono fun e w' h => by
                obtain ⟨⟨g0, g1, g2, g3, rfl, h4⟩, hb⟩ := h
                obtain ⟨rfl, rfl, rfl, rfl⟩ := h4.uniq ho
                exact ⟨rfl, hb⟩
              have hrel0 : Hid (Below wr.heap.size wr (w1.alloc (.cells #[.int .i64 t0, .int .u8 (t1 : Nat), .int .u64 (a0 : Nat), .int .u64 (a1 : Nat), .int .u64 (a2 : Nat), .int .u64 (a3 : Nat), .bool false, .int .i64 0, .int .i64 0, .bool false, .int .i64 0] 42))) := hB1
              clear HU1 hb tk hK
              have wc := wc0 _ (hbel.trans (hrel0.out.mono hbel.size)) en D.out
              rw [hze] at wc
              clear wc0
              go_wp2_with fail
              have hlt1 : w1.heap.size < (w1.alloc (.cells #[.int .i64 t0, .int .u8 (t1 : Nat), .int .u64 (a0 : Nat), .int .u64 (a1 : Nat), .int .u64 (a2 : Nat), .int .u64 (a3 : Nat), .bool false, .int .i64 0, .int .i64 0, .bool false, .int .i64 0] 42)).heap.size := by simp
              obtain ⟨br, hbr⟩ : ∃ br, w1.heap.size = br := ⟨_, rfl⟩
              rw [hbr] at hT hlt1 ⊢
              generalize w1.alloc (.cells #[.int .i64 t0, .int .u8 (t1 : Nat), .int .u64 (a0 : Nat), .int .u64 (a1 : Nat), .int .u64 (a2 : Nat), .int .u64 (a3 : Nat), .bool false, .int .i64 0, .int .i64 0, .bool false, .int .i64 0] 42) = W0 at *
              obtain ⟨c0, c1, c2, c3, c4, c5, c6, c7, c8, c9, c10⟩ := hT.eleven.1
              obtain ⟨y0, y1, y2, y3, v0, v1, v2, v3⟩ := hx.cells
              replace c0 := Near.cell c0 hlt1
              replace c1 := Near.cell c1 hlt1
              replace c2 := Near.cell c2 hlt1
              replace c3 := Near.cell c3 hlt1
              replace c4 := Near.cell c4 hlt1
              replace c5 := Near.cell c5 hlt1
              replace c6 := Near.cell c6 hlt1
              replace c7 := Near.cell c7 hlt1
              replace c8 := Near.cell c8 hlt1
              replace c9 := Near.cell c9 hlt1
              replace c10 := Near.cell c10 hlt1
              replace y0 := Near.cell y0 hx.lt
              replace y1 := Near.cell y1 hx.lt
              replace y2 := Near.cell y2 hx.lt
              replace y3 := Near.cell y3 hx.lt
              clear v0 v1 v2 v3 hbr hlt1
              refine wp_region_quiet_tail 3 (fun w' => ∃ u : World, w' = near W0 u) (by kernel_rfl) (by kernel_rfl) (Near.start _) ?_
              simp only [List.take_succ_cons, List.take_zero, List.drop_succ_cons, List.drop_zero]
              repeat (go_big_quiet_step ((go_at_call 112; exact Near.call (hHK.out _))))
              refine wpQuiet_nil ?_
              rintro _ ⟨u, rfl⟩
              clear c0 c1 c2 c3 c4 c5 c6 c7 c8 c9 c10 y0 y1 y2 y3
              replace hx := hx.below (near_below W0 u)
              have hB2 : Hid (Below wr.heap.size wr (near W0 u)) := hrel0.out.trans ((near_below W0 u).mono hrel0.out.size)
              clear hrel0 hHK hT
              generalize near W0 u = W1 at *
              go_wp2_with (go_at_call 111; refine (runion_two hp4 ho _).mono ?_; rintro en' v2 ⟨⟨p2, q2, r2, s2, rfl, k2⟩, qq⟩; have hx2 := hx.below qq; obtain ⟨y0, y1, y2, y3, f0, f1, f2, f3⟩ := hx2.cells)
              have HX := HN.out v2 _ p2 q2 r2 s2 (fun _ _ => rfl) (hB2.out.trans (qq.mono hB2.out.size)) k2
              go_wp2
              go_roundw
              case rel => exact ⟨en, m + 1, _, rfl, by go_num, HX⟩
              case measure => have := HM.out; simp [intOf]; omega
          · have d2 : (en : Int) + 1 ≥ (n : Int) := by omega
            clear hd
            go_wp2_with fail
            refine HU1.mono ?_
            rintro e w1 ⟨rfl, hb⟩
            replace hx := (hx.below hb).alloc (.cells #[.int .i64 t0, .int .u8 (t1 : Nat), .int .u64 (a0 : Nat), .int .u64 (a1 : Nat), .int .u64 (a2 : Nat), .int .u64 (a3 : Nat), .bool false, .int .i64 0, .int .i64 0, .bool false, .int .i64 0] 42)
            have hT := Cl.new w1 42 [.int .i64 t0, .int .u8 (t1 : Nat), .int .u64 (a0 : Nat), .int .u64 (a1 : Nat), .int .u64 (a2 : Nat), .int .u64 (a3 : Nat), .bool false, .int .i64 0, .int .i64 0, .bool false, .int .i64 0]
            have hB1 := hb.alloc hb.size (.cells #[.int .i64 t0, .int .u8 (t1 : Nat), .int .u64 (a0 : Nat), .int .u64 (a1 : Nat), .int .u64 (a2 : Nat), .int .u64 (a3 : Nat), .bool false, .int .i64 0, .int .i64 0, .bool false, .int .i64 0] 42)
            have hHK : Hid (∀ W, Calls Try.prog 112 #[.agg #[.int .i64 t0, .int .u8 (t1 : Nat), .int .u64 (a0 : Nat), .int .u64 (a1 : Nat), .int .u64 (a2 : Nat), .int .u64 (a3 : Nat), .bool false, .int .i64 0, .int .i64 0, .bool false, .int .i64 0]] W fun e w' => e = .returned (.agg #[.int .u64 (o0 : Nat), .int .u64 (o1 : Nat), .int .u64 (o2 : Nat), .int .u64 (o3 : Nat)]) ∧ Below W.heap.size W w') := fun W => (hK W).mono fun e w' h => by
              obtain ⟨⟨g0, g1, g2, g3, rfl, h4⟩, hb⟩ := h
              obtain ⟨rfl, rfl, rfl, rfl⟩ := h4.uniq ho
              exact ⟨rfl, hb⟩
            have hrel0 : Hid (Below wr.heap.size wr (w1.alloc (.cells #[.int .i64 t0, .int .u8 (t1 : Nat), .int .u64 (a0 : Nat), .int .u64 (a1 : Nat), .int .u64 (a2 : Nat), .int .u64 (a3 : Nat), .bool false, .int .i64 0, .int .i64 0, .bool false, .int .i64 0] 42))) := hB1
            clear HU1 hb tk hK
            go_wp2_with fail
            have hlt1 : w1.heap.size < (w1.alloc (.cells #[.int .i64 t0, .int .u8 (t1 : Nat), .int .u64 (a0 : Nat), .int .u64 (a1 : Nat), .int .u64 (a2 : Nat), .int .u64 (a3 : Nat), .bool false, .int .i64 0, .int .i64 0, .bool false, .int .i64 0] 42)).heap.size := by simp
            obtain ⟨br, hbr⟩ : ∃ br, w1.heap.size = br := ⟨_, rfl⟩
            rw [hbr] at hT hlt1 ⊢
            generalize w1.alloc (.cells #[.int .i64 t0, .int .u8 (t1 : Nat), .int .u64 (a0 : Nat), .int .u64 (a1 : Nat), .int .u64 (a2 : Nat), .int .u64 (a3 : Nat), .bool false, .int .i64 0, .int .i64 0, .bool false, .int .i64 0] 42) = W0 at *
            obtain ⟨c0, c1, c2, c3, c4, c5, c6, c7, c8, c9, c10⟩ := hT.eleven.1
            obtain ⟨y0, y1, y2, y3, v0, v1, v2, v3⟩ := hx.cells
            replace c0 := Near.cell c0 hlt1
            replace c1 := Near.cell c1 hlt1
            replace c2 := Near.cell c2 hlt1
            replace c3 := Near.cell c3 hlt1
            replace c4 := Near.cell c4 hlt1
            replace c5 := Near.cell c5 hlt1
            replace c6 := Near.cell c6 hlt1
            replace c7 := Near.cell c7 hlt1
            replace c8 := Near.cell c8 hlt1
            replace c9 := Near.cell c9 hlt1
            replace c10 := Near.cell c10 hlt1
            replace y0 := Near.cell y0 hx.lt
            replace y1 := Near.cell y1 hx.lt
            replace y2 := Near.cell y2 hx.lt
            replace y3 := Near.cell y3 hx.lt
            clear v0 v1 v2 v3 hbr hlt1
            refine wp_region_quiet_tail 3 (fun w' => ∃ u : World, w' = near W0 u) (by kernel_rfl) (by kernel_rfl) (Near.start _) ?_
            simp only [List.take_succ_cons, List.take_zero, List.drop_succ_cons, List.drop_zero]
            repeat (go_big_quiet_step ((go_at_call 112; exact Near.call (hHK.out _))))
            refine wpQuiet_nil ?_
            rintro _ ⟨u, rfl⟩
            clear c0 c1 c2 c3 c4 c5 c6 c7 c8 c9 c10 y0 y1 y2 y3
            replace hx := hx.below (near_below W0 u)
            have hB2 : Hid (Below wr.heap.size wr (near W0 u)) := hrel0.out.trans ((near_below W0 u).mono hrel0.out.size)
            clear hrel0 hHK hT
            generalize near W0 u = W1 at *
            go_wp2_with (go_at_call 111; refine (runion_two hp4 ho _).mono ?_; rintro en' v2 ⟨⟨p2, q2, r2, s2, rfl, k2⟩, qq⟩; have hx2 := hx.below qq; obtain ⟨y0, y1, y2, y3, f0, f1, f2, f3⟩ := hx2.cells)
            have HX := HN.out v2 _ p2 q2 r2 s2 (fun _ _ => rfl) (hB2.out.trans (qq.mono hB2.out.size)) k2
            go_wp2
            go_roundw
            case rel => exact ⟨en, m + 1, _, rfl, by go_num, HX⟩
            case measure => have := HM.out; simp [intOf]; omega
        · have hd1 : dashP z n (uniS z n k).en = true := by
            cases h : dashP z n (uniS z n k).en
            · exact absurd h hd
            · rfl
          unfold dashP at hd1
          simp only [Bool.and_eq_true, decide_eq_true_eq, Bool.not_eq_true', beq_eq_false_iff_ne] at hd1
          obtain ⟨⟨hd2, hd3⟩, hd4⟩ := hd1
          have hd5 : z (uniS z n k).en = 45 := by
            unfold hasP at hd2; simp at hd2; exact hd2.2
          have hbel := hI.bel
          have hres := hI.res
          obtain ⟨p, q, r, s, hp4, hx⟩ := hI.box
          rcases uniS_two z n ((uniS z n k).en + 1) with he2 | he2
          · obtain ⟨hw1, hw2, hw3⟩ := uniS_unit z n ((uniS z n k).en + 1) HZ.out hd3 he2
            obtain ⟨s0, s1, e0, e1, e2, e3, eS, eK2, eB2⟩ : ∃ (s0 : Int) (s1 e0 e1 e2 e3 : Nat), tokOf (uniS z n ((uniS z n k).en + 1)).z = .agg #[.int .i64 s0, .int .u8 (s1 : Nat), .int .u64 (e0 : Nat), .int .u64 (e1 : Nat), .int .u64 (e2 : Nat), .int .u64 (e3 : Nat), .bool false, .int .i64 0, .int .i64 0, .bool false, .int .i64 0] ∧ (uniS z n ((uniS z n k).en + 1)).k = s0 ∧ (uniS z n ((uniS z n k).en + 1)).b = s1 := by
              rcases hw3 with ⟨b, hb, e⟩ | ⟨Q, e⟩
              · rw [e, tokOf_sgn]
                exact ⟨1, b, 0, 0, 0, 0, rfl, rfl, rfl⟩
              · rw [e]
                exact ⟨2, 0, wds Q 0, wds Q 1, wds Q 2, wds Q 3, rfl, rfl, rfl⟩
            have hs1 : s1 < 256 := by
              rcases hw3 with ⟨b, hb, e⟩ | ⟨Q, e⟩
              · rw [e] at eB2; rw [← eB2]; exact hb
              · rw [e] at eB2; rw [← eB2]; simp [TokS.cls]
            have HU2 : Hid (∀ W, Below w.heap.size w W → _) := fun W hb => HU.out ((uniS z n k).en + 1) hd3 W hb
            unfold refR at HU2
            rw [if_pos he2, eS] at HU2
            simp only [] at HU2
            have D : Hid (z (uniS z n k).en = 45 ∧ True ∧ (uniS z n k).en < n ∧ (uniS z n k).en + 1 < n) := ⟨hd5, trivial, by omega, hd3⟩
            have hub := hI.ub
            by_cases hrg : t0 ≠ 1 ∨ s0 ≠ 1 ∨ s1 < t1
            · have HE : Hid (brkS z n op = .bad k 42) := by
                have e1 : untS z n k = (fun _ => false, k, 42) := by unfold untS; rw [if_neg (by simp [he]), if_neg hd, if_neg (by simp [he2]), eK, eK2, eB, eB2, if_pos hrg]
                have := brk_bad hI hlt h93 (by rw [e1]; simp)
                rw [e1] at this; exact this
              clear hu3 eT eS he he2 hI HU HZ h93 eK eB eK2 eB2 hd hK hd2 hd5 hsome hw3
              have i9 : ((uniS z n ((uniS z n k).en + 1)).en : Int) ≤ 1024 := by omega
              have z9 : (((uniS z n ((uniS z n k).en + 1)).en : Int) == 0) = false := by simp; omega
              clear hw1 hw2
              generalize (uniS z n ((uniS z n k).en + 1)).en = e9 at *
              generalize (uniS z n k).en = en at *
              have d2 : ¬ (en : Int) + 1 ≥ (n : Int) := by omega
              have d3 : (en : Int) + 1 < (n : Int) := by omega
              have d4 : (en : Int) < (n : Int) := by omega
              have d93 : ((z (en + 1) : Int) == 93) = false := by simp; omega
              have en0 : ((en : Int) == 0) = false := by simp; omega
              have hm1 : (m : Int) + 1 ≤ 1025 := by omega
              generalize hze : z (en + 1) = ze at *
              generalize z k = zk at *
              clear hd4 hd3
              rcases (show t0 ≠ 1 ∨ (t0 = 1 ∧ s0 ≠ 1) ∨ (t0 = 1 ∧ s0 = 1 ∧ s1 < t1) by omega) with g | ⟨rfl, g⟩ | ⟨rfl, rfl, g⟩
              · have G1 : (t0 != 1) = true := by simp; exact g
                clear g hrg
                go_wp2_with fail
                refine HU1.mono ?_
                rintro e w1 ⟨rfl, hb⟩
                replace hbel := hbel.trans (hb.mono hbel.size)
                replace hres := (hres.below hb).alloc (.cells #[.int .i64 t0, .int .u8 (t1 : Nat), .int .u64 (a0 : Nat), .int .u64 (a1 : Nat), .int .u64 (a2 : Nat), .int .u64 (a3 : Nat), .bool false, .int .i64 0, .int .i64 0, .bool false, .int .i64 0] 42)
                replace hx := (hx.below hb).alloc (.cells #[.int .i64 t0, .int .u8 (t1 : Nat), .int .u64 (a0 : Nat), .int .u64 (a1 : Nat), .int .u64 (a2 : Nat), .int .u64 (a3 : Nat), .bool false, .int .i64 0, .int .i64 0, .bool false, .int .i64 0] 42)
                have hT := Cl.new w1 42 [.int .i64 t0, .int .u8 (t1 : Nat), .int .u64 (a0 : Nat), .int .u64 (a1 : Nat), .int .u64 (a2 : Nat), .int .u64 (a3 : Nat), .bool false, .int .i64 0, .int .i64 0, .bool false, .int .i64 0]
                have hB1 : Below wr.heap.size wr (w1.alloc (.cells #[.int .i64 t0, .int .u8 (t1 : Nat), .int .u64 (a0 : Nat), .int .u64 (a1 : Nat), .int .u64 (a2 : Nat), .int .u64 (a3 : Nat), .bool false, .int .i64 0, .int .i64 0, .bool false, .int .i64 0] 42)) := hb.alloc hb.size _
                replace hbel := hbel.alloc hbel.size (.cells #[.int .i64 t0, .int .u8 (t1 : Nat), .int .u64 (a0 : Nat), .int .u64 (a1 : Nat), .int .u64 (a2 : Nat), .int .u64 (a3 : Nat), .bool false, .int .i64 0, .int .i64 0, .bool false, .int .i64 0] 42)
                have wc := HC.out _ hbel en D.out.2.2.1
                have wd := HC.out _ hbel (en + 1) D.out.2.2.2
                rw [D.out.1] at wc
                rw [hze] at wd
                have HU3 := HU2.out _ hbel
                clear HU1 HU2 hb tk HC
                go_wp2_with fail
                clear wc wd
                have hlt1 : w1.heap.size < (w1.alloc (.cells #[.int .i64 t0, .int .u8 (t1 : Nat), .int .u64 (a0 : Nat), .int .u64 (a1 : Nat), .int .u64 (a2 : Nat), .int .u64 (a3 : Nat), .bool false, .int .i64 0, .int .i64 0, .bool false, .int .i64 0] 42)).heap.size := by simp
                obtain ⟨br, hbr⟩ : ∃ br, w1.heap.size = br := ⟨_, rfl⟩
                rw [hbr] at hT hlt1 ⊢
                generalize w1.alloc (.cells #[.int .i64 t0, .int .u8 (t1 : Nat), .int .u64 (a0 : Nat), .int .u64 (a1 : Nat), .int .u64 (a2 : Nat), .int .u64 (a3 : Nat), .bool false, .int .i64 0, .int .i64 0, .bool false, .int .i64 0] 42) = W0 at *
                refine HU3.mono ?_
                rintro e w2 ⟨rfl, hb⟩
                clear HU3
                have k1 := (hres.below hb).alloc (.cells #[.int .i64 s0, .int .u8 (s1 : Nat), .int .u64 (e0 : Nat), .int .u64 (e1 : Nat), .int .u64 (e2 : Nat), .int .u64 (e3 : Nat), .bool false, .int .i64 0, .int .i64 0, .bool false, .int .i64 0] 42)
                have hB5 := (hbel.trans (hb.mono hbel.size)).alloc (Nat.le_trans hbel.size hb.size) (.cells #[.int .i64 s0, .int .u8 (s1 : Nat), .int .u64 (e0 : Nat), .int .u64 (e1 : Nat), .int .u64 (e2 : Nat), .int .u64 (e3 : Nat), .bool false, .int .i64 0, .int .i64 0, .bool false, .int .i64 0] 42)
                obtain ⟨⟨b0, b1, b2, b3, b4, b5, b6, b7, b8, b9, b10⟩, g0, g1, g2, g3, g4, g5, g6, g7, g8, g9, g10⟩ := k1.eleven
                have F := (k1.put11 (.int .i64 0) (.int .u8 0) (.int .u64 0) (.int .u64 0) (.int .u64 0) (.int .u64 0) (.bool false) (.int .i64 0) (.int .i64 0) (.bool false) (.int .i64 0)).eleven.1
                have hB4 := below_put11 (b := w.heap.size) hB5 (Nat.le_refl _) (.int .i64 0) (.int .u8 0) (.int .u64 0) (.int .u64 0) (.int .u64 0) (.int .u64 0) (.bool false) (.int .i64 0) (.int .i64 0) (.bool false) (.int .i64 0)
                simp only [put11] at F hB4
                obtain ⟨F0, F1, F2, F3, F4, F5, F6, F7, F8, F9, F10⟩ := F
                have HF : Hid (Below w.heap.size w _) := hB4
                obtain ⟨l0, l1, _⟩ := ((hT.below hb).alloc (.cells #[.int .i64 s0, .int .u8 (s1 : Nat), .int .u64 (e0 : Nat), .int .u64 (e1 : Nat), .int .u64 (e2 : Nat), .int .u64 (e3 : Nat), .bool false, .int .i64 0, .int .i64 0, .bool false, .int .i64 0] 42)).eleven.1
                clear hB4 hB5 k1 hb hres hbel hB1 hx hT hlt1
                go_wp2
                exact bodyPost_ret (v := .tuple #[tokV 0 0 0 0 0 0 false 0 0 false 0, .int .i64 (k : Nat), .int .i64 42]) (by simp [results, Try.results90, go_sem, tokV, F0, F1, F2, F3, F4, F5, F6, F7, F8, F9, F10]) rfl (RetBr.bad HE.out rfl HF.out)
              · have G1 : (s0 != 1) = true := by simp; exact g
                clear g hrg
                go_wp2_with fail
                refine HU1.mono ?_
                rintro e w1 ⟨rfl, hb⟩
                replace hbel := hbel.trans (hb.mono hbel.size)
                replace hres := (hres.below hb).alloc (.cells #[.int .i64 1, .int .u8 (t1 : Nat), .int .u64 (a0 : Nat), .int .u64 (a1 : Nat), .int .u64 (a2 : Nat), .int .u64 (a3 : Nat), .bool false, .int .i64 0, .int .i64 0, .bool false, .int .i64 0] 42)
                replace hx := (hx.below hb).alloc (.cells #[.int .i64 1, .int .u8 (t1 : Nat), .int .u64 (a0 : Nat), .int .u64 (a1 : Nat), .int .u64 (a2 : Nat), .int .u64 (a3 : Nat), .bool false, .int .i64 0, .int .i64 0, .bool false, .int .i64 0] 42)
                have hT := Cl.new w1 42 [.int .i64 1, .int .u8 (t1 : Nat), .int .u64 (a0 : Nat), .int .u64 (a1 : Nat), .int .u64 (a2 : Nat), .int .u64 (a3 : Nat), .bool false, .int .i64 0, .int .i64 0, .bool false, .int .i64 0]
                have hB1 : Below wr.heap.size wr (w1.alloc (.cells #[.int .i64 1, .int .u8 (t1 : Nat), .int .u64 (a0 : Nat), .int .u64 (a1 : Nat), .int .u64 (a2 : Nat), .int .u64 (a3 : Nat), .bool false, .int .i64 0, .int .i64 0, .bool false, .int .i64 0] 42)) := hb.alloc hb.size _
                replace hbel := hbel.alloc hbel.size (.cells #[.int .i64 1, .int .u8 (t1 : Nat), .int .u64 (a0 : Nat), .int .u64 (a1 : Nat), .int .u64 (a2 : Nat), .int .u64 (a3 : Nat), .bool false, .int .i64 0, .int .i64 0, .bool false, .int .i64 0] 42)
                have wc := HC.out _ hbel en D.out.2.2.1
                have wd := HC.out _ hbel (en + 1) D.out.2.2.2
                rw [D.out.1] at wc
                rw [hze] at wd
                have HU3 := HU2.out _ hbel
                clear HU1 HU2 hb tk HC
                go_wp2_with fail
                clear wc wd
                have hlt1 : w1.heap.size < (w1.alloc (.cells #[.int .i64 1, .int .u8 (t1 : Nat), .int .u64 (a0 : Nat), .int .u64 (a1 : Nat), .int .u64 (a2 : Nat), .int .u64 (a3 : Nat), .bool false, .int .i64 0, .int .i64 0, .bool false, .int .i64 0] 42)).heap.size := by simp
                obtain ⟨br, hbr⟩ : ∃ br, w1.heap.size = br := ⟨_, rfl⟩
                rw [hbr] at hT hlt1 ⊢
                generalize w1.alloc (.cells #[.int .i64 1, .int .u8 (t1 : Nat), .int .u64 (a0 : Nat), .int .u64 (a1 : Nat), .int .u64 (a2 : Nat), .int .u64 (a3 : Nat), .bool false, .int .i64 0, .int .i64 0, .bool false, .int .i64 0] 42) = W0 at *
                refine HU3.mono ?_
                rintro e w2 ⟨rfl, hb⟩
                clear HU3
                have k1 := (hres.below hb).alloc (.cells #[.int .i64 s0, .int .u8 (s1 : Nat), .int .u64 (e0 : Nat), .int .u64 (e1 : Nat), .int .u64 (e2 : Nat), .int .u64 (e3 : Nat), .bool false, .int .i64 0, .int .i64 0, .bool false, .int .i64 0] 42)
                have hB5 := (hbel.trans (hb.mono hbel.size)).alloc (Nat.le_trans hbel.size hb.size) (.cells #[.int .i64 s0, .int .u8 (s1 : Nat), .int .u64 (e0 : Nat), .int .u64 (e1 : Nat), .int .u64 (e2 : Nat), .int .u64 (e3 : Nat), .bool false, .int .i64 0, .int .i64 0, .bool false, .int .i64 0] 42)
                obtain ⟨⟨b0, b1, b2, b3, b4, b5, b6, b7, b8, b9, b10⟩, g0, g1, g2, g3, g4, g5, g6, g7, g8, g9, g10⟩ := k1.eleven
                have F := (k1.put11 (.int .i64 0) (.int .u8 0) (.int .u64 0) (.int .u64 0) (.int .u64 0) (.int .u64 0) (.bool false) (.int .i64 0) (.int .i64 0) (.bool false) (.int .i64 0)).eleven.1
                have hB4 := below_put11 (b := w.heap.size) hB5 (Nat.le_refl _) (.int .i64 0) (.int .u8 0) (.int .u64 0) (.int .u64 0) (.int .u64 0) (.int .u64 0) (.bool false) (.int .i64 0) (.int .i64 0) (.bool false) (.int .i64 0)
                simp only [put11] at F hB4
                obtain ⟨F0, F1, F2, F3, F4, F5, F6, F7, F8, F9, F10⟩ := F
                have HF : Hid (Below w.heap.size w _) := hB4
                obtain ⟨l0, l1, _⟩ := ((hT.below hb).alloc (.cells #[.int .i64 s0, .int .u8 (s1 : Nat), .int .u64 (e0 : Nat), .int .u64 (e1 : Nat), .int .u64 (e2 : Nat), .int .u64 (e3 : Nat), .bool false, .int .i64 0, .int .i64 0, .bool false, .int .i64 0] 42)).eleven.1
                clear hB4 hB5 k1 hb hres hbel hB1 hx hT hlt1
                go_wp2
                exact bodyPost_ret (v := .tuple #[tokV 0 0 0 0 0 0 false 0 0 false 0, .int .i64 (k : Nat), .int .i64 42]) (by simp [results, Try.results90, go_sem, tokV, F0, F1, F2, F3, F4, F5, F6, F7, F8, F9, F10]) rfl (RetBr.bad HE.out rfl HF.out)
              · have G1 : (t1 : Int) > (s1 : Int) := by omega
                clear g hrg
                go_wp2_with fail
                refine HU1.mono ?_
                rintro e w1 ⟨rfl, hb⟩
                replace hbel := hbel.trans (hb.mono hbel.size)
                replace hres := (hres.below hb).alloc (.cells #[.int .i64 1, .int .u8 (t1 : Nat), .int .u64 (a0 : Nat), .int .u64 (a1 : Nat), .int .u64 (a2 : Nat), .int .u64 (a3 : Nat), .bool false, .int .i64 0, .int .i64 0, .bool false, .int .i64 0] 42)
                replace hx := (hx.below hb).alloc (.cells #[.int .i64 1, .int .u8 (t1 : Nat), .int .u64 (a0 : Nat), .int .u64 (a1 : Nat), .int .u64 (a2 : Nat), .int .u64 (a3 : Nat), .bool false, .int .i64 0, .int .i64 0, .bool false, .int .i64 0] 42)
                have hT := Cl.new w1 42 [.int .i64 1, .int .u8 (t1 : Nat), .int .u64 (a0 : Nat), .int .u64 (a1 : Nat), .int .u64 (a2 : Nat), .int .u64 (a3 : Nat), .bool false, .int .i64 0, .int .i64 0, .bool false, .int .i64 0]
                have hB1 : Below wr.heap.size wr (w1.alloc (.cells #[.int .i64 1, .int .u8 (t1 : Nat), .int .u64 (a0 : Nat), .int .u64 (a1 : Nat), .int .u64 (a2 : Nat), .int .u64 (a3 : Nat), .bool false, .int .i64 0, .int .i64 0, .bool false, .int .i64 0] 42)) := hb.alloc hb.size _
                replace hbel := hbel.alloc hbel.size (.cells #[.int .i64 1, .int .u8 (t1 : Nat), .int .u64 (a0 : Nat), .int .u64 (a1 : Nat), .int .u64 (a2 : Nat), .int .u64 (a3 : Nat), .bool false, .int .i64 0, .int .i64 0, .bool false, .int .i64 0] 42)
                have wc := HC.out _ hbel en D.out.2.2.1
                have wd := HC.out _ hbel (en + 1) D.out.2.2.2
                rw [D.out.1] at wc
                rw [hze] at wd
                have HU3 := HU2.out _ hbel
                clear HU1 HU2 hb tk HC
                go_wp2_with fail
                clear wc wd
                have hlt1 : w1.heap.size < (w1.alloc (.cells #[.int .i64 1, .int .u8 (t1 : Nat), .int .u64 (a0 : Nat), .int .u64 (a1 : Nat), .int .u64 (a2 : Nat), .int .u64 (a3 : Nat), .bool false, .int .i64 0, .int .i64 0, .bool false, .int .i64 0] 42)).heap.size := by simp
                obtain ⟨br, hbr⟩ : ∃ br, w1.heap.size = br := ⟨_, rfl⟩
                rw [hbr] at hT hlt1 ⊢
                generalize w1.alloc (.cells #[.int .i64 1, .int .u8 (t1 : Nat), .int .u64 (a0 : Nat), .int .u64 (a1 : Nat), .int .u64 (a2 : Nat), .int .u64 (a3 : Nat), .bool false, .int .i64 0, .int .i64 0, .bool false, .int .i64 0] 42) = W0 at *
                refine HU3.mono ?_
                rintro e w2 ⟨rfl, hb⟩
                clear HU3
                have k1 := (hres.below hb).alloc (.cells #[.int .i64 1, .int .u8 (s1 : Nat), .int .u64 (e0 : Nat), .int .u64 (e1 : Nat), .int .u64 (e2 : Nat), .int .u64 (e3 : Nat), .bool false, .int .i64 0, .int .i64 0, .bool false, .int .i64 0] 42)
                have hB5 := (hbel.trans (hb.mono hbel.size)).alloc (Nat.le_trans hbel.size hb.size) (.cells #[.int .i64 1, .int .u8 (s1 : Nat), .int .u64 (e0 : Nat), .int .u64 (e1 : Nat), .int .u64 (e2 : Nat), .int .u64 (e3 : Nat), .bool false, .int .i64 0, .int .i64 0, .bool false, .int .i64 0] 42)
                obtain ⟨⟨b0, b1, b2, b3, b4, b5, b6, b7, b8, b9, b10⟩, g0, g1, g2, g3, g4, g5, g6, g7, g8, g9, g10⟩ := k1.eleven
                have F := (k1.put11 (.int .i64 0) (.int .u8 0) (.int .u64 0) (.int .u64 0) (.int .u64 0) (.int .u64 0) (.bool false) (.int .i64 0) (.int .i64 0) (.bool false) (.int .i64 0)).eleven.1
                have hB4 := below_put11 (b := w.heap.size) hB5 (Nat.le_refl _) (.int .i64 0) (.int .u8 0) (.int .u64 0) (.int .u64 0) (.int .u64 0) (.int .u64 0) (.bool false) (.int .i64 0) (.int .i64 0) (.bool false) (.int .i64 0)
                simp only [put11] at F hB4
                obtain ⟨F0, F1, F2, F3, F4, F5, F6, F7, F8, F9, F10⟩ := F
                have HF : Hid (Below w.heap.size w _) := hB4
                obtain ⟨l0, l1, _⟩ := ((hT.below hb).alloc (.cells #[.int .i64 1, .int .u8 (s1 : Nat), .int .u64 (e0 : Nat), .int .u64 (e1 : Nat), .int .u64 (e2 : Nat), .int .u64 (e3 : Nat), .bool false, .int .i64 0, .int .i64 0, .bool false, .int .i64 0] 42)).eleven.1
                clear hB4 hB5 k1 hb hres hbel hB1 hx hT hlt1
                go_wp2
                exact bodyPost_ret (v := .tuple #[tokV 0 0 0 0 0 0 false 0 0 false 0, .int .i64 (k : Nat), .int .i64 42]) (by simp [results, Try.results90, go_sem, tokV, F0, F1, F2, F3, F4, F5, F6, F7, F8, F9, F10]) rfl (RetBr.bad HE.out rfl HF.out)
            · obtain ⟨rfl, rfl, hle⟩ : t0 = 1 ∧ s0 = 1 ∧ t1 ≤ s1 := by omega
              have e1 : untS z n k = (rg t1 (s1 + 1 - t1), (uniS z n ((uniS z n k).en + 1)).en, 0) := by unfold untS; rw [if_neg (by simp [he]), if_neg hd, if_neg (by simp [he2]), eK, eK2, eB, eB2, if_neg hrg]
              have HN : Hid (∀ W' R a b c d, (∀ x, x < 256 → R x = (P x || rg t1 (s1 + 1 - t1) x)) → Below wr.heap.size wr W' → C4 R a b c d → BrI w z n op false (uniS z n ((uniS z n k).en + 1)).en (m + 1) (fun x => P x || rg t1 (s1 + 1 - t1) x) (put4 W' (w.heap.size + 1) (.int .u64 (a : Nat)) (.int .u64 (b : Nat)) (.int .u64 (c : Nat)) (.int .u64 (d : Nat)))) := by
                intro W' R a b c d hR hb h4
                have := hI.next hlt h93 (by rw [e1]) (by rw [e1]) hR ⟨t1, by omega, by unfold rg; simp; omega⟩ hb h4
                rw [e1] at this
                exact this
              have HM : Hid (k < (uniS z n ((uniS z n k).en + 1)).en ∧ (uniS z n ((uniS z n k).en + 1)).en ≤ n) := ⟨by omega, hw2⟩
              have ht1 : t1 < 256 := by omega
              have G1 : ¬ (t1 : Int) > (s1 : Int) := by omega
              clear e1 hrg
              clear hu3 eT eS he he2 hI HU HZ h93 eK eB eK2 eB2 hd hK hd2 hd5 hsome hw3
              have i9 : ((uniS z n ((uniS z n k).en + 1)).en : Int) ≤ 1024 := by omega
              have z9 : (((uniS z n ((uniS z n k).en + 1)).en : Int) == 0) = false := by simp; omega
              clear hw1 hw2
              generalize (uniS z n ((uniS z n k).en + 1)).en = e9 at *
              generalize (uniS z n k).en = en at *
              have d2 : ¬ (en : Int) + 1 ≥ (n : Int) := by omega
              have d3 : (en : Int) + 1 < (n : Int) := by omega
              have d4 : (en : Int) < (n : Int) := by omega
              have d93 : ((z (en + 1) : Int) == 93) = false := by simp; omega
              have en0 : ((en : Int) == 0) = false := by simp; omega
              have hm1 : (m : Int) + 1 ≤ 1025 := by omega
              generalize hze : z (en + 1) = ze at *
              generalize z k = zk at *
              clear hd4 hd3
              have hHK : Hid (∀ W, Calls Try.prog 59 #[.int .u8 (t1 : Nat), .int .u8 (s1 : Nat)] W (RetC W (rg t1 (s1 + 1 - t1)))) := fun W => rrange_any t1 s1 W ht1 hs1
              generalize rg t1 (s1 + 1 - t1) = Q at *
              clear hle ht1 hs1
              go_wp2_with fail
              refine HU1.mono ?_
              rintro e w1 ⟨rfl, hb⟩
              replace hbel := hbel.trans (hb.mono hbel.size)
              replace hres := (hres.below hb).alloc (.cells #[.int .i64 1, .int .u8 (t1 : Nat), .int .u64 (a0 : Nat), .int .u64 (a1 : Nat), .int .u64 (a2 : Nat), .int .u64 (a3 : Nat), .bool false, .int .i64 0, .int .i64 0, .bool false, .int .i64 0] 42)
              replace hx := (hx.below hb).alloc (.cells #[.int .i64 1, .int .u8 (t1 : Nat), .int .u64 (a0 : Nat), .int .u64 (a1 : Nat), .int .u64 (a2 : Nat), .int .u64 (a3 : Nat), .bool false, .int .i64 0, .int .i64 0, .bool false, .int .i64 0] 42)
              have hT := Cl.new w1 42 [.int .i64 1, .int .u8 (t1 : Nat), .int .u64 (a0 : Nat), .int .u64 (a1 : Nat), .int .u64 (a2 : Nat), .int .u64 (a3 : Nat), .bool false, .int .i64 0, .int .i64 0, .bool false, .int .i64 0]
              have hB1 : Below wr.heap.size wr (w1.alloc (.cells #[.int .i64 1, .int .u8 (t1 : Nat), .int .u64 (a0 : Nat), .int .u64 (a1 : Nat), .int .u64 (a2 : Nat), .int .u64 (a3 : Nat), .bool false, .int .i64 0, .int .i64 0, .bool false, .int .i64 0] 42)) := hb.alloc hb.size _
              replace hbel := hbel.alloc hbel.size (.cells #[.int .i64 1, .int .u8 (t1 : Nat), .int .u64 (a0 : Nat), .int .u64 (a1 : Nat), .int .u64 (a2 : Nat), .int .u64 (a3 : Nat), .bool false, .int .i64 0, .int .i64 0, .bool false, .int .i64 0] 42)
              have wc := HC.out _ hbel en D.out.2.2.1
              have wd := HC.out _ hbel (en + 1) D.out.2.2.2
              rw [D.out.1] at wc
              rw [hze] at wd
              have HU3 := HU2.out _ hbel
              clear HU1 HU2 hb tk HC
              go_wp2_with fail
              clear wc wd
              have hlt1 : w1.heap.size < (w1.alloc (.cells #[.int .i64 1, .int .u8 (t1 : Nat), .int .u64 (a0 : Nat), .int .u64 (a1 : Nat), .int .u64 (a2 : Nat), .int .u64 (a3 : Nat), .bool false, .int .i64 0, .int .i64 0, .bool false, .int .i64 0] 42)).heap.size := by simp
              obtain ⟨br, hbr⟩ : ∃ br, w1.heap.size = br := ⟨_, rfl⟩
              rw [hbr] at hT hlt1 ⊢
              generalize w1.alloc (.cells #[.int .i64 1, .int .u8 (t1 : Nat), .int .u64 (a0 : Nat), .int .u64 (a1 : Nat), .int .u64 (a2 : Nat), .int .u64 (a3 : Nat), .bool false, .int .i64 0, .int .i64 0, .bool false, .int .i64 0] 42) = W0 at *
              refine HU3.mono ?_
              rintro e w2 ⟨rfl, hb⟩
              clear HU3
              have hrel0 : Hid (Below wr.heap.size wr (w2.alloc (.cells #[.int .i64 1, .int .u8 (s1 : Nat), .int .u64 (e0 : Nat), .int .u64 (e1 : Nat), .int .u64 (e2 : Nat), .int .u64 (e3 : Nat), .bool false, .int .i64 0, .int .i64 0, .bool false, .int .i64 0] 42))) := (hB1.trans (hb.mono hB1.size)).alloc (Nat.le_trans hB1.size hb.size) _
              replace hx := (hx.below hb).alloc (.cells #[.int .i64 1, .int .u8 (s1 : Nat), .int .u64 (e0 : Nat), .int .u64 (e1 : Nat), .int .u64 (e2 : Nat), .int .u64 (e3 : Nat), .bool false, .int .i64 0, .int .i64 0, .bool false, .int .i64 0] 42)
              replace hT := (hT.below hb).alloc (.cells #[.int .i64 1, .int .u8 (s1 : Nat), .int .u64 (e0 : Nat), .int .u64 (e1 : Nat), .int .u64 (e2 : Nat), .int .u64 (e3 : Nat), .bool false, .int .i64 0, .int .i64 0, .bool false, .int .i64 0] 42)
              have hS := Cl.new w2 42 [.int .i64 1, .int .u8 (s1 : Nat), .int .u64 (e0 : Nat), .int .u64 (e1 : Nat), .int .u64 (e2 : Nat), .int .u64 (e3 : Nat), .bool false, .int .i64 0, .int .i64 0, .bool false, .int .i64 0]
              obtain ⟨c0, c1, -⟩ := hT.eleven.1
              obtain ⟨f0, f1, -⟩ := hS.eleven.1
              clear hb hres hbel hB1 hlt1
              go_wp2_with fail
              clear c0 c1 f0 f1
              obtain ⟨bs, hbs⟩ : ∃ bs, w2.heap.size = bs := ⟨_, rfl⟩
              rw [hbs] at hS ⊢
              generalize w2.alloc (.cells #[.int .i64 1, .int .u8 (s1 : Nat), .int .u64 (e0 : Nat), .int .u64 (e1 : Nat), .int .u64 (e2 : Nat), .int .u64 (e3 : Nat), .bool false, .int .i64 0, .int .i64 0, .bool false, .int .i64 0] 42) = W9 at *
              obtain ⟨c0, c1, -⟩ := hT.eleven.1
              obtain ⟨f0, f1, -⟩ := hS.eleven.1
              obtain ⟨y0, y1, y2, y3, v0, v1, v2, v3⟩ := hx.cells
              replace c1 := Near.cell c1 hT.lt
              replace f1 := Near.cell f1 hS.lt
              replace y0 := Near.cell y0 hx.lt
              replace y1 := Near.cell y1 hx.lt
              replace y2 := Near.cell y2 hx.lt
              replace y3 := Near.cell y3 hx.lt
              clear v0 v1 v2 v3 hbs hbr c0 f0
              obtain ⟨o0, o1, o2, o3, ho⟩ : ∃ a b c d, C4 Q a b c d := ⟨_, _, _, _, wds_is Q⟩
              have hHR : Hid (∀ W, Calls Try.prog 59 #[.int .u8 (t1 : Nat), .int .u8 (s1 : Nat)] W fun e w' => e = .returned (.agg #[.int .u64 (o0 : Nat), .int .u64 (o1 : Nat), .int .u64 (o2 : Nat), .int .u64 (o3 : Nat)]) ∧ Below W.heap.size W w') := fun W => (hHK.out W).mono fun e w' h => by
                obtain ⟨⟨g0, g1, g2, g3, rfl, h4⟩, hb⟩ := h
                obtain ⟨rfl, rfl, rfl, rfl⟩ := h4.uniq ho
                exact ⟨rfl, hb⟩
              clear hHK hT hS
              refine wp_region_quiet_tail 6 (fun w' => ∃ u : World, w' = near W9 u) (by kernel_rfl) (by kernel_rfl) (Near.start _) ?_
              simp only [List.take_succ_cons, List.take_zero, List.drop_succ_cons, List.drop_zero]
              repeat (go_big_quiet_step ((go_at_call 59; exact Near.call (hHR.out _))))
              refine wpQuiet_nil ?_
              rintro _ ⟨u, rfl⟩
              clear c1 f1 y0 y1 y2 y3
              replace hx := hx.below (near_below W9 u)
              have hB2 : Hid (Below wr.heap.size wr (near W9 u)) := hrel0.out.trans ((near_below W9 u).mono hrel0.out.size)
              clear hrel0 hHR
              generalize near W9 u = W1 at *
              go_wp2_with (go_at_call 111; refine (runion_two hp4 ho _).mono ?_; rintro en' v2 ⟨⟨p2, q2, r2, s2, rfl, k2⟩, qq⟩; have hx2 := hx.below qq; obtain ⟨y0, y1, y2, y3, f0, f1, f2, f3⟩ := hx2.cells)
              have HX := HN.out v2 _ p2 q2 r2 s2 (fun _ _ => rfl) (hB2.out.trans (qq.mono hB2.out.size)) k2
              go_wp2
              go_roundw
              case rel => exact ⟨e9, m + 1, _, rfl, by go_num, HX⟩
              case measure => have := HM.out; simp [intOf]; omega
          · have HE : Hid (brkS z n op = .bad ((uniS z n k).en + 1) 40) := by
              have e1 : untS z n k = (fun _ => false, (uniS z n k).en + 1, 40) := by unfold untS; rw [if_neg (by simp [he]), if_neg hd, he2]; rfl
              have := brk_bad hI hlt h93 (by rw [e1]; simp)
              rw [e1] at this; exact this
            have HU2 : Hid (∀ W, Below w.heap.size w W → _) := fun W hb => HU.out ((uniS z n k).en + 1) hd3 W hb
            rw [he2, refR_bad (by simp [TokS.bad])] at HU2
            have D : Hid (z (uniS z n k).en = 45 ∧ True ∧ (uniS z n k).en < n ∧ (uniS z n k).en + 1 < n) := ⟨hd5, trivial, by omega, hd3⟩
            have hub := hI.ub
            clear hu3 hsome eT he hI HU HZ h93 eK eB he2 hd hK hd2 hd5
            generalize (uniS z n k).en = en at *
            have d2 : ¬ (en : Int) + 1 ≥ (n : Int) := by omega
            have d3 : (en : Int) + 1 < (n : Int) := by omega
            have d4 : (en : Int) < (n : Int) := by omega
            have d93 : ((z (en + 1) : Int) == 93) = false := by simp; omega
            have en0 : ((en : Int) == 0) = false := by simp; omega
            have hm1 : (m : Int) + 1 ≤ 1025 := by omega
            generalize hze : z (en + 1) = ze at *
            generalize z k = zk at *
            clear hd4 hd3
            go_wp2_with fail
            refine HU1.mono ?_
            rintro e w1 ⟨rfl, hb⟩
            replace hbel := hbel.trans (hb.mono hbel.size)
            replace hres := (hres.below hb).alloc (.cells #[.int .i64 t0, .int .u8 (t1 : Nat), .int .u64 (a0 : Nat), .int .u64 (a1 : Nat), .int .u64 (a2 : Nat), .int .u64 (a3 : Nat), .bool false, .int .i64 0, .int .i64 0, .bool false, .int .i64 0] 42)
            replace hx := (hx.below hb).alloc (.cells #[.int .i64 t0, .int .u8 (t1 : Nat), .int .u64 (a0 : Nat), .int .u64 (a1 : Nat), .int .u64 (a2 : Nat), .int .u64 (a3 : Nat), .bool false, .int .i64 0, .int .i64 0, .bool false, .int .i64 0] 42)
            have hT := Cl.new w1 42 [.int .i64 t0, .int .u8 (t1 : Nat), .int .u64 (a0 : Nat), .int .u64 (a1 : Nat), .int .u64 (a2 : Nat), .int .u64 (a3 : Nat), .bool false, .int .i64 0, .int .i64 0, .bool false, .int .i64 0]
            have hB1 : Below wr.heap.size wr (w1.alloc (.cells #[.int .i64 t0, .int .u8 (t1 : Nat), .int .u64 (a0 : Nat), .int .u64 (a1 : Nat), .int .u64 (a2 : Nat), .int .u64 (a3 : Nat), .bool false, .int .i64 0, .int .i64 0, .bool false, .int .i64 0] 42)) := hb.alloc hb.size _
            replace hbel := hbel.alloc hbel.size (.cells #[.int .i64 t0, .int .u8 (t1 : Nat), .int .u64 (a0 : Nat), .int .u64 (a1 : Nat), .int .u64 (a2 : Nat), .int .u64 (a3 : Nat), .bool false, .int .i64 0, .int .i64 0, .bool false, .int .i64 0] 42)
            have wc := HC.out _ hbel en D.out.2.2.1
            have wd := HC.out _ hbel (en + 1) D.out.2.2.2
            rw [D.out.1] at wc
            rw [hze] at wd
            have HU3 := HU2.out _ hbel
            clear HU1 HU2 hb tk HC
            go_wp2_with fail
            clear wc wd
            have hlt1 : w1.heap.size < (w1.alloc (.cells #[.int .i64 t0, .int .u8 (t1 : Nat), .int .u64 (a0 : Nat), .int .u64 (a1 : Nat), .int .u64 (a2 : Nat), .int .u64 (a3 : Nat), .bool false, .int .i64 0, .int .i64 0, .bool false, .int .i64 0] 42)).heap.size := by simp
            obtain ⟨br, hbr⟩ : ∃ br, w1.heap.size = br := ⟨_, rfl⟩
            rw [hbr] at hT hlt1 ⊢
            generalize w1.alloc (.cells #[.int .i64 t0, .int .u8 (t1 : Nat), .int .u64 (a0 : Nat), .int .u64 (a1 : Nat), .int .u64 (a2 : Nat), .int .u64 (a3 : Nat), .bool false, .int .i64 0, .int .i64 0, .bool false, .int .i64 0] 42) = W0 at *
            refine HU3.mono ?_
            rintro e w2 ⟨rfl, hb⟩
            clear HU3
            unfold tokV
            have k1 := (hres.below hb).alloc (.cells #[.int .i64 0, .int .u8 0, .int .u64 0, .int .u64 0, .int .u64 0, .int .u64 0, .bool false, .int .i64 0, .int .i64 0, .bool false, .int .i64 0] 42)
            have hB5 := (hbel.trans (hb.mono hbel.size)).alloc (Nat.le_trans hbel.size hb.size) (.cells #[.int .i64 0, .int .u8 0, .int .u64 0, .int .u64 0, .int .u64 0, .int .u64 0, .bool false, .int .i64 0, .int .i64 0, .bool false, .int .i64 0] 42)
            obtain ⟨⟨b0, b1, b2, b3, b4, b5, b6, b7, b8, b9, b10⟩, g0, g1, g2, g3, g4, g5, g6, g7, g8, g9, g10⟩ := k1.eleven
            have F := (k1.put11 (.int .i64 0) (.int .u8 0) (.int .u64 0) (.int .u64 0) (.int .u64 0) (.int .u64 0) (.bool false) (.int .i64 0) (.int .i64 0) (.bool false) (.int .i64 0)).eleven.1
            have hB4 := below_put11 (b := w.heap.size) hB5 (Nat.le_refl _) (.int .i64 0) (.int .u8 0) (.int .u64 0) (.int .u64 0) (.int .u64 0) (.int .u64 0) (.bool false) (.int .i64 0) (.int .i64 0) (.bool false) (.int .i64 0)
            simp only [put11] at F hB4
            obtain ⟨F0, F1, F2, F3, F4, F5, F6, F7, F8, F9, F10⟩ := F
            have HF : Hid (Below w.heap.size w _) := hB4
            clear hB4 hB5 k1 hb hres hbel hB1 hx hT hlt1
            go_wp2
            exact bodyPost_ret (v := .tuple #[tokV 0 0 0 0 0 0 false 0 0 false 0, .int .i64 ((en : Int) + 1), .int .i64 40]) (by simp [results, Try.results90, go_sem, tokV, F0, F1, F2, F3, F4, F5, F6, F7, F8, F9, F10]) rfl (RetBr.bad HE.out rfl HF.out)
      · have HE : Hid (brkS z n op = .bad k 40) := by
          have e1 : untS z n k = (fun _ => false, k, 40) := by unfold untS; rw [he]; rfl
          have := brk_bad hI hlt h93 (by rw [e1]; simp)
          rw [e1] at this; exact this
        have HU1 := HU.out k hlt wr hI.bel
        rw [he, refR_bad (by simp [TokS.bad])] at HU1
        have hres := hI.res
        have hbel := hI.bel
        clear he hI HU HC HZ h93
        generalize z k = q at *
        go_wp2_with fail
        refine HU1.mono ?_
        rintro e w1 ⟨rfl, hb⟩
        unfold tokV
        have k1 := (hres.below hb).alloc (.cells #[.int .i64 0, .int .u8 0, .int .u64 0, .int .u64 0, .int .u64 0, .int .u64 0, .bool false, .int .i64 0, .int .i64 0, .bool false, .int .i64 0] 42)
        have hB1 := (hbel.trans (hb.mono hbel.size)).alloc (Nat.le_trans hbel.size hb.size) (.cells #[.int .i64 0, .int .u8 0, .int .u64 0, .int .u64 0, .int .u64 0, .int .u64 0, .bool false, .int .i64 0, .int .i64 0, .bool false, .int .i64 0] 42)
        obtain ⟨⟨b0, b1, b2, b3, b4, b5, b6, b7, b8, b9, b10⟩, g0, g1, g2, g3, g4, g5, g6, g7, g8, g9, g10⟩ := k1.eleven
        have F := (k1.put11 (.int .i64 0) (.int .u8 0) (.int .u64 0) (.int .u64 0) (.int .u64 0) (.int .u64 0) (.bool false) (.int .i64 0) (.int .i64 0) (.bool false) (.int .i64 0)).eleven.1
        have hB4 := below_put11 (b := w.heap.size) hB1 (Nat.le_refl _) (.int .i64 0) (.int .u8 0) (.int .u64 0) (.int .u64 0) (.int .u64 0) (.int .u64 0) (.bool false) (.int .i64 0) (.int .i64 0) (.bool false) (.int .i64 0)
        simp only [put11] at F hB4
        obtain ⟨F0, F1, F2, F3, F4, F5, F6, F7, F8, F9, F10⟩ := F
        have HF : Hid (Below w.heap.size w _) := hB4
        clear hB4 hB1 k1 hb hres hbel HU1 tk
        go_wp2
        exact bodyPost_ret (v := .tuple #[tokV 0 0 0 0 0 0 false 0 0 false 0, .int .i64 (k : Nat), .int .i64 40]) (by simp [results, Try.results90, go_sem, tokV, F0, F1, F2, F3, F4, F5, F6, F7, F8, F9, F10]) rfl (RetBr.bad HE.out rfl HF.out)
    · have hki : ¬ (k : Int) < (n : Int) := by omega
      have hkg : (k : Int) ≥ (n : Int) := by omega
      have he := brk_end hI (by omega)
      have hres := hI.res
      obtain ⟨⟨b0, b1, b2, b3, b4, b5, b6, b7, b8, b9, b10⟩, g0, g1, g2, g3, g4, g5, g6, g7, g8, g9, g10⟩ := hres.eleven
      have HR : Hid (Cl wr w.heap.size 42 [.int .i64 0, .int .u8 0, .int .u64 0, .int .u64 0, .int .u64 0, .int .u64 0, .bool false, .int .i64 0, .int .i64 0, .bool false, .int .i64 0]) := hres
      have HF : Hid (Below w.heap.size w wr) := hI.bel
      have HE : Hid (brkS z n op = .bad op 41) := he
      clear he hres hI HU HC HZ
      go_wp2
      go_quiet (fail)
      go_wp2
      have k1 := HR.out.below (bel_drewN wr nq)
      have F := (k1.put11 (.int .i64 0) (.int .u8 0) (.int .u64 0) (.int .u64 0) (.int .u64 0) (.int .u64 0) (.bool false) (.int .i64 0) (.int .i64 0) (.bool false) (.int .i64 0)).eleven.1
      have hB4 := below_put11 (b := w.heap.size) (HF.out.trans ((bel_drewN wr nq).mono HF.out.size)) (Nat.le_refl _) (.int .i64 0) (.int .u8 0) (.int .u64 0) (.int .u64 0) (.int .u64 0) (.int .u64 0) (.bool false) (.int .i64 0) (.int .i64 0) (.bool false) (.int .i64 0)
      simp only [put11] at F hB4
      obtain ⟨F0, F1, F2, F3, F4, F5, F6, F7, F8, F9, F10⟩ := F
      exact bodyPost_ret (v := .tuple #[tokV 0 0 0 0 0 0 false 0 0 false 0, .int .i64 (op : Nat), .int .i64 41]) (by simp [results, Try.results90, go_sem, tokV, F0, F1, F2, F3, F4, F5, F6, F7, F8, F9, F10]) rfl (RetBr.bad HE.out rfl hB4)
end Go.Proofs.Ytlmmiicibjfcdaa.X
