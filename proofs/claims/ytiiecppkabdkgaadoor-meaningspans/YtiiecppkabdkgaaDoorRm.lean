/- The reference's Mirror: the walk. -/
import Derived.Test.YtiiecppkabdkgaaDoorGRlPlRj
import Derived.Test.YtiiecppkabdkgaaDoorGRdMrVrOw
import Derived.Deep.DeepCutAuto
import Derived.Deep.RegionHeld3
namespace Go.Proofs.YtiiecppkabdkgaaDoor
open Go.RowKit
theorem make_trees (n : Nat) (hn : n ≤ 2048) (w : World) : (Instr.makeSlice 76 (.int .i64 (n : Nat)) (.int .i64 (n : Nat))).run Tryd.prog w = .ok (.slice (some ⟨w.heap.size, 0, none⟩) n n) (w.alloc (.cells (vals (fun _ => .slice none 0 0) n).toArray 24)) := by
  obtain ⟨i, hi, hz, hs, hb⟩ := info_parts b_tree
  have := run_make (P := Tryd.prog) w 76 24 i _ Tryd.underlying76 hi hz .i64 .i64 (n : Int) (n : Int) (by omega) (by omega) (by rw [hb]; omega) (by omega)
  rw [this, hs]
  have e : madeCells #[Value.slice none 0 0] n = (vals (fun _ => .slice none 0 0) n).toArray := by
    apply Array.toList_inj.1
    rw [toList_madeCells_one]
    apply List.ext_getElem?
    intro j
    by_cases hj : j < n
    · simp [vals_get _ hj, hj]
    · rw [List.getElem?_eq_none (by simp; omega), List.getElem?_eq_none (by simp [vals_len]; omega)]
  simp [Value.cells, e]
theorem leafN_lf {n : Nd} (h : Tre.lf n = true) : leafN n = n := by
  have hk := lf_kind h
  unfold leafN
  rw [if_pos (by omega)]
  by_cases h2 : n.k = 2
  · rw [lf_2 h2, Nd.eq_iff] at h
    rw [h]
  · rw [lf_1 (by omega), Nd.eq_iff] at h
    rw [h]
/-- The trees that are made of the nodes below k. -/
structure Mad (MB : Nat) (x : Tre) (k : Nat) (W : World) (M : Nat → Value) : Prop where
  list : Cl W MB 24 (vals M x.size)
  made : ∀ p u, p < k → x.subs[p]? = some u → ∃ g cap, M p = .slice (some ⟨g, 0, none⟩) u.size cap ∧ MB < g ∧ RdN W (some ⟨g, 0, none⟩) u.size (nodes (mir u)) ∧ u.size ≤ cap
theorem Mad.below {MB k : Nat} {x : Tre} {W W' : World} {M : Nat → Value} (h : Mad MB x k W M) (hb : Below W.heap.size W W') : Mad MB x k W' M :=
  ⟨h.list.below hb, fun p u hp hu => let ⟨g, cap, e, hg, hr, hc⟩ := h.made p u hp hu; ⟨g, cap, e, hg, hr.below hb, hc⟩⟩
theorem RdN.apart {w : World} {g n b i : Nat} {F : Nat → Nd} (h : RdN w (some ⟨g, 0, none⟩) n F) (hne : g ≠ b) (v : Value) : RdN (w.setCell ⟨b, i, none⟩ v) (some ⟨g, 0, none⟩) n F := by
  intro hn
  obtain ⟨bb, off, e, hb, hc⟩ := h hn
  obtain ⟨rfl, rfl⟩ : g = bb ∧ 0 = off := by simpa using e
  refine ⟨g, 0, rfl, by simpa using hb, fun k hk => ?_⟩
  have q : ∀ j, (w.setCell ⟨b, i, none⟩ v).cell? ⟨g, j, none⟩ = w.cell? ⟨g, j, none⟩ := fun j => by simp only [World.cell?, set_heap w ⟨b, i, none⟩ v g hne]
  rw [q, q, q, q, q, q, q, q, q, q]
  exact hc k hk
theorem Mad.put {MB k : Nat} {x u : Tre} {W : World} {M : Nat → Value} (h : Mad MB x k W M) (hu : x.subs[k]? = some u) {ao : Option Addr} {cap B : Nat} (ho : OwN W B ao u.size cap (nodes (mir u))) (hB : MB < B) : ∃ M', Mad MB x (k + 1) (W.setCell ⟨MB, k, none⟩ (.slice ao u.size cap)) M' := by
  obtain ⟨g, rfl, hgl, hgB, _⟩ := ho.cells u.size_pos
  refine ⟨updV M k (.slice (some ⟨g, 0, none⟩) u.size cap), by have := h.list.set k (.slice (some ⟨g, 0, none⟩) u.size cap); rwa [vals_set] at this, fun p v hp hv => ?_⟩
  by_cases e : p = k
  · subst e
    rw [hu] at hv
    obtain rfl := Option.some.inj hv
    exact ⟨g, cap, by simp [updV], by omega, ho.rd.apart (by omega) _, ownsRow_cap ho⟩
  · obtain ⟨g', cap', e', hg', hr', hc'⟩ := h.made p v (by omega) hv
    exact ⟨g', cap', by simp [updV, e, e'], hg', hr'.apart (by omega) _, hc'⟩
/-- A tree that can be read. -/
def RetRd (w : World) (n : Nat) (F : Nat → Nd) (e : Ending) (w' : World) : Prop := ∃ ao cap, e = .returned (.agg #[.slice ao n cap]) ∧ RdN w' ao n F ∧ Below w.heap.size w w'
set_option maxRecDepth 10000 in
set_option maxHeartbeats 8000000 in
theorem rmirror_any (a : Option Addr) (n c : Nat) (F : Nat → Nd) (w : World) (ha : RdN w a n F) (hn : (n : Int) ≤ 9223372036854775807) (hca : n ≤ c) : Calls Tryd.prog 31 #[.agg #[.slice a n c]] w (RetRd w (snd F n).size (nodes (mir (snd F n)))) := by
  obtain ⟨ox, sx⟩ := snd_ok F n
  have px := (snd F n).size_pos
  have hW0 := below2 w (.cells #[.slice a n c] 24) (.cells #[.slice none 0 0] 24)
  have ka : Cl ((w.alloc (.cells #[.slice a n c] 24)).alloc (.cells #[.slice none 0 0] 24)) w.heap.size 24 [.slice a n c] := (Cl.new w 24 [.slice a n c]).alloc _
  have kr : Cl ((w.alloc (.cells #[.slice a n c] 24)).alloc (.cells #[.slice none 0 0] 24)) (w.heap.size + 1) 24 [.slice none 0 0] := by
    have := Cl.new (w.alloc (.cells #[.slice a n c] 24)) 24 [.slice none 0 0]
    simpa only [World.size_alloc] using this
  have HA := rmay_any a n c F _ (ha.below hW0) hn hca
  have d0 := ka.cell 0 rfl
  clear ha
  generalize hX : snd F n = x at *
  clear hX
  have hmk := make_trees x.size sx
  go_enter Tryd.func31, Tryd.ntmps31
  go_upto_region 2 with (go_at_call 49; refine HA.mono ?_; rintro e w1 ⟨ta, c1, rfl, r1, _, or1, b1⟩; have s1 := b1.size; simp only [World.size_alloc] at s1; have ka1 := ka.below b1; obtain ⟨d1, d2⟩ := ka1.one)
  have k1 := ka1.set 0 (.slice (some ta) x.size c1)
  simp only [List.set_cons_zero] at k1
  have k2 := (kr.below b1).other (k := w.heap.size) (by omega) 0 (.slice (some ta) x.size c1)
  have r2 := r1.put ka1 (.slice (some ta) x.size c1)
  have hBV : Below w.heap.size w (w1.setCell ⟨w.heap.size, 0, none⟩ (.slice (some ta) x.size c1)) := (hW0.trans (b1.mono (by simp; omega))).setCell (p := ⟨w.heap.size, 0, none⟩) (Nat.le_refl _) _
  have hsz : (w1.setCell ⟨w.heap.size, 0, none⟩ (.slice (some ta) x.size c1)).heap.size = w1.heap.size := by simp
  clear d0 d1 d2 r1 ka1 ka kr b1 HA or1 hW0
  generalize w1.setCell ⟨w.heap.size, 0, none⟩ (.slice (some ta) x.size c1) = V at *
  rw [← hsz] at s1
  clear hsz
  have d0 := k1.cell 0 rfl
  go_wp2
  clear d0
  have hM0 : Mad V.heap.size x 0 (V.alloc (.cells (vals (fun _ => .slice none 0 0) x.size).toArray 24)) (fun _ => .slice none 0 0) := ⟨Cl.new V 24 _, fun p u hp => by omega⟩
  have hB0 : Below V.heap.size V (V.alloc (.cells (vals (fun _ => .slice none 0 0) x.size).toArray 24)) := below1 _ _
  go_loopw [4] (fun i wr => ∃ (k : Nat) (M : Nat → Value), k ≤ x.size ∧ i = .int .i64 (k : Nat) ∧ Mad V.heap.size x k wr M ∧ Below V.heap.size V wr) (fun i _ => x.size - (intOf i).toNat)
  case atStart => exact ⟨0, _, Nat.zero_le _, rfl, hM0, hB0⟩
  case round =>
    obtain ⟨k, M, hk, rfl, hM, hb⟩ := hrel
    clear hM0 hB0 hmk
    have k1r := k1.below hb
    have d0 := k1r.cell 0 rfl
    have hMBw : V.heap.size < wr.heap.size := hM.list.lt
    by_cases hlt : k < x.size
    · have hki : (k : Int) < (x.size : Int) := by omega
      have rr := r2.below hb
      obtain ⟨u, hu⟩ : ∃ u, x.subs[k]? = some u := ⟨_, List.getElem?_eq_getElem (by rw [Tre.subs_length]; exact hlt)⟩
      have hnd : nodes x k = u.nd k := nodes_get hu
      have pu := u.size_pos
      have ou := subs_ok _ _ _ ox hu
      obtain ⟨bb, off, ea, hbb, hc⟩ := rr (by omega)
      obtain rfl := Option.some.inj ea
      obtain ⟨c0, c1', c2, c3, c4, c5, c6, c7, c8, c9⟩ := hc k hlt
      rw [hnd] at c0 c1' c2 c3 c4 c5 c6 c7 c8 c9
      have kN := Cl.new wr 66 (ndL (u.nd k))
      have hbN := below1 wr (.cells (ndL (u.nd k)).toArray 66)
      have hbV := hb.trans (hbN.mono hb.size)
      have hM1 := hM.below hbN
      have HD : Hid (∀ W3 ao cap, OwN W3 (wr.heap.size + 1) ao u.size cap (nodes (mir u)) → Below (wr.heap.size + 1) (wr.alloc (.cells (ndL (u.nd k)).toArray 66)) W3 → (∃ (k' : Nat) (M : Nat → Value), k' ≤ x.size ∧ Value.int .i64 ((k : Int) + 1) = .int .i64 (k' : Nat) ∧ Mad V.heap.size x k' (W3.setCell ⟨V.heap.size, k, none⟩ (.slice ao u.size cap)) M ∧ Below V.heap.size V (W3.setCell ⟨V.heap.size, k, none⟩ (.slice ao u.size cap))) ∧ W3.cell? ⟨V.heap.size, k, none⟩ = some (M k) ∧ W3.frozen? ⟨V.heap.size, k, none⟩ = false) := by
        intro W3 ao cap ho hb3
        have hb3' : Below (wr.alloc (.cells (ndL (u.nd k)).toArray 66)).heap.size (wr.alloc (.cells (ndL (u.nd k)).toArray 66)) W3 := by simpa only [World.size_alloc] using hb3
        have hM3 := hM1.below hb3'
        obtain ⟨M', hM'⟩ := hM3.put hu ho (by omega)
        have hb4 := hbV.trans (hb3'.mono hbV.size)
        exact ⟨⟨k + 1, M', hlt, by simp, hM', hb4.setCell (p := ⟨V.heap.size, k, none⟩) (Nat.le_refl _) _⟩, hM3.list.cell k (vals_get M hlt), hM3.list.frozen k⟩
      have dM : ∀ W, Below wr.heap.size wr W → W.cell? ⟨w.heap.size, 0, none⟩ = some (.slice (some ⟨bb, off, none⟩) x.size c1) := fun W h => (k1r.below h).cell 0 rfl
      clear hc rr
      cases u with
      | leaf q =>
        have hq := leafN_lf ou
        have hk7 := lf_kind ou
        have hsz1 : (Tre.leaf q).size = 1 := rfl
        have hmn : nodes (mir (.leaf q)) 0 = swp q := rfl
        have HL : Hid (∀ W y, leafN y = swp q → Calls Tryd.prog 50 #[ndV y] W (RetT W 1 (nodes (mir (.leaf q))))) := fun W y hy => (rleaf_any y W).mono fun e w' h => h.congr (fun i hi => by obtain rfl : i = 0 := (by omega); rw [hmn]; exact hy)
        simp only [Tre.nd, hsz1] at HD c0 c1' c2 c3 c4 c5 c6 c7 c8 c9 kN
        unfold ndL at HD kN
        generalize nodes (mir (.leaf q)) = fm at *
        by_cases h6 : q.k = 6
        · have hsw : leafN ⟨7, 0, 0, 0, 0, 0, 0, 0, 0, false⟩ = swp q := by
            have : q = ⟨6, 0, 0, 0, 0, 0, 0, 0, 0, false⟩ := by
              have h := ou
              simp only [Tre.ok] at h
              rw [lf_1 (by omega), Nd.eq_iff, h6] at h
              exact h
            rw [this]; rfl
          have HC : Hid (∀ W, Calls Tryd.prog 50 #[.agg #[.int .i64 7, .int .u64 0, .int .u64 0, .int .u64 0, .int .u64 0, .int .i64 0, .int .i64 0, .int .i64 0, .int .i64 0, .bool false]] W (RetT W 1 fm)) := fun W => HL.out W ⟨7, 0, 0, 0, 0, 0, 0, 0, 0, false⟩ hsw
          obtain ⟨⟨f0, f1, f2, f3, f4, f5, f6, f7, f8, f9⟩, _⟩ := kN.ten
          rw [h6] at c0 f0 HD
          clear HL hsw hq hk7 ou hu hM hM1
          go_wp2_with (go_at_call 50; refine (HC.out _).mono ?_; rintro e w3 ⟨a3, c3', rfl, o3, b3⟩; obtain ⟨g1, g2, g3⟩ := HD.out w3 a3 c3' (by simpa only [World.size_alloc] using o3) (by simpa only [World.size_alloc] using b3); have G1 : Hid _ := g1; clear g1 o3 b3)
          go_roundw
          case rel => exact G1.out
          case measure => simp [intOf]; omega
        by_cases h7 : q.k = 7
        · have hsw : leafN ⟨6, 0, 0, 0, 0, 0, 0, 0, 0, false⟩ = swp q := by
            have : q = ⟨7, 0, 0, 0, 0, 0, 0, 0, 0, false⟩ := by
              have h := ou
              simp only [Tre.ok] at h
              rw [lf_1 (by omega), Nd.eq_iff, h7] at h
              exact h
            rw [this]; rfl
          have HC : Hid (∀ W, Calls Tryd.prog 50 #[.agg #[.int .i64 6, .int .u64 0, .int .u64 0, .int .u64 0, .int .u64 0, .int .i64 0, .int .i64 0, .int .i64 0, .int .i64 0, .bool false]] W (RetT W 1 fm)) := fun W => HL.out W ⟨6, 0, 0, 0, 0, 0, 0, 0, 0, false⟩ hsw
          obtain ⟨⟨f0, f1, f2, f3, f4, f5, f6, f7, f8, f9⟩, _⟩ := kN.ten
          rw [h7] at c0 f0 HD
          clear HL hsw hq hk7 ou hu hM hM1
          go_wp2_with (go_at_call 50; refine (HC.out _).mono ?_; rintro e w3 ⟨a3, c3', rfl, o3, b3⟩; obtain ⟨g1, g2, g3⟩ := HD.out w3 a3 c3' (by simpa only [World.size_alloc] using o3) (by simpa only [World.size_alloc] using b3); have G1 : Hid _ := g1; clear g1 o3 b3)
          go_roundw
          case rel => exact G1.out
          case measure => simp [intOf]; omega
        have hsw : leafN q = swp q := by rw [hq]; simp [swp, h6, h7]
        have HC : Hid (∀ W, Calls Tryd.prog 50 #[ndV q] W (RetT W 1 fm)) := fun W => HL.out W q hsw
        unfold ndV at HC
        obtain ⟨⟨f0, f1, f2, f3, f4, f5, f6, f7, f8, f9⟩, _⟩ := kN.ten
        have e3 : (q.k == 3) = false := by simp; omega
        have e4 : (q.k == 4) = false := by simp; omega
        have e5 : (q.k == 5) = false := by simp; omega
        have e6 : (q.k == 6) = false := by simp; omega
        have e7 : (q.k == 7) = false := by simp; omega
        clear HL hsw hq hk7 ou hu hM hM1 h6 h7
        go_wp2_with (go_at_call 50; refine (HC.out _).mono ?_; rintro e w3 ⟨a3, c3', rfl, o3, b3⟩; obtain ⟨g1, g2, g3⟩ := HD.out w3 a3 c3' (by simpa only [World.size_alloc] using o3) (by simpa only [World.size_alloc] using b3); have G1 : Hid _ := g1; clear g1 o3 b3)
        go_roundw
        case rel => exact G1.out
        case measure => simp [intOf]; omega
      | rep y l m z =>
        obtain ⟨hs, hy⟩ := subs_rep hu
        have py := y.size_pos
        have sy : y.size ≤ 2048 := by omega
        have oy := subs_ok _ _ _ ox hy
        obtain ⟨g, gc, eM, hg, hr, hcc⟩ := hM1.made (k - 1) y (by omega) hy
        have dm := hM1.list.cell (k - 1) (vals_get M (by omega))
        rw [eM] at dm
        have e : (Tre.rep y l m z).nd (k : Int) = ⟨5, 0, 0, 0, 0, ((k - 1 : Nat) : Int), 0, l, m, z⟩ := by simp only [Tre.nd]; congr 1; omega
        have hki2 : ((k - 1 : Nat) : Int) < (x.size : Int) := by omega
        have hne : k - 1 ≠ k := by omega
        rw [e] at HD hM1 hbN dm hr kN c0 c1' c2 c3 c4 c5 c6 c7 c8 c9
        have HC : Hid (∀ W, RdN W (some ⟨g, 0, none⟩) y.size (nodes (mir y)) → Calls Tryd.prog 29 #[.agg #[.slice (some ⟨g, 0, none⟩) y.size gc], .int .i64 l, .int .i64 m, .bool z] W (RetT W (Tre.rep y l m z).size (nodes (mir (.rep y l m z))))) := fun W h => by
          have := rrepeat_any (some ⟨g, 0, none⟩) y.size gc _ l m z W h (by omega) hcc
          have hsm : snd (nodes (mir y)) y.size = mir y := by
            have := snd_nodes (mir y) (mir_ok y oy) (by rw [mir_size]; exact sy)
            rwa [mir_size] at this
          rw [hsm, mir_size] at this
          exact this
        generalize (Tre.rep y l m z).size = us at *
        generalize nodes (mir (.rep y l m z)) = fm at *
        generalize nodes (mir y) = fy at *
        generalize k - 1 = pa at *
        have hML := hM1.list
        have HS : Hid (∀ W, Below (wr.heap.size + 1) (wr.alloc (.cells (ndL ⟨5, 0, 0, 0, 0, ((pa : Nat) : Int), 0, l, m, z⟩).toArray 66)) W → (Cl W wr.heap.size 66 (ndL ⟨5, 0, 0, 0, 0, ((pa : Nat) : Int), 0, l, m, z⟩) ∧ Cl W V.heap.size 24 (vals M x.size)) ∧ RdN W (some ⟨g, 0, none⟩) y.size fy) := fun W h => by
          have h' : Below (wr.alloc (.cells (ndL ⟨5, 0, 0, 0, 0, ((pa : Nat) : Int), 0, l, m, z⟩).toArray 66)).heap.size (wr.alloc (.cells (ndL ⟨5, 0, 0, 0, 0, ((pa : Nat) : Int), 0, l, m, z⟩).toArray 66)) W := by simpa only [World.size_alloc] using h
          exact ⟨⟨kN.below h', hML.below h'⟩, hr.below h'⟩
        have hpaM := vals_get M (show pa < x.size by omega)
        rw [eM] at hpaM
        have hMn : V.heap.size ≠ wr.heap.size := by omega
        clear hM hM1 hu ou hML dm
        unfold ndL at HS HD kN hbN
        obtain ⟨⟨f0, f1, f2, f3, f4, f5, f6, f7, f8, f9⟩, _⟩ := kN.ten
        go_upto_region 14 with fail
        clear f0 f1 f2 f3 f4 f5 f6 f7 f8 f9 d0 c0 c1' c2 c3 c4 c5 c6 c7 c8 c9
        have HK : Hid (∀ W, Below (wr.heap.size + 1) (wr.alloc (.cells #[.int .i64 5, .int .u64 0, .int .u64 0, .int .u64 0, .int .u64 0, .int .i64 (pa : Nat), .int .i64 0, .int .i64 l, .int .i64 m, .bool z] 66)) W → W.cell? ⟨wr.heap.size, 5, none⟩ = some (.int .i64 (pa : Nat)) ∧ W.cell? ⟨wr.heap.size, 7, none⟩ = some (.int .i64 l) ∧ W.cell? ⟨wr.heap.size, 8, none⟩ = some (.int .i64 m) ∧ W.cell? ⟨wr.heap.size, 9, none⟩ = some (.bool z) ∧ W.cell? ⟨V.heap.size, pa, none⟩ = some (.slice (some ⟨g, 0, none⟩) y.size gc)) := fun W h => by
          obtain ⟨⟨q1, q2⟩, _⟩ := HS.out W h
          exact ⟨q1.cell 5 rfl, q1.cell 7 rfl, q1.cell 8 rfl, q1.cell 9 rfl, q2.cell pa hpaM⟩
        have HK2 : Hid (∀ W v, Below (wr.heap.size + 1) (wr.alloc (.cells #[.int .i64 5, .int .u64 0, .int .u64 0, .int .u64 0, .int .u64 0, .int .i64 (pa : Nat), .int .i64 0, .int .i64 l, .int .i64 m, .bool z] 66)) W → (W.setCell ⟨V.heap.size, k, none⟩ v).cell? ⟨wr.heap.size, 5, none⟩ = some (.int .i64 (pa : Nat)) ∧ (W.setCell ⟨V.heap.size, k, none⟩ v).cell? ⟨wr.heap.size, 7, none⟩ = some (.int .i64 l) ∧ (W.setCell ⟨V.heap.size, k, none⟩ v).cell? ⟨wr.heap.size, 8, none⟩ = some (.int .i64 m) ∧ (W.setCell ⟨V.heap.size, k, none⟩ v).cell? ⟨wr.heap.size, 9, none⟩ = some (.bool z) ∧ (W.setCell ⟨V.heap.size, k, none⟩ v).cell? ⟨V.heap.size, pa, none⟩ = some (.slice (some ⟨g, 0, none⟩) y.size gc)) := fun W v h => by
          obtain ⟨⟨q1, q2⟩, _⟩ := HS.out W h
          have q1' := q1.other hMn k v
          have q2' := q2.set k v
          exact ⟨q1'.cell 5 rfl, q1'.cell 7 rfl, q1'.cell 8 rfl, q1'.cell 9 rfl, q2'.cell pa (by rw [List.getElem?_set_ne (by omega)]; exact hpaM)⟩
        have hdr : Below (wr.heap.size + 1) (wr.alloc (.cells #[.int .i64 5, .int .u64 0, .int .u64 0, .int .u64 0, .int .u64 0, .int .i64 (pa : Nat), .int .i64 0, .int .i64 l, .int .i64 m, .bool z] 66)) (wr.alloc (.cells #[.int .i64 5, .int .u64 0, .int .u64 0, .int .u64 0, .int .u64 0, .int .i64 (pa : Nat), .int .i64 0, .int .i64 l, .int .i64 m, .bool z] 66)).drew := (Below.refl _ _).drew
        have sA := HK.out _ hdr
        have rA := (HS.out _ hdr).2
        clear hMn kN hbN hbV hr
        go_region_held3 (fun w' => w'.cell? ⟨wr.heap.size, 5, none⟩ = some (.int .i64 (pa : Nat)) ∧ w'.cell? ⟨wr.heap.size, 7, none⟩ = some (.int .i64 l) ∧ w'.cell? ⟨wr.heap.size, 8, none⟩ = some (.int .i64 m) ∧ w'.cell? ⟨wr.heap.size, 9, none⟩ = some (.bool z) ∧ w'.cell? ⟨V.heap.size, pa, none⟩ = some (.slice (some ⟨g, 0, none⟩) y.size gc)) (first | exact sC _ | exact sB | exact sA)
          (first
            | (go_at_call 29; refine (HC.out _ rA).mono ?_; rintro e w3 ⟨a3, c3', rfl, o3, b3⟩; have b3' : Below (wr.heap.size + 1) (wr.alloc (.cells #[.int .i64 5, .int .u64 0, .int .u64 0, .int .u64 0, .int .u64 0, .int .i64 (pa : Nat), .int .i64 0, .int .i64 l, .int .i64 m, .bool z] 66)) w3 := hdr.trans (by simpa using b3); obtain ⟨g1, gg2, gg3⟩ := HD.out w3 a3 c3' (by simpa using o3) b3'; have sB := HK.out _ b3'; have sC := fun v => HK2.out w3 v b3'; have G1 : Hid _ := g1; clear g1 o3 b3))
        all_goals
          go_wp2
          go_roundw
          case rel => exact G1.out
          case measure => simp [intOf]; omega
      | two kk y z =>
        obtain ⟨hs, hz', hy'⟩ := subs_two hu
        have py := y.size_pos
        have pz := z.size_pos
        have sy : y.size ≤ 2048 := by omega
        have sz : z.size ≤ 2048 := by omega
        have oy := subs_ok _ _ _ ox hy'
        have oz := subs_ok _ _ _ ox hz'
        obtain ⟨g, gc, eM, hg, hr, hcc⟩ := hM1.made (k - 1 - z.size) y (by omega) hy'
        obtain ⟨g2, gc2, eM2, hg2, hr2, hcc2⟩ := hM1.made (k - 1) z (by omega) hz'
        have dm := hM1.list.cell (k - 1 - z.size) (vals_get M (by omega))
        rw [eM] at dm
        have dm2 := hM1.list.cell (k - 1) (vals_get M (by omega))
        rw [eM2] at dm2
        have e : (Tre.two kk y z).nd (k : Int) = ⟨kk, 0, 0, 0, 0, ((k - 1 - z.size : Nat) : Int), ((k - 1 : Nat) : Int), 0, 0, false⟩ := by simp only [Tre.nd]; congr 1 <;> omega
        have hki2 : ((k - 1 - z.size : Nat) : Int) < (x.size : Int) := by omega
        have hki3 : ((k - 1 : Nat) : Int) < (x.size : Int) := by omega
        have hne : k - 1 - z.size ≠ k := by omega
        have hne2 : k - 1 ≠ k := by omega
        rw [e] at HD hM1 hbN dm dm2 hr hr2 kN c0 c1' c2 c3 c4 c5 c6 c7 c8 c9
        have hsy : snd (nodes (mir y)) y.size = mir y := by
          have := snd_nodes (mir y) (mir_ok y oy) (by rw [mir_size]; exact sy)
          rwa [mir_size] at this
        have hsz' : snd (nodes (mir z)) z.size = mir z := by
          have := snd_nodes (mir z) (mir_ok z oz) (by rw [mir_size]; exact sz)
          rwa [mir_size] at this
        have hkk : kk = 3 ∨ kk = 4 := by
          have := ou
          simp only [Tre.ok, Bool.and_eq_true, Bool.or_eq_true, beq_iff_eq] at this
          exact this.1.1
        rcases hkk with rfl | rfl
        · have HC : Hid (∀ W, RdN W (some ⟨g, 0, none⟩) y.size (nodes (mir y)) → RdN W (some ⟨g2, 0, none⟩) z.size (nodes (mir z)) → Calls Tryd.prog 47 #[.int .i64 3, .agg #[.slice (some ⟨g2, 0, none⟩) z.size gc2], .agg #[.slice (some ⟨g, 0, none⟩) y.size gc]] W (RetT W (Tre.two 3 y z).size (nodes (mir (.two 3 y z))))) := fun W h1 h2 => by
            have := rjoin_yes 3 (some ⟨g2, 0, none⟩) (some ⟨g, 0, none⟩) z.size y.size gc2 gc _ _ W (.inl rfl) h2 h1 (by omega) (by omega) hcc2 hcc
            rw [hsy, hsz', mir_size, mir_size] at this
            rw [Nat.add_comm z.size y.size] at this
            exact this
          generalize (Tre.two 3 y z).size = us at *
          generalize nodes (mir (.two 3 y z)) = fm at *
          generalize nodes (mir y) = fy at *
          generalize nodes (mir z) = fz at *
          generalize k - 1 - z.size = pa at *
          generalize k - 1 = pb at *
          have hML := hM1.list
          have HS : Hid (∀ W, Below (wr.heap.size + 1) (wr.alloc (.cells (ndL ⟨3, 0, 0, 0, 0, ((pa : Nat) : Int), ((pb : Nat) : Int), 0, 0, false⟩).toArray 66)) W → (Cl W wr.heap.size 66 (ndL ⟨3, 0, 0, 0, 0, ((pa : Nat) : Int), ((pb : Nat) : Int), 0, 0, false⟩) ∧ Cl W V.heap.size 24 (vals M x.size)) ∧ RdN W (some ⟨g, 0, none⟩) y.size fy ∧ RdN W (some ⟨g2, 0, none⟩) z.size fz) := fun W h => by
            have h' : Below (wr.alloc (.cells (ndL ⟨3, 0, 0, 0, 0, ((pa : Nat) : Int), ((pb : Nat) : Int), 0, 0, false⟩).toArray 66)).heap.size (wr.alloc (.cells (ndL ⟨3, 0, 0, 0, 0, ((pa : Nat) : Int), ((pb : Nat) : Int), 0, 0, false⟩).toArray 66)) W := by simpa only [World.size_alloc] using h
            exact ⟨⟨kN.below h', hML.below h'⟩, hr.below h', hr2.below h'⟩
          have hpaM := vals_get M (show pa < x.size by omega)
          rw [eM] at hpaM
          have hpbM := vals_get M (show pb < x.size by omega)
          rw [eM2] at hpbM
          have hMn : V.heap.size ≠ wr.heap.size := by omega
          clear hM hM1 hu ou hML dm dm2
          unfold ndL at HS HD kN hbN
          obtain ⟨⟨f0, f1, f2, f3, f4, f5, f6, f7, f8, f9⟩, _⟩ := kN.ten
          go_upto_region 10 with fail
          clear f0 f1 f2 f3 f4 f5 f6 f7 f8 f9 d0 c0 c1' c2 c3 c4 c5 c6 c7 c8 c9
          have HK : Hid (∀ W, Below (wr.heap.size + 1) (wr.alloc (.cells #[.int .i64 3, .int .u64 0, .int .u64 0, .int .u64 0, .int .u64 0, .int .i64 (pa : Nat), .int .i64 (pb : Nat), .int .i64 0, .int .i64 0, .bool false] 66)) W → W.cell? ⟨wr.heap.size, 5, none⟩ = some (.int .i64 (pa : Nat)) ∧ W.cell? ⟨wr.heap.size, 6, none⟩ = some (.int .i64 (pb : Nat)) ∧ W.cell? ⟨V.heap.size, pa, none⟩ = some (.slice (some ⟨g, 0, none⟩) y.size gc) ∧ W.cell? ⟨V.heap.size, pb, none⟩ = some (.slice (some ⟨g2, 0, none⟩) z.size gc2)) := fun W h => by
            obtain ⟨⟨q1, q2⟩, _⟩ := HS.out W h
            exact ⟨q1.cell 5 rfl, q1.cell 6 rfl, q2.cell pa hpaM, q2.cell pb hpbM⟩
          have HK2 : Hid (∀ W v, Below (wr.heap.size + 1) (wr.alloc (.cells #[.int .i64 3, .int .u64 0, .int .u64 0, .int .u64 0, .int .u64 0, .int .i64 (pa : Nat), .int .i64 (pb : Nat), .int .i64 0, .int .i64 0, .bool false] 66)) W → (W.setCell ⟨V.heap.size, k, none⟩ v).cell? ⟨wr.heap.size, 5, none⟩ = some (.int .i64 (pa : Nat)) ∧ (W.setCell ⟨V.heap.size, k, none⟩ v).cell? ⟨wr.heap.size, 6, none⟩ = some (.int .i64 (pb : Nat)) ∧ (W.setCell ⟨V.heap.size, k, none⟩ v).cell? ⟨V.heap.size, pa, none⟩ = some (.slice (some ⟨g, 0, none⟩) y.size gc) ∧ (W.setCell ⟨V.heap.size, k, none⟩ v).cell? ⟨V.heap.size, pb, none⟩ = some (.slice (some ⟨g2, 0, none⟩) z.size gc2)) := fun W v h => by
            obtain ⟨⟨q1, q2⟩, _⟩ := HS.out W h
            have q1' := q1.other hMn k v
            have q2' := q2.set k v
            exact ⟨q1'.cell 5 rfl, q1'.cell 6 rfl, q2'.cell pa (by rw [List.getElem?_set_ne (by omega)]; exact hpaM), q2'.cell pb (by rw [List.getElem?_set_ne (by omega)]; exact hpbM)⟩
          have hdr : Below (wr.heap.size + 1) (wr.alloc (.cells #[.int .i64 3, .int .u64 0, .int .u64 0, .int .u64 0, .int .u64 0, .int .i64 (pa : Nat), .int .i64 (pb : Nat), .int .i64 0, .int .i64 0, .bool false] 66)) (wr.alloc (.cells #[.int .i64 3, .int .u64 0, .int .u64 0, .int .u64 0, .int .u64 0, .int .i64 (pa : Nat), .int .i64 (pb : Nat), .int .i64 0, .int .i64 0, .bool false] 66)).drew := (Below.refl _ _).drew
          have sA := HK.out _ hdr
          obtain ⟨_, rA, rB⟩ := HS.out _ hdr
          clear hMn kN hbN hbV hr hr2
          go_region_held3 (fun w' => w'.cell? ⟨wr.heap.size, 5, none⟩ = some (.int .i64 (pa : Nat)) ∧ w'.cell? ⟨wr.heap.size, 6, none⟩ = some (.int .i64 (pb : Nat)) ∧ w'.cell? ⟨V.heap.size, pa, none⟩ = some (.slice (some ⟨g, 0, none⟩) y.size gc) ∧ w'.cell? ⟨V.heap.size, pb, none⟩ = some (.slice (some ⟨g2, 0, none⟩) z.size gc2)) (first | exact sC _ | exact sB | exact sA)
            (first
              | (go_at_call 47; refine (HC.out _ rA rB).mono ?_; rintro e w3 ⟨a3, c3', rfl, o3, b3⟩; have b3' : Below (wr.heap.size + 1) (wr.alloc (.cells #[.int .i64 3, .int .u64 0, .int .u64 0, .int .u64 0, .int .u64 0, .int .i64 (pa : Nat), .int .i64 (pb : Nat), .int .i64 0, .int .i64 0, .bool false] 66)) w3 := hdr.trans (by simpa using b3); obtain ⟨g1, gg2, gg3⟩ := HD.out w3 a3 c3' (by simpa using o3) b3'; have sB := HK.out _ b3'; have sC := fun v => HK2.out w3 v b3'; have G1 : Hid _ := g1; clear g1 o3 b3))
          all_goals
            go_wp2
            go_roundw
            case rel => exact G1.out
            case measure => simp [intOf]; omega
        · have HC : Hid (∀ W, RdN W (some ⟨g, 0, none⟩) y.size (nodes (mir y)) → RdN W (some ⟨g2, 0, none⟩) z.size (nodes (mir z)) → Calls Tryd.prog 47 #[.int .i64 4, .agg #[.slice (some ⟨g, 0, none⟩) y.size gc], .agg #[.slice (some ⟨g2, 0, none⟩) z.size gc2]] W (RetT W (Tre.two 4 y z).size (nodes (mir (.two 4 y z))))) := fun W h1 h2 => by
            have := rjoin_yes 4 (some ⟨g, 0, none⟩) (some ⟨g2, 0, none⟩) y.size z.size gc gc2 _ _ W (.inr rfl) h1 h2 (by omega) (by omega) hcc hcc2
            rw [hsy, hsz', mir_size, mir_size] at this
            exact this
          generalize (Tre.two 4 y z).size = us at *
          generalize nodes (mir (.two 4 y z)) = fm at *
          generalize nodes (mir y) = fy at *
          generalize nodes (mir z) = fz at *
          generalize k - 1 - z.size = pa at *
          generalize k - 1 = pb at *
          have hML := hM1.list
          have HS : Hid (∀ W, Below (wr.heap.size + 1) (wr.alloc (.cells (ndL ⟨4, 0, 0, 0, 0, ((pa : Nat) : Int), ((pb : Nat) : Int), 0, 0, false⟩).toArray 66)) W → (Cl W wr.heap.size 66 (ndL ⟨4, 0, 0, 0, 0, ((pa : Nat) : Int), ((pb : Nat) : Int), 0, 0, false⟩) ∧ Cl W V.heap.size 24 (vals M x.size)) ∧ RdN W (some ⟨g, 0, none⟩) y.size fy ∧ RdN W (some ⟨g2, 0, none⟩) z.size fz) := fun W h => by
            have h' : Below (wr.alloc (.cells (ndL ⟨4, 0, 0, 0, 0, ((pa : Nat) : Int), ((pb : Nat) : Int), 0, 0, false⟩).toArray 66)).heap.size (wr.alloc (.cells (ndL ⟨4, 0, 0, 0, 0, ((pa : Nat) : Int), ((pb : Nat) : Int), 0, 0, false⟩).toArray 66)) W := by simpa only [World.size_alloc] using h
            exact ⟨⟨kN.below h', hML.below h'⟩, hr.below h', hr2.below h'⟩
          have hpaM := vals_get M (show pa < x.size by omega)
          rw [eM] at hpaM
          have hpbM := vals_get M (show pb < x.size by omega)
          rw [eM2] at hpbM
          have hMn : V.heap.size ≠ wr.heap.size := by omega
          clear hM hM1 hu ou hML dm dm2
          unfold ndL at HS HD kN hbN
          obtain ⟨⟨f0, f1, f2, f3, f4, f5, f6, f7, f8, f9⟩, _⟩ := kN.ten
          go_upto_region 12 with fail
          clear f0 f1 f2 f3 f4 f5 f6 f7 f8 f9 d0 c0 c1' c2 c3 c4 c5 c6 c7 c8 c9
          have HK : Hid (∀ W, Below (wr.heap.size + 1) (wr.alloc (.cells #[.int .i64 4, .int .u64 0, .int .u64 0, .int .u64 0, .int .u64 0, .int .i64 (pa : Nat), .int .i64 (pb : Nat), .int .i64 0, .int .i64 0, .bool false] 66)) W → W.cell? ⟨wr.heap.size, 5, none⟩ = some (.int .i64 (pa : Nat)) ∧ W.cell? ⟨wr.heap.size, 6, none⟩ = some (.int .i64 (pb : Nat)) ∧ W.cell? ⟨V.heap.size, pa, none⟩ = some (.slice (some ⟨g, 0, none⟩) y.size gc) ∧ W.cell? ⟨V.heap.size, pb, none⟩ = some (.slice (some ⟨g2, 0, none⟩) z.size gc2)) := fun W h => by
            obtain ⟨⟨q1, q2⟩, _⟩ := HS.out W h
            exact ⟨q1.cell 5 rfl, q1.cell 6 rfl, q2.cell pa hpaM, q2.cell pb hpbM⟩
          have HK2 : Hid (∀ W v, Below (wr.heap.size + 1) (wr.alloc (.cells #[.int .i64 4, .int .u64 0, .int .u64 0, .int .u64 0, .int .u64 0, .int .i64 (pa : Nat), .int .i64 (pb : Nat), .int .i64 0, .int .i64 0, .bool false] 66)) W → (W.setCell ⟨V.heap.size, k, none⟩ v).cell? ⟨wr.heap.size, 5, none⟩ = some (.int .i64 (pa : Nat)) ∧ (W.setCell ⟨V.heap.size, k, none⟩ v).cell? ⟨wr.heap.size, 6, none⟩ = some (.int .i64 (pb : Nat)) ∧ (W.setCell ⟨V.heap.size, k, none⟩ v).cell? ⟨V.heap.size, pa, none⟩ = some (.slice (some ⟨g, 0, none⟩) y.size gc) ∧ (W.setCell ⟨V.heap.size, k, none⟩ v).cell? ⟨V.heap.size, pb, none⟩ = some (.slice (some ⟨g2, 0, none⟩) z.size gc2)) := fun W v h => by
            obtain ⟨⟨q1, q2⟩, _⟩ := HS.out W h
            have q1' := q1.other hMn k v
            have q2' := q2.set k v
            exact ⟨q1'.cell 5 rfl, q1'.cell 6 rfl, q2'.cell pa (by rw [List.getElem?_set_ne (by omega)]; exact hpaM), q2'.cell pb (by rw [List.getElem?_set_ne (by omega)]; exact hpbM)⟩
          have hdr : Below (wr.heap.size + 1) (wr.alloc (.cells #[.int .i64 4, .int .u64 0, .int .u64 0, .int .u64 0, .int .u64 0, .int .i64 (pa : Nat), .int .i64 (pb : Nat), .int .i64 0, .int .i64 0, .bool false] 66)) (wr.alloc (.cells #[.int .i64 4, .int .u64 0, .int .u64 0, .int .u64 0, .int .u64 0, .int .i64 (pa : Nat), .int .i64 (pb : Nat), .int .i64 0, .int .i64 0, .bool false] 66)).drew := (Below.refl _ _).drew
          have sA := HK.out _ hdr
          obtain ⟨_, rA, rB⟩ := HS.out _ hdr
          clear hMn kN hbN hbV hr hr2
          go_region_held3 (fun w' => w'.cell? ⟨wr.heap.size, 5, none⟩ = some (.int .i64 (pa : Nat)) ∧ w'.cell? ⟨wr.heap.size, 6, none⟩ = some (.int .i64 (pb : Nat)) ∧ w'.cell? ⟨V.heap.size, pa, none⟩ = some (.slice (some ⟨g, 0, none⟩) y.size gc) ∧ w'.cell? ⟨V.heap.size, pb, none⟩ = some (.slice (some ⟨g2, 0, none⟩) z.size gc2)) (first | exact sC _ | exact sB | exact sA)
            (first
              | (go_at_call 47; refine (HC.out _ rA rB).mono ?_; rintro e w3 ⟨a3, c3', rfl, o3, b3⟩; have b3' : Below (wr.heap.size + 1) (wr.alloc (.cells #[.int .i64 4, .int .u64 0, .int .u64 0, .int .u64 0, .int .u64 0, .int .i64 (pa : Nat), .int .i64 (pb : Nat), .int .i64 0, .int .i64 0, .bool false] 66)) w3 := hdr.trans (by simpa using b3); obtain ⟨g1, gg2, gg3⟩ := HD.out w3 a3 c3' (by simpa using o3) b3'; have sB := HK.out _ b3'; have sC := fun v => HK2.out w3 v b3'; have G1 : Hid _ := g1; clear g1 o3 b3))
          all_goals
            go_wp2
            go_roundw
            case rel => exact G1.out
            case measure => simp [intOf]; omega
    · obtain rfl : k = x.size := by omega
      have hki : ¬ (x.size : Int) < (x.size : Int) := by omega
      have hl := Tre.subs_last x
      obtain ⟨g, cap, eM, hg, hr, hcc⟩ := hM.made (x.size - 1) x (by omega) hl
      have dm := hM.list.cell (x.size - 1) (vals_get M (by omega))
      rw [eM] at dm
      have k2r := k2.below hb
      obtain ⟨e1, e2⟩ := k2r.one
      have dd := (k2r.set 0 (.slice (some ⟨g, 0, none⟩) x.size cap)).cell 0 rfl
      have hr9 : RdN (wr.setCell ⟨w.heap.size + 1, 0, none⟩ (.slice (some ⟨g, 0, none⟩) x.size cap)) (some ⟨g, 0, none⟩) x.size (nodes (mir x)) := hr.apart (by omega) _
      have hb9 : Below w.heap.size w (wr.setCell ⟨w.heap.size + 1, 0, none⟩ (.slice (some ⟨g, 0, none⟩) x.size cap)) := (hBV.trans (hb.mono (by omega))).setCell (p := ⟨w.heap.size + 1, 0, none⟩) (by simp) _
      have HQ : Hid _ := hr9
      have hk1 : ((x.size : Int) - 1).toNat = x.size - 1 := by omega
      have hk2 : (0 : Int) ≤ (x.size : Int) - 1 := by omega
      have hk3 : (x.size : Int) - 1 < (x.size : Int) := by omega
      clear hr9 hr hM
      go_wp2
      exact bodyPost_ret (by simp [results, Tryd.results31, go_sem, dd]) rfl ⟨_, cap, rfl, HQ.out, hb9⟩
end Go.Proofs.YtiiecppkabdkgaaDoor
