/- Of, of the program: the walk. -/
import Derived.Test.YtobgmgpclcfkcaaTo
namespace Go.Proofs.Ytobgmgpclcfkcaa
open Go.RowKit Go.Shelf
/-- A row of two nodes whose second is made lazy or not. -/
theorem lazy_rd {W : World} {g : Nat} {F : Nat → T.Nd} {p q : T.Nd} {y : Bool} (hl : g < W.heap.size) (h : ∀ i j u, i < 2 → j < 10 → (T.ndL (F i))[j]? = some u → W.cell? ⟨g, i * 10 + j, none⟩ = some u) (h0 : F 0 = p) (h1 : F 1 = q) : T.RdN (W.setCell ⟨g, 19, none⟩ (.bool y)) (some ⟨g, 0, none⟩) 2 (two2 p { q with z := y }) := by
  have e : ∀ o, o ≠ 19 → (W.setCell ⟨g, 19, none⟩ (.bool y)).cell? ⟨g, o, none⟩ = W.cell? ⟨g, o, none⟩ := fun o ho => World.cell?_setCell_other _ _ _ _ (by simp)
  have e9 : (W.setCell ⟨g, 19, none⟩ (.bool y)).cell? ⟨g, 19, none⟩ = some (.bool y) := World.cell?_setCell_same _ _ _ (h 1 9 _ (by decide) (by decide) rfl)
  intro _
  refine ⟨g, 0, rfl, by simpa using hl, fun i hi => ?_⟩
  obtain rfl | rfl : i = 0 ∨ i = 1 := by omega
  · subst h0
    simp only [two2, if_true, Nat.zero_mul, Nat.zero_add, Nat.add_zero]
    rw [e 0 (by decide), e 1 (by decide), e 2 (by decide), e 3 (by decide), e 4 (by decide), e 5 (by decide), e 6 (by decide), e 7 (by decide), e 8 (by decide), e 9 (by decide)]
    exact ⟨h 0 0 _ (by decide) (by decide) rfl, h 0 1 _ (by decide) (by decide) rfl, h 0 2 _ (by decide) (by decide) rfl, h 0 3 _ (by decide) (by decide) rfl, h 0 4 _ (by decide) (by decide) rfl, h 0 5 _ (by decide) (by decide) rfl, h 0 6 _ (by decide) (by decide) rfl, h 0 7 _ (by decide) (by decide) rfl, h 0 8 _ (by decide) (by decide) rfl, h 0 9 _ (by decide) (by decide) rfl⟩
  · subst h1
    simp only [two2, Nat.one_mul, Nat.zero_add, Nat.reduceAdd, Nat.one_ne_zero, if_false]
    rw [e 10 (by decide), e 11 (by decide), e 12 (by decide), e 13 (by decide), e 14 (by decide), e 15 (by decide), e 16 (by decide), e 17 (by decide), e 18 (by decide)]
    exact ⟨h 1 0 _ (by decide) (by decide) rfl, h 1 1 _ (by decide) (by decide) rfl, h 1 2 _ (by decide) (by decide) rfl, h 1 3 _ (by decide) (by decide) rfl, h 1 4 _ (by decide) (by decide) rfl, h 1 5 _ (by decide) (by decide) rfl, h 1 6 _ (by decide) (by decide) rfl, h 1 7 _ (by decide) (by decide) rfl, h 1 8 _ (by decide) (by decide) rfl, e9⟩
/-- What the two say of each other. -/
theorem eq_two (p q p' q' : T.Nd) : (decide (2 = 2) && T.eqN (two2 p q) (two2 p' q') 2) = (p.eq p' && q.eq q') := by
  simp [T.eqN, two2]
theorem two_new (W : World) (vs us : List Value) : Cl ((W.alloc (.cells vs.toArray 70)).alloc (.cells us.toArray 70)).drew W.heap.size 70 vs ∧ Cl ((W.alloc (.cells vs.toArray 70)).alloc (.cells us.toArray 70)).drew (W.heap.size + 1) 70 us ∧ Below W.heap.size W ((W.alloc (.cells vs.toArray 70)).alloc (.cells us.toArray 70)).drew := by
  have h1 := Cl.new (W.alloc (.cells vs.toArray 70)) 70 us
  rw [World.size_alloc] at h1
  exact ⟨((Cl.new W 70 vs).alloc _).drew, h1.drew, (T.below2 W _ _).drew⟩
set_option maxRecDepth 100000 in
set_option maxHeartbeats 8000000 in
theorem of_two (w : World) (bb off xc : Nat) (x0 : Int) (a b c d : Nat) (x5 x6 x7 x8 : Int) (x9 : Bool) (y0 y1 y2 y3 y4 y5 y6 y7 y8 : Int) (y9 : Bool) (h : Nd2 w bb off x0 a b c d x5 x6 x7 x8 x9 y0 y1 y2 y3 y4 y5 y6 y7 y8 y9) :
    Calls Try.prog 26 #[.agg #[.slice (some ⟨bb, off, none⟩) 2 xc]] w (RetOf w a b c d y7 (isTd x0 a b c d x5 x6 x7 x8 x9 y0 y1 y2 y3 y4 y5 y6 y7 y8 y9)) := by
  obtain ⟨R, hR⟩ : ∃ R, isTd x0 a b c d x5 x6 x7 x8 x9 y0 y1 y2 y3 y4 y5 y6 y7 y8 y9 = R := ⟨_, rfl⟩
  rw [hR]
  have HR : Hid (isTd x0 a b c d x5 x6 x7 x8 x9 y0 y1 y2 y3 y4 y5 y6 y7 y8 y9 = R) := hR
  clear hR
  have hB := T.below2 w (.cells #[.slice (some ⟨bb, off, none⟩) 2 xc] 47) (tdO 0 0 0 0 0)
  have r0 := TdAt.new (w.alloc (.cells #[.slice (some ⟨bb, off, none⟩) 2 xc] 47)) 0 0 0 0 0
  rw [World.size_alloc] at r0
  unfold tdO at hB r0
  have t0 := (Cl.new w 47 [.slice (some ⟨bb, off, none⟩) 2 xc]).alloc (tdO 0 0 0 0 0)
  unfold tdO at t0
  have c0 := t0.cell 0 rfl
  go_enter Try.func26, Try.ntmps26
  go_upto_region 3 with fail
  have h1 : Nd2 ((w.alloc (.cells #[.slice (some ⟨bb, off, none⟩) 2 xc] 47)).alloc (.cells #[.int .u64 0, .int .u64 0, .int .u64 0, .int .u64 0, .int .i64 0] 26)) bb off x0 a b c d x5 x6 x7 x8 x9 y0 y1 y2 y3 y4 y5 y6 y7 y8 y9 := h.below hB
  generalize (w.alloc (.cells #[.slice (some ⟨bb, off, none⟩) 2 xc] 47)).alloc (.cells #[.int .u64 0, .int .u64 0, .int .u64 0, .int .u64 0, .int .i64 0] 26) = W at *
  have HB := Hid.mk' hB
  have H1 := Hid.mk' h1
  have T0 := Hid.mk' t0
  have R0 := Hid.mk' r0
  clear hB t0 h r0
  go_cut [4, 5] (fun p q wx => ∃ b1 b2, p = .pointer (some ⟨b1, 0, none⟩) ∧ q = .pointer (some ⟨b2, 0, none⟩) ∧ Cl wx b1 70 [.int .i64 x0, .int .u64 ((a : Nat) : Int), .int .u64 ((b : Nat) : Int), .int .u64 ((c : Nat) : Int), .int .u64 ((d : Nat) : Int), .int .i64 x5, .int .i64 x6, .int .i64 x7, .int .i64 x8, .bool x9] ∧ Cl wx b2 70 [.int .i64 y0, .int .u64 y1, .int .u64 y2, .int .u64 y3, .int .u64 y4, .int .i64 y5, .int .i64 y6, .int .i64 y7, .int .i64 y8, .bool y9] ∧ Below W.heap.size W wx)
  case first =>
    obtain ⟨hlt, ⟨p0, p1, p2, p3, p4, p5, p6, p7, p8, p9⟩, q0, q1, q2, q3, q4, q5, q6, q7, q8, q9⟩ := h1
    have np0 := World.new_ne W _ p0
    have np1 := World.new_ne W _ p1
    have np2 := World.new_ne W _ p2
    have np3 := World.new_ne W _ p3
    have np4 := World.new_ne W _ p4
    have np5 := World.new_ne W _ p5
    have np6 := World.new_ne W _ p6
    have np7 := World.new_ne W _ p7
    have np8 := World.new_ne W _ p8
    have np9 := World.new_ne W _ p9
    have nq0 := World.new_ne W _ q0
    have nq1 := World.new_ne W _ q1
    have nq2 := World.new_ne W _ q2
    have nq3 := World.new_ne W _ q3
    have nq4 := World.new_ne W _ q4
    have nq5 := World.new_ne W _ q5
    have nq6 := World.new_ne W _ q6
    have nq7 := World.new_ne W _ q7
    have nq8 := World.new_ne W _ q8
    have nq9 := World.new_ne W _ q9
    have nc := World.new_ne W _ c0
    go_region_held3 (fun w' => w'.cell? ⟨w.heap.size, 0, none⟩ = some (.slice (some ⟨bb, off, none⟩) 2 xc) ∧ (w'.cell? ⟨bb, off, none⟩ = some (.int .i64 x0) ∧ w'.cell? ⟨bb, off + 1, none⟩ = some (.int .u64 ((a : Nat) : Int)) ∧ w'.cell? ⟨bb, off + 2, none⟩ = some (.int .u64 ((b : Nat) : Int)) ∧ w'.cell? ⟨bb, off + 3, none⟩ = some (.int .u64 ((c : Nat) : Int)) ∧ w'.cell? ⟨bb, off + 4, none⟩ = some (.int .u64 ((d : Nat) : Int)) ∧ w'.cell? ⟨bb, off + 5, none⟩ = some (.int .i64 x5) ∧ w'.cell? ⟨bb, off + 6, none⟩ = some (.int .i64 x6) ∧ w'.cell? ⟨bb, off + 7, none⟩ = some (.int .i64 x7) ∧ w'.cell? ⟨bb, off + 8, none⟩ = some (.int .i64 x8) ∧ w'.cell? ⟨bb, off + 9, none⟩ = some (.bool x9)) ∧ w'.cell? ⟨bb, off + 10, none⟩ = some (.int .i64 y0) ∧ w'.cell? ⟨bb, off + 11, none⟩ = some (.int .u64 y1) ∧ w'.cell? ⟨bb, off + 12, none⟩ = some (.int .u64 y2) ∧ w'.cell? ⟨bb, off + 13, none⟩ = some (.int .u64 y3) ∧ w'.cell? ⟨bb, off + 14, none⟩ = some (.int .u64 y4) ∧ w'.cell? ⟨bb, off + 15, none⟩ = some (.int .i64 y5) ∧ w'.cell? ⟨bb, off + 16, none⟩ = some (.int .i64 y6) ∧ w'.cell? ⟨bb, off + 17, none⟩ = some (.int .i64 y7) ∧ w'.cell? ⟨bb, off + 18, none⟩ = some (.int .i64 y8) ∧ w'.cell? ⟨bb, off + 19, none⟩ = some (.bool y9))
      (first | exact ⟨c0, ⟨p0, p1, p2, p3, p4, p5, p6, p7, p8, p9⟩, q0, q1, q2, q3, q4, q5, q6, q7, q8, q9⟩ | go_keep)
      (fail)
    all_goals go_wp2_with fail
    all_goals go_meet
    · exact ⟨_, _, rfl, rfl, (two_new W [.int .i64 x0, .int .u64 ((a : Nat) : Int), .int .u64 ((b : Nat) : Int), .int .u64 ((c : Nat) : Int), .int .u64 ((d : Nat) : Int), .int .i64 x5, .int .i64 x6, .int .i64 x7, .int .i64 x8, .bool x9] [.int .i64 y0, .int .u64 y1, .int .u64 y2, .int .u64 y3, .int .u64 y4, .int .i64 y5, .int .i64 y6, .int .i64 y7, .int .i64 y8, .bool y9]).1, (two_new W [.int .i64 x0, .int .u64 ((a : Nat) : Int), .int .u64 ((b : Nat) : Int), .int .u64 ((c : Nat) : Int), .int .u64 ((d : Nat) : Int), .int .i64 x5, .int .i64 x6, .int .i64 x7, .int .i64 x8, .bool x9] [.int .i64 y0, .int .u64 y1, .int .u64 y2, .int .u64 y3, .int .u64 y4, .int .i64 y5, .int .i64 y6, .int .i64 y7, .int .i64 y8, .bool y9]).2.1, (two_new W [.int .i64 x0, .int .u64 ((a : Nat) : Int), .int .u64 ((b : Nat) : Int), .int .u64 ((c : Nat) : Int), .int .u64 ((d : Nat) : Int), .int .i64 x5, .int .i64 x6, .int .i64 x7, .int .i64 x8, .bool x9] [.int .i64 y0, .int .u64 y1, .int .u64 y2, .int .u64 y3, .int .u64 y4, .int .i64 y5, .int .i64 y6, .int .i64 y7, .int .i64 y8, .bool y9]).2.2⟩
    · exact ⟨_, _, rfl, rfl, (two_new W [.int .i64 y0, .int .u64 y1, .int .u64 y2, .int .u64 y3, .int .u64 y4, .int .i64 y5, .int .i64 y6, .int .i64 y7, .int .i64 y8, .bool y9] [.int .i64 x0, .int .u64 ((a : Nat) : Int), .int .u64 ((b : Nat) : Int), .int .u64 ((c : Nat) : Int), .int .u64 ((d : Nat) : Int), .int .i64 x5, .int .i64 x6, .int .i64 x7, .int .i64 x8, .bool x9]).2.1, (two_new W [.int .i64 y0, .int .u64 y1, .int .u64 y2, .int .u64 y3, .int .u64 y4, .int .i64 y5, .int .i64 y6, .int .i64 y7, .int .i64 y8, .bool y9] [.int .i64 x0, .int .u64 ((a : Nat) : Int), .int .u64 ((b : Nat) : Int), .int .u64 ((c : Nat) : Int), .int .u64 ((d : Nat) : Int), .int .i64 x5, .int .i64 x6, .int .i64 x7, .int .i64 x8, .bool x9]).1, (two_new W [.int .i64 y0, .int .u64 y1, .int .u64 y2, .int .u64 y3, .int .u64 y4, .int .i64 y5, .int .i64 y6, .int .i64 y7, .int .i64 y8, .bool y9] [.int .i64 x0, .int .u64 ((a : Nat) : Int), .int .u64 ((b : Nat) : Int), .int .u64 ((c : Nat) : Int), .int .u64 ((d : Nat) : Int), .int .i64 x5, .int .i64 x6, .int .i64 x7, .int .i64 x8, .bool x9]).2.2⟩
  case rest =>
    obtain ⟨b1, b2, rfl, rfl, k1, k2, hb⟩ := hcut
    clear c0 h1
    have hB1 := HB.out.trans (hb.mono HB.out.size)
    have h1 := H1.out.below hb
    have t1 := T0.out.below hb
    have r1 := R0.out.below hb
    clear H1 T0 R0 HB hb
    have HC0 := fun W (h : okT a b c d y7 = false) => tree_no (a := a) (b := b) (c := c) (d := d) (lo := y7) W h
    have HC1 := fun W (h : okT a b c d y7 = true) => tree_yes (a := a) (b := b) (c := c) (d := d) (lo := y7) W h
    have u1 := k1.cell 1 rfl
    have u2 := k1.cell 2 rfl
    have u3 := k1.cell 3 rfl
    have u4 := k1.cell 4 rfl
    have u7 := k2.cell 7 rfl
    have K2 := Hid.mk' k2
    have hw1 : w.heap.size + 2 ≤ wc.heap.size := by have := r1.lt; omega
    unfold tdV at HC0 HC1
    cases hok : okT a b c d y7 with
    | false =>
      have hRf : R = false := by rw [← HR.out]; unfold isTd; rw [hok]; rfl
      subst hRf
      clear HR HC1
      have hT := HC0 (wc.alloc (tdO a b c d y7)) hok
      unfold tdO at hT
      go_wp2_with (go_at_call 24; refine hT.mono ?_; rintro e w2 ⟨rfl, hb2⟩; have hb3 := ((Below.refl wc.heap.size wc).alloc (Nat.le_refl _) (.cells #[.int .u64 (a : Nat), .int .u64 (b : Nat), .int .u64 (c : Nat), .int .u64 (d : Nat), .int .i64 y7] 26)).trans (hb2.mono (by simp)); replace r1 := (r1.below hb3).alloc (.cells #[.slice none 0 0] 47); have hB3 := (hB1.trans (hb3.mono hB1.size)).trans (((Below.refl _ _).alloc (Nat.le_refl _) (.cells #[.slice none 0 0] 47)).mono (hB1.trans (hb3.mono hB1.size)).size); obtain ⟨⟨g0, g1, g2, g3, g4⟩, f0, f1, f2, f3, f4⟩ := r1.cells)
      have z := ((((Cl.set r1 0 (.int .u64 0)).set 1 (.int .u64 0)).set 2 (.int .u64 0)).set 3 (.int .u64 0)).set 4 (.int .i64 0)
      have k0 := z.cell 0 rfl
      have k1 := z.cell 1 rfl
      have k2 := z.cell 2 rfl
      have k3 := z.cell 3 rfl
      have k4 := z.cell 4 rfl
      exact bodyPost_ret (v := .tuple #[tdV 0 0 0 0 0, .bool false]) (by simp [results, Try.results26, go_sem, k0, k1, k2, k3, k4, tdV]) rfl ⟨rfl, ((((hB3.setCell (p := ⟨w.heap.size + 1, 0, none⟩) (by simp) _).setCell (p := ⟨w.heap.size + 1, 1, none⟩) (by simp) _).setCell (p := ⟨w.heap.size + 1, 2, none⟩) (by simp) _).setCell (p := ⟨w.heap.size + 1, 3, none⟩) (by simp) _).setCell (p := ⟨w.heap.size + 1, 4, none⟩) (by simp) _⟩
    | true =>
      have hRt : R = ((ndX x0 a b c d x5 x6 x7 x8 x9).eq (tdN a b c d) && (ndY y0 y1 y2 y3 y4 y5 y6 y7 y8 y9).eq ⟨5, 0, 0, 0, 0, 0, 0, y7, -1, y9⟩) := by rw [← HR.out]; unfold isTd; rw [hok]; rfl
      have HR2 := Hid.mk' hRt
      clear HR HC0 hRt
      have hT := HC1 (wc.alloc (tdO a b c d y7)) hok
      unfold tdO at hT
      have q0 := TdAt.new wc a b c d y7
      unfold tdO at q0
      have T1 := Hid.mk' t1
      have H1 := Hid.mk' h1
      have R1 := Hid.mk' r1
      have u9 := k2.cell 9 rfl
      clear t1 h1 r1 HC1
      go_upto_region 9 with (go_at_call 24; refine hT.mono ?_; rintro e w2 ⟨ta, tc, rfl, hown, hb2⟩; have hb3 := ((Below.refl wc.heap.size wc).alloc (Nat.le_refl _) (.cells #[.int .u64 (a : Nat), .int .u64 (b : Nat), .int .u64 (c : Nat), .int .u64 (d : Nat), .int .i64 y7] 26)).trans (hb2.mono (by simp)); obtain ⟨g, rfl, hgl, hgB, hgc, hgf⟩ := T.OwN.cells hown (by decide); have w9 := (K2.out.below (hb3.trans (((Below.refl _ _).alloc (Nat.le_refl _) (.cells #[.slice (some ⟨g, 0, none⟩) 2 tc] 47)).mono hb3.size))).cell 9 rfl; obtain ⟨g', hge, hgl2, hgB2, hgc2, hgf2⟩ := T.OwN.cells (show T.OwN _ _ _ _ _ _ from T.ownsRow_below hown ((Below.refl _ _).alloc (Nat.le_refl _) (.cells #[.slice (some ⟨g, 0, none⟩) 2 tc] 47))) (by decide); have hgg : g = g' := congrArg Addr.block (Option.some.inj hge); subst hgg; have v19 := hgc2 1 9 _ (by decide) (by decide) rfl; have z19 := hgf2 19; have hw2 := Cl.new w2 47 [.slice (some ⟨g, 0, none⟩) 2 tc]; have w0 := hw2.cell 0 rfl)
      clear v19 z19 w9 u1 u2 u3 u4 u7 u9 hge hw2 w0
      have hgw : wc.heap.size + 1 ≤ g := by simpa using hgB
      have hd : wc.heap.size + 1 ≤ w2.heap.size := by simpa using hb2.size
      have hz : (w2.setCell ⟨g, 19, none⟩ (.bool y9)).heap.size = w2.heap.size := by simp
      have hal : Below (w2.setCell ⟨g, 19, none⟩ (.bool y9)).heap.size _ _ := (Below.refl _ _).alloc (Nat.le_refl _) (.cells #[.slice (some ⟨g, 0, none⟩) 2 tc] 47)
      have sb0 : Below wc.heap.size wc (w2.setCell ⟨g, 19, none⟩ (.bool y9)) := hb3.setCell (p := ⟨g, 19, none⟩) (by simp; omega) _
      have sb := sb0.trans (hal.mono sb0.size)
      have hB5 := hB1.trans (sb.mono hB1.size)
      have c1 := (T1.out.below sb).cell 0 rfl
      have c2 := (Cl.new (w2.setCell ⟨g, 19, none⟩ (.bool y9)) 47 [.slice (some ⟨g, 0, none⟩) 2 tc]).cell 0 rfl
      rw [hz] at c2
      have x1 := (H1.out.below sb).rd
      have x2 := (lazy_rd (y := y9) hgl hgc (nodes_td0 a b c d y7) (nodes_td1 a b c d y7)).below hal
      have HS := T.tsame_any (some ⟨bb, off, none⟩) (some ⟨g, 0, none⟩) 2 2 xc tc _ _ _ x1 x2 (by decide)
      rw [eq_two] at HS
      have hRe := HR2.out
      unfold ndX ndY at *
      rw [← hRe] at HS
      have r5 := R1.out.below sb
      have q5 := (Cl.other (q0.below hb2) (k := g) (by omega) 19 (.bool y9)).alloc (.cells #[.slice (some ⟨g, 0, none⟩) 2 tc] 47)
      generalize (w2.setCell ⟨g, 19, none⟩ (.bool y9)).alloc (.cells #[.slice (some ⟨g, 0, none⟩) 2 tc] 47) = w4 at *
      clear x1 x2 hRe hal sb0 hgc hgf hown hz hb2 hb3 sb H1 T1 R1 HR2 K2 k1 k2 hT q0 hgc2 hgf2 hgl2 hgB2 hgB hok
      obtain ⟨⟨j0, j1, j2, j3, j4⟩, f0, f1, f2, f3, f4⟩ := r5.cells
      obtain ⟨⟨l0, l1, l2, l3, l4⟩, _⟩ := TdAt.cells (show TdAt _ _ a b c d y7 from q5)
      have hs4 : w.heap.size + 2 ≤ w4.heap.size := by have := r5.lt; omega
      cases R with
      | false =>
        go_wp2_with (go_at_call 43; refine HS.mono ?_; rintro e w5 ⟨rfl, hb5⟩; have r6 := r5.below hb5; have hB6 := hB5.trans (hb5.mono hB5.size); obtain ⟨⟨g0, g1, g2, g3, g4⟩, h0, h1, h2, h3, h4⟩ := r6.cells)
        have z := ((((Cl.set r6 0 (.int .u64 0)).set 1 (.int .u64 0)).set 2 (.int .u64 0)).set 3 (.int .u64 0)).set 4 (.int .i64 0)
        have k0 := z.cell 0 rfl
        have k1 := z.cell 1 rfl
        have k2 := z.cell 2 rfl
        have k3 := z.cell 3 rfl
        have k4 := z.cell 4 rfl
        exact bodyPost_ret (v := .tuple #[tdV 0 0 0 0 0, .bool false]) (by simp [results, Try.results26, go_sem, k0, k1, k2, k3, k4, tdV]) rfl ⟨rfl, ((((hB6.setCell (p := ⟨w.heap.size + 1, 0, none⟩) (by simp) _).setCell (p := ⟨w.heap.size + 1, 1, none⟩) (by simp) _).setCell (p := ⟨w.heap.size + 1, 2, none⟩) (by simp) _).setCell (p := ⟨w.heap.size + 1, 3, none⟩) (by simp) _).setCell (p := ⟨w.heap.size + 1, 4, none⟩) (by simp) _⟩
      | true =>
        go_wp2_with (go_at_call 43; refine HS.mono ?_; rintro e w5 ⟨rfl, hb5⟩; have r6 := r5.below hb5; have q6 := TdAt.below (show TdAt _ _ a b c d y7 from q5) hb5; have hB6 := hB5.trans (hb5.mono hB5.size); obtain ⟨⟨g0, g1, g2, g3, g4⟩, h0, h1, h2, h3, h4⟩ := r6.cells; obtain ⟨⟨m0, m1, m2, m3, m4⟩, _⟩ := q6.cells)
        have z := TdAt.put (a' := a) (b' := b) (c' := c) (d' := d) (lo' := y7) r6
        unfold putT at z
        obtain ⟨⟨k0, k1, k2, k3, k4⟩, _⟩ := z.cells
        exact bodyPost_ret (v := .tuple #[tdV a b c d y7, .bool true]) (by simp [results, Try.results26, go_sem, k0, k1, k2, k3, k4, tdV]) rfl ⟨rfl, ((((hB6.setCell (p := ⟨w.heap.size + 1, 0, none⟩) (by simp) _).setCell (p := ⟨w.heap.size + 1, 1, none⟩) (by simp) _).setCell (p := ⟨w.heap.size + 1, 2, none⟩) (by simp) _).setCell (p := ⟨w.heap.size + 1, 3, none⟩) (by simp) _).setCell (p := ⟨w.heap.size + 1, 4, none⟩) (by simp) _⟩
end Go.Proofs.Ytobgmgpclcfkcaa
