/- TideTree: the walk. -/
import Derived.Test.YtobgmgpclcfkcaaOq
import Derived.Test.YtobgmgpclcfkcaaKg
namespace Go.Proofs.Ytobgmgpclcfkcaa
open Go.RowKit Go.Shelf
set_option maxRecDepth 100000 in
set_option maxHeartbeats 8000000 in
theorem tree_walk {a b c d : Nat} {lo : Int} (w : World) (xo : Option Addr) (m xc : Nat) (F : Nat → T.Nd) (hx : T.RdN w xo m F) (hF : NatN (F 0)) :
    Calls Try.prog 5 #[tdV a b c d lo, .agg #[.slice xo m xc]] w fun e w' => e = .returned (.bool true) ∧ Below w.heap.size w w' := by
  obtain ⟨A, B, C, D, L, yes, hof⟩ := of_any m F hF
  have HOF := Hid.mk' hof
  clear hof hF
  obtain ⟨k, hk⟩ : ∃ k, okT a b c d lo = k := ⟨_, rfl⟩
  obtain ⟨n, hn⟩ : ∃ n : Nat, n = if k = true then 2 else 0 := ⟨_, rfl⟩
  have hn2 : n ≤ 2 := by rw [hn]; split <;> omega
  have HTB := Hid.mk' (tree_both a b c d lo k n hk hn)
  have HEQ := Hid.mk' (eqN_refl (T.nodes (tdT a b c d lo)) (fun i => nd_refl _) n)
  have HOT : Hid (k = true → ∀ W xo xc, T.RdN W xo n (T.nodes (tdT a b c d lo)) → Calls Try.prog 26 #[.agg #[.slice xo n xc]] W fun e w' => e = .returned (.tuple #[tdV a b c d lo, .bool true]) ∧ Below W.heap.size W w') := fun h => by
    subst h
    rw [show n = 2 by simpa using hn]
    exact of_tree hk
  clear hk hn
  generalize T.nodes (tdT a b c d lo) = G at *
  have hB := T.below2 w (tdO a b c d lo) (.cells #[.slice xo m xc] 47)
  have r0 := (TdAt.new w a b c d lo).alloc (.cells #[.slice xo m xc] 47)
  have t0 := Cl.new (w.alloc (tdO a b c d lo)) 47 [.slice xo m xc]
  rw [World.size_alloc] at t0
  have x0 := hx.below hB
  clear hx
  unfold tdO at hB r0 t0 x0
  unfold tdV at *
  go_enter Try.func5, Try.ntmps5
  go_upto_region 1 with fail
  generalize (w.alloc (.cells #[.int .u64 (a : Nat), .int .u64 (b : Nat), .int .u64 (c : Nat), .int .u64 (d : Nat), .int .i64 lo] 26)).alloc (.cells #[.slice xo m xc] 47) = W0 at *
  obtain ⟨⟨g0, g1, g2, g3, g4⟩, -⟩ := r0.cells
  have R0 := Hid.mk' r0
  have T0 := Hid.mk' t0
  have X0 := Hid.mk' x0
  have B0 := Hid.mk' hB
  clear r0 t0 x0 hB
  go_upto_region 2 with (go_at_call 24; refine (HTB.out W0).1.mono ?_; rintro e w1 ⟨ta, tc, rfl, hr, hb1⟩)
  have hb := hb1.trans (((Below.refl _ _).alloc (Nat.le_refl _) (.cells #[.slice ta n tc] 47)).mono hb1.size)
  have P1 := Hid.mk' (hr.below ((Below.refl _ _).alloc (Nat.le_refl _) (.cells #[.slice ta n tc] 47)))
  have Q1 := Hid.mk' (Cl.new w1 47 [.slice ta n tc])
  clear hr hb1
  generalize w1.heap.size = p1 at *
  have R1 := Hid.mk' (R0.out.below hb)
  have T1 := Hid.mk' (T0.out.below hb)
  have X1 := Hid.mk' (X0.out.below hb)
  have B1 := Hid.mk' (B0.out.trans (hb.mono B0.out.size))
  clear R0 T0 X0 B0
  clear hb g0 g1 g2 g3 g4
  generalize w1.alloc (.cells #[.slice ta n tc] 47) = W1 at *
  obtain ⟨⟨g0, g1, g2, g3, g4⟩, -⟩ := R1.out.cells
  go_upto_region 3 with (go_at_call 25; refine (HTB.out W1).2.mono ?_; rintro e w2 ⟨sa, sc, rfl, hr, hb1⟩)
  have hb := hb1.trans (((Below.refl _ _).alloc (Nat.le_refl _) (.cells #[.slice sa n sc] 47)).mono hb1.size)
  have S2 := Hid.mk' (hr.below ((Below.refl _ _).alloc (Nat.le_refl _) (.cells #[.slice sa n sc] 47)))
  have U2 := Hid.mk' (Cl.new w2 47 [.slice sa n sc])
  clear hr hb1
  generalize w2.heap.size = p2 at *
  have R2 := Hid.mk' (R1.out.below hb)
  have T2 := Hid.mk' (T1.out.below hb)
  have X2 := Hid.mk' (X1.out.below hb)
  have B2 := Hid.mk' (B1.out.trans (hb.mono B1.out.size))
  have P2 := Hid.mk' (P1.out.below hb)
  have Q2 := Hid.mk' (Q1.out.below hb)
  clear R1 T1 X1 B1 P1 Q1
  clear hb g0 g1 g2 g3 g4
  generalize w2.alloc (.cells #[.slice sa n sc] 47) = W2 at *
  have c0 := T2.out.cell 0 rfl
  go_upto_region 4 with (go_at_call 26; refine (HOF.out W2 xo xc X2.out).1.mono ?_; rintro e w3 ⟨rfl, hb1⟩)
  have hb := hb1.trans (((Below.refl _ _).alloc (Nat.le_refl _) (tdO A B C D L)).mono hb1.size)
  have V3 := Hid.mk' (TdAt.new w3 A B C D L)
  unfold tdO at hb V3
  clear hb1
  generalize w3.heap.size = p3 at *
  have R3 := Hid.mk' (R2.out.below hb)
  have T3 := Hid.mk' (T2.out.below hb)
  have X3 := Hid.mk' (X2.out.below hb)
  have B3 := Hid.mk' (B2.out.trans (hb.mono B2.out.size))
  have P3 := Hid.mk' (P2.out.below hb)
  have Q3 := Hid.mk' (Q2.out.below hb)
  have S3 := Hid.mk' (S2.out.below hb)
  have U3 := Hid.mk' (U2.out.below hb)
  clear R2 T2 X2 B2 P2 Q2 S2 U2
  clear hb c0
  generalize w3.alloc (.cells #[.int .u64 (A : Nat), .int .u64 (B : Nat), .int .u64 (C : Nat), .int .u64 (D : Nat), .int .i64 L] 26) = W3 at *
  have c0 := T3.out.cell 0 rfl
  go_upto_region 5 with (go_at_call 27; refine (HOF.out W3 xo xc X3.out).2.mono ?_; rintro e w4 ⟨rfl, hb1⟩)
  have hb := hb1.trans (((Below.refl _ _).alloc (Nat.le_refl _) (tdO A B C D L)).mono hb1.size)
  have Y4 := Hid.mk' (TdAt.new w4 A B C D L)
  unfold tdO at hb Y4
  clear hb1
  generalize w4.heap.size = p4 at *
  have R4 := Hid.mk' (R3.out.below hb)
  have T4 := Hid.mk' (T3.out.below hb)
  have X4 := Hid.mk' (X3.out.below hb)
  have B4 := Hid.mk' (B3.out.trans (hb.mono B3.out.size))
  have P4 := Hid.mk' (P3.out.below hb)
  have Q4 := Hid.mk' (Q3.out.below hb)
  have S4 := Hid.mk' (S3.out.below hb)
  have U4 := Hid.mk' (U3.out.below hb)
  have V4 := Hid.mk' (V3.out.below hb)
  clear R3 T3 X3 B3 P3 Q3 S3 U3 V3
  clear hb c0
  generalize w4.alloc (.cells #[.int .u64 (A : Nat), .int .u64 (B : Nat), .int .u64 (C : Nat), .int .u64 (D : Nat), .int .i64 L] 26) = W4 at *
  clear HOF HTB T4 X4
  have H9 := fun W => begun_any W
  have HS := fun W h1 h2 => T.rsame_any ta sa n n tc sc G G W h1 h2 (by omega)
  rw [show (decide (n = n) && T.eqN G G n) = true by rw [HEQ.out]; simp] at HS
  have HS' := Hid.mk' HS
  have q0 := eql26 A B C D A B C D L L
  rw [show (!(((A : Int) == A && (B : Int) == B && (C : Int) == C && (D : Int) == D) && L == L)) = false by simp] at q0
  have q1 := eql26 a b c d a b c d lo lo
  rw [show (!(((a : Int) == a && (b : Int) == b && (c : Int) == c && (d : Int) == d) && lo == lo)) = false by simp] at q1
  unfold tdV at q0 q1
  clear HS HEQ
  go_upto_region 7 with (first
    | (go_at_call 9; refine (H9 _).mono ?_; rintro e w5 ⟨rfl, hb5⟩; have c1 := (Q4.out.below hb5).cell 0 rfl; have c2 := (U4.out.below hb5).cell 0 rfl)
    | (go_at_call 28; refine (HS'.out _ (P4.out.below hb5) (S4.out.below hb5)).mono ?_; rintro e w6 ⟨rfl, hb6⟩; obtain ⟨⟨i0, i1, i2, i3, i4⟩, -⟩ := (V4.out.below (hb5.trans (hb6.mono hb5.size))).cells; obtain ⟨⟨j0, j1, j2, j3, j4⟩, -⟩ := (Y4.out.below (hb5.trans (hb6.mono hb5.size))).cells))
  have hb6' := hb5.trans (hb6.mono hb5.size)
  have hB6 := B4.out.trans (hb6'.mono B4.out.size)
  have Q6 := Hid.mk' (Q4.out.below hb6')
  have P6 := Hid.mk' (P4.out.below hb6')
  have R6 := Hid.mk' (R4.out.below hb6')
  clear hb5 hb6 hb6' c1 c2 i0 i1 i2 i3 i4 j0 j1 j2 j3 j4 q0 HS' H9 Y4 R4 B4 P4 Q4 S4 U4 V4
  cases k with
  | false =>
    go_wp2
    exact bodyPost_ret (v := .bool true) (by simp [results, Try.results5, go_sem]) rfl ⟨rfl, hB6⟩
  | true =>
    have c1 := Q6.out.cell 0 rfl
    go_wp2_with (go_at_call 26; refine (HOT.out rfl w6 ta tc P6.out).mono ?_; rintro e w7 ⟨rfl, hb7⟩; have hb8 := hb7.trans (((Below.refl _ _).alloc (Nat.le_refl _) (tdO a b c d lo)).mono hb7.size); have hB8 := hB6.trans (hb8.mono hB6.size); have r8 := R6.out.below hb8; unfold tdO at r8 hB8; obtain ⟨⟨i0, i1, i2, i3, i4⟩, -⟩ := r8.cells; obtain ⟨⟨j0, j1, j2, j3, j4⟩, -⟩ := (TdAt.new w7 a b c d lo).cells; unfold tdO at j0 j1 j2 j3 j4)
    exact bodyPost_ret (v := .bool true) (by simp [results, Try.results5, go_sem]) rfl ⟨rfl, hB8⟩
end Go.Proofs.Ytobgmgpclcfkcaa
