/- token: bracket: its ends. -/
import Derived.Test.YtlmmiicibjfcdaaKr
namespace Go.Proofs.Ytlmmiicibjfcdaa
open Go.RowKit
theorem cells_zero {W : World} {N : Nat} (V0 : Cl W N 42 [.int .i64 0, .int .u8 0, .int .u64 0, .int .u64 0, .int .u64 0, .int .u64 0, .bool false, .int .i64 0, .int .i64 0, .bool false, .int .i64 0]) (V1 : Cl W (N + 1) 96 [.int .i64 0, .int .i64 0]) (y0 y1 y2 y3 y4 y5 y6 y7 y8 y9 y10 y11 y12 : Value) :
    Cl (put2 (put11 W N y0 y1 y2 y3 y4 y5 y6 y7 y8 y9 y10) (N + 1) y11 y12) N 42 [y0, y1, y2, y3, y4, y5, y6, y7, y8, y9, y10] ∧ Cl (put2 (put11 W N y0 y1 y2 y3 y4 y5 y6 y7 y8 y9 y10) (N + 1) y11 y12) (N + 1) 96 [y11, y12] :=
  ⟨(V0.put11 y0 y1 y2 y3 y4 y5 y6 y7 y8 y9 y10).others2 (k := N + 1) (by omega) y11 y12, (V1.others11 (k := N) (by omega) y0 y1 y2 y3 y4 y5 y6 y7 y8 y9 y10).put2 y11 y12⟩
set_option maxRecDepth 20000 in
set_option maxHeartbeats 4000000 in
theorem br_wrong {K : Nat → Act → World → Prop} {R : Ending → World → Prop} (ao : Option Addr) (n cap at_ N : Nat) (u : Nat → Value) {w W : World} {nt : Bool} {c0 c1 c2 c3 i p0 p1 p2 p3 : Nat} (hq : Bq w N at_ nt c0 c1 c2 c3 i 0 p0 p1 p2 p3 W)
    (hR : Hid (∀ W', Below N w W' → R (.returned (.tuple #[tokV 0 0 0 0 0 0 false 0 0 false 0, markV at_ 41])) W')) : Code.wp Try.prog (labelIn Try.f85 0) (jumps K (bodyPost Try.prog Try.f85 R)) ⟨fr11 ao n cap at_ N u, []⟩ W := by
  obtain ⟨Q0, hQ0⟩ : ∃ Q0, Q0 = bodyPost Try.prog Try.f85 R := ⟨_, rfl⟩
  rw [← hQ0]
  have HQ0 : Hid (Q0 = bodyPost Try.prog Try.f85 R) := hQ0
  clear hQ0
  unfold fr11
  conv => arg 2; whnf
  obtain ⟨⟨b0, b1, b2, b3, b4, b5, b6, b7, b8, b9, b10⟩, g0, g1, g2, g3, g4, g5, g6, g7, g8, g9, g10⟩ := hq.k0.eleven
  obtain ⟨⟨d0, d1⟩, e0, e1⟩ := hq.k1.two
  obtain ⟨F, G⟩ := cells_zero hq.k0 hq.k1 (.int .i64 0) (.int .u8 0) (.int .u64 0) (.int .u64 0) (.int .u64 0) (.int .u64 0) (.bool false) (.int .i64 0) (.int .i64 0) (.bool false) (.int .i64 0) (.int .i64 (at_ : Nat)) (.int .i64 41)
  have hB4 := (below_put2 (b := N + 1) (below_put11 (b := N) hq.bel (Nat.le_refl _) (.int .i64 0) (.int .u8 0) (.int .u64 0) (.int .u64 0) (.int .u64 0) (.int .u64 0) (.bool false) (.int .i64 0) (.int .i64 0) (.bool false) (.int .i64 0)) (by omega) (.int .i64 (at_ : Nat)) (.int .i64 41))
  replace F := F.eleven.1
  replace G := G.two.1
  simp only [put2, put11] at F G hB4
  obtain ⟨F0, F1, F2, F3, F4, F5, F6, F7, F8, F9, F10⟩ := F
  obtain ⟨G0, G1⟩ := G
  have HF : Hid (Below N w _) := hB4
  clear hB4 hq
  go_wp2
  rw [jumps_ret, HQ0.out]
  exact bodyPost_ret (v := .tuple #[tokV 0 0 0 0 0 0 false 0 0 false 0, markV at_ 41]) (by simp [results, Try.results85, go_sem, tokV, markV, F0, F1, F2, F3, F4, F5, F6, F7, F8, F9, F10, G0, G1]) rfl (hR.out _ HF.out)
set_option maxRecDepth 20000 in
set_option maxHeartbeats 4000000 in
theorem br_end {K : Nat → Act → World → Prop} {R : Ending → World → Prop} (ao : Option Addr) (n cap at_ N : Nat) (u : Nat → Value) {w W : World} {nt : Bool} {c0 c1 c2 c3 i p0 p1 p2 p3 : Nat} (hq : Bq w N at_ nt c0 c1 c2 c3 i 0 p0 p1 p2 p3 W) (hi : (i : Int) ≤ 1024)
    (HM : Hid (Calls Try.prog 63 #[.agg #[.int .u64 (c0 : Nat), .int .u64 (c1 : Nat), .int .u64 (c2 : Nat), .int .u64 (c3 : Nat)], .bool nt] W (RetB W true)))
    (hR : Hid (∀ W', Below N w W' → R (.returned (.tuple #[tokV 2 0 c0 c1 c2 c3 nt 0 0 false at_, markV (i + 1) 0])) W')) : Code.wp Try.prog (labelIn Try.f85 2) (jumps K (bodyPost Try.prog Try.f85 R)) ⟨fr11 ao n cap at_ N u, []⟩ W := by
  obtain ⟨Q0, hQ0⟩ : ∃ Q0, Q0 = bodyPost Try.prog Try.f85 R := ⟨_, rfl⟩
  rw [← hQ0]
  have HQ0 : Hid (Q0 = bodyPost Try.prog Try.f85 R) := hQ0
  clear hQ0
  unfold fr11
  conv => arg 2; whnf
  obtain ⟨⟨b0, b1, b2, b3, b4, b5, b6, b7, b8, b9, b10⟩, g0, g1, g2, g3, g4, g5, g6, g7, g8, g9, g10⟩ := hq.k2.eleven
  have HQ : Hid (Bq w N at_ nt c0 c1 c2 c3 i 0 p0 p1 p2 p3 W) := hq
  clear hq
  go_wp2_with fail
  refine HM.out.mono ?_
  rintro e w1 ⟨rfl, hb⟩
  have q1 := HQ.out.next hb
  clear hb HM HQ b0 b1 b2 b3 b4 b5 b6 b7 b8 b9 b10 g0 g1 g2 g3 g4 g5 g6 g7 g8 g9 g10
  go_wp2_with fail
  have i6 : IntKind.i64.wrap ((i : Int) + 1) = (i : Int) + 1 := IntWalk.i64_in _ (by omega)
  clear hi
  obtain ⟨⟨b0, b1, b2, b3, b4, b5, b6, b7, b8, b9, b10⟩, g0, g1, g2, g3, g4, g5, g6, g7, g8, g9, g10⟩ := q1.k0.eleven
  obtain ⟨⟨d0, d1⟩, e0, e1⟩ := q1.k1.two
  obtain ⟨⟨o0, o1⟩, l0, l1⟩ := q1.k3.two
  obtain ⟨⟨m0, m1, m2, m3, m4, m5, m6, m7, m8, m9, m10⟩, -⟩ := q1.k2.eleven
  obtain ⟨F, G⟩ := cells_zero q1.k0 q1.k1 (.int .i64 2) (.int .u8 0) (.int .u64 (c0 : Nat)) (.int .u64 (c1 : Nat)) (.int .u64 (c2 : Nat)) (.int .u64 (c3 : Nat)) (.bool nt) (.int .i64 0) (.int .i64 0) (.bool false) (.int .i64 (at_ : Nat)) (.int .i64 ((i : Int) + 1)) (.int .i64 0)
  have hB4 := (below_put2 (b := N + 1) (below_put11 (b := N) q1.bel (Nat.le_refl _) (.int .i64 2) (.int .u8 0) (.int .u64 (c0 : Nat)) (.int .u64 (c1 : Nat)) (.int .u64 (c2 : Nat)) (.int .u64 (c3 : Nat)) (.bool nt) (.int .i64 0) (.int .i64 0) (.bool false) (.int .i64 (at_ : Nat))) (by omega) (.int .i64 ((i : Int) + 1)) (.int .i64 0)).drew
  replace F := F.drew.eleven.1
  replace G := G.drew.two.1
  simp only [put2, put11] at F G hB4
  obtain ⟨F0, F1, F2, F3, F4, F5, F6, F7, F8, F9, F10⟩ := F
  obtain ⟨G0, G1⟩ := G
  have HF : Hid (Below N w _) := hB4
  clear hB4 q1
  refine wp_then_only ?_
  go_region_with (fail)
  all_goals go_wp2
  all_goals rw [jumps_ret, HQ0.out]
  all_goals exact bodyPost_ret (v := .tuple #[tokV 2 0 c0 c1 c2 c3 nt 0 0 false at_, markV (i + 1) 0]) (by simp [results, Try.results85, go_sem, tokV, markV, F0, F1, F2, F3, F4, F5, F6, F7, F8, F9, F10, G0, G1]) rfl (hR.out _ HF.out)
set_option maxRecDepth 20000 in
set_option maxHeartbeats 4000000 in
theorem br_none {K : Nat → Act → World → Prop} {R : Ending → World → Prop} (ao : Option Addr) (n cap at_ N : Nat) (u : Nat → Value) {w W : World} {nt : Bool} {c0 c1 c2 c3 i p0 p1 p2 p3 : Nat} (hq : Bq w N at_ nt c0 c1 c2 c3 i 0 p0 p1 p2 p3 W)
    (HM : Hid (Calls Try.prog 63 #[.agg #[.int .u64 (c0 : Nat), .int .u64 (c1 : Nat), .int .u64 (c2 : Nat), .int .u64 (c3 : Nat)], .bool nt] W (RetB W false)))
    (hR : Hid (∀ W', Below N w W' → R (.returned (.tuple #[tokV 0 0 0 0 0 0 false 0 0 false 0, markV at_ 41])) W')) : Code.wp Try.prog (labelIn Try.f85 2) (jumps K (bodyPost Try.prog Try.f85 R)) ⟨fr11 ao n cap at_ N u, []⟩ W := by
  obtain ⟨Q0, hQ0⟩ : ∃ Q0, Q0 = bodyPost Try.prog Try.f85 R := ⟨_, rfl⟩
  rw [← hQ0]
  have HQ0 : Hid (Q0 = bodyPost Try.prog Try.f85 R) := hQ0
  clear hQ0
  unfold fr11
  conv => arg 2; whnf
  obtain ⟨⟨b0, b1, b2, b3, b4, b5, b6, b7, b8, b9, b10⟩, g0, g1, g2, g3, g4, g5, g6, g7, g8, g9, g10⟩ := hq.k2.eleven
  have HQ : Hid (Bq w N at_ nt c0 c1 c2 c3 i 0 p0 p1 p2 p3 W) := hq
  clear hq
  go_wp2_with fail
  refine HM.out.mono ?_
  rintro e w1 ⟨rfl, hb⟩
  have hq := HQ.out.next hb
  clear hb HM HQ b0 b1 b2 b3 b4 b5 b6 b7 b8 b9 b10 g0 g1 g2 g3 g4 g5 g6 g7 g8 g9 g10
  go_wp2_with fail
  go_step3
  obtain ⟨⟨b0, b1, b2, b3, b4, b5, b6, b7, b8, b9, b10⟩, g0, g1, g2, g3, g4, g5, g6, g7, g8, g9, g10⟩ := hq.k0.eleven
  obtain ⟨⟨d0, d1⟩, e0, e1⟩ := hq.k1.two
  obtain ⟨F, G⟩ := cells_zero hq.k0 hq.k1 (.int .i64 0) (.int .u8 0) (.int .u64 0) (.int .u64 0) (.int .u64 0) (.int .u64 0) (.bool false) (.int .i64 0) (.int .i64 0) (.bool false) (.int .i64 0) (.int .i64 (at_ : Nat)) (.int .i64 41)
  have hB4 := (below_put2 (b := N + 1) (below_put11 (b := N) hq.bel (Nat.le_refl _) (.int .i64 0) (.int .u8 0) (.int .u64 0) (.int .u64 0) (.int .u64 0) (.int .u64 0) (.bool false) (.int .i64 0) (.int .i64 0) (.bool false) (.int .i64 0)) (by omega) (.int .i64 (at_ : Nat)) (.int .i64 41))
  replace F := F.eleven.1
  replace G := G.two.1
  simp only [put2, put11] at F G hB4
  obtain ⟨F0, F1, F2, F3, F4, F5, F6, F7, F8, F9, F10⟩ := F
  obtain ⟨G0, G1⟩ := G
  have HF : Hid (Below N w _) := hB4
  clear hB4 hq
  go_wp2
  rw [jumps_ret, HQ0.out]
  exact bodyPost_ret (v := .tuple #[tokV 0 0 0 0 0 0 false 0 0 false 0, markV at_ 41]) (by simp [results, Try.results85, go_sem, tokV, markV, F0, F1, F2, F3, F4, F5, F6, F7, F8, F9, F10, G0, G1]) rfl (hR.out _ HF.out)
end Go.Proofs.Ytlmmiicibjfcdaa
