/- token: bracket: the ways of one pass from its label. -/
import Derived.Test.YtlmmiicibjfcdaaSc
namespace Go.Proofs.Ytlmmiicibjfcdaa
open Go.RowKit
theorem Bq.next {w W w1 : World} {N at_ : Nat} {nt : Bool} {c0 c1 c2 c3 i : Nat} {er : Int} {p0 p1 p2 p3 : Nat} (h : Bq w N at_ nt c0 c1 c2 c3 i er p0 p1 p2 p3 W) (hb : Below W.heap.size W w1) : Bq w N at_ nt c0 c1 c2 c3 i er p0 p1 p2 p3 w1 :=
  ⟨h.k0.below hb, h.k1.below hb, h.k2.below hb, h.k3.below hb, h.k4.below hb, h.bel.trans (hb.mono (Nat.le_of_lt h.k0.lt))⟩
theorem wp_then_only {P : Program} {c : Code} {K : Act → World → Prop} {Q : Exit → Act → World → Prop} {a : Act} {w : World} (h : c.wp P (Exit.then K (fun _ _ _ => False)) a w) : c.wp P (Exit.then K Q) a w :=
  Code.wp_mono (fun e a w h => by cases e <;> first | exact h | exact False.elim h) h
theorem jumps_ret {J : Nat → Act → World → Prop} {Q : Exit → Act → World → Prop} {a : Act} {w : World} : jumps J Q .ret a w = Q .ret a w := rfl
set_option maxRecDepth 10000 in
set_option maxHeartbeats 1000000 in
theorem br_n {K : Nat → Act → World → Prop} {Q : Exit → Act → World → Prop} (ao : Option Addr) (n cap at_ N : Nat) (u : Nat → Value) {w W : World} {nt : Bool} {c0 c1 c2 c3 i p0 p1 p2 p3 : Nat} (hq : Bq w N at_ nt c0 c1 c2 c3 i 0 p0 p1 p2 p3 W) (hi : i = n)
    (hK : Hid (∀ tm, Fr11 ao n cap at_ N tm → K 0 ⟨tm, []⟩ W)) : Code.wp Try.prog (labelIn Try.f85 1) (jumps K Q) ⟨fr11 ao n cap at_ N u, []⟩ W := by
  subst hi
  obtain ⟨⟨r0, r1⟩, s0, s1⟩ := hq.k3.two
  clear hq
  unfold fr11
  conv => arg 2; whnf
  go_wp2_with fail
  go_step3
  exact hK.out _ (Fr11.of _ rfl)
set_option maxRecDepth 10000 in
set_option maxHeartbeats 1000000 in
theorem br_e {K : Nat → Act → World → Prop} {Q : Exit → Act → World → Prop} (bb off : Nat) (n cap at_ N : Nat) (u : Nat → Value) {w W : World} {nt : Bool} {c0 c1 c2 c3 i p0 p1 p2 p3 : Nat} (hq : Bq w N at_ nt c0 c1 c2 c3 i 0 p0 p1 p2 p3 W) (hi : i < n) (hc : W.cell? ⟨bb, off + i, none⟩ = some (.int .u8 93))
    (hK : Hid (∀ tm, Fr11 (some ⟨bb, off, none⟩) n cap at_ N tm → K 2 ⟨tm, []⟩ W)) : Code.wp Try.prog (labelIn Try.f85 1) (jumps K Q) ⟨fr11 (some ⟨bb, off, none⟩) n cap at_ N u, []⟩ W := by
  obtain ⟨⟨r0, r1⟩, s0, s1⟩ := hq.k3.two
  clear hq
  have h1 : ((i : Int) == (n : Int)) = false := by simp; omega
  have h2 : (i : Int) < (n : Int) := by omega
  clear hi
  unfold fr11
  conv => arg 2; whnf
  go_wp2_with fail
  go_step3
  exact hK.out _ (Fr11.of _ rfl)
set_option maxRecDepth 20000 in
set_option maxHeartbeats 4000000 in
theorem br_bad {K : Nat → Act → World → Prop} {R : Ending → World → Prop} (bb off : Nat) (n cap at_ N : Nat) (u : Nat → Value) {w W : World} {nt : Bool} {c0 c1 c2 c3 i p0 p1 p2 p3 : Nat} (hq : Bq w N at_ nt c0 c1 c2 c3 i 0 p0 p1 p2 p3 W) (hi : i < n) (q : Nat) (hc : W.cell? ⟨bb, off + i, none⟩ = some (.int .u8 (q : Nat))) (hne : q ≠ 93)
    (U : Nat → Bool) (en : Nat) (er : Int) (her : er ≠ 0) (HU : Hid (Calls Try.prog 100 #[.slice (some ⟨bb, off, none⟩) n cap, .int .i64 (i : Nat)] W (RetU W U en er)))
    (hR : Hid (∀ W', Below N w W' → R (.returned (.tuple #[tokV 0 0 0 0 0 0 false 0 0 false 0, markV en er])) W')) : Code.wp Try.prog (labelIn Try.f85 1) (jumps K (bodyPost Try.prog Try.f85 R)) ⟨fr11 (some ⟨bb, off, none⟩) n cap at_ N u, []⟩ W := by
  obtain ⟨⟨r0, r1⟩, s0, s1⟩ := hq.k3.two
  have h1 : ((i : Int) == (n : Int)) = false := by simp; omega
  have h2 : (i : Int) < (n : Int) := by omega
  have h3 : ((q : Int) == 93) = false := by simp; omega
  have h9 : (er != 0) = true := by simp [her]
  clear hi hne her
  unfold fr11
  conv => arg 2; whnf
  obtain ⟨Q0, hQ0⟩ : ∃ Q0, Q0 = bodyPost Try.prog Try.f85 R := ⟨_, rfl⟩
  rw [← hQ0]
  have HQ0 : Hid (Q0 = bodyPost Try.prog Try.f85 R) := hQ0
  clear hQ0
  have HQ : Hid (Bq w N at_ nt c0 c1 c2 c3 i 0 p0 p1 p2 p3 W) := hq
  clear hq
  go_wp2_with fail
  refine HU.out.mono ?_
  rintro e w1 ⟨x0, x1, x2, x3, rfl, -, hb⟩
  have q1 := HQ.out.next hb
  clear HU r0 r1 s0 s1 hc h1 h2 h3 hb
  have v0 := (q1.k0.others4 (k := N + 1 + 1 + 1 + 1) (by omega) (.int .u64 (x0 : Nat)) (.int .u64 (x1 : Nat)) (.int .u64 (x2 : Nat)) (.int .u64 (x3 : Nat))).others2 (k := N + 1 + 1 + 1) (by omega) (.int .i64 (en : Nat)) (.int .i64 er)
  have v1 := (q1.k1.others4 (k := N + 1 + 1 + 1 + 1) (by omega) (.int .u64 (x0 : Nat)) (.int .u64 (x1 : Nat)) (.int .u64 (x2 : Nat)) (.int .u64 (x3 : Nat))).others2 (k := N + 1 + 1 + 1) (by omega) (.int .i64 (en : Nat)) (.int .i64 er)
  have v3 := (q1.k3.others4 (k := N + 1 + 1 + 1 + 1) (by omega) (.int .u64 (x0 : Nat)) (.int .u64 (x1 : Nat)) (.int .u64 (x2 : Nat)) (.int .u64 (x3 : Nat))).put2 (.int .i64 (en : Nat)) (.int .i64 er)
  have vb := below_put2 (b := N + 1 + 1 + 1) (below_putc (b := N + 1 + 1 + 1 + 1) q1.bel (by omega) (.int .u64 (x0 : Nat)) (.int .u64 (x1 : Nat)) (.int .u64 (x2 : Nat)) (.int .u64 (x3 : Nat))) (by omega) (.int .i64 (en : Nat)) (.int .i64 er)
  obtain ⟨⟨a0, a1, a2, a3⟩, b0, b1, b2, b3⟩ := q1.k4.four
  obtain ⟨⟨m0, m1⟩, n0, n1⟩ := (q1.k3.others4 (k := N + 1 + 1 + 1 + 1) (by omega) (.int .u64 (x0 : Nat)) (.int .u64 (x1 : Nat)) (.int .u64 (x2 : Nat)) (.int .u64 (x3 : Nat))).two
  simp only [put2, putc] at v0 v1 v3 vb m0 m1 n0 n1
  have V0 : Hid (Cl _ _ _ _) := v0
  have V1 : Hid (Cl _ _ _ _) := v1
  have V3 : Hid (Cl _ _ _ _) := v3
  have VB : Hid (Below _ _ _) := vb
  clear v0 v1 v3 vb q1 HQ
  simp only [markV]
  go_wp2_with fail
  generalize ((((((w1.setCell ⟨N + 1 + 1 + 1 + 1, 0, none⟩ (.int .u64 (x0 : Nat))).setCell ⟨N + 1 + 1 + 1 + 1, 1, none⟩ (.int .u64 (x1 : Nat))).setCell ⟨N + 1 + 1 + 1 + 1, 2, none⟩ (.int .u64 (x2 : Nat))).setCell ⟨N + 1 + 1 + 1 + 1, 3, none⟩ (.int .u64 (x3 : Nat))).setCell ⟨N + 1 + 1 + 1, 0, none⟩ (.int .i64 (en : Nat))).setCell ⟨N + 1 + 1 + 1, 1, none⟩ (.int .i64 er)) = W3 at *
  clear a0 a1 a2 a3 b0 b1 b2 b3 m0 m1 n0 n1
  obtain ⟨⟨r0, r1⟩, s0, s1⟩ := V3.out.two
  obtain ⟨⟨b0, b1, b2, b3, b4, b5, b6, b7, b8, b9, b10⟩, g0, g1, g2, g3, g4, g5, g6, g7, g8, g9, g10⟩ := V0.out.eleven
  obtain ⟨⟨d0, d1⟩, e0, e1⟩ := V1.out.two
  have F := ((V0.out.put11 (.int .i64 0) (.int .u8 0) (.int .u64 0) (.int .u64 0) (.int .u64 0) (.int .u64 0) (.bool false) (.int .i64 0) (.int .i64 0) (.bool false) (.int .i64 0)).others2 (k := N + 1) (by omega) (.int .i64 (en : Nat)) (.int .i64 er)).drew.eleven.1
  have G := ((V1.out.others11 (k := N) (by omega) (.int .i64 0) (.int .u8 0) (.int .u64 0) (.int .u64 0) (.int .u64 0) (.int .u64 0) (.bool false) (.int .i64 0) (.int .i64 0) (.bool false) (.int .i64 0)).put2 (.int .i64 (en : Nat)) (.int .i64 er)).drew.two.1
  have hB4 := (below_put2 (b := N + 1) (below_put11 (b := N) VB.out (Nat.le_refl _) (.int .i64 0) (.int .u8 0) (.int .u64 0) (.int .u64 0) (.int .u64 0) (.int .u64 0) (.bool false) (.int .i64 0) (.int .i64 0) (.bool false) (.int .i64 0)) (by omega) (.int .i64 (en : Nat)) (.int .i64 er)).drew
  simp only [put2, put11] at F G hB4
  obtain ⟨F0, F1, F2, F3, F4, F5, F6, F7, F8, F9, F10⟩ := F
  obtain ⟨G0, G1⟩ := G
  have HF : Hid (Below N w _) := hB4
  clear hB4
  refine wp_then_only ?_
  go_region_with (fail)
  all_goals go_wp2
  all_goals rw [jumps_ret, HQ0.out]
  all_goals exact bodyPost_ret (v := .tuple #[tokV 0 0 0 0 0 0 false 0 0 false 0, markV en er]) (by simp [results, Try.results85, go_sem, tokV, markV, F0, F1, F2, F3, F4, F5, F6, F7, F8, F9, F10, G0, G1]) rfl (hR.out _ HF.out)
set_option maxRecDepth 20000 in
set_option maxHeartbeats 4000000 in
theorem br_go {K : Nat → Act → World → Prop} {Q : Exit → Act → World → Prop} (bb off : Nat) (n cap at_ N : Nat) (u : Nat → Value) {w W : World} {nt : Bool} {c0 c1 c2 c3 i p0 p1 p2 p3 : Nat} (hq : Bq w N at_ nt c0 c1 c2 c3 i 0 p0 p1 p2 p3 W) (hi : i < n) (q : Nat) (hc : W.cell? ⟨bb, off + i, none⟩ = some (.int .u8 (q : Nat))) (hne : q ≠ 93)
    (P U : Nat → Bool) (h4 : C4 P c0 c1 c2 c3) (en : Nat) (HU : Hid (Calls Try.prog 100 #[.slice (some ⟨bb, off, none⟩) n cap, .int .i64 (i : Nat)] W (RetU W U en 0)))
    (hK : Hid (∀ tm W' d0 d1 d2 d3 e0 e1 e2 e3, Fr11 (some ⟨bb, off, none⟩) n cap at_ N tm → Bq w N at_ nt d0 d1 d2 d3 en 0 e0 e1 e2 e3 W' → C4 (fun x => P x || U x) d0 d1 d2 d3 → K 1 ⟨tm, []⟩ W')) : Code.wp Try.prog (labelIn Try.f85 1) (jumps K Q) ⟨fr11 (some ⟨bb, off, none⟩) n cap at_ N u, []⟩ W := by
  obtain ⟨⟨r0, r1⟩, s0, s1⟩ := hq.k3.two
  have h1 : ((i : Int) == (n : Int)) = false := by simp; omega
  have h2 : (i : Int) < (n : Int) := by omega
  have h3 : ((q : Int) == 93) = false := by simp; omega
  clear hi hne
  unfold fr11
  conv => arg 2; whnf
  have HQ : Hid (Bq w N at_ nt c0 c1 c2 c3 i 0 p0 p1 p2 p3 W) := hq
  have H4 : Hid (C4 P c0 c1 c2 c3) := h4
  clear hq h4
  go_wp2_with fail
  refine HU.out.mono ?_
  rintro e w1 ⟨x0, x1, x2, x3, rfl, hx, hb⟩
  have HX : Hid (C4 U x0 x1 x2 x3) := hx
  have q1 := HQ.out.next hb
  clear HU r0 r1 s0 s1 hc h1 h2 h3 hb hx
  have v0 := (q1.k0.others4 (k := N + 1 + 1 + 1 + 1) (by omega) (.int .u64 (x0 : Nat)) (.int .u64 (x1 : Nat)) (.int .u64 (x2 : Nat)) (.int .u64 (x3 : Nat))).others2 (k := N + 1 + 1 + 1) (by omega) (.int .i64 (en : Nat)) (.int .i64 0)
  have v1 := (q1.k1.others4 (k := N + 1 + 1 + 1 + 1) (by omega) (.int .u64 (x0 : Nat)) (.int .u64 (x1 : Nat)) (.int .u64 (x2 : Nat)) (.int .u64 (x3 : Nat))).others2 (k := N + 1 + 1 + 1) (by omega) (.int .i64 (en : Nat)) (.int .i64 0)
  have v2 := (q1.k2.others4 (k := N + 1 + 1 + 1 + 1) (by omega) (.int .u64 (x0 : Nat)) (.int .u64 (x1 : Nat)) (.int .u64 (x2 : Nat)) (.int .u64 (x3 : Nat))).others2 (k := N + 1 + 1 + 1) (by omega) (.int .i64 (en : Nat)) (.int .i64 0)
  have v3 := (q1.k3.others4 (k := N + 1 + 1 + 1 + 1) (by omega) (.int .u64 (x0 : Nat)) (.int .u64 (x1 : Nat)) (.int .u64 (x2 : Nat)) (.int .u64 (x3 : Nat))).put2 (.int .i64 (en : Nat)) (.int .i64 0)
  have v4 := (q1.k4.putc (.int .u64 (x0 : Nat)) (.int .u64 (x1 : Nat)) (.int .u64 (x2 : Nat)) (.int .u64 (x3 : Nat))).others2 (k := N + 1 + 1 + 1) (by omega) (.int .i64 (en : Nat)) (.int .i64 0)
  have vb := below_put2 (b := N + 1 + 1 + 1) (below_putc (b := N + 1 + 1 + 1 + 1) q1.bel (by omega) (.int .u64 (x0 : Nat)) (.int .u64 (x1 : Nat)) (.int .u64 (x2 : Nat)) (.int .u64 (x3 : Nat))) (by omega) (.int .i64 (en : Nat)) (.int .i64 0)
  obtain ⟨⟨a0, a1, a2, a3⟩, b0, b1, b2, b3⟩ := q1.k4.four
  obtain ⟨⟨m0, m1⟩, n0, n1⟩ := (q1.k3.others4 (k := N + 1 + 1 + 1 + 1) (by omega) (.int .u64 (x0 : Nat)) (.int .u64 (x1 : Nat)) (.int .u64 (x2 : Nat)) (.int .u64 (x3 : Nat))).two
  obtain ⟨y0, y1, y2, y3, y4, y5, y6, y7, y8, y9, y10⟩ := v2.eleven.1
  obtain ⟨o0, o1, o2, o3⟩ := v4.four.1
  simp only [put2, putc] at v0 v1 v2 v3 v4 vb m0 m1 n0 n1 y2 y3 y4 y5 o0 o1 o2 o3
  clear y0 y1 y6 y7 y8 y9 y10
  have VV : Hid (Bq w N at_ nt c0 c1 c2 c3 en 0 x0 x1 x2 x3 _) := ⟨v0, v1, v2, v3, v4, vb⟩
  clear v0 v1 v2 v3 v4 vb q1 HQ
  simp only [markV]
  go_wp2_with fail
  have hz : w1.heap.size = ((((((w1.setCell ⟨N + 1 + 1 + 1 + 1, 0, none⟩ (.int .u64 (x0 : Nat))).setCell ⟨N + 1 + 1 + 1 + 1, 1, none⟩ (.int .u64 (x1 : Nat))).setCell ⟨N + 1 + 1 + 1 + 1, 2, none⟩ (.int .u64 (x2 : Nat))).setCell ⟨N + 1 + 1 + 1 + 1, 3, none⟩ (.int .u64 (x3 : Nat))).setCell ⟨N + 1 + 1 + 1, 0, none⟩ (.int .i64 (en : Nat))).setCell ⟨N + 1 + 1 + 1, 1, none⟩ (.int .i64 0)).heap.size := by simp
  rw [hz]
  clear hz
  generalize ((((((w1.setCell ⟨N + 1 + 1 + 1 + 1, 0, none⟩ (.int .u64 (x0 : Nat))).setCell ⟨N + 1 + 1 + 1 + 1, 1, none⟩ (.int .u64 (x1 : Nat))).setCell ⟨N + 1 + 1 + 1 + 1, 2, none⟩ (.int .u64 (x2 : Nat))).setCell ⟨N + 1 + 1 + 1 + 1, 3, none⟩ (.int .u64 (x3 : Nat))).setCell ⟨N + 1 + 1 + 1, 0, none⟩ (.int .i64 (en : Nat))).setCell ⟨N + 1 + 1 + 1, 1, none⟩ (.int .i64 0)) = W3 at *
  clear a0 a1 a2 a3 b0 b1 b2 b3 m0 m1 n0 n1 y2 y3 y4 y5 o0 o1 o2 o3
  refine (union_any _ 2 2 _ (fun i => if i = 0 then P else U) _ (rdc_two W3 c0 c1 c2 c3 x0 x1 x2 x3) (fun i hi => ?_) (by decide)).mono ?_
  · have hi4 : i = 0 ∨ i = 1 := by omega
    rcases hi4 with rfl | rfl
    · exact H4.out
    · exact HX.out
  rintro e w4 ⟨⟨d0, d1, d2, d3, rfl, h5⟩, hb⟩
  have q4 := (VV.out.next ((Below.refl _ _).alloc (Nat.le_refl _) _)).next hb
  have H5 : Hid (C4 (fun x => P x || U x) d0 d1 d2 d3) := h5.congr fun b _ => by simp [unN]
  obtain ⟨⟨b0, b1, b2, b3, b4, b5, b6, b7, b8, b9, b10⟩, g0, g1, g2, g3, g4, g5, g6, g7, g8, g9, g10⟩ := q4.k2.eleven
  have V2 := (((q4.k2.set 2 (.int .u64 (d0 : Nat))).set 3 (.int .u64 (d1 : Nat))).set 4 (.int .u64 (d2 : Nat))).set 5 (.int .u64 (d3 : Nat))
  have V0 := (((q4.k0.other (k := N + 1 + 1) (by omega) 2 (.int .u64 (d0 : Nat))).other (k := N + 1 + 1) (by omega) 3 (.int .u64 (d1 : Nat))).other (k := N + 1 + 1) (by omega) 4 (.int .u64 (d2 : Nat))).other (k := N + 1 + 1) (by omega) 5 (.int .u64 (d3 : Nat))
  have V1 := (((q4.k1.other (k := N + 1 + 1) (by omega) 2 (.int .u64 (d0 : Nat))).other (k := N + 1 + 1) (by omega) 3 (.int .u64 (d1 : Nat))).other (k := N + 1 + 1) (by omega) 4 (.int .u64 (d2 : Nat))).other (k := N + 1 + 1) (by omega) 5 (.int .u64 (d3 : Nat))
  have V3 := (((q4.k3.other (k := N + 1 + 1) (by omega) 2 (.int .u64 (d0 : Nat))).other (k := N + 1 + 1) (by omega) 3 (.int .u64 (d1 : Nat))).other (k := N + 1 + 1) (by omega) 4 (.int .u64 (d2 : Nat))).other (k := N + 1 + 1) (by omega) 5 (.int .u64 (d3 : Nat))
  have V4 := (((q4.k4.other (k := N + 1 + 1) (by omega) 2 (.int .u64 (d0 : Nat))).other (k := N + 1 + 1) (by omega) 3 (.int .u64 (d1 : Nat))).other (k := N + 1 + 1) (by omega) 4 (.int .u64 (d2 : Nat))).other (k := N + 1 + 1) (by omega) 5 (.int .u64 (d3 : Nat))
  have VB := (((q4.bel.setCell (p := ⟨N + 1 + 1, 2, none⟩) (by show N ≤ N + 1 + 1; omega) (.int .u64 (d0 : Nat))).setCell (p := ⟨N + 1 + 1, 3, none⟩) (by show N ≤ N + 1 + 1; omega) (.int .u64 (d1 : Nat))).setCell (p := ⟨N + 1 + 1, 4, none⟩) (by show N ≤ N + 1 + 1; omega) (.int .u64 (d2 : Nat))).setCell (p := ⟨N + 1 + 1, 5, none⟩) (by show N ≤ N + 1 + 1; omega) (.int .u64 (d3 : Nat))
  have ZZ : Hid (Bq w N at_ nt d0 d1 d2 d3 en 0 x0 x1 x2 x3 _) := ⟨V0, V1, V2, V3, V4, VB⟩
  clear V0 V1 V2 V3 V4 VB q4 hb h5 VV
  go_wp2_with fail
  go_step3
  exact hK.out _ _ _ _ _ _ _ _ _ _ (Fr11.of _ rfl) ZZ.out H5.out
end Go.Proofs.Ytlmmiicibjfcdaa
