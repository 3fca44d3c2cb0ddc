/- sized: the walk. -/
import Derived.Test.YtclgefpkcagbfaaNew
import Derived.BigRegion
namespace Go.Proofs.Ytclgefpkcagbfaa
open Go.RowKit
/-- What sized answers: three sets of one N. -/
def RetThree (w : World) (n : Nat) (P Q R : Nat → Bool) (e : Ending) (w' : World) : Prop :=
  ∃ ao len cap f ao2 len2 cap2 g ao3 len3 cap3 h, e = .returned (.tuple #[.agg #[.int .i64 (n : Nat), .slice ao len cap], .agg #[.int .i64 (n : Nat), .slice ao2 len2 cap2], .agg #[.int .i64 (n : Nat), .slice ao3 len3 cap3]]) ∧
    Own w.heap.size w' ao len f ∧ IsSet n len f P ∧ Own w.heap.size w' ao2 len2 g ∧ IsSet n len2 g Q ∧ Own w.heap.size w' ao3 len3 h ∧ IsSet n len3 h R ∧ Below w.heap.size w w'
set_option maxHeartbeats 1000000 in
theorem sized_any (n : Nat) (a1 a2 a3 : Option Addr) (l1 c1 l2 c2 l3 c3 : Nat) (z1 z2 z3 : Nat → Int) (w : World) (hn : (n : Int) ≤ 255) (h1 : RdI w a1 l1 z1) (h2 : RdI w a2 l2 z2) (h3 : RdI w a3 l3 z3)
    (k1 : (l1 : Int) ≤ 9223372036854775807) (k2 : (l2 : Int) ≤ 9223372036854775807) (k3 : (l3 : Int) ≤ 9223372036854775807) :
    Calls Try.prog 29 #[.int .u8 (n : Nat), .slice a1 l1 c1, .slice a2 l2 c2, .slice a3 l3 c3] w (RetThree w n (newP n z1 l1) (newP n z2 l2) (newP n z3 l3)) := by
  have hB0 : Below w.heap.size w (((w.alloc (.cells #[.int .i64 0, .slice none 0 0] 25)).alloc (.cells #[.int .i64 0, .slice none 0 0] 25)).alloc (.cells #[.int .i64 0, .slice none 0 0] 25)) := (((Below.refl _ _).alloc (Nat.le_refl _) _).alloc (by simp) _).alloc (by simp; omega) _
  have q8 := ((Box.new w (.int .i64 0) (.slice none 0 0)).alloc (.cells #[.int .i64 0, .slice none 0 0] 25)).alloc (.cells #[.int .i64 0, .slice none 0 0] 25)
  have q9 := (Box.new1 w (.cells #[.int .i64 0, .slice none 0 0] 25) (.int .i64 0) (.slice none 0 0)).alloc (.cells #[.int .i64 0, .slice none 0 0] 25)
  have q10 := Box.new2 w (.cells #[.int .i64 0, .slice none 0 0] 25) (.cells #[.int .i64 0, .slice none 0 0] 25) (.int .i64 0) (.slice none 0 0)
  go_enter Try.func29, Try.ntmps29
  go_wp2_with fail
  refine (new_any n a1 l1 c1 z1 _ (by omega) (h1.below hB0) k1).mono ?_
  rintro e w1 ⟨ao, len, cap, f, rfl, ho, hs, hb⟩
  replace q8 := q8.below hb
  replace q9 := q9.below hb
  replace q10 := q10.below hb
  have hB1 := hB0.trans (hb.mono hB0.size)
  replace ho := ho.mono (B' := w.heap.size + 3) (by simp)
  have hz1 : w.heap.size + 3 ≤ w1.heap.size := q10.lt
  clear hb hB0
  have b1 := Box.new w1 (.int .i64 (n : Nat)) (.slice ao len cap)
  go_wp2_with fail
  refine (new_any n a2 l2 c2 z2 _ (by omega) (h2.below (hB1.alloc hB1.size _)) k2).mono ?_
  rintro e w2 ⟨ao2, len2, cap2, g, rfl, ho2, hs2, hb⟩
  replace q8 := (q8.alloc _).below hb
  replace q9 := (q9.alloc _).below hb
  replace q10 := (q10.alloc _).below hb
  replace b1 := b1.below hb
  have hB2 := (hB1.alloc hB1.size _).trans (hb.mono (Nat.le_trans hB1.size (by simp)))
  replace ho := (ho.alloc _).below hb
  replace ho2 := ho2.mono (B' := w.heap.size + 3) (by simp; omega)
  have hz2 : w1.heap.size + 1 ≤ w2.heap.size := b1.lt
  clear hb hB1
  have b2 := Box.new w2 (.int .i64 (n : Nat)) (.slice ao2 len2 cap2)
  go_wp2_with fail
  refine (new_any n a3 l3 c3 z3 _ (by omega) (h3.below (hB2.alloc hB2.size _)) k3).mono ?_
  rintro e w3 ⟨ao3, len3, cap3, h, rfl, ho3, hs3, hb⟩
  replace q8 := (q8.alloc _).below hb
  replace q9 := (q9.alloc _).below hb
  replace q10 := (q10.alloc _).below hb
  replace b1 := (b1.alloc _).below hb
  replace b2 := b2.below hb
  have hB3 := (hB2.alloc hB2.size _).trans (hb.mono (Nat.le_trans hB2.size (by simp)))
  replace ho := (ho.alloc _).below hb
  replace ho2 := (ho2.alloc _).below hb
  replace ho3 := ho3.mono (B' := w.heap.size + 3) (by simp; omega)
  have hz3 : w2.heap.size + 1 ≤ w3.heap.size := b2.lt
  clear hb hB2 h1 h2 h3
  obtain ⟨r0, r1, r2, r3⟩ := q8.cells
  obtain ⟨s0, s1, s2, s3⟩ := q9.cells
  obtain ⟨t0, t1, t2, t3⟩ := q10.cells
  obtain ⟨u0, u1, u2, u3⟩ := b1.cells
  obtain ⟨v0, v1, v2, v3⟩ := b2.cells
  have lt0 : w.heap.size < w3.heap.size := by omega
  have lt1 : w.heap.size + 1 < w3.heap.size := by omega
  have lt2 : w.heap.size + 2 < w3.heap.size := by omega
  have lt3 : w1.heap.size < w3.heap.size := by omega
  have lt4 : w2.heap.size < w3.heap.size := by omega
  have ne1 : w.heap.size ≠ w1.heap.size := by omega
  have ne2 : w.heap.size + 1 ≠ w1.heap.size := by omega
  have ne3 : w.heap.size + 2 ≠ w1.heap.size := by omega
  have ne4 : w.heap.size ≠ w2.heap.size := by omega
  have ne5 : w.heap.size + 1 ≠ w2.heap.size := by omega
  have ne6 : w.heap.size + 2 ≠ w2.heap.size := by omega
  go_wp2
  go_region
  go_wp2
  have own : ∀ {a : Option Addr} {l : Nat} {k : Nat → Nat}, Own (w.heap.size + 3) w3 a l k → ∀ x0 x1 y0 y1 z0 z1 o, Own w.heap.size ((((((((w3.setCell ⟨w.heap.size, 0, none⟩ x0).setCell ⟨w.heap.size, 1, none⟩ x1).setCell ⟨w.heap.size + 1, 0, none⟩ y0).setCell ⟨w.heap.size + 1, 1, none⟩ y1).setCell ⟨w.heap.size + 1 + 1, 0, none⟩ z0).setCell ⟨w.heap.size + 1 + 1, 1, none⟩ z1).alloc o).drew) a l k := by
    intro a l k h x0 x1 y0 y1 z0 z1 o
    exact (((((h.mono (B' := w.heap.size) (by omega)).box (fun a e => by have := h.lt a e; omega) _ _).box (fun a e => by have := h.lt a e; omega) _ _).box (fun a e => by have := h.lt a e; omega) _ _).alloc _).drew
  have R8 := ((((((q8.set (.int .i64 (n : Nat)) (.slice ao len cap)).other (p := ⟨w.heap.size + 1, 0, none⟩) (by simp) (.int .i64 (n : Nat))).other (p := ⟨w.heap.size + 1, 1, none⟩) (by simp) (.slice ao2 len2 cap2)).other (p := ⟨w.heap.size + 1 + 1, 0, none⟩) (by show w.heap.size + 1 + 1 ≠ _; omega) (.int .i64 (n : Nat))).other (p := ⟨w.heap.size + 1 + 1, 1, none⟩) (by show w.heap.size + 1 + 1 ≠ _; omega) (.slice ao3 len3 cap3)).alloc (.cells #[.int .i64 (n : Nat), .slice ao3 len3 cap3] 25)).cells
  have R9 := ((((((q9.other (p := ⟨w.heap.size, 0, none⟩) (by simp) (.int .i64 (n : Nat))).other (p := ⟨w.heap.size, 1, none⟩) (by simp) (.slice ao len cap)).set (.int .i64 (n : Nat)) (.slice ao2 len2 cap2)).other (p := ⟨w.heap.size + 1 + 1, 0, none⟩) (by simp) (.int .i64 (n : Nat))).other (p := ⟨w.heap.size + 1 + 1, 1, none⟩) (by simp) (.slice ao3 len3 cap3)).alloc (.cells #[.int .i64 (n : Nat), .slice ao3 len3 cap3] 25)).cells
  have q10' : Box w3 (w.heap.size + 1 + 1) (.int .i64 0) (.slice none 0 0) := q10
  have R10 := ((((((q10'.other (p := ⟨w.heap.size, 0, none⟩) (by show w.heap.size ≠ w.heap.size + 1 + 1; omega) (.int .i64 (n : Nat))).other (p := ⟨w.heap.size, 1, none⟩) (by show w.heap.size ≠ w.heap.size + 1 + 1; omega) (.slice ao len cap)).other (p := ⟨w.heap.size + 1, 0, none⟩) (by simp) (.int .i64 (n : Nat))).other (p := ⟨w.heap.size + 1, 1, none⟩) (by simp) (.slice ao2 len2 cap2)).set (.int .i64 (n : Nat)) (.slice ao3 len3 cap3)).alloc (.cells #[.int .i64 (n : Nat), .slice ao3 len3 cap3] 25)).cells
  refine bodyPost_ret (v := .tuple #[.agg #[.int .i64 (n : Nat), .slice ao len cap], .agg #[.int .i64 (n : Nat), .slice ao2 len2 cap2], .agg #[.int .i64 (n : Nat), .slice ao3 len3 cap3]]) (by simp [results, Try.results29, go_sem, R8.1, R8.2.1, R9.1, R9.2.1, R10.1, R10.2.1]) rfl ⟨ao, len, cap, f, ao2, len2, cap2, g, ao3, len3, cap3, h, rfl, own ho _ _ _ _ _ _ _, hs, own ho2 _ _ _ _ _ _ _, hs2, own ho3 _ _ _ _ _ _ _, hs3, ?_⟩
  exact (((((((hB3.setCell (p := ⟨w.heap.size, 0, none⟩) (by simp) _).setCell (p := ⟨w.heap.size, 1, none⟩) (by simp) _).setCell (p := ⟨w.heap.size + 1, 0, none⟩) (by simp) _).setCell (p := ⟨w.heap.size + 1, 1, none⟩) (by simp) _).setCell (p := ⟨w.heap.size + 1 + 1, 0, none⟩) (by show w.heap.size ≤ w.heap.size + 1 + 1; omega) _).setCell (p := ⟨w.heap.size + 1 + 1, 1, none⟩) (by show w.heap.size ≤ w.heap.size + 1 + 1; omega) _).alloc (by simp; omega) _).drew
end Go.Proofs.Ytclgefpkcagbfaa
