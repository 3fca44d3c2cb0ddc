/- Same, Meet: the walks. -/
import Derived.Test.YtclgefpkcagbfaaDoorEq
import Derived.Deep.RegionWith
import Derived.Deep.DeepCutAuto
import Derived.Deep.DrawnRows
namespace Go.Proofs.YtclgefpkcagbfaaDoor
open Go.RowKit
attribute [local go_sem ↓] Go.wp_at_zero Go.wp_at_succ

/-- What a call answers that tells whether p; nothing old has turned. -/
def RetBool (w : World) (p : Prop) (e : Ending) (w' : World) : Prop := ∃ b, e = .returned (.bool b) ∧ (b = true ↔ p) ∧ Below w.heap.size w w'
/-- The two arguments' boxes, as they were laid. -/
structure Inv2 (w : World) (x0 x1 y0 y1 : Value) (W : World) : Prop where
  below : Below w.heap.size w W
  b0 : Box W w.heap.size x0 x1
  b1 : Box W (w.heap.size + 1) y0 y1
theorem Inv2.next {w W W' : World} {x0 x1 y0 y1 : Value} (h : Inv2 w x0 x1 y0 y1 W) (hb : Below W.heap.size W W') : Inv2 w x0 x1 y0 y1 W' :=
  ⟨h.below.trans (hb.mono h.below.size), h.b0.below hb, h.b1.below hb⟩
theorem Inv2.drew {w W : World} {x0 x1 y0 y1 : Value} (h : Inv2 w x0 x1 y0 y1 W) : Inv2 w x0 x1 y0 y1 W.drew := h.next (Below.refl _ _).drew
theorem Inv2.start (w : World) (x0 x1 y0 y1 : Value) : Inv2 w x0 x1 y0 y1 ((w.alloc (.cells #[x0, x1] 24)).alloc (.cells #[y0, y1] 24)) :=
  ⟨((Below.refl _ _).alloc (Nat.le_refl _) _).alloc (by simp) _, (Box.new w x0 x1).alloc _, Box.new1 w _ y0 y1⟩
theorem sound_inv2 {w W : World} {x0 x1 y0 y1 x : Value} {n : Nat} {P : Nat → Bool} (h : Arg w x n P) (hI : Inv2 w x0 x1 y0 y1 W) :
    Calls Tryd.prog 21 #[x] W fun e w' => ∃ ao len cap f, e = .returned (.agg #[.int .i64 (n : Nat), .slice ao len cap]) ∧ Rd w ao len f ∧ IsSet n len f P ∧ Inv2 w x0 x1 y0 y1 w' :=
  (sound_any h hI.below).mono fun _ _ ⟨ao, len, cap, f, he, hr, hs, hb⟩ => ⟨ao, len, cap, f, he, hr, hs, hI.next hb⟩
/-- Behind 'a, b = sound(a), sound(b)'. -/
structure Pair (w : World) (n : Nat) (P : Nat → Bool) (m : Nat) (Q : Nat → Bool) (wx : World) : Prop where
  ex : ∃ ao len cap f ao2 len2 cap2 g, Box wx w.heap.size (.int .i64 (n : Nat)) (.slice ao len cap) ∧ Rd w ao len f ∧ IsSet n len f P ∧ Box wx (w.heap.size + 1) (.int .i64 (m : Nat)) (.slice ao2 len2 cap2) ∧ Rd w ao2 len2 g ∧ IsSet m len2 g Q ∧ Below w.heap.size w wx
theorem pair_of {w w2 : World} {x0 x1 y0 y1 : Value} {n : Nat} {P : Nat → Bool} {m : Nat} {Q : Nat → Bool} {ao ao2 : Option Addr} {len cap len2 cap2 : Nat} {f g : Nat → Nat} (hI : Inv2 w x0 x1 y0 y1 w2) (hr : Rd w ao len f) (hs : IsSet n len f P) (hr2 : Rd w ao2 len2 g) (hs2 : IsSet m len2 g Q) :
    Pair w n P m Q ((((w2.setCell ⟨w.heap.size, 0, none⟩ (.int .i64 (n : Nat))).setCell ⟨w.heap.size, 1, none⟩ (.slice ao len cap)).setCell ⟨w.heap.size + 1, 0, none⟩ (.int .i64 (m : Nat))).setCell ⟨w.heap.size + 1, 1, none⟩ (.slice ao2 len2 cap2)) := by
  refine ⟨ao, len, cap, f, ao2, len2, cap2, g, ?_, hr, hs, ?_, hr2, hs2, ?_⟩
  · exact ((hI.b0.set _ _).other (p := ⟨w.heap.size + 1, 0, none⟩) (by simp) _).other (p := ⟨w.heap.size + 1, 1, none⟩) (by simp) _
  · exact ((hI.b1.other (p := ⟨w.heap.size, 0, none⟩) (by simp) _).other (p := ⟨w.heap.size, 1, none⟩) (by simp) _).set _ _
  · exact (((hI.below.setCell (p := ⟨w.heap.size, 0, none⟩) (by simp) _).setCell (p := ⟨w.heap.size, 1, none⟩) (by simp) _).setCell (p := ⟨w.heap.size + 1, 0, none⟩) (by simp) _).setCell (p := ⟨w.heap.size + 1, 1, none⟩) (by simp) _

theorem eqW_iff {n l : Nat} {f g : Nat → Nat} {P Q : Nat → Bool} (h : IsSet n l f P) (h' : IsSet n l g Q) (hf : ∀ i, i < l → f i < 18446744073709551616) (hg : ∀ i, i < l → g i < 18446744073709551616) : eqW l f g = true ↔ ∀ k, P k = Q k := by
  unfold eqW
  rw [decide_eq_true_iff]
  constructor
  · intro e k
    by_cases hk : k < 64 * l
    · rw [← h.hbit k hk, ← h'.hbit k hk]; unfold bitAt; rw [e (k / 64) (by omega)]
    · have := h.hlen
      rw [h.hout k (by omega), h'.hout k (by omega)]
  · intro e i hi
    obtain rfl : P = Q := funext e
    exact (h.uniq h' hf hg).2 i hi

end Go.Proofs.YtclgefpkcagbfaaDoor
