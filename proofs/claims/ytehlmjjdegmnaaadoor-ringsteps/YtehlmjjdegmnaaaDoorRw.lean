/- The reference's Without, And, Not, Or: the walks. -/
import Derived.Test.YtehlmjjdegmnaaaDoorRk
namespace Go.Proofs.YtehlmjjdegmnaaaDoor
open Go.RowKit
attribute [local go_sem ↓] Go.wp_at_zero Go.wp_at_succ
theorem RetL.out {w : World} {n : Nat} {P : Nat → Bool} {e : Ending} {w' : World} (h : RetL w n P e w') : ∃ ao len cap, e = .returned (.agg #[.int .i64 (n : Nat), .slice ao len cap]) ∧ Arg w' (.agg #[.int .i64 (n : Nat), .slice ao len cap]) n P ∧ Below w.heap.size w w' := by
  obtain ⟨ao, len, cap, f, he, ho, hs, hb⟩ := h
  exact ⟨ao, len, cap, he, SetAt.arg ⟨ao, len, cap, f, rfl, ho.rd, hs⟩, hb⟩
theorem RetL.congr {w : World} {n : Nat} {P Q : Nat → Bool} {e : Ending} {w' : World} (h : RetL w n P e w') (hpq : ∀ i, P i = Q i) : RetL w n Q e w' := by
  obtain rfl : P = Q := funext hpq
  exact h
end Go.Proofs.YtehlmjjdegmnaaaDoor
