/- Rows of values. -/
import Derived.Test.YtgedhjflminlbaaMr
namespace Go.Proofs.Ytgedhjflminlbaa
open Go.RowKit
def vals (M : Nat → Value) (n : Nat) : List Value := (List.range n).map M
theorem vals_len (M : Nat → Value) (n : Nat) : (vals M n).length = n := by simp [vals]
theorem vals_get (M : Nat → Value) {n i : Nat} (h : i < n) : (vals M n)[i]? = some (M i) := by simp [vals, h]
def updV (M : Nat → Value) (i : Nat) (v : Value) : Nat → Value := fun j => if j = i then v else M j
theorem vals_set (M : Nat → Value) (n i : Nat) (v : Value) : (vals M n).set i v = vals (updV M i v) n := by
  apply List.ext_getElem?
  intro q
  by_cases hq : q < n
  · rw [vals_get _ hq, List.getElem?_set]
    by_cases e : i = q
    · subst e; simp [vals_len, hq, updV]
    · rw [if_neg e, vals_get _ hq]; simp [updV, Ne.symm e]
  · rw [List.getElem?_eq_none (by simp [vals_len]; omega), List.getElem?_eq_none (by simp [vals_len]; omega)]
theorem b_tree : (Try.prog.info? 24).map (fun i => (i.zero, i.size, i.bytes)) = some (some (.agg #[.slice none 0 0]), 1, 24) := by kernel_rfl
end Go.Proofs.Ytgedhjflminlbaa
