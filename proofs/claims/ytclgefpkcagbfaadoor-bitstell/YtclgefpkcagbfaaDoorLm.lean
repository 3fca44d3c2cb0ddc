/- Sums for BitsTell: the top bit, how many, shifted as the reference does it. -/
import Derived.Test.YtclgefpkcagbfaaDoorLs
import Derived.Lib.BitFns
namespace Go.Proofs.YtclgefpkcagbfaaDoor
open Go.RowKit
theorem bitLen_aux (f : Nat) : ∀ x, x < 2 ^ f → x ≠ 0 → ∃ k, Lib.bitLenAux f x = k + 1 ∧ k < f ∧ x.testBit k = true ∧ ∀ j, k < j → x.testBit j = false := by
  induction f with
  | zero => intro x h h0; simp at h; omega
  | succ f ih =>
    intro x h h0
    rw [Lib.bitLenAux, if_neg h0]
    by_cases h2 : x / 2 = 0
    · have e : x = 1 := by omega
      subst e
      refine ⟨0, ?_, by omega, by decide, fun j hj => ?_⟩
      · cases f with
        | zero => rfl
        | succ f => rfl
      · obtain ⟨m, rfl⟩ : ∃ m, j = m + 1 := ⟨j - 1, by omega⟩
        rw [Nat.testBit_succ]
        simp
    · obtain ⟨k, h3, h4, h5, h6⟩ := ih (x / 2) (by rw [Nat.pow_succ] at h; omega) h2
      refine ⟨k + 1, by rw [h3]; omega, by omega, by rw [Nat.testBit_succ]; exact h5, fun j hj => ?_⟩
      obtain ⟨m, rfl⟩ : ∃ m, j = m + 1 := ⟨j - 1, by omega⟩
      rw [Nat.testBit_succ]
      exact h6 m (by omega)
/-- The top bit of a word. -/
theorem bitLen_top (x : Nat) (hx : x < 18446744073709551616) (h0 : x ≠ 0) : ∃ k, Lib.bitLen x = k + 1 ∧ k < 64 ∧ x.testBit k = true ∧ ∀ j, k < j → x.testBit j = false := bitLen_aux 64 x hx h0
theorem come_last {P : Nat → Bool} {k n : Nat} (hk : k < n) (hp : P k = true) (hn : ∀ j, k < j → P j = false) : come P n = come P k ++ [k] := by
  rw [← come_yes hp]
  exact come_skip (by omega) fun j h1 _ => hn j (by omega)
theorem come_nothing {P : Nat → Bool} (n : Nat) (hn : ∀ j, P j = false) : come P n = [] := by
  unfold come
  rw [List.filter_eq_nil_iff]
  intro j _
  rw [hn j]; simp
/-- The numbers that stand shifted, of the first j. -/
def shG (P : Nat → Bool) (n : Nat) (k : Int) (j : Nat) : Nat → Bool := fun i => decide (0 ≤ (i : Int) - k) && P ((i : Int) - k).toNat && decide (i < n) && decide ((i : Int) - k < j)
theorem shG_zero (P : Nat → Bool) (n : Nat) (k : Int) (i : Nat) : shG P n k 0 i = false := by
  unfold shG
  by_cases h : 0 ≤ (i : Int) - k
  · rw [decide_eq_false (show ¬ (i : Int) - k < ((0 : Nat) : Int) by omega), Bool.and_false]
  · rw [decide_eq_false h, Bool.false_and, Bool.false_and, Bool.false_and]
theorem shG_same {P : Nat → Bool} {n j : Nat} {k : Int} (h : P j = false ∨ ¬ (k < n ∧ -(n : Int) < k)) (hj : j < n) (i : Nat) : shG P n k j i = shG P n k (j + 1) i := by
  unfold shG
  by_cases hi : (i : Int) - k = j
  · rw [hi]
    rcases h with h | h
    · rw [Int.toNat_natCast, h]; simp
    · by_cases hn : i < n
      · omega
      · rw [decide_eq_false hn]; simp
  · congr 1
    rw [decide_eq_decide]
    omega
theorem shG_put {P : Nat → Bool} {n j : Nat} {k : Int} (h : P j = true) (i : Nat) : (shG P n k j i || decide ((i : Int) = (j : Int) + k ∧ i < n)) = shG P n k (j + 1) i := by
  unfold shG
  by_cases hi : (i : Int) - k = j
  · rw [hi, Int.toNat_natCast, h]
    by_cases hn : i < n
    · rw [decide_eq_true (show (i : Int) = (j : Int) + k ∧ i < n by omega), Bool.or_true, decide_eq_true hn, decide_eq_true (show 0 ≤ (j : Int) by omega), decide_eq_true (show (j : Int) < ((j + 1 : Nat) : Int) by omega)]
      rfl
    · rw [decide_eq_false hn, decide_eq_false (show ¬ ((i : Int) = (j : Int) + k ∧ i < n) by omega)]
      simp
  · rw [decide_eq_false (show ¬ ((i : Int) = (j : Int) + k ∧ i < n) by omega), Bool.or_false]
    congr 1
    rw [decide_eq_decide]
    omega
theorem shG_all {P : Nat → Bool} {n : Nat} {k : Int} (h : ∀ i, n ≤ i → P i = false) (i : Nat) : shG P n k n i = (decide (0 ≤ (i : Int) - k) && P ((i : Int) - k).toNat && decide (i < n)) := by
  unfold shG
  by_cases h0 : (i : Int) - k < n
  · rw [decide_eq_true h0, Bool.and_true]
  · rw [h ((i : Int) - k).toNat (by omega)]
    simp
end Go.Proofs.YtclgefpkcagbfaaDoor
