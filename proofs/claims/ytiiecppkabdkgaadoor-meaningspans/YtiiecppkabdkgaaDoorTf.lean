/- The reference's leaf: the walks. -/
import Derived.Test.YtiiecppkabdkgaaDoorTe
namespace Go.Proofs.YtiiecppkabdkgaaDoor
open Go.RowKit
/-- A row more on the diagonal. -/
theorem diag_next {P : Nat → Nat → Bool} {k : Nat} {x : Bool} (h : ∀ j, P k j = (k == j && x)) (i j : Nat) : upd2 (fun i j => decide (i < k) && P i j) k k x i j = (decide (i < k + 1) && P i j) := by
  unfold upd2
  by_cases hi : i = k
  · subst hi
    rw [h j]
    by_cases hj : j = i
    · subst hj; simp
    · have : (i == j) = false := by simpa using fun e => hj e.symm
      simp [hj, this]
  · have : (i < k + 1) ↔ (i < k) := by omega
    simp [hi, this]
theorem off_next {P : Nat → Nat → Bool} {k : Nat} (h : ∀ j, P k j = (j == k + 1)) (i j : Nat) : upd2 (fun i j => decide (i < k) && P i j) k (k + 1) true i j = (decide (i < k + 1) && P i j) := by
  unfold upd2
  by_cases hi : i = k
  · subst hi
    rw [h j]
    by_cases hj : j = i + 1
    · subst hj; simp
    · have : (j == i + 1) = false := by simpa using hj
      simp [hj, this]
  · have : (i < k + 1) ↔ (i < k) := by omega
    simp [hi, this]
theorem no_next {P : Nat → Nat → Bool} {k : Nat} (h : ∀ j, P k j = false) (i j : Nat) : (decide (i < k) && P i j) = (decide (i < k + 1) && P i j) := by
  by_cases hi : i = k
  · subst hi; rw [h j]; simp
  · have : (i < k + 1) ↔ (i < k) := by omega
    simp [this]
theorem spB_emp (f : Nat → Nat) (n : Nat) (mu : Bool) {q : Nd} (h : q.k = 1) (i j : Nat) : spB (mLeaf f n mu q) i j = (i == j && true) := by
  unfold spB
  rw [mLeaf_emp (by omega) (by omega) (by omega), Bool.eq_iff_iff]
  simp
  omega
theorem spB_hat (f : Nat → Nat) (n : Nat) (mu : Bool) {q : Nd} (h : q.k = 6) (i j : Nat) : spB (mLeaf f n mu q) i j = (i == j && hatB f mu i) := by
  unfold spB
  rw [mLeaf_hat h, Bool.eq_iff_iff]
  simp
  constructor
  · rintro ⟨h1, h2, h3⟩; exact ⟨by omega, h3⟩
  · rintro ⟨h1, h3⟩; exact ⟨by omega, by omega, h3⟩
theorem spB_dol (f : Nat → Nat) (n : Nat) (mu : Bool) {q : Nd} (h : q.k = 7) (i j : Nat) : spB (mLeaf f n mu q) i j = (i == j && dolB f n mu i) := by
  unfold spB
  rw [mLeaf_dol h, Bool.eq_iff_iff]
  simp
  constructor
  · rintro ⟨h1, h2, h3⟩; exact ⟨by omega, h3⟩
  · rintro ⟨h1, h3⟩; exact ⟨by omega, by omega, h3⟩
theorem spB_cls (f : Nat → Nat) (n : Nat) (mu : Bool) {q : Nd} (h : q.k = 2) (i j : Nat) : spB (mLeaf f n mu q) i j = (j == i + 1 && (decide (i < n) && clsP q (f i))) := by
  unfold spB
  rw [mLeaf_cls h, Bool.eq_iff_iff]
  simp
  constructor
  · rintro ⟨h1, h2, h3⟩; exact ⟨by omega, h3⟩
  · rintro ⟨h1, h3⟩; exact ⟨by omega, by omega, h3⟩
end Go.Proofs.YtiiecppkabdkgaaDoor
