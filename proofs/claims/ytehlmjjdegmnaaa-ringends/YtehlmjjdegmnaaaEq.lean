/- The reference's states, place by place: no program in it. -/
import Derived.Test.YtehlmjjdegmnaaaEp
namespace Go.Proofs.Ytehlmjjdegmnaaa
/-- The ages at place j, behind the byte ahead of it and the trigger there. -/
def qS (P : Nat → Bool) (hi : Nat) (B : Nat → Bool) (t : Nat → Nat) : Nat → Nat → Bool
  | 0 => fun i => B 0 && decide (i = 0)
  | j + 1 => fun i => (P (t j) && decide (1 ≤ i) && qS P hi B t j (i - 1) && decide (i < hi + 1)) || (B (j + 1) && decide (i = 0))
/-- The same ahead of the trigger. -/
def qN (P : Nat → Bool) (hi : Nat) (B : Nat → Bool) (t : Nat → Nat) : Nat → Nat → Bool
  | 0 => fun _ => false
  | j + 1 => fun i => P (t j) && decide (1 ≤ i) && qS P hi B t j (i - 1) && decide (i < hi + 1)
theorem qS_eq (P : Nat → Bool) (hi : Nat) (B : Nat → Bool) (t : Nat → Nat) : ∀ j i, qS P hi B t j i = (qN P hi B t j i || (B j && decide (i = 0)))
  | 0, i => by simp [qS, qN]
  | j + 1, i => by simp [qS, qN]
theorem qS_iff (P : Nat → Bool) (hi : Nat) (B : Nat → Bool) (t : Nat → Nat) : ∀ j i, qS P hi B t j i = true ↔ i ≤ j ∧ i ≤ hi ∧ B (j - i) = true ∧ ∀ x, j - i ≤ x → x < j → P (t x) = true
  | 0, i => by
    simp only [qS, Bool.and_eq_true, decide_eq_true_eq]
    constructor
    · rintro ⟨h, rfl⟩
      exact ⟨Nat.le_refl _, Nat.zero_le _, h, fun x _ h2 => by omega⟩
    · rintro ⟨h1, _, h3, _⟩
      obtain rfl : i = 0 := by omega
      exact ⟨h3, rfl⟩
  | j + 1, i => by
    simp only [qS, Bool.or_eq_true, Bool.and_eq_true, decide_eq_true_eq, qS_iff P hi B t j]
    constructor
    · rintro (⟨⟨⟨hp, h1⟩, h2, h3, h4, h5⟩, h6⟩ | ⟨h, rfl⟩)
      · refine ⟨by omega, by omega, by rw [show j + 1 - i = j - (i - 1) by omega]; exact h4, fun x h7 h8 => ?_⟩
        rcases Nat.lt_or_ge x j with h9 | h9
        · exact h5 x (by omega) h9
        · obtain rfl : x = j := by omega
          exact hp
      · exact ⟨Nat.zero_le _, Nat.zero_le _, h, fun x h1 h2 => by omega⟩
    · rintro ⟨h1, h2, h3, h4⟩
      by_cases h0 : i = 0
      · subst h0
        exact .inr ⟨h3, rfl⟩
      · exact .inl ⟨⟨⟨h4 j (by omega) (by omega), by omega⟩, by omega, by omega, by rw [show j - (i - 1) = j + 1 - i by omega]; exact h3, fun x h5 h6 => h4 x (by omega) (by omega)⟩, by omega⟩
/-- The reference accepts just where the program does. -/
theorem qS_acc (P : Nat → Bool) (lo hi : Nat) (B : Nat → Bool) (t : Nat → Nat) (j : Nat) : (∃ i, lo ≤ i ∧ qS P hi B t j i = true) ↔ accF P lo hi B t j = true := by
  rw [accF_iff]
  unfold Rep
  constructor
  · rintro ⟨i, h1, h2⟩
    obtain ⟨h3, h4, h5, h6⟩ := (qS_iff P hi B t j i).1 h2
    exact ⟨j - i, by omega, by omega, h5, fun x h7 h8 => h6 x (by omega) h8⟩
  · rintro ⟨i, h1, h2, h3, h4⟩
    refine ⟨j - i, by omega, (qS_iff P hi B t j (j - i)).2 ⟨by omega, by omega, by rw [show j - (j - i) = i by omega]; exact h3, fun x h5 h6 => h4 x (by omega) h6⟩⟩
end Go.Proofs.Ytehlmjjdegmnaaa
