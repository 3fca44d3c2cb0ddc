/- Where a ring accepts, place by place: no program in it. -/
import Derived.WalkKit
namespace Go.Proofs.YtehlmjjdegmnaaaDoor

/-- Behind which place all bytes up to k are in the class. -/
def rnF (P : Nat → Bool) (t : Nat → Nat) : Nat → Nat
  | 0 => 0
  | k + 1 => if P (t k) then rnF P t k else k + 1
/-- The youngest trigger that is lo bytes back, or more. -/
def yF (lo : Nat) (B : Nat → Bool) : Nat → Int
  | 0 => if lo = 0 ∧ B 0 = true then 0 else -1
  | k + 1 => if lo ≤ k + 1 ∧ B (k + 1 - lo) = true then ((k + 1 - lo : Nat) : Int) else yF lo B k
/-- It accepts at the place k. -/
def accF (P : Nat → Bool) (lo hi : Nat) (B : Nat → Bool) (t : Nat → Nat) (k : Nat) : Bool :=
  decide (max ((rnF P t k : Nat) : Int) ((k : Int) - hi) ≤ yF lo B k)
/-- Behind some trigger there are from lo to hi bytes up to k, each in the class. -/
def Rep (P : Nat → Bool) (lo hi : Nat) (B : Nat → Bool) (t : Nat → Nat) (k : Nat) : Prop :=
  ∃ i, i + lo ≤ k ∧ k ≤ i + hi ∧ B i = true ∧ ∀ j, i ≤ j → j < k → P (t j) = true

theorem rnF_le (P : Nat → Bool) (t : Nat → Nat) : ∀ k, rnF P t k ≤ k
  | 0 => Nat.le_refl _
  | k + 1 => by
    unfold rnF
    have := rnF_le P t k
    split <;> omega
theorem rnF_iff (P : Nat → Bool) (t : Nat → Nat) : ∀ k i, i ≤ k → (rnF P t k ≤ i ↔ ∀ j, i ≤ j → j < k → P (t j) = true)
  | 0, i, _ => by
    unfold rnF
    exact ⟨fun _ j _ h => absurd h (Nat.not_lt_zero _), fun _ => Nat.zero_le _⟩
  | k + 1, i, hi => by
    unfold rnF
    rcases Nat.lt_or_ge k i with h | h
    · have e : i = k + 1 := by omega
      subst e
      have := rnF_le P t k
      refine ⟨fun _ j h1 h2 => by omega, fun _ => ?_⟩
      split <;> omega
    · have ih := rnF_iff P t k i h
      by_cases hp : P (t k) = true
      · rw [if_pos hp, ih]
        refine ⟨fun H j h1 h2 => ?_, fun H j h1 h2 => H j h1 (by omega)⟩
        rcases Nat.lt_or_ge j k with h3 | h3
        · exact H j h1 h3
        · obtain rfl : j = k := by omega
          exact hp
      · rw [if_neg hp]
        refine ⟨fun H => by omega, fun H => absurd (H k h (by omega)) hp⟩
theorem yF_ge (lo : Nat) (B : Nat → Bool) : ∀ k, -1 ≤ yF lo B k
  | 0 => by
    unfold yF
    split <;> omega
  | k + 1 => by
    unfold yF
    have := yF_ge lo B k
    split <;> omega
theorem yF_max (lo : Nat) (B : Nat → Bool) : ∀ k i, i + lo ≤ k → B i = true → (i : Int) ≤ yF lo B k
  | 0, i, h, hb => by
    obtain rfl : i = 0 := by omega
    unfold yF
    rw [if_pos ⟨by omega, hb⟩]
    omega
  | k + 1, i, h, hb => by
    unfold yF
    split
    · omega
    · rename_i hn
      have : i + lo ≠ k + 1 := fun e => hn ⟨by omega, by rw [show k + 1 - lo = i by omega]; exact hb⟩
      exact yF_max lo B k i (by omega) hb
theorem yF_is (lo : Nat) (B : Nat → Bool) : ∀ k, 0 ≤ yF lo B k → ∃ i : Nat, yF lo B k = i ∧ i + lo ≤ k ∧ B i = true
  | 0, h => by
    unfold yF at h ⊢
    split
    · rename_i hc
      exact ⟨0, rfl, by omega, hc.2⟩
    · rename_i hc
      rw [if_neg hc] at h
      omega
  | k + 1, h => by
    unfold yF at h ⊢
    split
    · rename_i hc
      exact ⟨k + 1 - lo, rfl, by omega, hc.2⟩
    · rename_i hc
      rw [if_neg hc] at h
      obtain ⟨i, e, h1, h2⟩ := yF_is lo B k h
      exact ⟨i, e, by omega, h2⟩
theorem accF_iff (P : Nat → Bool) (lo hi : Nat) (B : Nat → Bool) (t : Nat → Nat) (k : Nat) : accF P lo hi B t k = true ↔ Rep P lo hi B t k := by
  unfold accF Rep
  rw [decide_eq_true_iff]
  constructor
  · intro h
    obtain ⟨i, e, h1, h2⟩ := yF_is lo B k (by omega)
    rw [e] at h
    exact ⟨i, h1, by omega, h2, (rnF_iff P t k i (by omega)).1 (by omega)⟩
  · rintro ⟨i, h1, h2, h3, h4⟩
    have a := (rnF_iff P t k i (by omega)).2 h4
    have b := yF_max lo B k i h1 h3
    omega

/-- What the law asks, going down from j: whether a trigger i was met so far with all bytes from i to j in the class. -/
def dn (P : Nat → Bool) (lo hi : Nat) (B : Nat → Bool) (t : Nat → Nat) (j : Nat) : Nat → Bool
  | 0 => false
  | m + 1 => dn P lo hi B t j m || (decide (lo ≤ m) && decide (m ≤ hi) && B (j - m))
/-- All bytes from j - m on up to j are in the class. -/
def alB (P : Nat → Bool) (t : Nat → Nat) (j : Nat) : Nat → Bool
  | 0 => true
  | m + 1 => alB P t j m && P (t (j - (m + 1)))
theorem alB_iff (P : Nat → Bool) (t : Nat → Nat) (j : Nat) : ∀ m, m ≤ j → (alB P t j m = true ↔ ∀ i, j - m ≤ i → i < j → P (t i) = true)
  | 0, _ => by simp [alB]; intro i h1 h2; omega
  | m + 1, h => by
    simp only [alB, Bool.and_eq_true, alB_iff P t j m (by omega)]
    refine ⟨fun ⟨a, b⟩ i h1 h2 => ?_, fun H => ⟨fun i h1 h2 => H i (by omega) h2, H _ (Nat.le_refl _) (by omega)⟩⟩
    rcases Nat.lt_or_ge i (j - m) with h3 | h3
    · obtain rfl : i = j - (m + 1) := by omega
      exact b
    · exact a i h3 h2
theorem dn_iff (P : Nat → Bool) (lo hi : Nat) (B : Nat → Bool) (t : Nat → Nat) (j : Nat) : ∀ m, (dn P lo hi B t j m = true ↔ ∃ a, a < m ∧ lo ≤ a ∧ a ≤ hi ∧ B (j - a) = true)
  | 0 => by simp [dn]
  | m + 1 => by
    simp only [dn, Bool.or_eq_true, dn_iff P lo hi B t j m, Bool.and_eq_true, decide_eq_true_eq]
    constructor
    · rintro (⟨a, h1, h2⟩ | ⟨⟨h1, h2⟩, h3⟩)
      · exact ⟨a, by omega, h2⟩
      · exact ⟨m, by omega, h1, h2, h3⟩
    · rintro ⟨a, h1, h2, h3, h4⟩
      rcases Nat.lt_or_ge a m with h | h
      · exact .inl ⟨a, h, h2, h3, h4⟩
      · obtain rfl : a = m := by omega
        exact .inr ⟨⟨h2, h3⟩, h4⟩
/-- The law's loop stops at m (m looked at): behind m no place is good any more. -/
theorem dn_end {P : Nat → Bool} {lo hi : Nat} {B : Nat → Bool} {t : Nat → Nat} {j m : Nat} (hm : m ≤ j + 1) (hs : m = j + 1 ∨ alB P t j m = false)
    (hal : m = 0 ∨ alB P t j (m - 1) = true) : dn P lo hi B t j m = accF P lo hi B t j := by
  rw [Bool.eq_iff_iff, accF_iff, dn_iff]
  unfold Rep
  constructor
  · rintro ⟨a, h1, h2, h3, h4⟩
    refine ⟨j - a, by omega, by omega, h4, ?_⟩
    rcases hal with h | h
    · omega
    · have := (alB_iff P t j (m - 1) (by omega)).1 h
      exact fun i h5 h6 => this i (by omega) h6
  · rintro ⟨i, h1, h2, h3, h4⟩
    refine ⟨j - i, ?_, by omega, by omega, by rw [show j - (j - i) = i by omega]; exact h3⟩
    rcases hs with h | h
    · omega
    · rcases Nat.lt_or_ge (j - i) m with h5 | h5
      · exact h5
      · have : alB P t j m = true := (alB_iff P t j m (by omega)).2 fun x h6 h7 => h4 x (by omega) h7
        rw [this] at h
        cases h
end Go.Proofs.YtehlmjjdegmnaaaDoor
