/- Ways as they stand in a round: plain facts. -/
import Derived.Test.YtgedhjflminlbaaAn
namespace Go.Proofs.Ytgedhjflminlbaa
/-- The ways behind which all nodes from k + 1 on were met. -/
def stW (t : Tre) (k : Nat) (q : Nat) : Bool × Bool := if pr t q > k then wy t (true, true) q else (false, false)
theorem stW_start (t : Tre) (q : Nat) (hq : q < t.size) : stW t (t.size - 1) q = if q = t.size - 1 then (true, true) else (false, false) := by
  unfold stW
  by_cases h : q = t.size - 1
  · subst h
    rw [pr_root, wy_root, if_pos (by omega), if_pos rfl]
  · have := pr_le t q (by omega)
    rw [if_neg (by omega), if_neg h]
theorem stW_self (t : Tre) (k : Nat) (hk : k < t.size) : stW t k k = wy t (true, true) k := by
  unfold stW
  rw [if_pos (pr_gt t k hk)]
theorem stW_leaf {t : Tre} {k : Nat} {n : Nd} (h : t.subs[k]? = some (.leaf n)) (hk : 0 < k) (q : Nat) (hq : q < t.size) : stW t k q = stW t (k - 1) q := by
  have hkl := (List.getElem?_eq_some_iff.1 h).1
  rw [Tre.subs_length] at hkl
  unfold stW
  by_cases e : pr t q = k
  · exfalso
    have hq1 : q + 1 < t.size := by
      rcases Nat.lt_or_ge (q + 1) t.size with h' | h'
      · exact h'
      · have : q = t.size - 1 := by omega
        subst this
        rw [pr_root] at e; omega
    rcases pr_is t q hq1 with ⟨_, _, _, h1, _⟩ | ⟨_, _, _, _, h1, _⟩ <;> rw [e, h] at h1 <;> cases h1
  · by_cases e2 : pr t q > k
    · rw [if_pos e2, if_pos (by omega)]
    · rw [if_neg e2, if_neg (by omega)]
theorem stW_rep {t : Tre} {k : Nat} {x : Tre} {l m : Int} {z : Bool} (h : t.subs[k]? = some (.rep x l m z)) (hk : 0 < k) (q : Nat) (hq : q < t.size) : stW t k q = stW t (k - 1) q := by
  have hkl := (List.getElem?_eq_some_iff.1 h).1
  rw [Tre.subs_length] at hkl
  unfold stW
  by_cases e : pr t q = k
  · have hq1 : q + 1 < t.size := by
      rcases Nat.lt_or_ge (q + 1) t.size with h' | h'
      · exact h'
      · have : q = t.size - 1 := by omega
        subst this
        rw [pr_root] at e; omega
    rw [if_neg (by omega), if_pos (by omega)]
    rcases pr_is t q hq1 with ⟨_, _, _, h1, _⟩ | ⟨_, _, _, _, h1, h2⟩
    · rw [e, h] at h1; cases h1
    · rw [e] at h2
      rw [h2, wy_rep h]
  · by_cases e2 : pr t q > k
    · rw [if_pos e2, if_pos (by omega)]
    · rw [if_neg e2, if_neg (by omega)]
theorem pr_child : ∀ (t : Tre) (p : Nat) (k : Int) (x y : Tre), t.subs[p]? = some (.two k x y) → pr t (p - 1) = p ∧ pr t (p - 1 - y.size) = p
  | .leaf _, p, k, x, y, h => by
    have hp := (List.getElem?_eq_some_iff.1 h).1
    simp [Tre.subs] at hp
    subst hp
    simp [Tre.subs] at h
  | .two k' x' y', p, k, x, y, h => by
    have lx := Tre.subs_length x'
    have ly := Tre.subs_length y'
    have sx := x.size_pos
    have sy := y.size_pos
    have sx' := x'.size_pos
    have sy' := y'.size_pos
    have hp := (List.getElem?_eq_some_iff.1 h).1
    rw [Tre.subs_length] at hp
    have hp' : p < x'.size + y'.size + 1 := hp
    by_cases c1 : p < x'.size
    · have hx : x'.subs[p]? = some (.two k x y) := by rw [Tre.subs, List.append_assoc, List.getElem?_append_left (by omega)] at h; exact h
      have hs := (subs_two hx).1
      obtain ⟨i1, i2⟩ := pr_child x' p k x y hx
      simp only [pr]
      rw [if_pos (by omega), if_pos (by omega)]
      exact ⟨i1, i2⟩
    · by_cases c2 : p < x'.size + y'.size
      · have hy : y'.subs[p - x'.size]? = some (.two k x y) := by rw [Tre.subs, List.append_assoc, List.getElem?_append_right (by omega), List.getElem?_append_left (by omega), lx] at h; exact h
        have hs := (subs_two hy).1
        obtain ⟨i1, i2⟩ := pr_child y' _ k x y hy
        simp only [pr]
        rw [if_neg (by omega), if_neg (by omega), if_pos (by omega), if_neg (by omega), if_neg (by omega), if_pos (by omega)]
        rw [show p - 1 - x'.size = p - x'.size - 1 by omega, show p - 1 - y.size - x'.size = p - x'.size - 1 - y.size by omega, i1, i2]
        omega
      · have : p = x'.size + y'.size := by omega
        subst this
        have e := Tre.subs_last (.two k' x' y')
        simp only [Tre.size, Nat.add_sub_cancel] at e
        rw [e] at h
        obtain ⟨rfl, rfl, rfl⟩ : k' = k ∧ x' = x ∧ y' = y := by simpa using h
        simp only [pr]
        rw [if_neg (by omega), if_neg (by omega), if_neg (by omega), if_pos (by omega), if_neg (by omega), if_pos (by omega)]
        exact ⟨rfl, rfl⟩
  | .rep x' l m z, p, k, x, y, h => by
    have lx := Tre.subs_length x'
    have sx := x.size_pos
    have sy := y.size_pos
    have hp := (List.getElem?_eq_some_iff.1 h).1
    rw [Tre.subs_length] at hp
    have hp' : p < x'.size + 1 := hp
    by_cases c1 : p < x'.size
    · have hx : x'.subs[p]? = some (.two k x y) := by rw [Tre.subs, List.getElem?_append_left (by omega)] at h; exact h
      have hs := (subs_two hx).1
      obtain ⟨i1, i2⟩ := pr_child x' p k x y hx
      simp only [pr]
      rw [if_pos (by omega), if_pos (by omega)]
      exact ⟨i1, i2⟩
    · have : p = x'.size := by omega
      subst this
      have e := Tre.subs_last (.rep x' l m z)
      simp only [Tre.size, Nat.add_sub_cancel] at e
      rw [e] at h
      cases h
theorem pr_two {t : Tre} {p : Nat} {k : Int} {x y : Tre} (h : t.subs[p]? = some (.two k x y)) : ∀ q, q < t.size → (pr t q = p ↔ q = p - 1 ∨ q = p - 1 - y.size) := by
  intro q hq
  have hkl := (List.getElem?_eq_some_iff.1 h).1
  rw [Tre.subs_length] at hkl
  obtain ⟨i1, i2⟩ := pr_child t p k x y h
  constructor
  · intro e
    have hq1 : q + 1 < t.size := by
      rcases Nat.lt_or_ge (q + 1) t.size with h' | h'
      · exact h'
      · have : q = t.size - 1 := by omega
        subst this
        rw [pr_root] at e; omega
    rcases pr_is t q hq1 with ⟨k', x', y', h1, h2⟩ | ⟨_, _, _, _, h1, _⟩
    · rw [e, h] at h1
      obtain ⟨rfl, rfl, rfl⟩ : k = k' ∧ x = x' ∧ y = y' := by simpa using h1
      rw [e] at h2
      exact h2
    · rw [e, h] at h1; cases h1
  · rintro (rfl | rfl)
    · exact i1
    · exact i2
theorem stW_two {t : Tre} {p : Nat} {k : Int} {x y : Tre} (h : t.subs[p]? = some (.two k x y)) (q : Nat) (hq : q < t.size) : stW t (p - 1) q = if q = p - 1 then hdB k (wy t (true, true) p) else if q = p - 1 - y.size then hdA k (wy t (true, true) p) else stW t p q := by
  have hkl := (List.getElem?_eq_some_iff.1 h).1
  rw [Tre.subs_length] at hkl
  have sx := x.size_pos
  have sy := y.size_pos
  obtain ⟨h1, _, _⟩ := subs_two h
  obtain ⟨w1, w2⟩ := wy_two (h := (true, true)) h
  have hp := pr_two h q hq
  unfold stW
  by_cases e1 : q = p - 1
  · have : pr t q = p := hp.2 (.inl e1)
    rw [if_pos (by omega), if_pos e1, e1, w1]
  · rw [if_neg e1]
    by_cases e2 : q = p - 1 - y.size
    · have : pr t q = p := hp.2 (.inr e2)
      rw [if_pos (by omega), if_pos e2, e2, w2]
    · rw [if_neg e2]
      have : pr t q ≠ p := fun e => by rcases hp.1 e with h | h <;> contradiction
      by_cases e3 : pr t q > p
      · rw [if_pos e3, if_pos (by omega)]
      · rw [if_neg e3, if_neg (by omega)]
/-- Before they are met, the ways of the parts are not set. -/
theorem stW_unset {t : Tre} {p : Nat} {k : Int} {x y : Tre} (h : t.subs[p]? = some (.two k x y)) : stW t p (p - 1) = (false, false) ∧ stW t p (p - 1 - y.size) = (false, false) := by
  have hkl := (List.getElem?_eq_some_iff.1 h).1
  rw [Tre.subs_length] at hkl
  have e1 := (pr_two h (p - 1) (by omega)).2 (.inl rfl)
  have e2 := (pr_two h (p - 1 - y.size) (by omega)).2 (.inr rfl)
  unfold stW
  rw [e1, e2, if_neg (by omega), if_neg (by omega)]
  exact ⟨rfl, rfl⟩
end Go.Proofs.Ytgedhjflminlbaa
