/- How wide what a tree means is: plain facts. -/
import Derived.Test.YtiiecppkabdkgabDoorGMpMq
import Derived.Test.YtiiecppkabdkgabDoorGTailScWaWoWmWwMwMe
namespace Go.Proofs.YtiiecppkabdkgabDoor
theorem pow_wide {a : Tab} {lo hi : Int} {D : Nat} (h : ∀ i d, d ≤ D → a i d = true → lo ≤ d ∧ (hi = -1 ∨ (d : Int) ≤ hi)) : ∀ (n i d : Nat), d ≤ D → tPow a n i d = true → (n : Int) * lo ≤ d ∧ (hi = -1 ∨ (d : Int) ≤ n * hi)
  | 0, i, d, _, h0 => by
    have := tStay_iff.1 h0
    subst this
    refine ⟨?_, ?_⟩
    · simp
    · right; simp
  | n + 1, i, d, hd, h0 => by
    obtain ⟨k, l, e, h1, h2⟩ := tCat_iff.1 h0
    have a1 := h i k (by omega) h1
    have a2 := pow_wide h n (i + k) l (by omega) h2
    rw [show ((n + 1 : Nat) : Int) = (n : Int) + 1 by omega, Int.add_mul, Int.add_mul]
    generalize hA : (n : Int) * lo = A at *
    generalize hB : (n : Int) * hi = B at *
    omega
theorem tm_low {l b d : Int} {n : Nat} (hl : 0 ≤ l) (hb : 0 ≤ b) (hn : l ≤ n) (h : (n : Int) * b ≤ d) (hd : 0 ≤ d) : tm l b ≤ d := by
  have h1 : l * b ≤ (n : Int) * b := Int.mul_le_mul_of_nonneg_right hn hb
  unfold tm
  split
  · exact hd
  · split
    · omega
    · split
      · rename_i g1 g2 g3
        rw [Int.tdiv_eq_ediv_of_nonneg (by omega)] at g3
        have g4 : ¬ l ≤ 1073741824 / b := by omega
        rw [Int.le_ediv_iff_mul_le (by omega)] at g4
        omega
      · omega
theorem tm_high {m g d : Int} {n : Nat} (hm : -1 ≤ m) (hg : -1 ≤ g) (hn : m = -1 ∨ (n : Int) ≤ m) (h : g = -1 ∨ d ≤ (n : Int) * g) (hd : d ≤ 1073741824) (h0 : n = 0 → d = 0) : tm m g = -1 ∨ d ≤ tm m g := by
  unfold tm
  split
  · rename_i e
    right
    rcases e with e | e
    · subst e
      have := h0 (by omega)
      omega
    · subst e
      rcases h with h | h
      · omega
      · simpa using h
  · split
    · exact .inl rfl
    · split
      · exact .inr hd
      · right
        have h1 : (n : Int) * g ≤ m * g := Int.mul_le_mul_of_nonneg_right (by omega) (by omega)
        omega
theorem mean_wide (f : Nat → Nat) (n : Nat) (mu : Bool) : ∀ (t : Tre) (i d : Nat), t.ok = true → d ≤ 1000 → mean f n mu t i d = true → wl t ≤ d ∧ (wg t = -1 ∨ (d : Int) ≤ wg t)
  | .leaf q, i, d, _, hd, h => by
    unfold mean at h
    unfold wl wg
    by_cases hq : q.k = 2
    · rw [mLeaf_cls hq] at h
      simp at h
      rw [if_pos hq]
      omega
    · rw [if_neg hq]
      have : d = 0 := by
        unfold mLeaf at h
        rw [if_neg hq] at h
        split at h
        · simp at h; exact h.1
        · split at h
          · simp at h; exact h.1
          · simpa using h
      omega
  | .two k x y, i, d, ho, hd, h => by
    simp [Tre.ok] at ho
    have x1 := wl_in x ho.1.2
    have y1 := wl_in y ho.2
    have x2 := wg_in x ho.1.2
    have y2 := wg_in y ho.2
    unfold mean at h
    unfold wl wg
    by_cases hk : k = 3
    · rw [if_pos hk] at h
      rw [if_pos hk, if_pos hk]
      obtain ⟨a, b, e, h1, h2⟩ := tCat_iff.1 h
      have a1 := mean_wide f n mu x _ a ho.1.2 (by omega) h1
      have a2 := mean_wide f n mu y _ b ho.2 (by omega) h2
      refine ⟨?_, ?_⟩
      · unfold pl; rw [if_neg (by omega)]; omega
      · unfold pl
        split
        · exact .inl rfl
        · right; omega
    · rw [if_neg hk] at h
      rw [if_neg hk, if_neg hk]
      have key : (wl x ≤ d ∧ (wg x = -1 ∨ (d : Int) ≤ wg x)) ∨ (wl y ≤ d ∧ (wg y = -1 ∨ (d : Int) ≤ wg y)) := by
        rcases tAlt_iff.1 h with h | h
        · exact .inl (mean_wide f n mu x _ d ho.1.2 hd h)
        · exact .inr (mean_wide f n mu y _ d ho.2 hd h)
      refine ⟨by omega, ?_⟩
      unfold gr
      split
      · exact .inl rfl
      · right; omega
  | .rep x l m z, i, d, ho, hd, h => by
    simp [Tre.ok] at ho
    have hm := mayR_mid ho.1
    have hi := mayR_in ho.1
    unfold mean at h
    obtain ⟨q, h1, h2, h3⟩ := (tRep_iff hm.1 hm.2).1 h
    have key := pow_wide (D := 1000) (lo := wl x) (hi := wg x) (fun i d hd h => mean_wide f n mu x i d ho.2 hd h) q i d hd h3
    unfold wl wg
    refine ⟨tm_low hi.1 (wl_in x ho.2).1 h1 key.1 (by omega), tm_high hi.2.2.1 (wg_in x ho.2).1 h2 key.2 (by omega) ?_⟩
    rintro rfl
    have := tStay_iff.1 h3
    omega
end Go.Proofs.YtiiecppkabdkgabDoor
