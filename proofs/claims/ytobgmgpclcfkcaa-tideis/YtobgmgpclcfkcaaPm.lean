/- TideIs: where a tide is ready, and what its tree means there. -/
import Derived.Test.YtobgmgpclcfkcaaTe
import Derived.Test.YtobgmgpclcfkcaaTvTj
namespace Go.Proofs.Ytobgmgpclcfkcaa
open Go.RowKit
/-- All bytes from i on, and ahead of j, are in the class. -/
def Cln (P : Nat → Bool) (t : Nat → Nat) (i j : Nat) : Prop := ∀ x, i ≤ x → x < j → P (t x) = true
theorem Cln.snoc {P : Nat → Bool} {t : Nat → Nat} {i j : Nat} (hij : i ≤ j) : Cln P t i (j + 1) ↔ Cln P t i j ∧ P (t j) = true := by
  constructor
  · intro h
    exact ⟨fun x h1 h2 => h x h1 (by omega), h j hij (by omega)⟩
  · rintro ⟨h, h2⟩ x h3 h4
    rcases Nat.lt_or_ge x j with h5 | h5
    · exact h x h3 h5
    · obtain rfl : x = j := by omega
      exact h2
/-- The age, by the triggers. -/
theorem age_ge (P : Nat → Bool) (lo : Nat) (T : Nat → Bool) (t : Nat → Nat) : ∀ j k : Nat, k ≤ lo → ((k : Int) ≤ ageF P lo T t (-1) j ↔ ∃ i, i ≤ j ∧ T i = true ∧ k ≤ j - i ∧ Cln P t i j)
  | 0, k, hk => by
    unfold ageF
    constructor
    · intro h
      by_cases h0 : T 0 = true
      · rw [if_pos h0] at h
        refine ⟨0, Nat.le_refl _, h0, ?_, fun x _ hx => absurd hx (by omega)⟩
        simp [trg] at h
        omega
      · rw [if_neg h0] at h
        omega
    · rintro ⟨i, hi, h0, h1, _⟩
      obtain rfl : i = 0 := by omega
      rw [if_pos h0]
      simp [trg]
      omega
  | j + 1, k, hk => by
    have IH := age_ge P lo T t j
    have hs : (k : Int) ≤ stp P lo (ageF P lo T t (-1) j) (t j) ↔ ∃ i, i ≤ j ∧ T i = true ∧ k ≤ j + 1 - i ∧ Cln P t i (j + 1) := by
      have I1 := IH (k - 1) (by omega)
      have I0 := IH 0 (by omega)
      unfold stp
      constructor
      · intro h
        by_cases hg : ageF P lo T t (-1) j = -1
        · rw [if_pos hg] at h; omega
        rw [if_neg hg] at h
        by_cases hp : P (t j) = true
        · rw [if_pos hp] at h
          have hge : (0 : Int) ≤ ageF P lo T t (-1) j := by
            have := (ageF_rng (P := P) (lo := lo) (T := T) (t := t) (g := -1) (by omega) (by omega) j).1
            omega
          have : ((k - 1 : Nat) : Int) ≤ ageF P lo T t (-1) j := by
            split at h <;> omega
          obtain ⟨i, h1, h2, h3, h4⟩ := I1.1 this
          exact ⟨i, h1, h2, by omega, (Cln.snoc h1).2 ⟨h4, hp⟩⟩
        · rw [if_neg hp] at h; omega
      · rintro ⟨i, h1, h2, h3, h4⟩
        obtain ⟨h4, hp⟩ := (Cln.snoc h1).1 h4
        have g1 := I1.2 ⟨i, h1, h2, by omega, h4⟩
        have g0 := I0.2 ⟨i, h1, h2, by omega, h4⟩
        rw [if_neg (by omega), if_pos hp]
        split <;> omega
    unfold ageF
    by_cases hT : T (j + 1) = true
    · rw [if_pos hT]
      constructor
      · intro h
        unfold trg at h
        split at h
        · exact ⟨j + 1, Nat.le_refl _, hT, by omega, fun x _ _ => absurd ‹x < j + 1› (by omega)⟩
        · obtain ⟨i, h1, h2, h3, h4⟩ := hs.1 h
          exact ⟨i, by omega, h2, h3, h4⟩
      · rintro ⟨i, h1, h2, h3, h4⟩
        unfold trg
        split
        · rename_i he
          rcases Nat.lt_or_ge i (j + 1) with h5 | h5
          · have := hs.2 ⟨i, by omega, h2, h3, h4⟩
            omega
          · omega
        · rename_i he
          rcases Nat.lt_or_ge i (j + 1) with h5 | h5
          · exact hs.2 ⟨i, by omega, h2, h3, h4⟩
          · have := (ageF_rng (P := P) (lo := lo) (T := T) (t := t) (g := -1) (by omega) (by omega) j)
            have h6 : -1 ≤ stp P lo (ageF P lo T t (-1) j) (t j) := by
              unfold stp
              split
              · omega
              · split
                · split <;> omega
                · omega
            omega
    · rw [if_neg hT, hs]
      constructor
      · rintro ⟨i, h1, h2, h3, h4⟩
        exact ⟨i, by omega, h2, h3, h4⟩
      · rintro ⟨i, h1, h2, h3, h4⟩
        rcases Nat.lt_or_ge i (j + 1) with h5 | h5
        · exact ⟨i, by omega, h2, h3, h4⟩
        · obtain rfl : i = j + 1 := by omega
          exact absurd h2 hT
/-- Where it is ready. -/
theorem ready_iff (P : Nat → Bool) (lo : Nat) (T : Nat → Bool) (t : Nat → Nat) (j : Nat) : (ageF P lo T t (-1) j == (lo : Int)) = true ↔ ∃ i, i ≤ j ∧ T i = true ∧ lo ≤ j - i ∧ Cln P t i j := by
  rw [beq_iff_eq, ← age_ge P lo T t j lo (Nat.le_refl _)]
  have := (ageF_rng (P := P) (lo := lo) (T := T) (t := t) (g := -1) (by omega) (by omega) j).2
  omega
/-- The class of a tide's leaf. -/
theorem clsP_td {P : Nat → Bool} {a b c d : Nat} (h : C4 P a b c d) {x : Nat} (hx : x < 256) : T.clsP (tdN a b c d) x = P x := by
  unfold T.clsP tdN
  simp only [Int.toNat_natCast]
  split
  · exact h.ha x (by omega)
  split
  · rw [h.hb (x - 64) (by omega)]; exact congrArg P (by omega)
  split
  · rw [h.hc (x - 128) (by omega)]; exact congrArg P (by omega)
  · rw [h.hd (x - 192) (by omega)]; exact congrArg P (by omega)
/-- A leaf of a class, so often. -/
theorem pow_leaf (f : Nat → Nat) (n : Nat) (q : T.Nd) (hq : q.k = 2) : ∀ m i d, T.tPow (T.mLeaf f n false q) m i d = true ↔ d = m ∧ ∀ x, x < m → i + x < n ∧ T.clsP q (f (i + x)) = true
  | 0, i, d => by
    rw [T.tPow, T.tStay_iff]
    constructor
    · intro h; exact ⟨h, fun x hx => absurd hx (by omega)⟩
    · intro h; exact h.1
  | m + 1, i, d => by
    rw [T.tPow, T.tCat_iff]
    constructor
    · rintro ⟨k, l, rfl, h1, h2⟩
      rw [T.mLeaf_cls hq] at h1
      simp only [Bool.and_eq_true, beq_iff_eq, decide_eq_true_eq] at h1
      obtain ⟨rfl, h3, h4⟩ := h1
      obtain ⟨rfl, h5⟩ := (pow_leaf f n q hq m _ _).1 h2
      refine ⟨by omega, fun x hx => ?_⟩
      cases x with
      | zero => exact ⟨h3, h4⟩
      | succ x =>
        have := h5 x (by omega)
        rw [show i + 1 + x = i + (x + 1) by omega] at this
        exact this
    · rintro ⟨rfl, h⟩
      refine ⟨1, m, by omega, ?_, (pow_leaf f n q hq m _ _).2 ⟨rfl, fun x hx => ?_⟩⟩
      · rw [T.mLeaf_cls hq]
        have := h 0 (by omega)
        simp only [Nat.add_zero] at this
        simp [this]
      · have := h (x + 1) (by omega)
        rw [show i + 1 + x = i + (x + 1) by omega]
        exact this
/-- What a tide's tree means. -/
theorem mean_td (f : Nat → Nat) (n : Nat) (a b c d lo : Nat) (i w : Nat) : T.mean f n false (tdT a b c d (lo : Nat)) i w = true ↔ lo ≤ w ∧ ∀ x, x < w → i + x < n ∧ T.clsP (tdN a b c d) (f (i + x)) = true := by
  unfold tdT
  rw [T.mean, T.mean, T.tRep, T.tCat_iff]
  simp only [if_true, Int.toNat_natCast]
  have hq : (tdN a b c d).k = 2 := rfl
  constructor
  · rintro ⟨k, l, rfl, h1, h2⟩
    obtain ⟨rfl, h3⟩ := (pow_leaf f n _ hq _ _ _).1 h1
    obtain ⟨m, h2⟩ := T.star_iff.1 h2
    obtain ⟨rfl, h4⟩ := (pow_leaf f n _ hq _ _ _).1 h2
    refine ⟨by omega, fun x hx => ?_⟩
    rcases Nat.lt_or_ge x k with h5 | h5
    · exact h3 x h5
    · have := h4 (x - k) (by omega)
      rw [show i + k + (x - k) = i + x by omega] at this
      exact this
  · rintro ⟨h1, h2⟩
    refine ⟨lo, w - lo, by omega, (pow_leaf f n _ hq _ _ _).2 ⟨rfl, fun x hx => h2 x (by omega)⟩, T.star_iff.2 ⟨w - lo, (pow_leaf f n _ hq _ _ _).2 ⟨rfl, fun x hx => ?_⟩⟩⟩
    have := h2 (lo + x) (by omega)
    rw [show i + lo + x = i + (lo + x) by omega]
    exact this
/-- Whether one of some numbers is so. -/
def anyZ (Q : Int → Bool) (z : Nat → Int) : Nat → Bool
  | 0 => false
  | k + 1 => anyZ Q z k || Q (z k)
theorem anyZ_iff (Q : Int → Bool) (z : Nat → Int) : ∀ l, anyZ Q z l = true ↔ ∃ k, k < l ∧ Q (z k) = true
  | 0 => by simp [anyZ]
  | l + 1 => by
    simp only [anyZ, Bool.or_eq_true, anyZ_iff Q z l]
    constructor
    · rintro (⟨k, h1, h2⟩ | h)
      · exact ⟨k, by omega, h2⟩
      · exact ⟨l, by omega, h⟩
    · rintro ⟨k, h1, h2⟩
      rcases Nat.lt_or_ge k l with h3 | h3
      · exact .inl ⟨k, h3, h2⟩
      · obtain rfl : k = l := by omega
        exact .inr h2
/-- What the law asks of a number. -/
def askZ (p : Nat → Nat → Bool) (j : Nat) (x : Int) : Bool := decide (0 ≤ x) && (decide (x ≤ (j : Nat)) && p x.toNat j)
/-- Where it is ready is where, for some trigger, what stands between is what its tree means. -/
theorem is_pure {P : Nat → Bool} {a b c d lo : Nat} (hP : C4 P a b c d) (f : Nat → Nat) (n l : Nat) (z : Nat → Int) (hf : ∀ i, i < n → f i < 256) {j : Nat} (hj : j ≤ n) :
    anyZ (askZ (T.spB (T.mean f n false (tdT a b c d (lo : Nat)))) j) z l = (ageF P lo (among z l) f (-1) j == (lo : Int)) := by
  rw [Bool.eq_iff_iff, ready_iff, anyZ_iff]
  unfold askZ T.spB
  constructor
  · rintro ⟨k, hk, h⟩
    simp only [Bool.and_eq_true, decide_eq_true_eq] at h
    obtain ⟨h0, h1, h2, h3⟩ := h
    obtain ⟨h4, h5⟩ := (mean_td _ _ _ _ _ _ _ _ _).1 h3
    refine ⟨(z k).toNat, by omega, (among_iff _ _ _).2 ⟨k, hk, by omega⟩, h4, fun x hx1 hx2 => ?_⟩
    obtain ⟨h6, h7⟩ := h5 (x - (z k).toNat) (by omega)
    rw [show (z k).toNat + (x - (z k).toNat) = x by omega] at h6 h7
    rw [← clsP_td hP (hf x h6)]
    exact h7
  · rintro ⟨i, hi, h1, h2, h3⟩
    obtain ⟨k, hk, hz⟩ := (among_iff _ _ _).1 h1
    refine ⟨k, hk, ?_⟩
    simp only [Bool.and_eq_true, decide_eq_true_eq]
    have hzi : (z k).toNat = i := by omega
    rw [hzi]
    refine ⟨by omega, by omega, hi, (mean_td _ _ _ _ _ _ _ _ _).2 ⟨h2, fun x hx => ⟨by omega, ?_⟩⟩⟩
    rw [clsP_td hP (hf _ (by omega))]
    exact h3 _ (by omega) (by omega)
/-- A place among the places. -/
theorem among_plc (F : Nat → Bool) (N j : Nat) (hj : j < N) : among (fun i => (plc F N).getD i 0) (plc F N).length j = F j := by
  rw [Bool.eq_iff_iff, among_iff]
  have hm : ∀ x : Int, x ∈ plc F N ↔ ∃ i : Nat, i < N ∧ F i = true ∧ (i : Int) = x := by
    intro x
    unfold plc
    simp only [List.mem_map, List.mem_filter, List.mem_range]
    constructor
    · rintro ⟨i, ⟨h1, h2⟩, h3⟩; exact ⟨i, h1, h2, h3⟩
    · rintro ⟨i, h1, h2, h3⟩; exact ⟨i, ⟨h1, h2⟩, h3⟩
  constructor
  · rintro ⟨k, hk, h⟩
    have : (j : Int) ∈ plc F N := by
      rw [← h, List.getD_eq_getElem?_getD, List.getElem?_eq_getElem hk]
      exact List.getElem_mem hk
    obtain ⟨i, h1, h2, h3⟩ := (hm _).1 this
    obtain rfl : i = j := by omega
    exact h2
  · intro h
    obtain ⟨k, hk, h1⟩ := List.getElem_of_mem ((hm (j : Nat)).2 ⟨j, hj, h, rfl⟩)
    refine ⟨k, hk, ?_⟩
    rw [List.getD_eq_getElem?_getD, List.getElem?_eq_getElem hk]
    exact h1
end Go.Proofs.Ytobgmgpclcfkcaa
