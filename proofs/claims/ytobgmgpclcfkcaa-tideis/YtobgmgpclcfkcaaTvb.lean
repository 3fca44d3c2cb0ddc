/- Ported: Tvb. -/
import Derived.Test.YtobgmgpclcfkcaaTva
namespace Go.Proofs.Ytobgmgpclcfkcaa.T
open Go.RowKit
/-- Whether something goes from a place, so wide. -/
abbrev Tab := Nat → Nat → Bool
def tStay : Tab := fun _ d => d == 0
def tAlt (a b : Tab) : Tab := fun i d => a i d || b i d
def tCat (a b : Tab) : Tab := fun i d => (List.range (d + 1)).any fun k => a i k && b (i + k) (d - k)
def tPow (a : Tab) : Nat → Tab
  | 0 => tStay
  | m + 1 => tCat a (tPow a m)
def tStar (a : Tab) : Tab := fun i d => (List.range (d + 1)).any fun n => tPow a n i d
theorem tCat_iff {a b : Tab} {i d : Nat} : tCat a b i d = true ↔ ∃ k l, k + l = d ∧ a i k = true ∧ b (i + k) l = true := by
  simp only [tCat, List.any_eq_true, List.mem_range, Bool.and_eq_true]
  constructor
  · rintro ⟨k, hk, h1, h2⟩
    exact ⟨k, d - k, by omega, h1, h2⟩
  · rintro ⟨k, l, rfl, h1, h2⟩
    exact ⟨k, by omega, h1, by rw [Nat.add_sub_cancel_left]; exact h2⟩
theorem tAlt_iff {a b : Tab} {i d : Nat} : tAlt a b i d = true ↔ a i d = true ∨ b i d = true := by simp [tAlt]
theorem tStay_iff {i d : Nat} : tStay i d = true ↔ d = 0 := by simp [tStay]
theorem tab_ext {a b : Tab} (h : ∀ i d, a i d = true ↔ b i d = true) : a = b := by
  funext i d
  rw [Bool.eq_iff_iff]
  exact h i d
theorem cat_assoc (a b c : Tab) : tCat a (tCat b c) = tCat (tCat a b) c := tab_ext fun i d => by
  rw [tCat_iff, tCat_iff]
  constructor
  · rintro ⟨k, l, rfl, h1, h2⟩
    obtain ⟨k', l', rfl, h3, h4⟩ := tCat_iff.1 h2
    exact ⟨k + k', l', by omega, tCat_iff.2 ⟨k, k', rfl, h1, h3⟩, by rw [← Nat.add_assoc]; exact h4⟩
  · rintro ⟨k, l, rfl, h1, h2⟩
    obtain ⟨k', l', rfl, h3, h4⟩ := tCat_iff.1 h1
    exact ⟨k', l' + l, by omega, h3, tCat_iff.2 ⟨l', l, rfl, h4, by rw [Nat.add_assoc]; exact h2⟩⟩
theorem cat_stay (a : Tab) : tCat tStay a = a := tab_ext fun i d => by
  rw [tCat_iff]
  constructor
  · rintro ⟨k, l, rfl, h1, h2⟩
    obtain rfl := tStay_iff.1 h1
    simpa using h2
  · intro h
    exact ⟨0, d, by omega, rfl, by simpa using h⟩
theorem stay_cat (a : Tab) : tCat a tStay = a := tab_ext fun i d => by
  rw [tCat_iff]
  constructor
  · rintro ⟨k, l, rfl, h1, h2⟩
    obtain rfl := tStay_iff.1 h2
    simpa using h1
  · intro h
    exact ⟨d, 0, by omega, h, rfl⟩
theorem pow_add (a : Tab) : ∀ m n, tPow a (m + n) = tCat (tPow a m) (tPow a n)
  | 0, n => by rw [Nat.zero_add, tPow, cat_stay]
  | m + 1, n => by rw [show m + 1 + n = (m + n) + 1 by omega, tPow, pow_add a m n, cat_assoc, tPow]
theorem pow_one (a : Tab) : tPow a 1 = a := by rw [tPow, tPow, stay_cat]
theorem pow_succ_r (a : Tab) (m : Nat) : tPow a (m + 1) = tCat (tPow a m) a := by rw [pow_add, pow_one]
theorem pow_mul (a : Tab) (m : Nat) : ∀ n, tPow (tPow a m) n = tPow a (m * n)
  | 0 => rfl
  | n + 1 => by rw [tPow, pow_mul a m n, ← pow_add]; congr 1; rw [Nat.mul_succ]; omega
/-- Those of no bytes can be left out. -/
theorem pow_few {a : Tab} : ∀ {n i d : Nat}, tPow a n i d = true → ∃ m, m ≤ n ∧ m ≤ d ∧ tPow a m i d = true
  | 0, i, d, h => ⟨0, Nat.le_refl _, Nat.zero_le _, h⟩
  | n + 1, i, d, h => by
    obtain ⟨k, l, rfl, h1, h2⟩ := tCat_iff.1 h
    obtain ⟨m, hm, hml, h3⟩ := pow_few h2
    by_cases hk : k = 0
    · subst hk
      exact ⟨m, by omega, by omega, by simpa using h3⟩
    · exact ⟨m + 1, by omega, by omega, tCat_iff.2 ⟨k, l, rfl, h1, h3⟩⟩
theorem star_iff {a : Tab} {i d : Nat} : tStar a i d = true ↔ ∃ n, tPow a n i d = true := by
  simp only [tStar, List.any_eq_true, List.mem_range]
  constructor
  · rintro ⟨n, _, h⟩; exact ⟨n, h⟩
  · rintro ⟨n, h⟩
    obtain ⟨m, _, h1, h2⟩ := pow_few h
    exact ⟨m, by omega, h2⟩
theorem star_trans {a : Tab} {i k l : Nat} (h1 : tStar a i k = true) (h2 : tStar a (i + k) l = true) : tStar a i (k + l) = true := by
  obtain ⟨m, h1⟩ := star_iff.1 h1
  obtain ⟨n, h2⟩ := star_iff.1 h2
  exact star_iff.2 ⟨m + n, by rw [pow_add]; exact tCat_iff.2 ⟨k, l, rfl, h1, h2⟩⟩
theorem star_zero (a : Tab) (i : Nat) : tStar a i 0 = true := star_iff.2 ⟨0, rfl⟩
theorem star_step {a : Tab} {i k l : Nat} (h1 : a i k = true) (h2 : tStar a (i + k) l = true) : tStar a i (k + l) = true :=
  star_trans (star_iff.2 ⟨1, by rw [pow_one]; exact h1⟩) h2
theorem pow_up {a : Tab} : ∀ {m i d : Nat}, tPow (tAlt a tStay) m i d = true ↔ ∃ n, n ≤ m ∧ tPow a n i d = true
  | 0, i, d => by
    constructor
    · intro h; exact ⟨0, Nat.le_refl _, h⟩
    · rintro ⟨n, hn, h⟩
      obtain rfl : n = 0 := by omega
      exact h
  | m + 1, i, d => by
    rw [tPow, tCat_iff]
    constructor
    · rintro ⟨k, l, rfl, h1, h2⟩
      obtain ⟨n, hn, h2⟩ := pow_up.1 h2
      rcases tAlt_iff.1 h1 with h | h
      · exact ⟨n + 1, by omega, tCat_iff.2 ⟨k, l, rfl, h, h2⟩⟩
      · obtain rfl := tStay_iff.1 h
        exact ⟨n, by omega, by simpa using h2⟩
    · rintro ⟨n, hn, h⟩
      cases n with
      | zero =>
        obtain rfl := tStay_iff.1 h
        exact ⟨0, 0, rfl, tAlt_iff.2 (.inr rfl), pow_up.2 ⟨0, Nat.zero_le _, rfl⟩⟩
      | succ n =>
        obtain ⟨k, l, rfl, h1, h2⟩ := tCat_iff.1 h
        exact ⟨k, l, rfl, tAlt_iff.2 (.inl h1), pow_up.2 ⟨n, by omega, h2⟩⟩
theorem up_star {a : Tab} {m i d : Nat} (h : d ≤ m) : tPow (tAlt a tStay) m i d = tStar a i d := by
  rw [Bool.eq_iff_iff, pow_up, star_iff]
  constructor
  · rintro ⟨n, _, h⟩; exact ⟨n, h⟩
  · rintro ⟨n, h0⟩
    obtain ⟨m', _, h1, h2⟩ := pow_few h0
    exact ⟨m', by omega, h2⟩
/-- Least to most of them. -/
def tRep (a : Tab) (l m : Int) : Tab := tCat (tPow a l.toNat) (if m = -1 then tStar a else tPow (tAlt a tStay) (m - l).toNat)
/-- Two tables are the same up to a width. -/
def EqN (N : Nat) (a b : Tab) : Prop := ∀ i d, i + d < N → a i d = b i d
theorem EqN.refl (N : Nat) (a : Tab) : EqN N a a := fun _ _ _ => rfl
theorem EqN.cat {N : Nat} {a a' b b' : Tab} (h1 : EqN N a a') (h2 : EqN N b b') : EqN N (tCat a b) (tCat a' b') := fun i d hd => by
  rw [Bool.eq_iff_iff, tCat_iff, tCat_iff]
  constructor
  · rintro ⟨k, l, rfl, g1, g2⟩
    exact ⟨k, l, rfl, by rw [← h1 i k (by omega)]; exact g1, by rw [← h2 (i + k) l (by omega)]; exact g2⟩
  · rintro ⟨k, l, rfl, g1, g2⟩
    exact ⟨k, l, rfl, by rw [h1 i k (by omega)]; exact g1, by rw [h2 (i + k) l (by omega)]; exact g2⟩
theorem EqN.alt {N : Nat} {a a' b b' : Tab} (h1 : EqN N a a') (h2 : EqN N b b') : EqN N (tAlt a b) (tAlt a' b') := fun i d hd => by
  simp only [tAlt, h1 i d hd, h2 i d hd]
theorem EqN.pow {N : Nat} {a a' : Tab} (h1 : EqN N a a') : ∀ m, EqN N (tPow a m) (tPow a' m)
  | 0 => EqN.refl _ _
  | m + 1 => EqN.cat h1 (EqN.pow h1 m)
theorem EqN.star {N : Nat} {a a' : Tab} (h1 : EqN N a a') : EqN N (tStar a) (tStar a') := fun i d hd => by
  rw [Bool.eq_iff_iff, star_iff, star_iff]
  constructor
  · rintro ⟨n, h⟩; exact ⟨n, by rw [← EqN.pow h1 n i d hd]; exact h⟩
  · rintro ⟨n, h⟩; exact ⟨n, by rw [EqN.pow h1 n i d hd]; exact h⟩
theorem EqN.rep {N : Nat} {a a' : Tab} (h1 : EqN N a a') (l m : Int) : EqN N (tRep a l m) (tRep a' l m) := by
  unfold tRep
  split
  · exact EqN.cat (EqN.pow h1 _) (EqN.star h1)
  · exact EqN.cat (EqN.pow h1 _) (EqN.pow (EqN.alt h1 (EqN.refl _ _)) _)
/-- Whether a byte is in the class of a node. -/
def clsP (q : Nd) (x : Nat) : Bool := if x < 64 then q.c0.toNat.testBit x else if x < 128 then q.c1.toNat.testBit (x - 64) else if x < 192 then q.c2.toNat.testBit (x - 128) else q.c3.toNat.testBit (x - 192)
def hatB (f : Nat → Nat) (mu : Bool) (i : Nat) : Bool := i == 0 || (mu && f (i - 1) == 10)
def dolB (f : Nat → Nat) (n : Nat) (mu : Bool) (i : Nat) : Bool := i == n || (mu && f i == 10)
def mLeaf (f : Nat → Nat) (n : Nat) (mu : Bool) (q : Nd) : Tab := fun i d =>
  if q.k = 2 then d == 1 && (decide (i < n) && clsP q (f i))
  else if q.k = 6 then d == 0 && hatB f mu i
  else if q.k = 7 then d == 0 && dolB f n mu i
  else d == 0
/-- What a tree means in a text. -/
def mean (f : Nat → Nat) (n : Nat) (mu : Bool) : Tre → Tab
  | .leaf q => mLeaf f n mu q
  | .two k x y => if k = 3 then tCat (mean f n mu x) (mean f n mu y) else tAlt (mean f n mu x) (mean f n mu y)
  | .rep x l m _ => tRep (mean f n mu x) l m
theorem mLeaf_hat {f : Nat → Nat} {n : Nat} {mu : Bool} {q : Nd} (h : q.k = 6) (i d : Nat) : mLeaf f n mu q i d = (d == 0 && hatB f mu i) := by unfold mLeaf; rw [if_neg (by omega), if_pos h]
theorem mLeaf_dol {f : Nat → Nat} {n : Nat} {mu : Bool} {q : Nd} (h : q.k = 7) (i d : Nat) : mLeaf f n mu q i d = (d == 0 && dolB f n mu i) := by unfold mLeaf; rw [if_neg (by omega), if_neg (by omega), if_pos h]
theorem mLeaf_cls {f : Nat → Nat} {n : Nat} {mu : Bool} {q : Nd} (h : q.k = 2) (i d : Nat) : mLeaf f n mu q i d = (d == 1 && (decide (i < n) && clsP q (f i))) := by unfold mLeaf; rw [if_pos h]
theorem mLeaf_emp {f : Nat → Nat} {n : Nat} {mu : Bool} {q : Nd} (h2 : q.k ≠ 2) (h6 : q.k ≠ 6) (h7 : q.k ≠ 7) (i d : Nat) : mLeaf f n mu q i d = (d == 0) := by unfold mLeaf; rw [if_neg h2, if_neg h6, if_neg h7]
theorem mayR_mid {l m : Int} (h : Tre.mayR l m = true) : 0 ≤ l ∧ (m = -1 ∨ l ≤ m) := by
  simp [Tre.mayR] at h
  omega
/-- A table turned round. -/
def Tn (n : Nat) (a b : Tab) : Prop := ∀ i d, i + d ≤ n → b (n - (i + d)) d = a i d
theorem Tn.cat {n : Nat} {a a' b b' : Tab} (h1 : Tn n a a') (h2 : Tn n b b') : Tn n (tCat a b) (tCat b' a') := fun i d hd => by
  rw [Bool.eq_iff_iff, tCat_iff, tCat_iff]
  constructor
  · rintro ⟨k, l, rfl, g1, g2⟩
    refine ⟨l, k, by omega, ?_, ?_⟩
    · rw [← h1 i l (by omega)]
      rw [show n - (i + (k + l)) + k = n - (i + l) by omega] at g2
      exact g2
    · rw [← h2 (i + l) k (by omega)]
      rw [show n - (i + (k + l)) = n - (i + l + k) by omega] at g1
      exact g1
  · rintro ⟨k, l, rfl, g1, g2⟩
    refine ⟨l, k, by omega, ?_, ?_⟩
    · rw [show n - (i + (k + l)) = n - (i + k + l) by omega, h2 (i + k) l (by omega)]
      exact g2
    · rw [show n - (i + (k + l)) + l = n - (i + k) by omega, h1 i k (by omega)]
      exact g1
theorem Tn.alt {n : Nat} {a a' b b' : Tab} (h1 : Tn n a a') (h2 : Tn n b b') : Tn n (tAlt a b) (tAlt a' b') := fun i d hd => by
  simp only [tAlt, h1 i d hd, h2 i d hd]
theorem Tn.stay (n : Nat) : Tn n tStay tStay := fun _ _ _ => rfl
theorem Tn.pow {n : Nat} {a a' : Tab} (h1 : Tn n a a') : ∀ m, Tn n (tPow a m) (tPow a' m)
  | 0 => Tn.stay n
  | m + 1 => by rw [pow_succ_r a' m]; exact Tn.cat h1 (Tn.pow h1 m)
theorem Tn.star {n : Nat} {a a' : Tab} (h1 : Tn n a a') : Tn n (tStar a) (tStar a') := fun i d hd => by
  simp only [tStar]
  congr 1
  funext m
  exact Tn.pow h1 m i d hd
theorem star_cat_pow (a : Tab) (l : Nat) : tCat (tPow a l) (tStar a) = tCat (tStar a) (tPow a l) := tab_ext fun i d => by
  rw [tCat_iff, tCat_iff]
  constructor
  · rintro ⟨k, e, rfl, h1, h2⟩
    obtain ⟨n, h2⟩ := star_iff.1 h2
    have h3 : tPow a (l + n) i (k + e) = true := by rw [pow_add]; exact tCat_iff.2 ⟨k, e, rfl, h1, h2⟩
    rw [Nat.add_comm l n, pow_add] at h3
    obtain ⟨k', e', h4, h5, h6⟩ := tCat_iff.1 h3
    exact ⟨k', e', h4, star_iff.2 ⟨n, h5⟩, h6⟩
  · rintro ⟨k, e, rfl, h1, h2⟩
    obtain ⟨n, h1⟩ := star_iff.1 h1
    have h3 : tPow a (n + l) i (k + e) = true := by rw [pow_add]; exact tCat_iff.2 ⟨k, e, rfl, h1, h2⟩
    rw [Nat.add_comm n l, pow_add] at h3
    obtain ⟨k', e', h4, h5, h6⟩ := tCat_iff.1 h3
    exact ⟨k', e', h4, h5, star_iff.2 ⟨n, h6⟩⟩
theorem up_cat_pow (a : Tab) (l m : Nat) : tCat (tPow a l) (tPow (tAlt a tStay) m) = tCat (tPow (tAlt a tStay) m) (tPow a l) := tab_ext fun i d => by
  rw [tCat_iff, tCat_iff]
  constructor
  · rintro ⟨k, e, rfl, h1, h2⟩
    obtain ⟨n, hn, h2⟩ := pow_up.1 h2
    have h3 : tPow a (l + n) i (k + e) = true := by rw [pow_add]; exact tCat_iff.2 ⟨k, e, rfl, h1, h2⟩
    rw [Nat.add_comm l n, pow_add] at h3
    obtain ⟨k', e', h4, h5, h6⟩ := tCat_iff.1 h3
    exact ⟨k', e', h4, pow_up.2 ⟨n, hn, h5⟩, h6⟩
  · rintro ⟨k, e, rfl, h1, h2⟩
    obtain ⟨n, hn, h1⟩ := pow_up.1 h1
    have h3 : tPow a (n + l) i (k + e) = true := by rw [pow_add]; exact tCat_iff.2 ⟨k, e, rfl, h1, h2⟩
    rw [Nat.add_comm n l, pow_add] at h3
    obtain ⟨k', e', h4, h5, h6⟩ := tCat_iff.1 h3
    exact ⟨k', e', h4, h5, pow_up.2 ⟨n, hn, h6⟩⟩
theorem Tn.rep {n : Nat} {a a' : Tab} (h1 : Tn n a a') (l m : Int) : Tn n (tRep a l m) (tRep a' l m) := by
  unfold tRep
  split
  · rw [star_cat_pow a']; exact Tn.cat (Tn.pow h1 _) (Tn.star h1)
  · rw [up_cat_pow a']; exact Tn.cat (Tn.pow h1 _) (Tn.pow (Tn.alt h1 (Tn.stay n)) _)
end Go.Proofs.Ytobgmgpclcfkcaa.T
