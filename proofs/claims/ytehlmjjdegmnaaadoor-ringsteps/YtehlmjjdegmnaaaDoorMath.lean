/- Plain facts on sets of numbers as words of bits: no program in it. -/
import Derived.WalkKit
import Derived.WalkLawsBesides
namespace Go.Proofs.YtehlmjjdegmnaaaDoor
open Go.RowKit

def bitAt (f : Nat → Nat) (k : Nat) : Bool := (f (k / 64)).testBit (k % 64)
def upd (f : Nat → Nat) (i v : Nat) : Nat → Nat := fun j => if j = i then v else f j
def mask (n : Int) : Nat := 18446744073709551615 / 2 ^ (63 - (n - 1) % 64).toNat
theorem mask_eq (n : Int) : Value.int IntKind.u64 (18446744073709551615 / 2 ^ (63 - (n - 1) % 64).toNat) = .int .u64 (mask n : Nat) := by
  generalize hk : (63 - (n - 1) % 64).toNat = k
  unfold mask; rw [hk, Int.natCast_ediv, Int.natCast_pow]
  rfl
theorem mask_all : ∀ k : Nat, k < 64 → 18446744073709551615 / 2 ^ (63 - k) = 2 ^ (k + 1) - 1 := by decide +kernel
theorem mask_pow (n : Int) : mask n = 2 ^ (((n - 1) % 64).toNat + 1) - 1 := by
  have h0 : 0 ≤ (n - 1) % 64 := Int.emod_nonneg _ (by decide)
  have h1 : (n - 1) % 64 < 64 := Int.emod_lt_of_pos _ (by decide)
  unfold mask
  generalize (n - 1) % 64 = r at *
  obtain ⟨k, rfl⟩ := Int.eq_ofNat_of_zero_le h0
  have hk : k < 64 := by omega
  have e : (63 - (k : Int)).toNat = 63 - k := by omega
  have e2 : (k : Int).toNat = k := by omega
  rw [e, e2]
  clear e e2 h0 h1
  exact mask_all k hk
theorem mask_bit (n : Int) (j : Nat) : (mask n).testBit j = decide (j ≤ ((n - 1) % 64).toNat) := by
  rw [mask_pow, Nat.testBit_two_pow_sub_one]
  simp [Nat.lt_succ_iff]
theorem mask_lt (n : Int) : mask n < 18446744073709551616 := by
  rw [mask_pow]
  have h1 : (n - 1) % 64 < 64 := Int.emod_lt_of_pos _ (by decide)
  have h2 : 2 ^ (((n - 1) % 64).toNat + 1) ≤ 2 ^ 64 := Nat.pow_le_pow_right (by decide) (by omega)
  have : (2 : Nat) ^ 64 = 18446744073709551616 := by decide
  omega

theorem testBit_lt {a : Nat} (h : a < 18446744073709551616) {j : Nat} (hj : 64 ≤ j) : a.testBit j = false := by
  apply Nat.testBit_lt_two_pow
  calc a < 2 ^ 64 := h
    _ ≤ 2 ^ j := Nat.pow_le_pow_right (by decide) hj
theorem word_ext {a b : Nat} (ha : a < 18446744073709551616) (hb : b < 18446744073709551616) (h : ∀ j, j < 64 → a.testBit j = b.testBit j) : a = b := by
  apply Nat.eq_of_testBit_eq
  intro j
  by_cases hj : j < 64
  · exact h j hj
  · rw [testBit_lt ha (by omega), testBit_lt hb (by omega)]
theorem not_bit (b : Nat) (hb : b < 18446744073709551616) (j : Nat) : (18446744073709551615 - b).testBit j = (decide (j < 64) && !b.testBit j) := by
  have : 18446744073709551615 - b = 2 ^ 64 - (b + 1) := by omega
  rw [this, Nat.testBit_two_pow_sub_succ hb]
theorem andNot_bit (a b : Nat) (ha : a < 18446744073709551616) (hb : b < 18446744073709551616) (j : Nat) : (a &&& (18446744073709551615 - b)).testBit j = (a.testBit j && !b.testBit j) := by
  rw [Nat.testBit_and, not_bit b hb]
  by_cases hj : j < 64
  · simp [hj]
  · simp [testBit_lt ha (show 64 ≤ j by omega)]
theorem and_lt {a : Nat} (ha : a < 18446744073709551616) (b : Nat) : a &&& b < 18446744073709551616 := Nat.lt_of_le_of_lt Nat.and_le_left ha
theorem or_lt {a b : Nat} (ha : a < 18446744073709551616) (hb : b < 18446744073709551616) : a ||| b < 18446744073709551616 := Nat.or_lt_two_pow (n := 64) ha hb
theorem pow_bit_lt {j : Nat} (h : j < 64) : 2 ^ j < 18446744073709551616 := by
  have : (2 : Nat) ^ j < 2 ^ 64 := Nat.pow_lt_pow_right (by decide) h
  exact this

/-- A set of N n, of len words f, whose numbers P tells. -/
structure IsSet (n len : Nat) (f : Nat → Nat) (P : Nat → Bool) : Prop where
  hle : n ≤ 8192
  hlen : len = (n + 63) / 64
  hbit : ∀ k, k < 64 * len → bitAt f k = P k
  hout : ∀ k, n ≤ k → P k = false

/-- What Check lets by. -/
def Ok (n : Int) (len : Nat) (f : Nat → Nat) : Prop := 0 ≤ n ∧ n ≤ 8192 ∧ (len : Int) = (n + 63) / 64 ∧ ∀ k : Nat, n ≤ k → k < 64 * len → bitAt f k = false

theorem IsSet.ok {n len : Nat} {f : Nat → Nat} {P : Nat → Bool} (h : IsSet n len f P) : Ok n len f := by
  refine ⟨by omega, by have := h.hle; omega, by have := h.hlen; omega, fun k h1 h2 => ?_⟩
  rw [h.hbit k h2]; exact h.hout k (by omega)
theorem Ok.isSet {n : Int} {len : Nat} {f : Nat → Nat} (h : Ok n len f) : ∃ m : Nat, n = m ∧ IsSet m len f (fun k => decide (k < 64 * len) && bitAt f k) := by
  obtain ⟨h0, h1, h2, h3⟩ := h
  obtain ⟨m, rfl⟩ := Int.eq_ofNat_of_zero_le h0
  refine ⟨m, rfl, by omega, by omega, fun k hk => by simp [hk], fun k hk => ?_⟩
  by_cases h : k < 64 * len
  · simp [h, h3 k (by omega) h]
  · simp [h]

/-- One set has one list of words. -/
theorem IsSet.uniq {n l l' : Nat} {f g : Nat → Nat} {P : Nat → Bool} (h : IsSet n l f P) (h' : IsSet n l' g P) (hf : ∀ i, i < l → f i < 18446744073709551616) (hg : ∀ i, i < l' → g i < 18446744073709551616) :
    l = l' ∧ ∀ i, i < l → f i = g i := by
  have e : l = l' := by rw [h.hlen, h'.hlen]
  subst e
  refine ⟨rfl, fun i hi => word_ext (hf i hi) (hg i hi) fun j hj => ?_⟩
  have a := h.hbit (64 * i + j) (by omega)
  have b := h'.hbit (64 * i + j) (by omega)
  have e1 : (64 * i + j) / 64 = i := by omega
  have e2 : (64 * i + j) % 64 = j := by omega
  unfold bitAt at a b
  rw [e1, e2] at a b
  rw [a, b]

/-- What Check asks of the last word. -/
theorem ok_last {n : Int} {len m : Nat} {f : Nat → Nat} (h0 : 0 < n) (h1 : n ≤ 8192) (h2 : (len : Int) = (n + 63) / 64) (hm : m + 1 = len) (hf : ∀ i, i < len → f i < 18446744073709551616) :
    (bits .andNot .u64 (f m : Nat) (mask n : Nat) = 0) ↔ Ok n len f := by
  have hfm := hf m (by omega)
  rw [u64_andNot_nat _ _ hfm (mask_lt n)]
  constructor
  · intro h
    have hz : f m &&& (18446744073709551615 - mask n) = 0 := by omega
    refine ⟨by omega, h1, h2, fun k hk hk2 => ?_⟩
    have e : k / 64 = m := by omega
    unfold bitAt
    rw [e]
    have := andNot_bit (f m) (mask n) hfm (mask_lt n) (k % 64)
    rw [hz, Nat.zero_testBit, mask_bit, decide_eq_false (by omega)] at this
    simpa using this.symm
  · rintro ⟨_, _, _, h⟩
    have : f m &&& (18446744073709551615 - mask n) = 0 := by
      apply word_ext (and_lt hfm _) (by decide)
      intro j hj
      rw [andNot_bit _ _ hfm (mask_lt n), mask_bit, Nat.zero_testBit]
      by_cases hjn : j ≤ ((n - 1) % 64).toNat
      · simp [hjn]
      · have := h (64 * m + j) (by omega) (by omega)
        unfold bitAt at this
        rw [show (64 * m + j) / 64 = m by omega, show (64 * m + j) % 64 = j by omega] at this
        simp [this]
    rw [this]; rfl
end Go.Proofs.YtehlmjjdegmnaaaDoor
