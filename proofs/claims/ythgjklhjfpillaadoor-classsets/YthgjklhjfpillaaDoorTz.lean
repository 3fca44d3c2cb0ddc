/- math/bits.TrailingZeros64: the least bit of a word; the walk. -/
import Derived.Test.YthgjklhjfpillaaDoorStr
namespace Go.Proofs.YthgjklhjfpillaaDoor
open Go.RowKit
def debr : List Int := [0, 1, 56, 2, 57, 49, 28, 3, 61, 58, 42, 50, 38, 29, 17, 4, 62, 47, 59, 36, 45, 43, 51, 22, 53, 39, 33, 30, 24, 18, 12, 5, 63, 55, 48, 27, 60, 41, 37, 16, 46, 35, 44, 21, 52, 32, 23, 11, 54, 26, 40, 15, 34, 20, 31, 10, 25, 14, 19, 9, 13, 8, 7, 6]
/-- The listed table lies as it was laid. -/
structure Tab (w : World) : Prop where
  lt : 0 < w.heap.size
  cell : ∀ i, i < 64 → w.cell? ⟨0, i, none⟩ = some (.int .u8 (debr.getD i 0))
theorem Tab.below {w w' : World} (h : Tab w) (hb : Below w.heap.size w w') : Tab w' :=
  ⟨Nat.lt_of_lt_of_le h.lt hb.size, fun i hi => by rw [hb.cell (p := ⟨0, i, none⟩) h.lt]; exact h.cell i hi⟩
theorem debr_at : ∀ k : Nat, k < 64 → (2 ^ k * 285870213051353865 % 18446744073709551616) / 288230376151711744 < 64 ∧ debr.getD ((2 ^ k * 285870213051353865 % 18446744073709551616) / 288230376151711744) 0 = (k : Int) := by decide +kernel

/-- k is the least bit of x. -/
structure Low (x k : Nat) : Prop where
  yes : x.testBit k = true
  no : ∀ j, j < k → x.testBit j = false
theorem low_ex : ∀ (n x : Nat), x < 2 ^ n → x ≠ 0 → ∃ k, k < n ∧ Low x k := by
  intro n
  induction n with
  | zero => intro x h h0; simp at h; omega
  | succ n ih =>
    intro x h h0
    cases hb : x.testBit 0 with
    | true => exact ⟨0, by omega, hb, fun j hj => by omega⟩
    | false =>
      have he : x % 2 = 0 := by
        rw [Nat.testBit_zero] at hb
        have := of_decide_eq_false hb
        omega
      obtain ⟨k, hk, hl⟩ := ih (x / 2) (by rw [Nat.pow_succ] at h; omega) (by omega)
      refine ⟨k + 1, by omega, ?_, fun j hj => ?_⟩
      · rw [Nat.testBit_succ]; exact hl.yes
      · cases j with
        | zero => exact hb
        | succ j => rw [Nat.testBit_succ]; exact hl.no j (by omega)
theorem pred_bit {x k : Nat} (h : Low x k) (j : Nat) : (x - 1).testBit j = (decide (j < k) || (decide (k < j) && x.testBit j)) := by
  have h0 : x % 2 ^ k = 0 := by
    apply Nat.eq_of_testBit_eq
    intro j
    rw [Nat.testBit_mod_two_pow, Nat.zero_testBit]
    by_cases hj : j < k
    · rw [h.no j hj, Bool.and_false]
    · simp [hj]
  have ha : x = 2 ^ k * (x / 2 ^ k) := by
    have := Nat.div_add_mod x (2 ^ k)
    omega
  have hodd : (x / 2 ^ k) % 2 = 1 := by
    have := h.yes
    rw [Nat.testBit_eq_decide_div_mod_eq] at this
    exact of_decide_eq_true this
  have hpos : 0 < 2 ^ k := Nat.two_pow_pos k
  generalize hm : x / 2 ^ k = a at *
  obtain ⟨m, rfl⟩ : ∃ m, a = 2 * m + 1 := ⟨a / 2, by omega⟩
  have e : x - 1 = 2 ^ k * (2 * m) + (2 ^ k - 1) := by rw [ha, Nat.mul_add, Nat.mul_one]; omega
  rw [e, Nat.testBit_two_pow_mul_add _ (by omega)]
  by_cases hj : j < k
  · rw [if_pos hj, Nat.testBit_two_pow_sub_one]; simp [hj]
  · rw [if_neg hj, decide_eq_false hj, Bool.false_or]
    by_cases hk : k < j
    · rw [decide_eq_true hk, Bool.true_and]
      have e2 : x = 2 ^ k * (2 * m + 1) + 0 := by omega
      rw [e2, Nat.testBit_two_pow_mul_add _ hpos, if_neg hj]
      obtain ⟨i, hi⟩ : ∃ i, j - k = i + 1 := ⟨j - k - 1, by omega⟩
      rw [hi, Nat.testBit_succ, Nat.testBit_succ]
      congr 1
      omega
    · obtain rfl : j = k := by omega
      rw [Nat.sub_self, Nat.testBit_zero]
      simp
theorem clear_bit {x k : Nat} (h : Low x k) (j : Nat) : (x &&& (x - 1)).testBit j = (x.testBit j && !decide (j = k)) := by
  rw [Nat.testBit_and, pred_bit h]
  by_cases hj : j < k
  · rw [h.no j hj]; rfl
  · by_cases hk : k < j
    · have : j ≠ k := by omega
      simp [hj, hk, this]
    · obtain rfl : j = k := by omega
      simp
theorem low_pow {x k : Nat} (h : Low x k) (hx : x < 18446744073709551616) : x &&& (18446744073709551616 - x) = 2 ^ k := by
  have h0 : x ≠ 0 := by rintro rfl; have := h.yes; simp at this
  have hk : k < 64 := by
    rcases Nat.lt_or_ge k 64 with h' | h'
    · exact h'
    · have := testBit_lt hx h'; rw [h.yes] at this; cases this
  have e : 18446744073709551616 - x = 18446744073709551615 - (x - 1) := by omega
  rw [e]
  apply Nat.eq_of_testBit_eq
  intro j
  rw [Nat.testBit_and, not_bit _ (by omega), pred_bit h, Nat.testBit_two_pow]
  by_cases hj : j < k
  · have : k ≠ j := by omega
    rw [h.no j hj, decide_eq_false this]; rfl
  · by_cases hkj : k < j
    · have : k ≠ j := by omega
      rw [decide_eq_false this]
      simp [hj, hkj]
      intro h1 _; exact h1
    · obtain rfl : j = k := by omega
      simp [h.yes, hk]
theorem low_val {x k : Nat} (h : Low x k) (hx : x < 18446744073709551616) : bits BinOp.and .u64 (x : Int) (IntKind.u64.wrap (-(x : Int))) = ((2 ^ k : Nat) : Int) := by
  have h0 : x ≠ 0 := by rintro rfl; have := h.yes; simp at this
  have e : IntKind.u64.wrap (-(x : Int)) = ((18446744073709551616 - x : Nat) : Int) := by
    rw [IntKind.wrap_u64]; omega
  rw [e, u64_and_nat _ _ hx (by omega), low_pow h hx]
theorem mul_val' (a C : Nat) (Cz : Int) (h : Cz = (C : Int)) : IntKind.u64.wrap ((a : Int) * Cz) = ((a * C % 18446744073709551616 : Nat) : Int) := by
  rw [h, IntKind.wrap_u64, Int.natCast_emod, Int.natCast_mul]; rfl
theorem mul_val (k : Nat) : IntKind.u64.wrap (((2 ^ k : Nat) : Int) * 285870213051353865) = ((2 ^ k * 285870213051353865 % 18446744073709551616 : Nat) : Int) :=
  mul_val' (2 ^ k) 285870213051353865 285870213051353865 (by decide)
theorem shr_val (a : Nat) : ((a : Nat) : Int) / 288230376151711744 = ((a / 288230376151711744 : Nat) : Int) := by
  rw [Int.natCast_ediv]; rfl
theorem wrap64_nat (k : Nat) (h : k < 9223372036854775808) : wrap64 (k : Int) = k := by unfold wrap64; omega

set_option maxRecDepth 10000 in
set_option maxHeartbeats 400000 in
theorem tz_walk (x y z v : Int) (i : Nat) (w : World) (hn : (x == 0) = false) (hA : bits BinOp.and .u64 x (IntKind.u64.wrap (-x)) = y) (hM : IntKind.u64.wrap (y * 285870213051353865) = z)
    (hS : z / 288230376151711744 = (i : Nat)) (hi : (i : Int) < 64) (hc : w.cell? ⟨0, i, none⟩ = some (.int .u8 v)) :
    Calls Tryd.prog 50 #[.int .u64 x] w fun e w' => e = .returned (.int .i64 (wrap64 v)) ∧ w' = w := by
  go_enter Tryd.func50, Tryd.ntmps50
  go_wp2
  go_ret
  exact ⟨rfl, rfl⟩
/-- TrailingZeros64. -/
theorem tz_any (x k : Nat) (w : World) (hT : Tab w) (h : Low x k) (hx : x < 18446744073709551616) :
    Calls Tryd.prog 50 #[.int .u64 (x : Nat)] w fun e w' => e = .returned (.int .i64 (k : Nat)) ∧ w' = w := by
  have h0 : x ≠ 0 := by rintro rfl; have := h.yes; simp at this
  have hk : k < 64 := by
    rcases Nat.lt_or_ge k 64 with h' | h'
    · exact h'
    · have := testBit_lt hx h'; rw [h.yes] at this; cases this
  obtain ⟨d1, d2⟩ := debr_at k hk
  have := tz_walk (x : Int) _ _ _ _ w (by simpa using h0) (low_val h hx) (mul_val k) (shr_val _) (by omega) (hT.cell _ d1)
  rwa [d2, wrap64_nat k (by omega)] at this
end Go.Proofs.YthgjklhjfpillaaDoor
