/- The reference's cap30 and times: the walks. -/
import Derived.Test.YtiiecppkabdkgabDoorGTailScWaWoWmWwMwMe
namespace Go.Proofs.YtiiecppkabdkgabDoor
open Go.RowKit
theorem cap_pl {a b : Int} (ha : 0 ≤ a ∧ a ≤ 1073741824) (hb : 0 ≤ b ∧ b ≤ 1073741824) : min (a + b) 1073741824 = pl a b := by
  unfold pl; rw [if_neg (by omega)]; omega
theorem cap_tm {a b : Int} (ha : 0 ≤ a) (hb : 0 ≤ b) : min (a * b) 1073741824 = tm a b := by
  unfold tm
  by_cases h : a = 0 ∨ b = 0
  · rw [if_pos h]
    rcases h with rfl | rfl <;> simp <;> omega
  · rw [if_neg h, if_neg (by omega)]
    have hb' : 0 < b := by omega
    have e : (1073741824 : Int).tdiv b = 1073741824 / b := Int.tdiv_eq_ediv_of_nonneg (by decide)
    rw [e]
    have h1 := Int.mul_ediv_add_emod (1073741824 : Int) b
    have h2 := Int.emod_lt_of_pos (1073741824 : Int) hb'
    have h3 := Int.emod_nonneg (1073741824 : Int) (show b ≠ 0 by omega)
    generalize (1073741824 : Int) / b = q at *
    generalize (1073741824 : Int) % b = m at *
    by_cases hq : a > q
    · rw [if_pos hq]
      have : b * (q + 1) ≤ b * a := Int.mul_le_mul_of_nonneg_left (by omega) hb
      rw [Int.mul_add, Int.mul_one] at this
      rw [Int.mul_comm a b]
      omega
    · rw [if_neg hq]
      have : b * a ≤ b * q := Int.mul_le_mul_of_nonneg_left (by omega) hb
      rw [Int.mul_comm a b]
      omega
set_option maxHeartbeats 400000 in
theorem cap_any (a : Int) (w : World) : Calls Tryd.prog 13 #[.int .i64 a] w fun e w' => e = .returned (.int .i64 (min a 1073741824)) ∧ w' = w := by
  go_enter Tryd.func13, Tryd.ntmps13
  go_wp2
  all_goals
    go_ret
    refine ⟨?_, rfl⟩
    show Ending.returned (Value.int .i64 _) = _
    congr 2
    omega
set_option maxHeartbeats 400000 in
theorem rtimes_any (a b : Int) (w : World) (ha : -1 ≤ a ∧ a ≤ 1001) (hb : -1 ≤ b ∧ b ≤ 1073741824) : Calls Tryd.prog 14 #[.int .i64 a, .int .i64 b] w fun e w' => e = .returned (.int .i64 (tm a b)) ∧ w' = w := by
  obtain ⟨a1, a2⟩ := ha
  obtain ⟨b1, b2⟩ := hb
  by_cases h : a = 0
  · subst h
    have e : tm 0 b = 0 := by simp [tm]
    rw [e]
    go_enter Tryd.func14, Tryd.ntmps14
    go_wp2
    go_ret
    exact ⟨rfl, rfl⟩
  by_cases h2 : b = 0
  · subst h2
    have e : tm a 0 = 0 := by simp [tm]
    have ha : (a == 0) = false := by simpa using h
    rw [e]
    go_enter Tryd.func14, Tryd.ntmps14
    go_wp2
    go_ret
    exact ⟨rfl, rfl⟩
  have ha : (a == 0) = false := by simpa using h
  have hb : (b == 0) = false := by simpa using h2
  by_cases h3 : a < 0
  · obtain rfl : a = -1 := by omega
    have e : tm (-1) b = -1 := by simp [tm, h2]
    rw [e]
    go_enter Tryd.func14, Tryd.ntmps14
    go_wp2
    go_ret
    exact ⟨rfl, rfl⟩
  by_cases h4 : b < 0
  · obtain rfl : b = -1 := by omega
    have e : tm a (-1) = -1 := by simp [tm, h]
    rw [e]
    go_enter Tryd.func14, Tryd.ntmps14
    go_wp2
    go_ret
    exact ⟨rfl, rfl⟩
  have hm1 : a * b ≤ 1001 * 1073741824 := by
    have : a * b ≤ 1001 * b := Int.mul_le_mul_of_nonneg_right (by omega) (by omega)
    omega
  have hm0 : 0 ≤ a * b := Int.mul_nonneg (by omega) (by omega)
  have hin : -9223372036854775808 ≤ a * b ∧ a * b ≤ 9223372036854775807 := by omega
  rw [← cap_tm (by omega) (by omega)]
  have HC := cap_any (a * b) w
  go_enter Tryd.func14, Tryd.ntmps14
  go_wp2_with (go_at_call 13; refine HC.mono ?_; rintro e w' ⟨rfl, rfl⟩)
  go_ret
  exact ⟨rfl, rfl⟩
end Go.Proofs.YtiiecppkabdkgabDoor
