/- plus, times, greater: the walks. -/
import Derived.Test.YtgedhjflminlbaaNb
namespace Go.Proofs.Ytgedhjflminlbaa
open Go.RowKit
def pl (a b : Int) : Int := if a = -1 ∨ b = -1 then -1 else a + min b (1073741824 - a)
def tm (a b : Int) : Int := if a = 0 ∨ b = 0 then 0 else if a = -1 ∨ b = -1 then -1 else if a > (1073741824 : Int).tdiv b then 1073741824 else a * b
def gr (a b : Int) : Int := if a = -1 ∨ b = -1 then -1 else max a b
set_option maxHeartbeats 400000 in
theorem plus_any (a b : Int) (w : World) (ha : -1 ≤ a ∧ a ≤ 1073741824) (hb : -1 ≤ b ∧ b ≤ 1073741824) : Calls Try.prog 58 #[.int .i64 a, .int .i64 b] w fun e w' => e = .returned (.int .i64 (pl a b)) ∧ w' = w := by
  obtain ⟨a1, a2⟩ := ha
  obtain ⟨b1, b2⟩ := hb
  by_cases h : a = -1
  · subst h
    have e : pl (-1) b = -1 := by simp [pl]
    rw [e]
    go_enter Try.func58, Try.ntmps58
    go_wp2
    go_ret
    exact ⟨rfl, rfl⟩
  by_cases h2 : b = -1
  · subst h2
    have e : pl a (-1) = -1 := by simp [pl]
    have ha : (a == -1) = false := by simpa using h
    rw [e]
    go_enter Try.func58, Try.ntmps58
    go_wp2
    go_ret
    exact ⟨rfl, rfl⟩
  have e : pl a b = a + min b (1073741824 - a) := by simp [pl, h, h2]
  have ha : (a == -1) = false := by simpa using h
  have hb : (b == -1) = false := by simpa using h2
  rw [e]
  clear e
  have hmn : min b (1073741824 - a) ≤ b := Int.min_le_left _ _
  have hm0 : -1 ≤ min b (1073741824 - a) := by omega
  go_enter Try.func58, Try.ntmps58
  go_wp2
  all_goals
    go_ret
    refine ⟨?_, rfl⟩
    show Ending.returned (Value.int .i64 _) = _
    congr 2
    omega
set_option maxHeartbeats 400000 in
theorem greater_any (a b : Int) (w : World) : Calls Try.prog 59 #[.int .i64 a, .int .i64 b] w fun e w' => e = .returned (.int .i64 (gr a b)) ∧ w' = w := by
  by_cases h : a = -1
  · subst h
    have e : gr (-1) b = -1 := by simp [gr]
    rw [e]
    go_enter Try.func59, Try.ntmps59
    go_wp2
    go_ret
    exact ⟨rfl, rfl⟩
  by_cases h2 : b = -1
  · subst h2
    have e : gr a (-1) = -1 := by simp [gr]
    have ha : (a == -1) = false := by simpa using h
    rw [e]
    go_enter Try.func59, Try.ntmps59
    go_wp2
    go_ret
    exact ⟨rfl, rfl⟩
  have e : gr a b = max a b := by simp [gr, h, h2]
  have ha : (a == -1) = false := by simpa using h
  have hb : (b == -1) = false := by simpa using h2
  rw [e]
  clear e
  go_enter Try.func59, Try.ntmps59
  go_wp2
  all_goals
    go_ret
    refine ⟨?_, rfl⟩
    show Ending.returned (Value.int .i64 _) = _
    congr 2
    omega
set_option maxHeartbeats 400000 in
theorem times_any (a b : Int) (w : World) (ha : -1 ≤ a ∧ a ≤ 1001) (hb : -1 ≤ b ∧ b ≤ 1073741824) : Calls Try.prog 60 #[.int .i64 a, .int .i64 b] w fun e w' => e = .returned (.int .i64 (tm a b)) ∧ w' = w := by
  obtain ⟨a1, a2⟩ := ha
  obtain ⟨b1, b2⟩ := hb
  by_cases h : a = 0
  · subst h
    have e : tm 0 b = 0 := by simp [tm]
    rw [e]
    go_enter Try.func60, Try.ntmps60
    go_wp2
    go_ret
    exact ⟨rfl, rfl⟩
  have ha : (a == 0) = false := by simpa using h
  by_cases h2 : b = 0
  · subst h2
    have e : tm a 0 = 0 := by simp [tm]
    rw [e]
    go_enter Try.func60, Try.ntmps60
    go_wp2
    go_ret
    exact ⟨rfl, rfl⟩
  have hb : (b == 0) = false := by simpa using h2
  by_cases h3 : a = -1
  · subst h3
    have e : tm (-1) b = -1 := by simp [tm, h2]
    rw [e]
    go_enter Try.func60, Try.ntmps60
    go_wp2
    go_ret
    exact ⟨rfl, rfl⟩
  have ha' : (a == -1) = false := by simpa using h3
  by_cases h4 : b = -1
  · subst h4
    have e : tm a (-1) = -1 := by simp [tm, h]
    rw [e]
    go_enter Try.func60, Try.ntmps60
    go_wp2
    go_ret
    exact ⟨rfl, rfl⟩
  have hb' : (b == -1) = false := by simpa using h4
  have hq : 0 ≤ (1073741824 : Int).tdiv b ∧ (1073741824 : Int).tdiv b ≤ 1073741824 := by
    rw [Int.tdiv_eq_ediv_of_nonneg (by omega)]
    exact ⟨Int.ediv_nonneg (by omega) (by omega), Int.ediv_le_self _ (by omega)⟩
  have hmul : 0 ≤ a * b ∧ a * b ≤ 1074815565824 := by
    refine ⟨Int.mul_nonneg (by omega) (by omega), ?_⟩
    have := Int.mul_le_mul (show a ≤ 1001 by omega) (show b ≤ 1073741824 by omega) (by omega) (by omega)
    omega
  obtain ⟨q1, q2⟩ := hq
  obtain ⟨m1, m2⟩ := hmul
  have ew : IntKind.i64.wrap ((1073741824 : Int).tdiv b) = (1073741824 : Int).tdiv b := IntWalk.i64_in _ (by omega)
  have em : IntKind.i64.wrap (a * b) = a * b := IntWalk.i64_in _ (by omega)
  by_cases h5 : a > (1073741824 : Int).tdiv b
  · have e : tm a b = 1073741824 := by simp [tm, h, h2, h3, h4, h5]
    rw [e]
    go_enter Try.func60, Try.ntmps60
    go_wp2
    go_ret
    exact ⟨rfl, rfl⟩
  · have e : tm a b = a * b := by simp [tm, h, h2, h3, h4, h5]
    rw [e]
    go_enter Try.func60, Try.ntmps60
    go_wp2
    go_ret
    exact ⟨rfl, rfl⟩
end Go.Proofs.Ytgedhjflminlbaa
