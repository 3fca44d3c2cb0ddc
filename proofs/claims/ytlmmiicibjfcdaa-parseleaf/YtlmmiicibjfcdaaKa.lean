/- token: has, isDigit, isLetter, hexDigit, hex, mayRepeat, isDash: the walks. -/
import Derived.Test.YtlmmiicibjfcdaaWd
import Derived.Test.YtlmmiicibjfcdaaEq
import Derived.Test.YtlmmiicibjfcdaaTail
namespace Go.Proofs.Ytlmmiicibjfcdaa
open Go.RowKit
/-- Whether b stands at a place of a pattern of n bytes. -/
def hasP (z : Nat → Nat) (n at_ b : Nat) : Bool := decide (at_ < n) && (z at_ == b)
def digP (b : Nat) : Bool := decide (48 ≤ b) && decide (b ≤ 57)
def letP (b : Nat) : Bool := (decide (97 ≤ b) && decide (b ≤ 122)) || (decide (65 ≤ b) && decide (b ≤ 90))
/-- A digit of sixteen: its number, and whether it is one. -/
def hexP (b : Nat) : Nat × Bool := if digP b then (b - 48, true) else if decide (97 ≤ b) && decide (b ≤ 102) then (b - 87, true) else if decide (65 ≤ b) && decide (b ≤ 70) then (b - 55, true) else (0, false)
def repP (least most : Int) : Bool := decide (0 ≤ least) && decide (least ≤ if most = -1 then 1000 else most) && decide ((if most = -1 then 1000 else most) ≤ 1000)
set_option maxHeartbeats 400000 in
theorem has_any (ao : Option Addr) (n cap at_ b : Nat) (z : Nat → Nat) (w : World) (hr : Rd w ao n z) : Calls Try.prog 99 #[.slice ao n cap, .int .i64 (at_ : Nat), .int .u8 (b : Nat)] w fun e w' => e = .returned (.bool (hasP z n at_ b)) ∧ w' = w := by
  by_cases h : at_ < n
  · obtain ⟨bb, off, rfl, hbb, hc⟩ := hr.at_ (by omega)
    have t := hc at_ h
    have hi : (at_ : Int) < (n : Int) := by omega
    have e : (((z at_ : Nat) : Int) == (b : Int)) = hasP z n at_ b := by
      unfold hasP
      rw [decide_eq_true h, Bool.true_and, Bool.eq_iff_iff]
      simp; omega
    have hE : Hid ((((z at_ : Nat) : Int) == (b : Int)) = hasP z n at_ b) := e
    clear hc e
    go_enter Try.func99, Try.ntmps99
    go_wp2
    go_ret
    exact ⟨by rw [← hE.out]; rfl, rfl⟩
  · have hi : ¬ (at_ : Int) < (n : Int) := by omega
    have e : hasP z n at_ b = false := by unfold hasP; rw [decide_eq_false h, Bool.false_and]
    rw [e]
    go_enter Try.func99, Try.ntmps99
    go_wp2
    go_ret
    exact ⟨rfl, rfl⟩
set_option maxHeartbeats 400000 in
theorem isDigit_any (b : Nat) (w : World) : Calls Try.prog 98 #[.int .u8 (b : Nat)] w fun e w' => e = .returned (.bool (digP b)) ∧ w' = w := by
  by_cases h1 : 48 ≤ b
  · have g1 : (48 : Int) ≤ (b : Int) := by omega
    have e : decide ((b : Int) ≤ 57) = digP b := by unfold digP; rw [decide_eq_true h1, Bool.true_and, decide_eq_decide]; omega
    go_enter Try.func98, Try.ntmps98
    go_wp2
    go_ret
    exact ⟨rfl, rfl⟩
  · have g1 : ¬ (48 : Int) ≤ (b : Int) := by omega
    have e : digP b = false := by unfold digP; rw [decide_eq_false h1, Bool.false_and]
    rw [e]
    go_enter Try.func98, Try.ntmps98
    go_wp2
    go_ret
    exact ⟨rfl, rfl⟩
set_option maxHeartbeats 400000 in
theorem isLetter_any (b : Nat) (w : World) : Calls Try.prog 97 #[.int .u8 (b : Nat)] w fun e w' => e = .returned (.bool (letP b)) ∧ w' = w := by
  have key : ∀ x : Bool, letP b = x → Calls Try.prog 97 #[.int .u8 (b : Nat)] w fun e w' => e = .returned (.bool x) ∧ w' = w := by
    intro x hx
    by_cases h1 : 97 ≤ b
    · have g1 : (97 : Int) ≤ (b : Int) := by omega
      by_cases h2 : b ≤ 122
      · have g2 : (b : Int) ≤ 122 := by omega
        have e : x = true := by rw [← hx]; unfold letP; simp [h1, h2]
        subst e
        clear hx
        go_enter Try.func97, Try.ntmps97
        go_wp2
        go_ret
        exact ⟨rfl, rfl⟩
      · have g2 : ¬ (b : Int) ≤ 122 := by omega
        have g3 : (65 : Int) ≤ (b : Int) := by omega
        have g4 : ¬ (b : Int) ≤ 90 := by omega
        have e : x = false := by rw [← hx]; unfold letP; simp; omega
        subst e
        clear hx
        go_enter Try.func97, Try.ntmps97
        go_wp2
        go_ret
        exact ⟨rfl, rfl⟩
    · have g1 : ¬ (97 : Int) ≤ (b : Int) := by omega
      by_cases h2 : 65 ≤ b
      · have g2 : (65 : Int) ≤ (b : Int) := by omega
        by_cases h3 : b ≤ 90
        · have g3 : (b : Int) ≤ 90 := by omega
          have e : x = true := by rw [← hx]; unfold letP; simp [h2, h3]
          subst e
          clear hx
          go_enter Try.func97, Try.ntmps97
          go_wp2
          go_ret
          exact ⟨rfl, rfl⟩
        · have g3 : ¬ (b : Int) ≤ 90 := by omega
          have e : x = false := by rw [← hx]; unfold letP; simp; omega
          subst e
          clear hx
          go_enter Try.func97, Try.ntmps97
          go_wp2
          go_ret
          exact ⟨rfl, rfl⟩
      · have g2 : ¬ (65 : Int) ≤ (b : Int) := by omega
        have e : x = false := by rw [← hx]; unfold letP; simp; omega
        subst e
        clear hx
        go_enter Try.func97, Try.ntmps97
        go_wp2
        go_ret
        exact ⟨rfl, rfl⟩
  exact key _ rfl
set_option maxHeartbeats 400000 in
theorem mayRepeat_any (l m : Int) (w : World) : Calls Try.prog 64 #[.int .i64 l, .int .i64 m] w fun e w' => e = .returned (.bool (repP l m)) ∧ w' = w := by
  have key : ∀ x : Bool, repP l m = x → Calls Try.prog 64 #[.int .i64 l, .int .i64 m] w fun e w' => e = .returned (.bool x) ∧ w' = w := by
    intro x hx
    by_cases hm : m = -1
    · subst hm
      by_cases h0 : 0 ≤ l
      · by_cases h1 : l ≤ 1000
        · have e : x = true := by rw [← hx]; unfold repP; simp [h0, h1]
          subst e
          clear hx
          go_enter Try.func64, Try.ntmps64
          go_wp2
          go_ret
          exact ⟨rfl, rfl⟩
        · have e : x = false := by rw [← hx]; unfold repP; simp [h1]
          subst e
          clear hx
          go_enter Try.func64, Try.ntmps64
          go_wp2
          go_ret
          exact ⟨rfl, rfl⟩
      · have e : x = false := by rw [← hx]; unfold repP; simp [h0]
        subst e
        clear hx
        go_enter Try.func64, Try.ntmps64
        go_wp2
        go_ret
        exact ⟨rfl, rfl⟩
    · have hb : (m == -1) = false := by simpa using hm
      by_cases h0 : 0 ≤ l
      · by_cases h1 : l ≤ m
        · have e : decide (m ≤ 1000) = x := by rw [← hx]; unfold repP; simp [h0, h1, hm]
          clear hx
          go_enter Try.func64, Try.ntmps64
          go_wp2
          go_ret
          exact ⟨rfl, rfl⟩
        · have e : x = false := by rw [← hx]; unfold repP; simp [h1, hm]
          subst e
          clear hx
          go_enter Try.func64, Try.ntmps64
          go_wp2
          go_ret
          exact ⟨rfl, rfl⟩
      · have e : x = false := by rw [← hx]; unfold repP; simp [h0]
        subst e
        clear hx
        go_enter Try.func64, Try.ntmps64
        go_wp2
        go_ret
        exact ⟨rfl, rfl⟩
  exact key _ rfl
end Go.Proofs.Ytlmmiicibjfcdaa
