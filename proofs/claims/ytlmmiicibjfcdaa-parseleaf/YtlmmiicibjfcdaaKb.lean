/- token: hexDigit, hex, isDash, mayClass: the walks. -/
import Derived.Test.YtlmmiicibjfcdaaKa
import Derived.Deep.RegionHeld3
namespace Go.Proofs.Ytlmmiicibjfcdaa
open Go.RowKit
set_option maxHeartbeats 400000 in
theorem hexDigit_any (b : Nat) (w : World) (hb : b < 256) : Calls Try.prog 117 #[.int .u8 (b : Nat)] w fun e w' => e = .returned (.tuple #[.int .u8 ((hexP b).1 : Nat), .bool (hexP b).2]) ∧ w' = w := by
  have hd := fun W => isDigit_any b W
  cases h0 : digP b with
  | true =>
    have h48 : 48 ≤ b := by unfold digP at h0; simp at h0; omega
    have e : hexP b = (b - 48, true) := by unfold hexP; rw [h0]; rfl
    have en : ((b - 48 : Nat) : Int) = (b : Int) - 48 := by omega
    rw [h0] at hd
    rw [e]
    have g1 : (48 : Int) ≤ (b : Int) := by omega
    have g2 : (b : Int) < 256 := by omega
    clear e h0
    go_enter Try.func117, Try.ntmps117
    go_wp2_with (go_at_call 98; refine (hd _).mono ?_; rintro e w' ⟨rfl, rfl⟩)
    exact bodyPost_ret (v := .tuple #[.int .u8 ((b : Int) - 48), .bool true]) (by simp [results, Try.results117, go_sem]) rfl ⟨by rw [en], rfl⟩
  | false =>
    rw [h0] at hd
    by_cases h1 : 97 ≤ b ∧ b ≤ 102
    · have e : hexP b = (b - 87, true) := by unfold hexP; rw [h0]; simp [h1]
      have en : ((b - 87 : Nat) : Int) = (b : Int) - 97 + 10 := by omega
      rw [e]
      have g1 : (97 : Int) ≤ (b : Int) := by omega
      have g2 : (b : Int) ≤ 102 := by omega
      clear e h0
      go_enter Try.func117, Try.ntmps117
      go_wp2_with (go_at_call 98; refine (hd _).mono ?_; rintro e w' ⟨rfl, rfl⟩)
      exact bodyPost_ret (v := .tuple #[.int .u8 ((b : Int) - 97 + 10), .bool true]) (by simp [results, Try.results117, go_sem]) rfl ⟨by rw [en], rfl⟩
    · by_cases h2 : 65 ≤ b ∧ b ≤ 70
      · have e : hexP b = (b - 55, true) := by unfold hexP; rw [h0]; simp [h2]; omega
        have en : ((b - 55 : Nat) : Int) = (b : Int) - 65 + 10 := by omega
        rw [e]
        have g1 : ¬ (97 : Int) ≤ (b : Int) := by omega
        have g2 : (65 : Int) ≤ (b : Int) := by omega
        have g3 : (b : Int) ≤ 70 := by omega
        clear e h0
        go_enter Try.func117, Try.ntmps117
        go_wp2_with (go_at_call 98; refine (hd _).mono ?_; rintro e w' ⟨rfl, rfl⟩)
        exact bodyPost_ret (v := .tuple #[.int .u8 ((b : Int) - 65 + 10), .bool true]) (by simp [results, Try.results117, go_sem]) rfl ⟨rfl, rfl⟩
      · have e : hexP b = (0, false) := by
          unfold hexP
          rw [h0]
          have e1 : (decide (97 ≤ b) && decide (b ≤ 102)) = false := by simp; omega
          have e2 : (decide (65 ≤ b) && decide (b ≤ 70)) = false := by simp; omega
          rw [e1, e2]; rfl
        rw [e]
        clear e h0
        by_cases g1 : (97 : Int) ≤ (b : Int)
        · have g2 : ¬ (b : Int) ≤ 102 := by omega
          have g3 : (65 : Int) ≤ (b : Int) := by omega
          have g4 : ¬ (b : Int) ≤ 70 := by omega
          go_enter Try.func117, Try.ntmps117
          go_wp2_with (go_at_call 98; refine (hd _).mono ?_; rintro e w' ⟨rfl, rfl⟩)
          exact bodyPost_ret (v := .tuple #[.int .u8 0, .bool false]) (by simp [results, Try.results117, go_sem]) rfl ⟨rfl, rfl⟩
        · by_cases g3 : (65 : Int) ≤ (b : Int)
          · have g4 : ¬ (b : Int) ≤ 70 := by omega
            go_enter Try.func117, Try.ntmps117
            go_wp2_with (go_at_call 98; refine (hd _).mono ?_; rintro e w' ⟨rfl, rfl⟩)
            exact bodyPost_ret (v := .tuple #[.int .u8 0, .bool false]) (by simp [results, Try.results117, go_sem]) rfl ⟨rfl, rfl⟩
          · go_enter Try.func117, Try.ntmps117
            go_wp2_with (go_at_call 98; refine (hd _).mono ?_; rintro e w' ⟨rfl, rfl⟩)
            exact bodyPost_ret (v := .tuple #[.int .u8 0, .bool false]) (by simp [results, Try.results117, go_sem]) rfl ⟨rfl, rfl⟩
theorem hexP_lt (b : Nat) : (hexP b).1 < 16 := by
  unfold hexP digP
  split
  · rename_i h; simp at h; show b - 48 < 16; omega
  · split
    · rename_i h; simp at h; show b - 87 < 16; omega
    · split
      · rename_i h; simp at h; show b - 55 < 16; omega
      · decide
/-- The byte of two digits of sixteen at a place, and whether they are digits. -/
def hexV (z : Nat → Nat) (n at_ : Nat) : Nat × Bool := if at_ + 2 ≤ n then ((hexP (z at_)).1 * 16 ||| (hexP (z (at_ + 1))).1, (hexP (z at_)).2 && (hexP (z (at_ + 1))).2) else (0, false)
set_option maxHeartbeats 400000 in
theorem hex_any (ao : Option Addr) (n cap at_ : Nat) (z : Nat → Nat) (w : World) (hr : Rd w ao n z) (hn : (n : Int) ≤ 1024) (ha : (at_ : Int) ≤ 2048) : Calls Try.prog 96 #[.slice ao n cap, .int .i64 (at_ : Nat)] w fun e w' => e = .returned (.tuple #[.int .u8 ((hexV z n at_).1 : Nat), .bool (hexV z n at_).2]) ∧ w' = w := by
  by_cases h : at_ + 2 ≤ n
  · obtain ⟨bb, off, rfl, hbb, hc⟩ := hr.at_ (by omega)
    have t1 := hc at_ (by omega)
    have t2 := hc (at_ + 1) (by omega)
    have s1 := hr.small at_ (by omega)
    have s2 := hr.small (at_ + 1) (by omega)
    have e : hexV z n at_ = ((hexP (z at_)).1 * 16 ||| (hexP (z (at_ + 1))).1, (hexP (z at_)).2 && (hexP (z (at_ + 1))).2) := by unfold hexV; rw [if_pos h]
    rw [e]
    have d1 := fun W => hexDigit_any (z at_) W s1
    have d2 := fun W => hexDigit_any (z (at_ + 1)) W s2
    have l1 := hexP_lt (z at_)
    have l2 := hexP_lt (z (at_ + 1))
    generalize (hexP (z at_)).1 = x at *
    generalize (hexP (z at_)).2 = bx at *
    generalize (hexP (z (at_ + 1))).1 = y at *
    generalize (hexP (z (at_ + 1))).2 = b_y at *
    generalize z at_ = p at *
    generalize z (at_ + 1) = q at *
    have D1 : Hid (∀ W, Calls Try.prog 117 #[.int .u8 (p : Nat)] W fun e w' => e = .returned (.tuple #[.int .u8 (x : Nat), .bool bx]) ∧ w' = W) := d1
    have D2 : Hid (∀ W, Calls Try.prog 117 #[.int .u8 (q : Nat)] W fun e w' => e = .returned (.tuple #[.int .u8 (y : Nat), .bool b_y]) ∧ w' = W) := d2
    have i1 : (at_ : Int) < (n : Int) := by omega
    have i2 : (at_ : Int) + 1 < (n : Int) := by omega
    have i3 : (at_ : Int) + 2 ≤ (n : Int) := by omega
    have ob : bits BinOp.or IntKind.u8 ((x : Int) * 16) (y : Int) = ((x * 16 ||| y : Nat) : Int) := by
      rw [show (x : Int) * 16 = ((x * 16 : Nat) : Int) by omega, u8_or_nat _ _ (by omega) (by omega)]
    clear e d1 d2 hc h hr
    go_enter Try.func96, Try.ntmps96
    go_wp2_with fail
    refine (D1.out _).mono ?_
    rintro e w1 ⟨rfl, rfl⟩
    go_wp2_with fail
    refine (D2.out _).mono ?_
    rintro e w2 ⟨rfl, rfl⟩
    cases bx with
    | true =>
      go_wp2
      exact bodyPost_ret (v := .tuple #[.int .u8 ((x * 16 ||| y : Nat) : Int), .bool b_y]) (by simp [results, Try.results96, go_sem]) rfl ⟨by simp, rfl⟩
    | false =>
      go_wp2
      exact bodyPost_ret (v := .tuple #[.int .u8 ((x * 16 ||| y : Nat) : Int), .bool false]) (by simp [results, Try.results96, go_sem]) rfl ⟨by simp, rfl⟩
  · have e : hexV z n at_ = (0, false) := by unfold hexV; rw [if_neg h]
    rw [e]
    have i3 : (n : Int) < (at_ : Int) + 2 := by omega
    clear e
    go_enter Try.func96, Try.ntmps96
    go_wp2
    exact bodyPost_ret (v := .tuple #[.int .u8 0, .bool false]) (by simp [results, Try.results96, go_sem]) rfl ⟨rfl, rfl⟩
/-- Whether a dash at a place makes a range of the unit ahead of it. -/
def dashP (z : Nat → Nat) (n at_ : Nat) : Bool := hasP z n at_ 45 && decide (at_ + 1 < n) && !(z (at_ + 1) == 93)
set_option maxHeartbeats 400000 in
theorem isDash_any (ao : Option Addr) (n cap at_ : Nat) (z : Nat → Nat) (w : World) (hr : Rd w ao n z) (hn : (n : Int) ≤ 1024) (ha : (at_ : Int) ≤ 2048) : Calls Try.prog 119 #[.slice ao n cap, .int .i64 (at_ : Nat)] w fun e w' => e = .returned (.bool (dashP z n at_)) ∧ w' = w := by
  have hh : ∀ W, Rd W ao n z → Calls Try.prog 99 #[.slice ao n cap, .int .i64 (at_ : Nat), .int .u8 45] W fun e w' => e = .returned (.bool (hasP z n at_ 45)) ∧ w' = W := fun W h => has_any ao n cap at_ 45 z W h
  cases h0 : hasP z n at_ 45 with
  | false =>
    have e : dashP z n at_ = false := by unfold dashP; rw [h0]; rfl
    rw [e]
    rw [h0] at hh
    go_enter Try.func119, Try.ntmps119
    go_wp2_with (go_at_call 99; refine (hh _ hr).mono ?_; rintro e w' ⟨rfl, rfl⟩)
    go_ret
    exact ⟨rfl, rfl⟩
  | true =>
    rw [h0] at hh
    have h1 : at_ < n := by unfold hasP at h0; simp at h0; omega
    by_cases h2 : at_ + 1 < n
    · obtain ⟨bb, off, rfl, hbb, hc⟩ := hr.at_ (by omega)
      have t := hc (at_ + 1) h2
      have e : dashP z n at_ = !(z (at_ + 1) == 93) := by unfold dashP; rw [h0, decide_eq_true h2]; rfl
      rw [e]
      have i2 : (at_ : Int) + 1 < (n : Int) := by omega
      have en : (((z (at_ + 1) : Nat) : Int) != 93) = !(z (at_ + 1) == 93) := by
        rw [Bool.eq_iff_iff]; simp; omega
      have EN : Hid ((((z (at_ + 1) : Nat) : Int) != 93) = !(z (at_ + 1) == 93)) := en
      generalize z (at_ + 1) = q at *
      have HR := Hid.out (p := Rd w (some ⟨bb, off, none⟩) n z) hr
      clear hc e en
      go_enter Try.func119, Try.ntmps119
      go_wp2_with (go_at_call 99; refine (hh _ HR).mono ?_; rintro e w' ⟨rfl, rfl⟩)
      go_ret
      exact ⟨by rw [← EN.out]; rfl, rfl⟩
    · have e : dashP z n at_ = false := by unfold dashP; rw [decide_eq_false h2]; simp
      rw [e]
      have i2 : ¬ (at_ : Int) + 1 < (n : Int) := by omega
      go_enter Try.func119, Try.ntmps119
      go_wp2_with (go_at_call 99; refine (hh _ hr).mono ?_; rintro e w' ⟨rfl, rfl⟩)
      go_ret
      exact ⟨rfl, rfl⟩
end Go.Proofs.Ytlmmiicibjfcdaa
