/- token: has, isDigit, isLetter, hexDigit, hex, mayRepeat, isDash: the walks. token: hexDigit, hex, isDash, mayClass: the walks. token: number: the walk. Blocks of cells, of any length. -/
import Derived.Deep.RegionHeld3
import Derived.Test.YtlmmiicibjfcdaaQ01
namespace Go.Proofs.Ytlmmiicibjfcdaa
open Go.RowKit
/-- Whether b stands at a place of a pattern of n bytes. -/
def hasP (z : Nat → Nat) (n at_ b : Nat) : Bool := decide (at_ < n) && (z at_ == b)
def digP (b : Nat) : Bool := decide (48 ≤ b) && decide (b ≤ 57)
def letP (b : Nat) : Bool := (decide (97 ≤ b) && decide (b ≤ 122)) || (decide (65 ≤ b) && decide (b ≤ 90))
/-- A digit of sixteen: its number, and whether it is one. -/
def hexP (b : Nat) : Nat × Bool := if digP b then (b - 48, true) else if decide (97 ≤ b) && decide (b ≤ 102) then (b - 87, true) else if decide (65 ≤ b) && decide (b ≤ 70) then (b - 55, true) else (0, false)
def repP (least most : Int) : Bool := decide (0 ≤ least) && decide (least ≤ if most = -1 then 1000 else most) && decide ((if most = -1 then 1000 else most) ≤ 1000)
set_option maxHeartbeats 400000 in
theorem has_any (ao : Option Addr) (n cap at_ b : Nat) (z : Nat → Nat) (w : World) (hr : Rd w ao n z) : Calls Try.prog 99 #[.slice ao n cap, .int .i64 (at_ : Nat), .int .u8 (b : Nat)] w fun e w' => e = .returned (.bool (hasP z n at_ b)) ∧ w' = w := by
  by_cases h : at_ < n
  · obtain ⟨bb, off, rfl, hbb, hc⟩ := hr.at_ (by omega)
    have t := hc at_ h
    have hi : (at_ : Int) < (n : Int) := by omega
    have e : (((z at_ : Nat) : Int) == (b : Int)) = hasP z n at_ b := by
      unfold hasP
      rw [decide_eq_true h, Bool.true_and, Bool.eq_iff_iff]
      simp; omega
    have hE : Hid ((((z at_ : Nat) : Int) == (b : Int)) = hasP z n at_ b) := e
    clear hc e
    go_enter Try.func99, Try.ntmps99
    go_wp2
    go_ret
    exact ⟨by rw [← hE.out]; rfl, rfl⟩
  · have hi : ¬ (at_ : Int) < (n : Int) := by omega
    have e : hasP z n at_ b = false := by unfold hasP; rw [decide_eq_false h, Bool.false_and]
    rw [e]
    go_enter Try.func99, Try.ntmps99
    go_wp2
    go_ret
    exact ⟨rfl, rfl⟩
set_option maxHeartbeats 400000 in
theorem isDigit_any (b : Nat) (w : World) : Calls Try.prog 98 #[.int .u8 (b : Nat)] w fun e w' => e = .returned (.bool (digP b)) ∧ w' = w := by
  by_cases h1 : 48 ≤ b
  · have g1 : (48 : Int) ≤ (b : Int) := by omega
    have e : decide ((b : Int) ≤ 57) = digP b := by unfold digP; rw [decide_eq_true h1, Bool.true_and, decide_eq_decide]; omega
    go_enter Try.func98, Try.ntmps98
    go_wp2
    go_ret
    exact ⟨rfl, rfl⟩
  · have g1 : ¬ (48 : Int) ≤ (b : Int) := by omega
    have e : digP b = false := by unfold digP; rw [decide_eq_false h1, Bool.false_and]
    rw [e]
    go_enter Try.func98, Try.ntmps98
    go_wp2
    go_ret
    exact ⟨rfl, rfl⟩
set_option maxHeartbeats 400000 in
theorem isLetter_any (b : Nat) (w : World) : Calls Try.prog 97 #[.int .u8 (b : Nat)] w fun e w' => e = .returned (.bool (letP b)) ∧ w' = w := by
  have key : ∀ x : Bool, letP b = x → Calls Try.prog 97 #[.int .u8 (b : Nat)] w fun e w' => e = .returned (.bool x) ∧ w' = w := by
    intro x hx
    by_cases h1 : 97 ≤ b
    · have g1 : (97 : Int) ≤ (b : Int) := by omega
      by_cases h2 : b ≤ 122
      · have g2 : (b : Int) ≤ 122 := by omega
        have e : x = true := by rw [← hx]; unfold letP; simp [h1, h2]
        subst e
        clear hx
        go_enter Try.func97, Try.ntmps97
        go_wp2
        go_ret
        exact ⟨rfl, rfl⟩
      · have g2 : ¬ (b : Int) ≤ 122 := by omega
        have g3 : (65 : Int) ≤ (b : Int) := by omega
        have g4 : ¬ (b : Int) ≤ 90 := by omega
        have e : x = false := by rw [← hx]; unfold letP; simp; omega
        subst e
        clear hx
        go_enter Try.func97, Try.ntmps97
        go_wp2
        go_ret
        exact ⟨rfl, rfl⟩
    · have g1 : ¬ (97 : Int) ≤ (b : Int) := by omega
      by_cases h2 : 65 ≤ b
      · have g2 : (65 : Int) ≤ (b : Int) := by omega
        by_cases h3 : b ≤ 90
        · have g3 : (b : Int) ≤ 90 := by omega
          have e : x = true := by rw [← hx]; unfold letP; simp [h2, h3]
          subst e
          clear hx
          go_enter Try.func97, Try.ntmps97
          go_wp2
          go_ret
          exact ⟨rfl, rfl⟩
        · have g3 : ¬ (b : Int) ≤ 90 := by omega
          have e : x = false := by rw [← hx]; unfold letP; simp; omega
          subst e
          clear hx
          go_enter Try.func97, Try.ntmps97
          go_wp2
          go_ret
          exact ⟨rfl, rfl⟩
      · have g2 : ¬ (65 : Int) ≤ (b : Int) := by omega
        have e : x = false := by rw [← hx]; unfold letP; simp; omega
        subst e
        clear hx
        go_enter Try.func97, Try.ntmps97
        go_wp2
        go_ret
        exact ⟨rfl, rfl⟩
  exact key _ rfl
set_option maxHeartbeats 400000 in
theorem mayRepeat_any (l m : Int) (w : World) : Calls Try.prog 64 #[.int .i64 l, .int .i64 m] w fun e w' => e = .returned (.bool (repP l m)) ∧ w' = w := by
  have key : ∀ x : Bool, repP l m = x → Calls Try.prog 64 #[.int .i64 l, .int .i64 m] w fun e w' => e = .returned (.bool x) ∧ w' = w := by
    intro x hx
    by_cases hm : m = -1
    · subst hm
      by_cases h0 : 0 ≤ l
      · by_cases h1 : l ≤ 1000
        · have e : x = true := by rw [← hx]; unfold repP; simp [h0, h1]
          subst e
          clear hx
          go_enter Try.func64, Try.ntmps64
          go_wp2
          go_ret
          exact ⟨rfl, rfl⟩
        · have e : x = false := by rw [← hx]; unfold repP; simp [h1]
          subst e
          clear hx
          go_enter Try.func64, Try.ntmps64
          go_wp2
          go_ret
          exact ⟨rfl, rfl⟩
      · have e : x = false := by rw [← hx]; unfold repP; simp [h0]
        subst e
        clear hx
        go_enter Try.func64, Try.ntmps64
        go_wp2
        go_ret
        exact ⟨rfl, rfl⟩
    · have hb : (m == -1) = false := by simpa using hm
      by_cases h0 : 0 ≤ l
      · by_cases h1 : l ≤ m
        · have e : decide (m ≤ 1000) = x := by rw [← hx]; unfold repP; simp [h0, h1, hm]
          clear hx
          go_enter Try.func64, Try.ntmps64
          go_wp2
          go_ret
          exact ⟨rfl, rfl⟩
        · have e : x = false := by rw [← hx]; unfold repP; simp [h1, hm]
          subst e
          clear hx
          go_enter Try.func64, Try.ntmps64
          go_wp2
          go_ret
          exact ⟨rfl, rfl⟩
      · have e : x = false := by rw [← hx]; unfold repP; simp [h0]
        subst e
        clear hx
        go_enter Try.func64, Try.ntmps64
        go_wp2
        go_ret
        exact ⟨rfl, rfl⟩
  exact key _ rfl
end Go.Proofs.Ytlmmiicibjfcdaa
namespace Go.Proofs.Ytlmmiicibjfcdaa
open Go.RowKit
set_option maxHeartbeats 400000 in
theorem hexDigit_any (b : Nat) (w : World) (hb : b < 256) : Calls Try.prog 117 #[.int .u8 (b : Nat)] w fun e w' => e = .returned (.tuple #[.int .u8 ((hexP b).1 : Nat), .bool (hexP b).2]) ∧ w' = w := by
  have hd := fun W => isDigit_any b W
  cases h0 : digP b with
  | true =>
    have h48 : 48 ≤ b := by unfold digP at h0; simp at h0; omega
    have e : hexP b = (b - 48, true) := by unfold hexP; rw [h0]; rfl
    have en : ((b - 48 : Nat) : Int) = (b : Int) - 48 := by omega
    rw [h0] at hd
    rw [e]
    have g1 : (48 : Int) ≤ (b : Int) := by omega
    have g2 : (b : Int) < 256 := by omega
    clear e h0
    go_enter Try.func117, Try.ntmps117
    go_wp2_with (go_at_call 98; refine (hd _).mono ?_; rintro e w' ⟨rfl, rfl⟩)
    exact bodyPost_ret (v := .tuple #[.int .u8 ((b : Int) - 48), .bool true]) (by simp [results, Try.results117, go_sem]) rfl ⟨by rw [en], rfl⟩
  | false =>
    rw [h0] at hd
    by_cases h1 : 97 ≤ b ∧ b ≤ 102
    · have e : hexP b = (b - 87, true) := by unfold hexP; rw [h0]; simp [h1]
      have en : ((b - 87 : Nat) : Int) = (b : Int) - 97 + 10 := by omega
      rw [e]
      have g1 : (97 : Int) ≤ (b : Int) := by omega
      have g2 : (b : Int) ≤ 102 := by omega
      clear e h0
      go_enter Try.func117, Try.ntmps117
      go_wp2_with (go_at_call 98; refine (hd _).mono ?_; rintro e w' ⟨rfl, rfl⟩)
      exact bodyPost_ret (v := .tuple #[.int .u8 ((b : Int) - 97 + 10), .bool true]) (by simp [results, Try.results117, go_sem]) rfl ⟨by rw [en], rfl⟩
    · by_cases h2 : 65 ≤ b ∧ b ≤ 70
      · have e : hexP b = (b - 55, true) := by unfold hexP; rw [h0]; simp [h2]; omega
        have en : ((b - 55 : Nat) : Int) = (b : Int) - 65 + 10 := by omega
        rw [e]
        have g1 : ¬ (97 : Int) ≤ (b : Int) := by omega
        have g2 : (65 : Int) ≤ (b : Int) := by omega
        have g3 : (b : Int) ≤ 70 := by omega
        clear e h0
        go_enter Try.func117, Try.ntmps117
        go_wp2_with (go_at_call 98; refine (hd _).mono ?_; rintro e w' ⟨rfl, rfl⟩)
        exact bodyPost_ret (v := .tuple #[.int .u8 ((b : Int) - 65 + 10), .bool true]) (by simp [results, Try.results117, go_sem]) rfl ⟨rfl, rfl⟩
      · have e : hexP b = (0, false) := by
          unfold hexP
          rw [h0]
          have e1 : (decide (97 ≤ b) && decide (b ≤ 102)) = false := by simp; omega
          have e2 : (decide (65 ≤ b) && decide (b ≤ 70)) = false := by simp; omega
          rw [e1, e2]; rfl
        rw [e]
        clear e h0
        by_cases g1 : (97 : Int) ≤ (b : Int)
        · have g2 : ¬ (b : Int) ≤ 102 := by omega
          have g3 : (65 : Int) ≤ (b : Int) := by omega
          have g4 : ¬ (b : Int) ≤ 70 := by omega
          go_enter Try.func117, Try.ntmps117
          go_wp2_with (go_at_call 98; refine (hd _).mono ?_; rintro e w' ⟨rfl, rfl⟩)
          exact bodyPost_ret (v := .tuple #[.int .u8 0, .bool false]) (by simp [results, Try.results117, go_sem]) rfl ⟨rfl, rfl⟩
        · by_cases g3 : (65 : Int) ≤ (b : Int)
          · have g4 : ¬ (b : Int) ≤ 70 := by omega
            go_enter Try.func117, Try.ntmps117
            go_wp2_with (go_at_call 98; refine (hd _).mono ?_; rintro e w' ⟨rfl, rfl⟩)
            exact bodyPost_ret (v := .tuple #[.int .u8 0, .bool false]) (by simp [results, Try.results117, go_sem]) rfl ⟨rfl, rfl⟩
          · go_enter Try.func117, Try.ntmps117
            go_wp2_with (go_at_call 98; refine (hd _).mono ?_; rintro e w' ⟨rfl, rfl⟩)
            exact bodyPost_ret (v := .tuple #[.int .u8 0, .bool false]) (by simp [results, Try.results117, go_sem]) rfl ⟨rfl, rfl⟩
theorem hexP_lt (b : Nat) : (hexP b).1 < 16 := by
  unfold hexP digP
  split
  · rename_i h; simp at h; show b - 48 < 16; omega
  · split
    · rename_i h; simp at h; show b - 87 < 16; omega
    · split
      · rename_i h; simp at h; show b - 55 < 16; omega
      · decide
/-- The byte of two digits of sixteen at a place, and whether they are digits. -/
def hexV (z : Nat → Nat) (n at_ : Nat) : Nat × Bool := if at_ + 2 ≤ n then ((hexP (z at_)).1 * 16 ||| (hexP (z (at_ + 1))).1, (hexP (z at_)).2 && (hexP (z (at_ + 1))).2) else (0, false)
set_option maxHeartbeats 400000 in
theorem hex_any (ao : Option Addr) (n cap at_ : Nat) (z : Nat → Nat) (w : World) (hr : Rd w ao n z) (hn : (n : Int) ≤ 1024) (ha : (at_ : Int) ≤ 2048) : Calls Try.prog 96 #[.slice ao n cap, .int .i64 (at_ : Nat)] w fun e w' => e = .returned (.tuple #[.int .u8 ((hexV z n at_).1 : Nat), .bool (hexV z n at_).2]) ∧ w' = w := by
  by_cases h : at_ + 2 ≤ n
  · obtain ⟨bb, off, rfl, hbb, hc⟩ := hr.at_ (by omega)
    have t1 := hc at_ (by omega)
    have t2 := hc (at_ + 1) (by omega)
    have s1 := hr.small at_ (by omega)
    have s2 := hr.small (at_ + 1) (by omega)
    have e : hexV z n at_ = ((hexP (z at_)).1 * 16 ||| (hexP (z (at_ + 1))).1, (hexP (z at_)).2 && (hexP (z (at_ + 1))).2) := by unfold hexV; rw [if_pos h]
    rw [e]
    have d1 := fun W => hexDigit_any (z at_) W s1
    have d2 := fun W => hexDigit_any (z (at_ + 1)) W s2
    have l1 := hexP_lt (z at_)
    have l2 := hexP_lt (z (at_ + 1))
    generalize (hexP (z at_)).1 = x at *
    generalize (hexP (z at_)).2 = bx at *
    generalize (hexP (z (at_ + 1))).1 = y at *
    generalize (hexP (z (at_ + 1))).2 = b_y at *
    generalize z at_ = p at *
    generalize z (at_ + 1) = q at *
    have D1 : Hid (∀ W, Calls Try.prog 117 #[.int .u8 (p : Nat)] W fun e w' => e = .returned (.tuple #[.int .u8 (x : Nat), .bool bx]) ∧ w' = W) := d1
    have D2 : Hid (∀ W, Calls Try.prog 117 #[.int .u8 (q : Nat)] W fun e w' => e = .returned (.tuple #[.int .u8 (y : Nat), .bool b_y]) ∧ w' = W) := d2
    have i1 : (at_ : Int) < (n : Int) := by omega
    have i2 : (at_ : Int) + 1 < (n : Int) := by omega
    have i3 : (at_ : Int) + 2 ≤ (n : Int) := by omega
    have ob : bits BinOp.or IntKind.u8 ((x : Int) * 16) (y : Int) = ((x * 16 ||| y : Nat) : Int) := by
      rw [show (x : Int) * 16 = ((x * 16 : Nat) : Int) by omega, u8_or_nat _ _ (by omega) (by omega)]
    clear e d1 d2 hc h hr
    go_enter Try.func96, Try.ntmps96
    go_wp2_with fail
    refine (D1.out _).mono ?_
    rintro e w1 ⟨rfl, rfl⟩
    go_wp2_with fail
    refine (D2.out _).mono ?_
    rintro e w2 ⟨rfl, rfl⟩
    cases bx with
    | true =>
      go_wp2
      exact bodyPost_ret (v := .tuple #[.int .u8 ((x * 16 ||| y : Nat) : Int), .bool b_y]) (by simp [results, Try.results96, go_sem]) rfl ⟨by simp, rfl⟩
    | false =>
      go_wp2
      exact bodyPost_ret (v := .tuple #[.int .u8 ((x * 16 ||| y : Nat) : Int), .bool false]) (by simp [results, Try.results96, go_sem]) rfl ⟨by simp, rfl⟩
  · have e : hexV z n at_ = (0, false) := by unfold hexV; rw [if_neg h]
    rw [e]
    have i3 : (n : Int) < (at_ : Int) + 2 := by omega
    clear e
    go_enter Try.func96, Try.ntmps96
    go_wp2
    exact bodyPost_ret (v := .tuple #[.int .u8 0, .bool false]) (by simp [results, Try.results96, go_sem]) rfl ⟨rfl, rfl⟩
/-- Whether a dash at a place makes a range of the unit ahead of it. -/
def dashP (z : Nat → Nat) (n at_ : Nat) : Bool := hasP z n at_ 45 && decide (at_ + 1 < n) && !(z (at_ + 1) == 93)
set_option maxHeartbeats 400000 in
theorem isDash_any (ao : Option Addr) (n cap at_ : Nat) (z : Nat → Nat) (w : World) (hr : Rd w ao n z) (hn : (n : Int) ≤ 1024) (ha : (at_ : Int) ≤ 2048) : Calls Try.prog 119 #[.slice ao n cap, .int .i64 (at_ : Nat)] w fun e w' => e = .returned (.bool (dashP z n at_)) ∧ w' = w := by
  have hh : ∀ W, Rd W ao n z → Calls Try.prog 99 #[.slice ao n cap, .int .i64 (at_ : Nat), .int .u8 45] W fun e w' => e = .returned (.bool (hasP z n at_ 45)) ∧ w' = W := fun W h => has_any ao n cap at_ 45 z W h
  cases h0 : hasP z n at_ 45 with
  | false =>
    have e : dashP z n at_ = false := by unfold dashP; rw [h0]; rfl
    rw [e]
    rw [h0] at hh
    go_enter Try.func119, Try.ntmps119
    go_wp2_with (go_at_call 99; refine (hh _ hr).mono ?_; rintro e w' ⟨rfl, rfl⟩)
    go_ret
    exact ⟨rfl, rfl⟩
  | true =>
    rw [h0] at hh
    have h1 : at_ < n := by unfold hasP at h0; simp at h0; omega
    by_cases h2 : at_ + 1 < n
    · obtain ⟨bb, off, rfl, hbb, hc⟩ := hr.at_ (by omega)
      have t := hc (at_ + 1) h2
      have e : dashP z n at_ = !(z (at_ + 1) == 93) := by unfold dashP; rw [h0, decide_eq_true h2]; rfl
      rw [e]
      have i2 : (at_ : Int) + 1 < (n : Int) := by omega
      have en : (((z (at_ + 1) : Nat) : Int) != 93) = !(z (at_ + 1) == 93) := by
        rw [Bool.eq_iff_iff]; simp; omega
      have EN : Hid ((((z (at_ + 1) : Nat) : Int) != 93) = !(z (at_ + 1) == 93)) := en
      generalize z (at_ + 1) = q at *
      have HR := Hid.out (p := Rd w (some ⟨bb, off, none⟩) n z) hr
      clear hc e en
      go_enter Try.func119, Try.ntmps119
      go_wp2_with (go_at_call 99; refine (hh _ HR).mono ?_; rintro e w' ⟨rfl, rfl⟩)
      go_ret
      exact ⟨by rw [← EN.out]; rfl, rfl⟩
    · have e : dashP z n at_ = false := by unfold dashP; rw [decide_eq_false h2]; simp
      rw [e]
      have i2 : ¬ (at_ : Int) + 1 < (n : Int) := by omega
      go_enter Try.func119, Try.ntmps119
      go_wp2_with (go_at_call 99; refine (hh _ hr).mono ?_; rintro e w' ⟨rfl, rfl⟩)
      go_ret
      exact ⟨rfl, rfl⟩
end Go.Proofs.Ytlmmiicibjfcdaa
namespace Go.Proofs.Ytlmmiicibjfcdaa
open Go.RowKit
/-- The number at a place, as far as it is read, and the place behind it. -/
def numG (z : Nat → Nat) (n : Nat) : Nat → Nat → Nat → Nat × Nat
  | 0, k, v => (v, k)
  | f + 1, k, v => if (decide (k < n) && digP (z k) && decide (v ≤ 1000)) = true then numG z n f (k + 1) (v * 10 + (z k - 48)) else (v, k)
def numR (z : Nat → Nat) (n k : Nat) : Nat × Nat := numG z n (n - k) k 0
/-- Whether it is a number that a count may have. -/
def numOk (z : Nat → Nat) (n k : Nat) : Bool := decide (k < (numR z n k).2) && decide ((numR z n k).1 ≤ 1000) && !(decide (k + 1 < (numR z n k).2) && (z k == 48))
theorem numG_go {z : Nat → Nat} {n k v : Nat} (hk : k < n) (hd : digP (z k) = true) (hv : v ≤ 1000) : numG z n (n - k) k v = numG z n (n - (k + 1)) (k + 1) (v * 10 + (z k - 48)) := by
  obtain ⟨f, hf⟩ : ∃ f, n - k = f + 1 := ⟨n - k - 1, by omega⟩
  rw [hf, numG, if_pos (by simp [hk, hd, hv]), show n - (k + 1) = f by omega]
theorem numG_end {z : Nat → Nat} {n k v : Nat} (h : (decide (k < n) && digP (z k) && decide (v ≤ 1000)) = false) : numG z n (n - k) k v = (v, k) := by
  cases hf : n - k with
  | zero => rfl
  | succ f => rw [numG, if_neg (by rw [h]; decide)]
set_option maxHeartbeats 1000000 in
theorem knumber_any (ao : Option Addr) (n cap fr : Nat) (z : Nat → Nat) (w : World) (hr : Rd w ao n z) (hn : (n : Int) ≤ 1024) (hf : fr ≤ n) : Calls Try.prog 122 #[.slice ao n cap, .int .i64 (fr : Nat)] w fun e w' => e = .returned (.tuple #[.int .i64 ((numR z n fr).1 : Nat), .int .i64 ((numR z n fr).2 : Nat), .bool (numOk z n fr)]) ∧ w' = w := by
  go_enter Try.func122, Try.ntmps122
  go_wp2_with fail
  go_loopw [7, 8] (fun c i wr => ∃ k v : Nat, fr ≤ k ∧ k ≤ n ∧ i = .int .i64 k ∧ c = .int .i64 v ∧ v ≤ 10009 ∧ numG z n (n - k) k v = numR z n fr ∧ wr = w) (fun _ i _ => n - (intOf i).toNat)
  case atStart => exact ⟨fr, 0, Nat.le_refl _, hf, rfl, rfl, by omega, rfl, rfl⟩
  case round =>
    obtain ⟨k, v, h1, h2, rfl, rfl, hv, hg, rfl⟩ := hrel
    have k0 : (0 : Int) ≤ (k : Int) := by omega
    by_cases hlt : k < n
    · have hki : (k : Int) < (n : Int) := by omega
      obtain ⟨bb, off, rfl, hbb, hc⟩ := hr.at_ (by omega)
      have t := hc k hlt
      have hsm := hr.small k hlt
      have hd := fun W => isDigit_any (z k) W
      clear hc
      cases hq : digP (z k) with
      | true =>
        rw [hq] at hd
        by_cases hv1 : v ≤ 1000
        · have hstep := numG_go hlt hq hv1
          rw [hg] at hstep
          have h48 : 48 ≤ z k ∧ z k ≤ 57 := by unfold digP at hq; simp at hq; omega
          have HS : Hid (numG z n (n - (k + 1)) (k + 1) (v * 10 + (z k - 48)) = numR z n fr) := hstep.symm
          have hvi : (v : Int) ≤ 1000 := by omega
          generalize z k = q at *
          have hq1 : (48 : Int) ≤ (q : Int) := by omega
          have hq2 : (q : Int) ≤ 57 := by omega
          have hcv : ∀ W, (convert 5 3 (.int .u8 ((q : Int) - 48))).run Try.prog W = .ok (.int .i64 ((q : Int) - 48)) W := fun W => by
            have hk : Try.prog.intKind 3 = .i64 := by kernel_rfl
            rw [run_convert_int W 5 3 .u8 _ (by rw [Try.underlying5]; rfl) (by rw [hk]; exact Try.underlying3), hk, show IntKind.i64.wrap ((q : Int) - 48) = (q : Int) - 48 by rw [IntKind.wrap_i64]; omega]
          clear hq hstep hg
          go_wp2_with (go_at_call 98; refine (hd _).mono ?_; rintro e w' ⟨rfl, rfl⟩)
          go_roundw
          case rel => exact ⟨k + 1, v * 10 + (q - 48), by omega, by omega, by go_num, by congr 1; omega, by omega, HS.out, (by first | trivial | rfl)⟩
          case measure => simp [intOf]; omega
        · have hend : (decide (k < n) && digP (z k) && decide (v ≤ 1000)) = false := by rw [decide_eq_false hv1]; simp
          have hR : numR z n fr = (v, k) := by rw [← hg, numG_end hend]
          have HK : Hid (∀ x : Bool, numOk z n fr = x → (Ending.returned (Value.tuple #[.int .i64 (v : Nat), .int .i64 (k : Nat), .bool x]) = .returned (.tuple #[.int .i64 ((numR z n fr).1 : Nat), .int .i64 ((numR z n fr).2 : Nat), .bool (numOk z n fr)]))) := fun x hx => by rw [hx, hR]
          have HO : Hid (numOk z n fr = (decide (fr < k) && decide (v ≤ 1000) && !(decide (fr + 1 < k) && (z fr == 48)))) := by
            show numOk z n fr = _
            unfold numOk; rw [hR]
          clear hR hg hend
          by_cases g1 : fr + 1 < k
          · obtain ⟨b0, o0, e0, _, c0⟩ := hr.at_ (by omega)
            first | (injection e0 with e0; injection e0 with e1 e2; subst e1 e2) | subst e0
            have t0 := c0 fr (by omega)
            have j1 : (fr : Int) + 1 < (k : Int) := by omega
            have j2 : (fr : Int) < (k : Int) := by omega
            have j3 : (fr : Int) < (n : Int) := by omega
            have d1 : decide (fr < k) = true := by simp; omega
            have d2 : decide (fr + 1 < k) = true := by simp; omega
            clear c0
            by_cases g2 : v ≤ 1000
            · exact absurd g2 hv1
            · have j4 : ¬ (v : Int) ≤ 1000 := by omega
              have HX : Hid (numOk z n fr = false) := by show numOk z n fr = false; rw [HO.out, decide_eq_false g2]; simp
              clear HO d1 d2
              go_wp2_with (go_at_call 98; refine (hd _).mono ?_; rintro e w' ⟨rfl, rfl⟩)
              exact bodyPost_ret (v := .tuple #[.int .i64 (v : Nat), .int .i64 (k : Nat), .bool false]) (by simp [results, Try.results122, go_sem]) rfl ⟨HK.out _ HX.out, rfl⟩
          · have j1 : ¬ (fr : Int) + 1 < (k : Int) := by omega
            have d2 : decide (fr + 1 < k) = false := by simp; omega
            by_cases g2 : fr < k
            · have j2 : (fr : Int) < (k : Int) := by omega
              have d1 : decide (fr < k) = true := by simp; omega
              by_cases g3 : v ≤ 1000
              · exact absurd g3 hv1
              · have j4 : ¬ (v : Int) ≤ 1000 := by omega
                have HX : Hid (numOk z n fr = false) := by show numOk z n fr = false; rw [HO.out, decide_eq_false g3]; simp
                clear HO d1 d2
                go_wp2_with (go_at_call 98; refine (hd _).mono ?_; rintro e w' ⟨rfl, rfl⟩)
                exact bodyPost_ret (v := .tuple #[.int .i64 (v : Nat), .int .i64 (k : Nat), .bool false]) (by simp [results, Try.results122, go_sem]) rfl ⟨HK.out _ HX.out, rfl⟩
            · have j2 : ¬ (fr : Int) < (k : Int) := by omega
              have HX : Hid (numOk z n fr = false) := by show numOk z n fr = false; rw [HO.out, decide_eq_false g2]; simp
              clear HO d2
              go_wp2_with (go_at_call 98; refine (hd _).mono ?_; rintro e w' ⟨rfl, rfl⟩)
              exact bodyPost_ret (v := .tuple #[.int .i64 (v : Nat), .int .i64 (k : Nat), .bool false]) (by simp [results, Try.results122, go_sem]) rfl ⟨HK.out _ HX.out, rfl⟩
      | false =>
        rw [hq] at hd
        have hend : (decide (k < n) && digP (z k) && decide (v ≤ 1000)) = false := by rw [hq]; simp
        have hR : numR z n fr = (v, k) := by rw [← hg, numG_end hend]
        have HK : Hid (∀ x : Bool, numOk z n fr = x → (Ending.returned (Value.tuple #[.int .i64 (v : Nat), .int .i64 (k : Nat), .bool x]) = .returned (.tuple #[.int .i64 ((numR z n fr).1 : Nat), .int .i64 ((numR z n fr).2 : Nat), .bool (numOk z n fr)]))) := fun x hx => by rw [hx, hR]
        have HO : Hid (numOk z n fr = (decide (fr < k) && decide (v ≤ 1000) && !(decide (fr + 1 < k) && (z fr == 48)))) := by
          show numOk z n fr = _
          unfold numOk; rw [hR]
        clear hR hg hend
        by_cases g1 : fr + 1 < k
        · obtain ⟨b0, o0, e0, _, c0⟩ := hr.at_ (by omega)
          first | (injection e0 with e0; injection e0 with e1 e2; subst e1 e2) | subst e0
          have t0 := c0 fr (by omega)
          have j1 : (fr : Int) + 1 < (k : Int) := by omega
          have j2 : (fr : Int) < (k : Int) := by omega
          have j3 : (fr : Int) < (n : Int) := by omega
          have d1 : decide (fr < k) = true := by simp; omega
          have d2 : decide (fr + 1 < k) = true := by simp; omega
          clear c0
          by_cases g2 : v ≤ 1000
          · have j4 : (v : Int) ≤ 1000 := by omega
            cases g3 : (z fr == 48) with
            | true =>
              have j5 : (((z fr : Nat) : Int) == 48) = true := by simp at g3 ⊢; omega
              have HX : Hid (numOk z n fr = false) := by show numOk z n fr = false; rw [HO.out, d2, g3]; simp
              clear HO g3 d1 d2
              go_wp2_with (go_at_call 98; refine (hd _).mono ?_; rintro e w' ⟨rfl, rfl⟩)
              exact bodyPost_ret (v := .tuple #[.int .i64 (v : Nat), .int .i64 (k : Nat), .bool false]) (by simp [results, Try.results122, go_sem]) rfl ⟨HK.out _ HX.out, rfl⟩
            | false =>
              have j5 : (((z fr : Nat) : Int) == 48) = false := by simp at g3 ⊢; omega
              have HX : Hid (numOk z n fr = true) := by show numOk z n fr = true; rw [HO.out, d1, d2, g3, decide_eq_true g2]; rfl
              clear HO g3 d1 d2
              go_wp2_with (go_at_call 98; refine (hd _).mono ?_; rintro e w' ⟨rfl, rfl⟩)
              exact bodyPost_ret (v := .tuple #[.int .i64 (v : Nat), .int .i64 (k : Nat), .bool true]) (by simp [results, Try.results122, go_sem]) rfl ⟨HK.out _ HX.out, rfl⟩
          · have j4 : ¬ (v : Int) ≤ 1000 := by omega
            have HX : Hid (numOk z n fr = false) := by show numOk z n fr = false; rw [HO.out, decide_eq_false g2]; simp
            clear HO d1 d2
            go_wp2_with (go_at_call 98; refine (hd _).mono ?_; rintro e w' ⟨rfl, rfl⟩)
            exact bodyPost_ret (v := .tuple #[.int .i64 (v : Nat), .int .i64 (k : Nat), .bool false]) (by simp [results, Try.results122, go_sem]) rfl ⟨HK.out _ HX.out, rfl⟩
        · have j1 : ¬ (fr : Int) + 1 < (k : Int) := by omega
          have d2 : decide (fr + 1 < k) = false := by simp; omega
          by_cases g2 : fr < k
          · have j2 : (fr : Int) < (k : Int) := by omega
            have d1 : decide (fr < k) = true := by simp; omega
            by_cases g3 : v ≤ 1000
            · have j4 : (v : Int) ≤ 1000 := by omega
              have HX : Hid (numOk z n fr = true) := by show numOk z n fr = true; rw [HO.out, d1, d2, decide_eq_true g3]; rfl
              clear HO d1 d2
              go_wp2_with (go_at_call 98; refine (hd _).mono ?_; rintro e w' ⟨rfl, rfl⟩)
              exact bodyPost_ret (v := .tuple #[.int .i64 (v : Nat), .int .i64 (k : Nat), .bool true]) (by simp [results, Try.results122, go_sem]) rfl ⟨HK.out _ HX.out, rfl⟩
            · have j4 : ¬ (v : Int) ≤ 1000 := by omega
              have HX : Hid (numOk z n fr = false) := by show numOk z n fr = false; rw [HO.out, decide_eq_false g3]; simp
              clear HO d1 d2
              go_wp2_with (go_at_call 98; refine (hd _).mono ?_; rintro e w' ⟨rfl, rfl⟩)
              exact bodyPost_ret (v := .tuple #[.int .i64 (v : Nat), .int .i64 (k : Nat), .bool false]) (by simp [results, Try.results122, go_sem]) rfl ⟨HK.out _ HX.out, rfl⟩
          · have j2 : ¬ (fr : Int) < (k : Int) := by omega
            have HX : Hid (numOk z n fr = false) := by show numOk z n fr = false; rw [HO.out, decide_eq_false g2]; simp
            clear HO d2
            go_wp2_with (go_at_call 98; refine (hd _).mono ?_; rintro e w' ⟨rfl, rfl⟩)
            exact bodyPost_ret (v := .tuple #[.int .i64 (v : Nat), .int .i64 (k : Nat), .bool false]) (by simp [results, Try.results122, go_sem]) rfl ⟨HK.out _ HX.out, rfl⟩
    · have hki : ¬ (k : Int) < (n : Int) := by omega
      have hend : (decide (k < n) && digP (z k) && decide (v ≤ 1000)) = false := by rw [decide_eq_false hlt]; simp
      have hR : numR z n fr = (v, k) := by rw [← hg, numG_end hend]
      have HK : Hid (∀ x : Bool, numOk z n fr = x → (Ending.returned (Value.tuple #[.int .i64 (v : Nat), .int .i64 (k : Nat), .bool x]) = .returned (.tuple #[.int .i64 ((numR z n fr).1 : Nat), .int .i64 ((numR z n fr).2 : Nat), .bool (numOk z n fr)]))) := fun x hx => by rw [hx, hR]
      have HO : Hid (numOk z n fr = (decide (fr < k) && decide (v ≤ 1000) && !(decide (fr + 1 < k) && (z fr == 48)))) := by
        show numOk z n fr = _
        unfold numOk; rw [hR]
      clear hR hg hend
      by_cases g1 : fr + 1 < k
      · obtain ⟨b0, o0, e0, _, c0⟩ := hr.at_ (by omega)
        first | (injection e0 with e0; injection e0 with e1 e2; subst e1 e2) | subst e0
        have t0 := c0 fr (by omega)
        have j1 : (fr : Int) + 1 < (k : Int) := by omega
        have j2 : (fr : Int) < (k : Int) := by omega
        have j3 : (fr : Int) < (n : Int) := by omega
        have d1 : decide (fr < k) = true := by simp; omega
        have d2 : decide (fr + 1 < k) = true := by simp; omega
        clear c0
        by_cases g2 : v ≤ 1000
        · have j4 : (v : Int) ≤ 1000 := by omega
          cases g3 : (z fr == 48) with
          | true =>
            have j5 : (((z fr : Nat) : Int) == 48) = true := by simp at g3 ⊢; omega
            have HX : Hid (numOk z n fr = false) := by show numOk z n fr = false; rw [HO.out, d2, g3]; simp
            clear HO g3 d1 d2
            go_wp2
            exact bodyPost_ret (v := .tuple #[.int .i64 (v : Nat), .int .i64 (k : Nat), .bool false]) (by simp [results, Try.results122, go_sem]) rfl ⟨HK.out _ HX.out, rfl⟩
          | false =>
            have j5 : (((z fr : Nat) : Int) == 48) = false := by simp at g3 ⊢; omega
            have HX : Hid (numOk z n fr = true) := by show numOk z n fr = true; rw [HO.out, d1, d2, g3, decide_eq_true g2]; rfl
            clear HO g3 d1 d2
            go_wp2
            exact bodyPost_ret (v := .tuple #[.int .i64 (v : Nat), .int .i64 (k : Nat), .bool true]) (by simp [results, Try.results122, go_sem]) rfl ⟨HK.out _ HX.out, rfl⟩
        · have j4 : ¬ (v : Int) ≤ 1000 := by omega
          have HX : Hid (numOk z n fr = false) := by show numOk z n fr = false; rw [HO.out, decide_eq_false g2]; simp
          clear HO d1 d2
          go_wp2
          exact bodyPost_ret (v := .tuple #[.int .i64 (v : Nat), .int .i64 (k : Nat), .bool false]) (by simp [results, Try.results122, go_sem]) rfl ⟨HK.out _ HX.out, rfl⟩
      · have j1 : ¬ (fr : Int) + 1 < (k : Int) := by omega
        have d2 : decide (fr + 1 < k) = false := by simp; omega
        by_cases g2 : fr < k
        · have j2 : (fr : Int) < (k : Int) := by omega
          have d1 : decide (fr < k) = true := by simp; omega
          by_cases g3 : v ≤ 1000
          · have j4 : (v : Int) ≤ 1000 := by omega
            have HX : Hid (numOk z n fr = true) := by show numOk z n fr = true; rw [HO.out, d1, d2, decide_eq_true g3]; rfl
            clear HO d1 d2
            go_wp2
            exact bodyPost_ret (v := .tuple #[.int .i64 (v : Nat), .int .i64 (k : Nat), .bool true]) (by simp [results, Try.results122, go_sem]) rfl ⟨HK.out _ HX.out, rfl⟩
          · have j4 : ¬ (v : Int) ≤ 1000 := by omega
            have HX : Hid (numOk z n fr = false) := by show numOk z n fr = false; rw [HO.out, decide_eq_false g3]; simp
            clear HO d1 d2
            go_wp2
            exact bodyPost_ret (v := .tuple #[.int .i64 (v : Nat), .int .i64 (k : Nat), .bool false]) (by simp [results, Try.results122, go_sem]) rfl ⟨HK.out _ HX.out, rfl⟩
        · have j2 : ¬ (fr : Int) < (k : Int) := by omega
          have HX : Hid (numOk z n fr = false) := by show numOk z n fr = false; rw [HO.out, decide_eq_false g2]; simp
          clear HO d2
          go_wp2
          exact bodyPost_ret (v := .tuple #[.int .i64 (v : Nat), .int .i64 (k : Nat), .bool false]) (by simp [results, Try.results122, go_sem]) rfl ⟨HK.out _ HX.out, rfl⟩
end Go.Proofs.Ytlmmiicibjfcdaa
namespace Go.Proofs.Ytlmmiicibjfcdaa
open Go.RowKit
/-- A block of cells that may be written. -/
def Cl (w : World) (b : Nat) (t : TypeId) (vs : List Value) : Prop := w.heap[b]? = some (.cells vs.toArray t (0, 0))
section
variable {w w' : World} {b : Nat} {t : TypeId} {vs : List Value}
theorem Cl.lt (h : Cl w b t vs) : b < w.heap.size := (Array.getElem?_eq_some_iff.1 h).1
theorem Cl.new (w : World) (t : TypeId) (vs : List Value) : Cl (w.alloc (.cells vs.toArray t)) w.heap.size t vs := heap_alloc_new w _
theorem Cl.below (h : Cl w b t vs) (hb : Below w.heap.size w w') : Cl w' b t vs := by unfold Cl; rw [hb.block b h.lt]; exact h
theorem Cl.alloc (h : Cl w b t vs) (o : Obj) : Cl (w.alloc o) b t vs := h.below ((Below.refl _ _).alloc (Nat.le_refl _) o)
theorem Cl.drew (h : Cl w b t vs) : Cl w.drew b t vs := h.below (Below.refl _ _).drew
theorem Cl.cell (h : Cl w b t vs) (i : Nat) {v : Value} (hi : vs[i]? = some v) : w.cell? ⟨b, i, none⟩ = some v := by
  rw [cell_of_row w b i _ t (0, 0) h]
  simpa using hi
theorem Cl.frozen (h : Cl w b t vs) (i : Nat) : w.frozen? ⟨b, i, none⟩ = false := frozen_of_row w b i _ t h
theorem Cl.set (h : Cl w b t vs) (i : Nat) (v : Value) : Cl (w.setCell ⟨b, i, none⟩ v) b t (vs.set i v) := by
  have := heap_setCell_same w b i vs.toArray t v h
  simpa [Cl] using this
theorem Cl.other (h : Cl w b t vs) {k : Nat} (hk : k ≠ b) (i : Nat) (v : Value) : Cl (w.setCell ⟨k, i, none⟩ v) b t vs := by
  unfold Cl at *
  rw [Below.heap_setCell _ _ _ _ (Ne.symm hk)]
  exact h
/-- The eleven cells of a token. -/
theorem Cl.eleven {x0 x1 x2 x3 x4 x5 x6 x7 x8 x9 x10 : Value} (h : Cl w b t [x0, x1, x2, x3, x4, x5, x6, x7, x8, x9, x10]) :
    (w.cell? ⟨b, 0, none⟩ = some x0 ∧ w.cell? ⟨b, 1, none⟩ = some x1 ∧ w.cell? ⟨b, 2, none⟩ = some x2 ∧ w.cell? ⟨b, 3, none⟩ = some x3 ∧ w.cell? ⟨b, 4, none⟩ = some x4 ∧ w.cell? ⟨b, 5, none⟩ = some x5 ∧ w.cell? ⟨b, 6, none⟩ = some x6 ∧ w.cell? ⟨b, 7, none⟩ = some x7 ∧ w.cell? ⟨b, 8, none⟩ = some x8 ∧ w.cell? ⟨b, 9, none⟩ = some x9 ∧ w.cell? ⟨b, 10, none⟩ = some x10) ∧
    (w.frozen? ⟨b, 0, none⟩ = false ∧ w.frozen? ⟨b, 1, none⟩ = false ∧ w.frozen? ⟨b, 2, none⟩ = false ∧ w.frozen? ⟨b, 3, none⟩ = false ∧ w.frozen? ⟨b, 4, none⟩ = false ∧ w.frozen? ⟨b, 5, none⟩ = false ∧ w.frozen? ⟨b, 6, none⟩ = false ∧ w.frozen? ⟨b, 7, none⟩ = false ∧ w.frozen? ⟨b, 8, none⟩ = false ∧ w.frozen? ⟨b, 9, none⟩ = false ∧ w.frozen? ⟨b, 10, none⟩ = false) :=
  ⟨⟨h.cell 0 rfl, h.cell 1 rfl, h.cell 2 rfl, h.cell 3 rfl, h.cell 4 rfl, h.cell 5 rfl, h.cell 6 rfl, h.cell 7 rfl, h.cell 8 rfl, h.cell 9 rfl, h.cell 10 rfl⟩, h.frozen 0, h.frozen 1, h.frozen 2, h.frozen 3, h.frozen 4, h.frozen 5, h.frozen 6, h.frozen 7, h.frozen 8, h.frozen 9, h.frozen 10⟩
theorem Cl.two {x0 x1 : Value} (h : Cl w b t [x0, x1]) : (w.cell? ⟨b, 0, none⟩ = some x0 ∧ w.cell? ⟨b, 1, none⟩ = some x1) ∧ w.frozen? ⟨b, 0, none⟩ = false ∧ w.frozen? ⟨b, 1, none⟩ = false := ⟨⟨h.cell 0 rfl, h.cell 1 rfl⟩, h.frozen 0, h.frozen 1⟩
end
/-- A token, and a mark, put into their cells. -/
def put11 (w : World) (b : Nat) (x0 x1 x2 x3 x4 x5 x6 x7 x8 x9 x10 : Value) : World := ((((((((((w.setCell ⟨b, 0, none⟩ x0).setCell ⟨b, 1, none⟩ x1).setCell ⟨b, 2, none⟩ x2).setCell ⟨b, 3, none⟩ x3).setCell ⟨b, 4, none⟩ x4).setCell ⟨b, 5, none⟩ x5).setCell ⟨b, 6, none⟩ x6).setCell ⟨b, 7, none⟩ x7).setCell ⟨b, 8, none⟩ x8).setCell ⟨b, 9, none⟩ x9).setCell ⟨b, 10, none⟩ x10
def put2 (w : World) (b : Nat) (x0 x1 : Value) : World := (w.setCell ⟨b, 0, none⟩ x0).setCell ⟨b, 1, none⟩ x1
section
variable {w w' : World} {b k : Nat} {t : TypeId} {vs : List Value}
theorem Cl.put11 {y0 y1 y2 y3 y4 y5 y6 y7 y8 y9 y10 : Value} (h : Cl w b t [y0, y1, y2, y3, y4, y5, y6, y7, y8, y9, y10]) (x0 x1 x2 x3 x4 x5 x6 x7 x8 x9 x10 : Value) : Cl (put11 w b x0 x1 x2 x3 x4 x5 x6 x7 x8 x9 x10) b t [x0, x1, x2, x3, x4, x5, x6, x7, x8, x9, x10] := ((((((((((h.set 0 x0).set 1 x1).set 2 x2).set 3 x3).set 4 x4).set 5 x5).set 6 x6).set 7 x7).set 8 x8).set 9 x9).set 10 x10
theorem Cl.put2 {y0 y1 : Value} (h : Cl w b t [y0, y1]) (x0 x1 : Value) : Cl (put2 w b x0 x1) b t [x0, x1] := (h.set 0 x0).set 1 x1
theorem Cl.others11 (h : Cl w b t vs) (hk : k ≠ b) (x0 x1 x2 x3 x4 x5 x6 x7 x8 x9 x10 : Value) : Cl (Ytlmmiicibjfcdaa.put11 w k x0 x1 x2 x3 x4 x5 x6 x7 x8 x9 x10) b t vs := ((((((((((h.other hk 0 x0).other hk 1 x1).other hk 2 x2).other hk 3 x3).other hk 4 x4).other hk 5 x5).other hk 6 x6).other hk 7 x7).other hk 8 x8).other hk 9 x9).other hk 10 x10
theorem Cl.others2 (h : Cl w b t vs) (hk : k ≠ b) (x0 x1 : Value) : Cl (Ytlmmiicibjfcdaa.put2 w k x0 x1) b t vs := (h.other hk 0 x0).other hk 1 x1
theorem below_put11 {B : Nat} (h : Below B w w') (hb : B ≤ b) (x0 x1 x2 x3 x4 x5 x6 x7 x8 x9 x10 : Value) : Below B w (Ytlmmiicibjfcdaa.put11 w' b x0 x1 x2 x3 x4 x5 x6 x7 x8 x9 x10) := ((((((((((h.setCell (p := ⟨b, 0, none⟩) hb x0).setCell (p := ⟨b, 1, none⟩) hb x1).setCell (p := ⟨b, 2, none⟩) hb x2).setCell (p := ⟨b, 3, none⟩) hb x3).setCell (p := ⟨b, 4, none⟩) hb x4).setCell (p := ⟨b, 5, none⟩) hb x5).setCell (p := ⟨b, 6, none⟩) hb x6).setCell (p := ⟨b, 7, none⟩) hb x7).setCell (p := ⟨b, 8, none⟩) hb x8).setCell (p := ⟨b, 9, none⟩) hb x9).setCell (p := ⟨b, 10, none⟩) hb x10
theorem below_put2 {B : Nat} (h : Below B w w') (hb : B ≤ b) (x0 x1 : Value) : Below B w (Ytlmmiicibjfcdaa.put2 w' b x0 x1) := (h.setCell (p := ⟨b, 0, none⟩) hb x0).setCell (p := ⟨b, 1, none⟩) hb x1
end
end Go.Proofs.Ytlmmiicibjfcdaa
