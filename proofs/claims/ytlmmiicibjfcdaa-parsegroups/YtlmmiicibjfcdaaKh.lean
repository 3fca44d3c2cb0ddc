/- token: escape, but for classes: the walks. -/
import Derived.Test.YtlmmiicibjfcdaaKg
namespace Go.Proofs.Ytlmmiicibjfcdaa
open Go.RowKit
set_option maxRecDepth 10000 in
set_option maxHeartbeats 2000000 in
theorem esc_short (ao : Option Addr) (n cap at_ : Nat) (z : Nat → Nat) (w : World) (_hr : Rd w ao n z) (hn : (n : Int) ≤ 1024) (ha : at_ < n) (h : n < at_ + 2) : Calls Try.prog 84 #[.slice ao n cap, .int .i64 (at_ : Nat)] w (RetK w (tokV 0 0 0 0 0 0 false 0 0 false 0) (markV at_ 40)) := by
  have i2 : (n : Int) < (at_ : Int) + 2 := by omega
  go_enter Try.func84, Try.ntmps84
  go_wp2_with fail
  refine wp_scope_once 0 rfl ?_
  go_wp2_with fail
  go_step3
  refine And.intro rfl ?_
  go_wp2
  rw [Exit.noGoto_ret]
  exact bodyPost_ret (v := .tuple #[tokV 0 0 0 0 0 0 false 0 0 false 0, markV at_ 40]) (by simp [results, Try.results84, go_sem, tokV, markV]) rfl ⟨rfl, bel3 _ _ _ _⟩
set_option maxRecDepth 10000 in
set_option maxHeartbeats 2000000 in
theorem esc_110 (ao : Option Addr) (n cap at_ : Nat) (z : Nat → Nat) (w : World) (hr : Rd w ao n z) (hn : (n : Int) ≤ 1024) (h : at_ + 2 ≤ n) (hq : z (at_ + 1) = 110) : Calls Try.prog 84 #[.slice ao n cap, .int .i64 (at_ : Nat)] w (RetK w (tokV 1 10 0 0 0 0 false 0 0 false at_) (markV (at_ + 2) 0)) := by
  obtain ⟨bb, off, rfl, hbb, hc⟩ := hr.at_ (by omega)
  have t0 := hc (at_ + 1) (by omega)
  have i1 : (at_ : Int) + 1 < (n : Int) := by omega
  have i2 : (at_ : Int) + 2 ≤ (n : Int) := by omega
  have t1 : (((w.alloc (.cells #[.int .i64 0, .int .u8 0, .int .u64 0, .int .u64 0, .int .u64 0, .int .u64 0, .bool false, .int .i64 0, .int .i64 0, .bool false, .int .i64 0] 42)).alloc (.cells #[.int .i64 0, .int .i64 0] 96)).alloc (.cells #[.int .i64 1, .int .u8 0, .int .u64 0, .int .u64 0, .int .u64 0, .int .u64 0, .bool false, .int .i64 0, .int .i64 0, .bool false, .int .i64 (at_ : Nat)] 42)).cell? ⟨bb, off + (at_ + 1), none⟩ = some (.int .u8 (z (at_ + 1) : Nat)) := by rw [(bel3 w _ _ _).cell (p := ⟨bb, off + (at_ + 1), none⟩) hbb]; exact t0
  clear hc
  rw [hq] at t1
  clear hr t0 hq
  go_enter Try.func84, Try.ntmps84
  go_wp2_with fail
  refine wp_scope_once 0 rfl ?_
  go_wp2
  exact bodyPost_ret (v := .tuple #[tokV 1 10 0 0 0 0 false 0 0 false at_, markV (at_ + 2) 0]) (by simp [results, Try.results84, go_sem, tokV, markV]) rfl ⟨rfl, bel3 _ _ _ _⟩
set_option maxRecDepth 10000 in
set_option maxHeartbeats 2000000 in
theorem esc_114 (ao : Option Addr) (n cap at_ : Nat) (z : Nat → Nat) (w : World) (hr : Rd w ao n z) (hn : (n : Int) ≤ 1024) (h : at_ + 2 ≤ n) (hq : z (at_ + 1) = 114) : Calls Try.prog 84 #[.slice ao n cap, .int .i64 (at_ : Nat)] w (RetK w (tokV 1 13 0 0 0 0 false 0 0 false at_) (markV (at_ + 2) 0)) := by
  obtain ⟨bb, off, rfl, hbb, hc⟩ := hr.at_ (by omega)
  have t0 := hc (at_ + 1) (by omega)
  have i1 : (at_ : Int) + 1 < (n : Int) := by omega
  have i2 : (at_ : Int) + 2 ≤ (n : Int) := by omega
  have t1 : (((w.alloc (.cells #[.int .i64 0, .int .u8 0, .int .u64 0, .int .u64 0, .int .u64 0, .int .u64 0, .bool false, .int .i64 0, .int .i64 0, .bool false, .int .i64 0] 42)).alloc (.cells #[.int .i64 0, .int .i64 0] 96)).alloc (.cells #[.int .i64 1, .int .u8 0, .int .u64 0, .int .u64 0, .int .u64 0, .int .u64 0, .bool false, .int .i64 0, .int .i64 0, .bool false, .int .i64 (at_ : Nat)] 42)).cell? ⟨bb, off + (at_ + 1), none⟩ = some (.int .u8 (z (at_ + 1) : Nat)) := by rw [(bel3 w _ _ _).cell (p := ⟨bb, off + (at_ + 1), none⟩) hbb]; exact t0
  clear hc
  rw [hq] at t1
  clear hr t0 hq
  go_enter Try.func84, Try.ntmps84
  go_wp2_with fail
  refine wp_scope_once 0 rfl ?_
  go_wp2
  exact bodyPost_ret (v := .tuple #[tokV 1 13 0 0 0 0 false 0 0 false at_, markV (at_ + 2) 0]) (by simp [results, Try.results84, go_sem, tokV, markV]) rfl ⟨rfl, bel3 _ _ _ _⟩
set_option maxRecDepth 10000 in
set_option maxHeartbeats 2000000 in
theorem esc_116 (ao : Option Addr) (n cap at_ : Nat) (z : Nat → Nat) (w : World) (hr : Rd w ao n z) (hn : (n : Int) ≤ 1024) (h : at_ + 2 ≤ n) (hq : z (at_ + 1) = 116) : Calls Try.prog 84 #[.slice ao n cap, .int .i64 (at_ : Nat)] w (RetK w (tokV 1 9 0 0 0 0 false 0 0 false at_) (markV (at_ + 2) 0)) := by
  obtain ⟨bb, off, rfl, hbb, hc⟩ := hr.at_ (by omega)
  have t0 := hc (at_ + 1) (by omega)
  have i1 : (at_ : Int) + 1 < (n : Int) := by omega
  have i2 : (at_ : Int) + 2 ≤ (n : Int) := by omega
  have t1 : (((w.alloc (.cells #[.int .i64 0, .int .u8 0, .int .u64 0, .int .u64 0, .int .u64 0, .int .u64 0, .bool false, .int .i64 0, .int .i64 0, .bool false, .int .i64 0] 42)).alloc (.cells #[.int .i64 0, .int .i64 0] 96)).alloc (.cells #[.int .i64 1, .int .u8 0, .int .u64 0, .int .u64 0, .int .u64 0, .int .u64 0, .bool false, .int .i64 0, .int .i64 0, .bool false, .int .i64 (at_ : Nat)] 42)).cell? ⟨bb, off + (at_ + 1), none⟩ = some (.int .u8 (z (at_ + 1) : Nat)) := by rw [(bel3 w _ _ _).cell (p := ⟨bb, off + (at_ + 1), none⟩) hbb]; exact t0
  clear hc
  rw [hq] at t1
  clear hr t0 hq
  go_enter Try.func84, Try.ntmps84
  go_wp2_with fail
  refine wp_scope_once 0 rfl ?_
  go_wp2
  exact bodyPost_ret (v := .tuple #[tokV 1 9 0 0 0 0 false 0 0 false at_, markV (at_ + 2) 0]) (by simp [results, Try.results84, go_sem, tokV, markV]) rfl ⟨rfl, bel3 _ _ _ _⟩
set_option maxRecDepth 10000 in
set_option maxHeartbeats 2000000 in
theorem esc_hex (ao : Option Addr) (n cap at_ : Nat) (z : Nat → Nat) (w : World) (hr : Rd w ao n z) (hn : (n : Int) ≤ 1024) (h : at_ + 2 ≤ n) (hq : z (at_ + 1) = 120) (v : Nat) (hv : hexV z n (at_ + 2) = (v, true)) : Calls Try.prog 84 #[.slice ao n cap, .int .i64 (at_ : Nat)] w (RetK w (tokV 1 v 0 0 0 0 false 0 0 false at_) (markV (at_ + 4) 0)) := by
  obtain ⟨bb, off, rfl, hbb, hc⟩ := hr.at_ (by omega)
  have t0 := hc (at_ + 1) (by omega)
  have i1 : (at_ : Int) + 1 < (n : Int) := by omega
  have i2 : (at_ : Int) + 2 ≤ (n : Int) := by omega
  have t1 : (((w.alloc (.cells #[.int .i64 0, .int .u8 0, .int .u64 0, .int .u64 0, .int .u64 0, .int .u64 0, .bool false, .int .i64 0, .int .i64 0, .bool false, .int .i64 0] 42)).alloc (.cells #[.int .i64 0, .int .i64 0] 96)).alloc (.cells #[.int .i64 1, .int .u8 0, .int .u64 0, .int .u64 0, .int .u64 0, .int .u64 0, .bool false, .int .i64 0, .int .i64 0, .bool false, .int .i64 (at_ : Nat)] 42)).cell? ⟨bb, off + (at_ + 1), none⟩ = some (.int .u8 (z (at_ + 1) : Nat)) := by rw [(bel3 w _ _ _).cell (p := ⟨bb, off + (at_ + 1), none⟩) hbb]; exact t0
  clear hc
  rw [hq] at t1
  have HH : Hid (∀ W, Below w.heap.size w W → Calls Try.prog 96 #[.slice (some ⟨bb, off, none⟩) n cap, .int .i64 ((at_ : Int) + 2)] W fun e w' => e = .returned (.tuple #[.int .u8 (v : Nat), .bool true]) ∧ w' = W) := fun W hb => by
    have := hex_any (some ⟨bb, off, none⟩) n cap (at_ + 2) z W (hr.below hb) hn (by omega)
    rw [hv] at this
    exact this
  clear hr t0 hq hv
  go_enter Try.func84, Try.ntmps84
  go_wp2_with fail
  refine wp_scope_once 0 rfl ?_
  go_wp2_with fail
  refine (HH.out _ (bel3 _ _ _ _)).mono ?_
  rintro e w1 ⟨rfl, rfl⟩
  go_wp2
  exact bodyPost_ret (v := .tuple #[tokV 1 v 0 0 0 0 false 0 0 false at_, markV (at_ + 4) 0]) (by simp [results, Try.results84, go_sem, tokV, markV]; omega) rfl ⟨rfl, bel3 _ _ _ _⟩
set_option maxRecDepth 10000 in
set_option maxHeartbeats 2000000 in
theorem esc_nohex (ao : Option Addr) (n cap at_ : Nat) (z : Nat → Nat) (w : World) (hr : Rd w ao n z) (hn : (n : Int) ≤ 1024) (h : at_ + 2 ≤ n) (hq : z (at_ + 1) = 120) (v : Nat) (hv : hexV z n (at_ + 2) = (v, false)) : Calls Try.prog 84 #[.slice ao n cap, .int .i64 (at_ : Nat)] w (RetK w (tokV 0 0 0 0 0 0 false 0 0 false 0) (markV at_ 40)) := by
  obtain ⟨bb, off, rfl, hbb, hc⟩ := hr.at_ (by omega)
  have t0 := hc (at_ + 1) (by omega)
  have i1 : (at_ : Int) + 1 < (n : Int) := by omega
  have i2 : (at_ : Int) + 2 ≤ (n : Int) := by omega
  have t1 : (((w.alloc (.cells #[.int .i64 0, .int .u8 0, .int .u64 0, .int .u64 0, .int .u64 0, .int .u64 0, .bool false, .int .i64 0, .int .i64 0, .bool false, .int .i64 0] 42)).alloc (.cells #[.int .i64 0, .int .i64 0] 96)).alloc (.cells #[.int .i64 1, .int .u8 0, .int .u64 0, .int .u64 0, .int .u64 0, .int .u64 0, .bool false, .int .i64 0, .int .i64 0, .bool false, .int .i64 (at_ : Nat)] 42)).cell? ⟨bb, off + (at_ + 1), none⟩ = some (.int .u8 (z (at_ + 1) : Nat)) := by rw [(bel3 w _ _ _).cell (p := ⟨bb, off + (at_ + 1), none⟩) hbb]; exact t0
  clear hc
  rw [hq] at t1
  have HH : Hid (∀ W, Below w.heap.size w W → Calls Try.prog 96 #[.slice (some ⟨bb, off, none⟩) n cap, .int .i64 ((at_ : Int) + 2)] W fun e w' => e = .returned (.tuple #[.int .u8 (v : Nat), .bool false]) ∧ w' = W) := fun W hb => by
    have := hex_any (some ⟨bb, off, none⟩) n cap (at_ + 2) z W (hr.below hb) hn (by omega)
    rw [hv] at this
    exact this
  clear hr t0 hq hv
  go_enter Try.func84, Try.ntmps84
  go_wp2_with fail
  refine wp_scope_once 0 rfl ?_
  go_wp2_with fail
  refine (HH.out _ (bel3 _ _ _ _)).mono ?_
  rintro e w1 ⟨rfl, rfl⟩
  go_wp2_with fail
  go_step3
  go_wp2
  exact bodyPost_ret (v := .tuple #[tokV 0 0 0 0 0 0 false 0 0 false 0, markV at_ 40]) (by simp [results, Try.results84, go_sem, tokV, markV]) rfl ⟨rfl, bel3 _ _ _ _⟩
set_option maxRecDepth 10000 in
set_option maxHeartbeats 2000000 in
theorem esc_letter (ao : Option Addr) (n cap at_ : Nat) (z : Nat → Nat) (w : World) (hr : Rd w ao n z) (hn : (n : Int) ≤ 1024) (h : at_ + 2 ≤ n) (q : Nat) (hq : z (at_ + 1) = q) (hne : q ≠ 100 ∧ q ≠ 119 ∧ q ≠ 115 ∧ q ≠ 68 ∧ q ≠ 87 ∧ q ≠ 83 ∧ q ≠ 110 ∧ q ≠ 114 ∧ q ≠ 116 ∧ q ≠ 120) (hl : letP q = true) : Calls Try.prog 84 #[.slice ao n cap, .int .i64 (at_ : Nat)] w (RetK w (tokV 0 0 0 0 0 0 false 0 0 false 0) (markV at_ 40)) := by
  obtain ⟨bb, off, rfl, hbb, hc⟩ := hr.at_ (by omega)
  have t0 := hc (at_ + 1) (by omega)
  have i1 : (at_ : Int) + 1 < (n : Int) := by omega
  have i2 : (at_ : Int) + 2 ≤ (n : Int) := by omega
  have t1 : (((w.alloc (.cells #[.int .i64 0, .int .u8 0, .int .u64 0, .int .u64 0, .int .u64 0, .int .u64 0, .bool false, .int .i64 0, .int .i64 0, .bool false, .int .i64 0] 42)).alloc (.cells #[.int .i64 0, .int .i64 0] 96)).alloc (.cells #[.int .i64 1, .int .u8 0, .int .u64 0, .int .u64 0, .int .u64 0, .int .u64 0, .bool false, .int .i64 0, .int .i64 0, .bool false, .int .i64 (at_ : Nat)] 42)).cell? ⟨bb, off + (at_ + 1), none⟩ = some (.int .u8 (z (at_ + 1) : Nat)) := by rw [(bel3 w _ _ _).cell (p := ⟨bb, off + (at_ + 1), none⟩) hbb]; exact t0
  clear hc
  rw [hq] at t1
  have e100 : ((q : Int) == 100) = false := by simp; omega
  have e119 : ((q : Int) == 119) = false := by simp; omega
  have e115 : ((q : Int) == 115) = false := by simp; omega
  have e68 : ((q : Int) == 68) = false := by simp; omega
  have e87 : ((q : Int) == 87) = false := by simp; omega
  have e83 : ((q : Int) == 83) = false := by simp; omega
  have e110 : ((q : Int) == 110) = false := by simp; omega
  have e114 : ((q : Int) == 114) = false := by simp; omega
  have e116 : ((q : Int) == 116) = false := by simp; omega
  have e120 : ((q : Int) == 120) = false := by simp; omega
  have L1 := fun W => isLetter_any q W
  have D1 := fun W => isDigit_any q W
  rw [hl] at L1
  have HL : Hid (∀ W, Calls Try.prog 97 #[.int .u8 (q : Nat)] W fun e w' => e = .returned (.bool true) ∧ w' = W) := L1
  clear hr t0 hq hne hl L1 D1
  go_enter Try.func84, Try.ntmps84
  go_wp2_with fail
  refine wp_scope_once 0 rfl ?_
  go_wp2_with fail
  refine (HL.out _).mono ?_
  rintro e w1 ⟨rfl, rfl⟩
  go_wp2_with fail
  go_step3
  go_wp2
  exact bodyPost_ret (v := .tuple #[tokV 0 0 0 0 0 0 false 0 0 false 0, markV at_ 40]) (by simp [results, Try.results84, go_sem, tokV, markV]) rfl ⟨rfl, bel3 _ _ _ _⟩
set_option maxRecDepth 10000 in
set_option maxHeartbeats 2000000 in
theorem esc_digit (ao : Option Addr) (n cap at_ : Nat) (z : Nat → Nat) (w : World) (hr : Rd w ao n z) (hn : (n : Int) ≤ 1024) (h : at_ + 2 ≤ n) (q : Nat) (hq : z (at_ + 1) = q) (hne : q ≠ 100 ∧ q ≠ 119 ∧ q ≠ 115 ∧ q ≠ 68 ∧ q ≠ 87 ∧ q ≠ 83 ∧ q ≠ 110 ∧ q ≠ 114 ∧ q ≠ 116 ∧ q ≠ 120) (hl : letP q = false) (hd : digP q = true) : Calls Try.prog 84 #[.slice ao n cap, .int .i64 (at_ : Nat)] w (RetK w (tokV 0 0 0 0 0 0 false 0 0 false 0) (markV at_ 40)) := by
  obtain ⟨bb, off, rfl, hbb, hc⟩ := hr.at_ (by omega)
  have t0 := hc (at_ + 1) (by omega)
  have i1 : (at_ : Int) + 1 < (n : Int) := by omega
  have i2 : (at_ : Int) + 2 ≤ (n : Int) := by omega
  have t1 : (((w.alloc (.cells #[.int .i64 0, .int .u8 0, .int .u64 0, .int .u64 0, .int .u64 0, .int .u64 0, .bool false, .int .i64 0, .int .i64 0, .bool false, .int .i64 0] 42)).alloc (.cells #[.int .i64 0, .int .i64 0] 96)).alloc (.cells #[.int .i64 1, .int .u8 0, .int .u64 0, .int .u64 0, .int .u64 0, .int .u64 0, .bool false, .int .i64 0, .int .i64 0, .bool false, .int .i64 (at_ : Nat)] 42)).cell? ⟨bb, off + (at_ + 1), none⟩ = some (.int .u8 (z (at_ + 1) : Nat)) := by rw [(bel3 w _ _ _).cell (p := ⟨bb, off + (at_ + 1), none⟩) hbb]; exact t0
  clear hc
  rw [hq] at t1
  have e100 : ((q : Int) == 100) = false := by simp; omega
  have e119 : ((q : Int) == 119) = false := by simp; omega
  have e115 : ((q : Int) == 115) = false := by simp; omega
  have e68 : ((q : Int) == 68) = false := by simp; omega
  have e87 : ((q : Int) == 87) = false := by simp; omega
  have e83 : ((q : Int) == 83) = false := by simp; omega
  have e110 : ((q : Int) == 110) = false := by simp; omega
  have e114 : ((q : Int) == 114) = false := by simp; omega
  have e116 : ((q : Int) == 116) = false := by simp; omega
  have e120 : ((q : Int) == 120) = false := by simp; omega
  have L1 := fun W => isLetter_any q W
  have D1 := fun W => isDigit_any q W
  rw [hl] at L1
  rw [hd] at D1
  have HL : Hid (∀ W, Calls Try.prog 97 #[.int .u8 (q : Nat)] W fun e w' => e = .returned (.bool false) ∧ w' = W) := L1
  have HD : Hid (∀ W, Calls Try.prog 98 #[.int .u8 (q : Nat)] W fun e w' => e = .returned (.bool true) ∧ w' = W) := D1
  clear hr t0 hq hne hl hd L1 D1
  go_enter Try.func84, Try.ntmps84
  go_wp2_with fail
  refine wp_scope_once 0 rfl ?_
  go_wp2_with fail
  refine (HL.out _).mono ?_
  rintro e w1 ⟨rfl, rfl⟩
  go_wp2_with fail
  refine (HD.out _).mono ?_
  rintro e w2 ⟨rfl, rfl⟩
  go_wp2_with fail
  go_step3
  go_wp2
  exact bodyPost_ret (v := .tuple #[tokV 0 0 0 0 0 0 false 0 0 false 0, markV at_ 40]) (by simp [results, Try.results84, go_sem, tokV, markV]) rfl ⟨rfl, bel3 _ _ _ _⟩
set_option maxRecDepth 10000 in
set_option maxHeartbeats 2000000 in
theorem esc_plain (ao : Option Addr) (n cap at_ : Nat) (z : Nat → Nat) (w : World) (hr : Rd w ao n z) (hn : (n : Int) ≤ 1024) (h : at_ + 2 ≤ n) (q : Nat) (hq : z (at_ + 1) = q) (hne : q ≠ 100 ∧ q ≠ 119 ∧ q ≠ 115 ∧ q ≠ 68 ∧ q ≠ 87 ∧ q ≠ 83 ∧ q ≠ 110 ∧ q ≠ 114 ∧ q ≠ 116 ∧ q ≠ 120) (hl : letP q = false) (hd : digP q = false) : Calls Try.prog 84 #[.slice ao n cap, .int .i64 (at_ : Nat)] w (RetK w (tokV 1 q 0 0 0 0 false 0 0 false at_) (markV (at_ + 2) 0)) := by
  obtain ⟨bb, off, rfl, hbb, hc⟩ := hr.at_ (by omega)
  have t0 := hc (at_ + 1) (by omega)
  have i1 : (at_ : Int) + 1 < (n : Int) := by omega
  have i2 : (at_ : Int) + 2 ≤ (n : Int) := by omega
  have t1 : (((w.alloc (.cells #[.int .i64 0, .int .u8 0, .int .u64 0, .int .u64 0, .int .u64 0, .int .u64 0, .bool false, .int .i64 0, .int .i64 0, .bool false, .int .i64 0] 42)).alloc (.cells #[.int .i64 0, .int .i64 0] 96)).alloc (.cells #[.int .i64 1, .int .u8 0, .int .u64 0, .int .u64 0, .int .u64 0, .int .u64 0, .bool false, .int .i64 0, .int .i64 0, .bool false, .int .i64 (at_ : Nat)] 42)).cell? ⟨bb, off + (at_ + 1), none⟩ = some (.int .u8 (z (at_ + 1) : Nat)) := by rw [(bel3 w _ _ _).cell (p := ⟨bb, off + (at_ + 1), none⟩) hbb]; exact t0
  clear hc
  rw [hq] at t1
  have e100 : ((q : Int) == 100) = false := by simp; omega
  have e119 : ((q : Int) == 119) = false := by simp; omega
  have e115 : ((q : Int) == 115) = false := by simp; omega
  have e68 : ((q : Int) == 68) = false := by simp; omega
  have e87 : ((q : Int) == 87) = false := by simp; omega
  have e83 : ((q : Int) == 83) = false := by simp; omega
  have e110 : ((q : Int) == 110) = false := by simp; omega
  have e114 : ((q : Int) == 114) = false := by simp; omega
  have e116 : ((q : Int) == 116) = false := by simp; omega
  have e120 : ((q : Int) == 120) = false := by simp; omega
  have L1 := fun W => isLetter_any q W
  have D1 := fun W => isDigit_any q W
  rw [hl] at L1
  rw [hd] at D1
  have HL : Hid (∀ W, Calls Try.prog 97 #[.int .u8 (q : Nat)] W fun e w' => e = .returned (.bool false) ∧ w' = W) := L1
  have HD : Hid (∀ W, Calls Try.prog 98 #[.int .u8 (q : Nat)] W fun e w' => e = .returned (.bool false) ∧ w' = W) := D1
  clear hr t0 hq hne hl hd L1 D1
  go_enter Try.func84, Try.ntmps84
  go_wp2_with fail
  refine wp_scope_once 0 rfl ?_
  go_wp2_with fail
  refine (HL.out _).mono ?_
  rintro e w1 ⟨rfl, rfl⟩
  go_wp2_with fail
  refine (HD.out _).mono ?_
  rintro e w2 ⟨rfl, rfl⟩
  go_wp2
  exact bodyPost_ret (v := .tuple #[tokV 1 q 0 0 0 0 false 0 0 false at_, markV (at_ + 2) 0]) (by simp [results, Try.results84, go_sem, tokV, markV]) rfl ⟨rfl, bel3 _ _ _ _⟩
end Go.Proofs.Ytlmmiicibjfcdaa
