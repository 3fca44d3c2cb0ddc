/- Check and what it leans on: wordsOf, lastMask, wordAt; the walks. -/
import Derived.Test.YtehlmjjdegmnaaaDoorProg
import Derived.Test.YtehlmjjdegmnaaaDoorBase
import Derived.WalkKit
import Derived.WalkSpells
import Derived.WalkLawsBesides
import Derived.Deep.QuietTactic
import Derived.BigQuiet
namespace Go.Proofs.YtehlmjjdegmnaaaDoor
open Go.RowKit

set_option maxHeartbeats 400000 in
theorem wordsOf_any (n : Int) (w : World) (h0 : 0 ≤ n) (h1 : n ≤ 8192) :
    Calls Tryd.prog 57 #[.int .i64 n] w fun e w' => e = .returned (.int .i64 ((n + 63) / 64)) ∧ w' = w := by
  go_enter Tryd.func57, Tryd.ntmps57
  go_wp2
  go_ret
  exact ⟨rfl, rfl⟩

set_option maxHeartbeats 400000 in
theorem lastMask_any (n : Int) (w : World) (h0 : 1 ≤ n) (h1 : n ≤ 8192) :
    Calls Tryd.prog 58 #[.int .i64 n] w fun e w' => e = .returned (.int .u64 (mask n : Nat)) ∧ w' = w := by
  go_enter Tryd.func58, Tryd.ntmps58
  go_wp2
  go_ret
  exact ⟨congrArg _ (mask_eq n), rfl⟩

set_option maxHeartbeats 400000 in
theorem wordAt_in (n i : Int) (b off len cap : Nat) (x : Int) (w : World) (h0 : 0 ≤ i) (h1 : i < len)
    (hc : w.cell? ⟨b, off + i.toNat, none⟩ = some (.int .u64 x)) (hb : b < w.heap.size) :
    Calls Tryd.prog 51 #[.agg #[.int .i64 n, .slice (some ⟨b, off, none⟩) len cap], .int .i64 i] w fun e w' => e = .returned (.int .u64 x) ∧ Below w.heap.size w w' := by
  go_enter Tryd.func51, Tryd.ntmps51
  go_wp2
  go_ret
  exact ⟨rfl, (Below.refl _ _).alloc (Nat.le_refl _) _⟩

set_option maxHeartbeats 400000 in
theorem wordAt_out (n i : Int) (ao : Option Addr) (len cap : Nat) (w : World) (h0 : i < 0 ∨ len ≤ i) :
    Calls Tryd.prog 51 #[.agg #[.int .i64 n, .slice ao len cap], .int .i64 i] w fun e w' => e = .returned (.int .u64 0) ∧ Below w.heap.size w w' := by
  rcases h0 with h0 | h0
  all_goals
    go_enter Tryd.func51, Tryd.ntmps51
    go_wp2
  all_goals try omega
  all_goals
    go_ret
    exact ⟨rfl, (Below.refl _ _).alloc (Nat.le_refl _) _⟩

theorem quiet2 {P : Program} {f : FuncId} {args : Array Value} {w : World} {k n : Nat} {v : Value}
    (h : Calls P f args (w.drewN (k + n)) fun e w' => e = .returned v ∧ w' = w.drewN (k + n)) :
    Calls P f args (w.drewN (k + n)) fun e w' => e = .returned v ∧ ∃ m, w' = w.drewN (k + m) :=
  h.mono fun _ _ h => ⟨h.1, n, h.2⟩
-- Check, n < 0
set_option maxHeartbeats 400000 in
theorem check_neg (n : Int) (ao : Option Addr) (len cap : Nat) (w : World) (h0 : n < 0) :
    Calls Tryd.prog 42 #[.agg #[.int .i64 n, .slice ao len cap]] w fun e w' => e = .returned (.int .i64 10) ∧ Below w.heap.size w w' := by
  have hd : decide (n < 0) = true := by simpa using h0
  go_enter Tryd.func42, Tryd.ntmps42
  go_wp2
  go_quiet (fail)
  go_wp2
  go_ret
  exact ⟨rfl, below_drewN ((Below.refl _ _).alloc (Nat.le_refl _) _) _⟩

-- Check, n > 8192
set_option maxHeartbeats 400000 in
theorem check_big (n : Int) (ao : Option Addr) (len cap : Nat) (w : World) (h0 : 8192 < n) :
    Calls Tryd.prog 42 #[.agg #[.int .i64 n, .slice ao len cap]] w fun e w' => e = .returned (.int .i64 10) ∧ Below w.heap.size w w' := by
  have hd : decide (n < 0) = false := by simp; omega
  have hd2 : decide (8192 < n) = true := by simp; omega
  go_enter Tryd.func42, Tryd.ntmps42
  go_wp2
  go_quiet (fail)
  go_wp2
  go_ret
  exact ⟨rfl, below_drewN ((Below.refl _ _).alloc (Nat.le_refl _) _) _⟩

set_option maxHeartbeats 400000 in
theorem check_len (n : Int) (ao : Option Addr) (len cap : Nat) (w : World) (h0 : 0 ≤ n) (h1 : n ≤ 8192) (h2 : (len : Int) ≠ (n + 63) / 64) :
    Calls Tryd.prog 42 #[.agg #[.int .i64 n, .slice ao len cap]] w fun e w' => e = .returned (.int .i64 10) ∧ Below w.heap.size w w' := by
  have hd : decide (n < 0) = false := by simp; omega
  have hd2 : decide (8192 < n) = false := by simp; omega
  have hd3 : ((len : Int) != (n + 63) / 64) = true := by simpa using h2
  go_enter Tryd.func42, Tryd.ntmps42
  go_wp2
  go_quiet ((go_at_call 57; exact Calls.quiet_of_same (wordsOf_any n _ (by omega) (by omega))))
  go_wp2
  go_ret
  exact ⟨rfl, below_drewN ((Below.refl _ _).alloc (Nat.le_refl _) _) _⟩

set_option maxHeartbeats 400000 in
theorem check_zero (n : Int) (ao : Option Addr) (len cap : Nat) (w : World) (h0 : n = 0) (h2 : len = 0) :
    Calls Tryd.prog 42 #[.agg #[.int .i64 n, .slice ao len cap]] w fun e w' => e = .returned (.int .i64 0) ∧ Below w.heap.size w w' := by
  subst h0 h2
  go_enter Tryd.func42, Tryd.ntmps42
  go_wp2
  go_quiet ((go_at_call 57; exact Calls.quiet_of_same (wordsOf_any 0 _ (by omega) (by omega))))
  go_wp2
  go_quiet (fail)
  go_wp2
  go_ret
  exact ⟨rfl, below_drewN (below_drewN ((Below.refl _ _).alloc (Nat.le_refl _) _) _) _⟩


theorem wrapi64_in (n : Int) (h : -9223372036854775808 ≤ n) (h' : n ≤ 9223372036854775807) : IntKind.i64.wrap n = n := by
  simp [IntKind.wrap, IntKind.bits, IntKind.signed]; omega
set_option maxHeartbeats 400000 in
theorem check_pos (n : Int) (b off : Nat) (len m cap : Nat) (x : Nat) (w : World) (h0 : 0 < n) (h1 : n ≤ 8192) (h2 : (len : Int) = (n + 63) / 64) (hm : m + 1 = len)
    (hc : w.cell? ⟨b, off + m, none⟩ = some (.int .u64 x)) (hb : b < w.heap.size) :
    Calls Tryd.prog 42 #[.agg #[.int .i64 n, .slice (some ⟨b, off, none⟩) len cap]] w fun e w' => e = .returned (.int .i64 (if bits .andNot .u64 (x : Int) (mask n : Nat) = 0 then 0 else 10)) ∧ Below w.heap.size w w' := by
  have hl2 : (m : Int) ≤ 128 := by omega
  have hd : decide (n < 0) = false := by simp; omega
  have hd2 : decide (8192 < n) = false := by simp; omega
  have hd3 : ((len : Int) != (n + 63) / 64) = false := by simpa using h2
  have hd4 : decide (0 < n) = true := by simp; omega
  have H2 : Hid ((len : Int) = (n + 63) / 64) := h2
  have hwr : IntKind.i64.wrap ((len : Int) - 1) = m := by rw [wrapi64_in _ (by omega) (by omega)]; omega
  have hml : (m : Int) < (len : Int) := by omega
  clear hm
  clear h2
  by_cases hz : bits .andNot .u64 (x : Int) (mask n : Nat) = 0
  · rw [if_pos hz]
    have hz1 : (bits .andNot .u64 (x : Int) (mask n : Nat) != 0) = false := by simpa using hz
    have HZ : Hid (bits .andNot .u64 (x : Int) (mask n : Nat) = 0) := hz
    clear hz
    go_enter Tryd.func42, Tryd.ntmps42
    go_wp2
    go_quiet ((go_at_call 57; exact Calls.quiet_of_same (wordsOf_any n _ (by omega) (by omega))))
    go_wp2
    go_quiet ((go_at_call 58; exact quiet2 (lastMask_any n _ (by omega) (by omega))))
    go_wp2
    go_ret
    exact ⟨rfl, below_drewN (below_drewN ((Below.refl _ _).alloc (Nat.le_refl _) _) _) _⟩
  · rw [if_neg hz]
    have hz1 : (bits .andNot .u64 (x : Int) (mask n : Nat) != 0) = true := by simpa using hz
    have HZ : Hid (¬ bits .andNot .u64 (x : Int) (mask n : Nat) = 0) := hz
    clear hz
    go_enter Tryd.func42, Tryd.ntmps42
    go_wp2
    go_quiet ((go_at_call 57; exact Calls.quiet_of_same (wordsOf_any n _ (by omega) (by omega))))
    go_wp2
    go_quiet ((go_at_call 58; exact quiet2 (lastMask_any n _ (by omega) (by omega))))
    go_wp2
    go_ret
    exact ⟨rfl, below_drewN (below_drewN ((Below.refl _ _).alloc (Nat.le_refl _) _) _) _⟩


theorem check_ok (n : Int) (ao : Option Addr) (len cap : Nat) (f : Nat → Nat) (w : World) (hr : Rd w ao len f) (hok : Ok n len f) :
    Calls Tryd.prog 42 #[.agg #[.int .i64 n, .slice ao len cap]] w fun e w' => e = .returned (.int .i64 0) ∧ Below w.heap.size w w' := by
  have hok' := hok
  obtain ⟨h0, h1, h2, h3⟩ := hok
  by_cases hz : n = 0
  · exact check_zero n ao len cap w hz (by omega)
  · obtain ⟨b, off, rfl, hb, hc⟩ := hr.at_ (by omega)
    have := check_pos n b off len (len - 1) cap (f (len - 1)) w (by omega) h1 h2 (by omega) (hc (len - 1) (by omega)) hb
    rwa [if_pos ((ok_last (by omega) h1 h2 (by omega) hr.small).2 hok')] at this
theorem check_bad (n : Int) (ao : Option Addr) (len cap : Nat) (f : Nat → Nat) (w : World) (hr : Rd w ao len f) (hok : ¬ Ok n len f) :
    Calls Tryd.prog 42 #[.agg #[.int .i64 n, .slice ao len cap]] w fun e w' => e = .returned (.int .i64 10) ∧ Below w.heap.size w w' := by
  by_cases h0 : n < 0
  · exact check_neg n ao len cap w h0
  by_cases h1 : 8192 < n
  · exact check_big n ao len cap w h1
  by_cases h2 : (len : Int) = (n + 63) / 64
  · by_cases hz : n = 0
    · exact absurd ⟨by omega, by omega, h2, fun k hk hl => by omega⟩ hok
    · obtain ⟨b, off, rfl, hb, hc⟩ := hr.at_ (by omega)
      have := check_pos n b off len (len - 1) cap (f (len - 1)) w (by omega) (by omega) h2 (by omega) (hc (len - 1) (by omega)) hb
      rwa [if_neg (fun h => hok ((ok_last (by omega) (by omega) h2 (by omega) hr.small).1 h))] at this
  · exact check_len n ao len cap w (by omega) (by omega) h2
end Go.Proofs.YtehlmjjdegmnaaaDoor
