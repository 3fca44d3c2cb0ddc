/- Sum, number, sizeOf: the walks. -/
import Derived.Test.YtnjnaihogbnmaaaBase
namespace Go.Proofs.Ytnjnaihogbnmaaa
open Go.RowKit
set_option maxHeartbeats 800000 in
theorem sum_any (ao : Option Addr) (len cap : Nat) (f : Nat → Nat) (w : World) (hr : Rd w ao len f) (hl : (len : Int) ≤ 9223372036854775807) :
    Calls Try.prog 19 #[.slice ao len cap] w fun e w' => e = .returned (.int .u64 (sumB f len : Nat)) ∧ w' = w := by
  go_enter Try.func19, Try.ntmps19
  go_wp2_with fail
  go_loopw [3, 4, 9] (fun x y i wr => ∃ k : Nat, k ≤ len ∧ i = .int .i64 k ∧ x = .int .u64 (loB f k : Nat) ∧ y = .int .u64 (hiB f k : Nat) ∧ wr = w) (fun _ _ i _ => len - (intOf i).toNat)
  case atStart => exact ⟨0, Nat.zero_le _, rfl, rfl, rfl, rfl⟩
  case round =>
    obtain ⟨k, hk, rfl, rfl, rfl, rfl⟩ := hrel
    have hA := lo_lt f k
    have hB := hi_lt f k
    have eA : loB f (k + 1) = (loB f k + f k) % 4294967291 := rfl
    have eB : hiB f (k + 1) = (hiB f k + loB f (k + 1)) % 4294967291 := rfl
    have eS : sumB f k = hiB f k * 4294967296 + loB f k := rfl
    generalize loB f k = A at *
    generalize hiB f k = B at *
    by_cases hlt : k < len
    · obtain ⟨b, off, rfl, hb, hc⟩ := hr.at_ (by omega)
      have t1 := hc k hlt
      have hki : (k : Int) < (len : Int) := by omega
      have hv := hr.small k hlt
      clear hc
      generalize f k = v at *
      go_wp2
      go_roundw
      case rel => exact ⟨k + 1, by omega, by go_num, by rw [eA, Int.natCast_emod, Int.natCast_add]; rfl, by rw [eB, eA, Int.natCast_emod, Int.natCast_add, Int.natCast_emod, Int.natCast_add]; rfl, trivial⟩
      case measure => simp [intOf]; omega
    · obtain rfl : k = len := by omega
      go_wp2
      go_ret
      rw [eS, Int.natCast_add, Int.natCast_mul]
      exact ⟨rfl, rfl⟩
theorem or_step {a v k : Nat} (hk : k < 8) (ha : a < 256 ^ k) (hv : v < 256) : bits BinOp.or IntKind.u64 (a : Int) (IntKind.u64.wrap ((v : Int) * 2 ^ (8 * k))) = ((a + v * 256 ^ k : Nat) : Int) := by
  have hp : 256 ^ k * 256 ≤ 18446744073709551616 := by
    have : 256 ^ (k + 1) ≤ 256 ^ 8 := Nat.pow_le_pow_right (by decide) (by omega)
    rw [Nat.pow_succ] at this
    have e : (256 : Nat) ^ 8 = 18446744073709551616 := by decide
    omega
  have e8 : (2 : Nat) ^ (8 * k) = 256 ^ k := by rw [Nat.pow_mul]
  have hm : v * 256 ^ k < 18446744073709551616 := by
    have h1 : v * 256 ^ k ≤ 255 * 256 ^ k := Nat.mul_le_mul_right _ (by omega)
    have h2 : 0 < 256 ^ k := Nat.pow_pos (by decide)
    omega
  have hw : IntKind.u64.wrap ((v : Int) * 2 ^ (8 * k)) = ((v * 256 ^ k : Nat) : Int) := by
    have e : (v : Int) * 2 ^ (8 * k) = ((v * 256 ^ k : Nat) : Int) := by
      rw [← e8, Int.natCast_mul, Int.natCast_pow]; rfl
    rw [e, IntKind.wrap_u64, Int.emod_eq_of_lt (by omega) (by omega)]
  have ha' : a < 18446744073709551616 := by omega
  rw [hw, u64_or_nat _ _ ha' hm]
  congr 1
  rw [← e8] at ha ⊢
  rw [Nat.or_comm, Nat.mul_comm v, ← Nat.two_pow_add_eq_or_of_lt ha, Nat.add_comm]
set_option maxHeartbeats 800000 in
theorem number_any (ao : Option Addr) (len cap : Nat) (f : Nat → Nat) (w : World) (hr : Rd w ao len f) (hl : len ≤ 8) :
    Calls Try.prog 38 #[.slice ao len cap] w fun e w' => e = .returned (.int .u64 (numB f len : Nat)) ∧ w' = w := by
  go_enter Try.func38, Try.ntmps38
  go_wp2_with fail
  go_loopw [3, 8] (fun x i wr => ∃ k : Nat, k ≤ len ∧ i = .int .i64 k ∧ x = .int .u64 (numB f k : Nat) ∧ wr = w) (fun _ i _ => len - (intOf i).toNat)
  case atStart => exact ⟨0, Nat.zero_le _, rfl, rfl, rfl⟩
  case round =>
    obtain ⟨k, hk, rfl, rfl, rfl⟩ := hrel
    have hA := numB_lt (f := f) (n := k) fun i hi => hr.small i (by omega)
    have eA : numB f (k + 1) = numB f k + f k * 256 ^ k := rfl
    by_cases hlt : k < len
    · obtain ⟨b, off, rfl, hb, hc⟩ := hr.at_ (by omega)
      have t1 := hc k hlt
      have hki : (k : Int) < (len : Int) := by omega
      have hk8 : (k : Int) < 8 := by omega
      have hv := hr.small k hlt
      clear hc
      generalize numB f k = A at *
      generalize f k = v at *
      go_wp2
      go_roundw
      case rel => exact ⟨k + 1, by omega, by go_num, by rw [eA, or_step (by omega) hA hv], trivial⟩
      case measure => simp [intOf]; omega
    · obtain rfl : k = len := by omega
      go_wp2
      go_ret
      exact ⟨rfl, rfl⟩
set_option maxHeartbeats 800000 in
theorem sizeOf_any (z : Int) (w : World) (h1 : -9223372036854775808 ≤ z) (h2 : z ≤ 9223372036854775807) : Calls Try.prog 40 #[.int .i64 z] w fun e w' => e = .returned (.int .i64 (szB z : Nat)) ∧ w' = w := by
  go_enter Try.func40, Try.ntmps40
  go_wp2
  all_goals go_ret
  all_goals refine ⟨congrArg _ ?_, rfl⟩
  all_goals (show Value.int _ _ = _; congr 1; unfold szB; (repeat' split) <;> omega)
end Go.Proofs.Ytnjnaihogbnmaaa
