/- math/bits.OnesCount64: how many bits a word has; the walk. -/
import Derived.Test.YtclgefpkcagbfaaDoorPop
namespace Go.Proofs.YtclgefpkcagbfaaDoor
open Go.RowKit
theorem wrap_is {v : Int} {n : Nat} (h : v = n) (hn : n < 18446744073709551616) : IntKind.u64.wrap v = (n : Int) := by
  subst h
  simp [IntKind.wrap, IntKind.bits, IntKind.signed]; omega
theorem and_nat1 (x m k : Nat) (hx : x < 18446744073709551616) (hm : m < 18446744073709551616) {kk mm : Int} (e : kk = (k : Nat)) (e' : mm = (m : Nat)) : bits BinOp.and IntKind.u64 ((x : Int) / kk) mm = ((x / k &&& m : Nat) : Int) := by
  subst e; subst e'; exact and_nat x m k hx hm
theorem and_nat0 (x m : Nat) (hx : x < 18446744073709551616) (hm : m < 18446744073709551616) {mm : Int} (e' : mm = (m : Nat)) : bits BinOp.and IntKind.u64 (x : Int) mm = ((x &&& m : Nat) : Int) := by
  subst e'; exact u64_and_nat x m hx hm
set_option maxHeartbeats 1000000 in
theorem ones_any (x : Nat) (w : World) (hx : x < 18446744073709551616) : Calls Tryd.prog 30 #[.int .u64 (x : Nat)] w fun e w' => e = .returned (.int .i64 (pop x 64 : Nat)) ∧ w' = w := by
  go_enter Tryd.func30, Tryd.ntmps30
  go_wp2
  have hA : bits BinOp.and IntKind.u64 ((x : Int) / 2) 6148914691236517205 = _ := and_nat1 x 6148914691236517205 2 hx (by decide) rfl rfl
  have hB : bits BinOp.and IntKind.u64 (x : Int) 6148914691236517205 = _ := and_nat0 x 6148914691236517205 hx (by decide) rfl
  have lA : x / 2 &&& 6148914691236517205 ≤ 6148914691236517205 := Nat.and_le_right
  have lB : x &&& 6148914691236517205 ≤ 6148914691236517205 := Nat.and_le_right
  obtain ⟨X1, e1⟩ : ∃ X1, X1 = (x / 2 &&& 6148914691236517205) + (x &&& 6148914691236517205) := ⟨_, rfl⟩
  have l1 : X1 < 18446744073709551616 := by omega
  have w1 : IntKind.u64.wrap (((x / 2 &&& 6148914691236517205 : Nat) : Int) + ((x &&& 6148914691236517205 : Nat) : Int)) = X1 := wrap_is (by rw [e1]; exact (Int.natCast_add _ _).symm) l1
  simp only [hA, hB, w1]
  have hC : bits BinOp.and IntKind.u64 ((X1 : Int) / 4) 3689348814741910323 = _ := and_nat1 X1 3689348814741910323 4 l1 (by decide) rfl rfl
  have hD : bits BinOp.and IntKind.u64 (X1 : Int) 3689348814741910323 = _ := and_nat0 X1 3689348814741910323 l1 (by decide) rfl
  have lC : X1 / 4 &&& 3689348814741910323 ≤ 3689348814741910323 := Nat.and_le_right
  have lD : X1 &&& 3689348814741910323 ≤ 3689348814741910323 := Nat.and_le_right
  obtain ⟨X2, e2⟩ : ∃ X2, X2 = (X1 / 4 &&& 3689348814741910323) + (X1 &&& 3689348814741910323) := ⟨_, rfl⟩
  have l2 : X2 / 16 + X2 < 18446744073709551616 := by omega
  have w2 : IntKind.u64.wrap (((X1 / 4 &&& 3689348814741910323 : Nat) : Int) + ((X1 &&& 3689348814741910323 : Nat) : Int)) = X2 := wrap_is (by rw [e2]; exact (Int.natCast_add _ _).symm) (by omega)
  simp only [hC, hD, w2]
  obtain ⟨S, eS⟩ : ∃ S, S = X2 / 16 + X2 := ⟨_, rfl⟩
  have w3 : IntKind.u64.wrap ((X2 : Int) / 16 + (X2 : Int)) = S := wrap_is (by omega) (by omega)
  have hE : bits BinOp.and IntKind.u64 (S : Int) 1085102592571150095 = _ := and_nat0 S 1085102592571150095 (by omega) (by decide) rfl
  obtain ⟨X3, e3⟩ : ∃ X3, X3 = S &&& 1085102592571150095 := ⟨_, rfl⟩
  rw [← e3] at hE
  have l3 : X3 ≤ 1085102592571150095 := by rw [e3]; exact Nat.and_le_right
  simp only [w3, hE]
  obtain ⟨X4, e4⟩ : ∃ X4, X4 = X3 + X3 / 256 := ⟨_, rfl⟩
  obtain ⟨X5, e5⟩ : ∃ X5, X5 = X4 + X4 / 65536 := ⟨_, rfl⟩
  obtain ⟨X6, e6⟩ : ∃ X6, X6 = X5 + X5 / 4294967296 := ⟨_, rfl⟩
  have l4 : X4 ≤ 2 * 1085102592571150095 := by omega
  have l5 : X5 ≤ 4 * 1085102592571150095 := by omega
  have l6 : X6 ≤ 8 * 1085102592571150095 := by omega
  have w4 : IntKind.u64.wrap ((X3 : Int) + (X3 : Int) / 256) = X4 := wrap_is (by omega) (by omega)
  have w5 : IntKind.u64.wrap ((X4 : Int) + (X4 : Int) / 65536) = X5 := wrap_is (by omega) (by omega)
  have w6 : IntKind.u64.wrap ((X5 : Int) + (X5 : Int) / 4294967296) = X6 := wrap_is (by omega) (by omega)
  simp only [w4, w5, w6]
  have g : X3 = gsum x 8 := by
    have e256 : (256 : Nat) ^ 8 = 18446744073709551616 := by decide
    have := (three 8 x (by omega)).1
    rw [rep1, rep2, rep3] at this
    rw [e3, eS, e2, e1, ← this]
    rfl
  have hp := adds_all x
  rw [← g, ← e4, ← e5, ← e6] at hp
  have hU := and127 X6 (by omega)
  rw [hp] at hU
  have w7 : wrap64 (X6 : Int) = X6 := by simp [wrap64]; omega
  simp only [w7, hU]
  exact bodyPost_ret (v := .int .i64 (pop x 64 : Nat)) (by simp [results, Tryd.results30, go_sem]) rfl ⟨rfl, rfl⟩
end Go.Proofs.YtclgefpkcagbfaaDoor
