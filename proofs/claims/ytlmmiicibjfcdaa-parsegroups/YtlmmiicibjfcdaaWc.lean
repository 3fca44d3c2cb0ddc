/- Tokens as values. -/
import Derived.Test.YtlmmiicibjfcdaaKm
namespace Go.Proofs.Ytlmmiicibjfcdaa
open Go.RowKit
/-- The number whose lowest n bits are f's. -/
def wordN (f : Nat → Bool) (n : Nat) : Nat := if h : n = 0 then 0 else (if f (n - 1) = true then 2 ^ (n - 1) else 0) + wordN f (n - 1)
theorem wordN_zero (f : Nat → Bool) : wordN f 0 = 0 := by rw [wordN, dif_pos rfl]
theorem wordN_succ (f : Nat → Bool) (n : Nat) : wordN f (n + 1) = (if f n = true then 2 ^ n else 0) + wordN f n := by
  rw [wordN, dif_neg (by omega)]
  simp only [Nat.add_sub_cancel]
theorem wordN_is (f : Nat → Bool) (n : Nat) : wordN f n < 2 ^ n ∧ ∀ j, j < n → (wordN f n).testBit j = f j := by
  induction n with
  | zero => exact ⟨by rw [wordN_zero]; decide, fun j h => by omega⟩
  | succ n ih =>
    obtain ⟨ha, hb⟩ := ih
    rw [wordN_succ]
    generalize wordN f n = a at *
    cases hf : f n with
    | false =>
      rw [if_neg (by decide), Nat.zero_add]
      refine ⟨by rw [Nat.pow_succ]; omega, fun j hj => ?_⟩
      by_cases e : j = n
      · subst e; rw [hf]; exact Nat.testBit_lt_two_pow ha
      · exact hb j (by omega)
    | true =>
      rw [if_pos rfl]
      refine ⟨by rw [Nat.pow_succ]; omega, fun j hj => ?_⟩
      by_cases e : j = n
      · subst e
        rw [Nat.testBit_two_pow_add_eq, Nat.testBit_lt_two_pow ha, hf]; rfl
      · rw [Nat.testBit_two_pow_add_gt (by omega)]
        exact hb j (by omega)
/-- The four words of a class. -/
def wds (P : Nat → Bool) (i : Nat) : Nat := wordN (fun j => P (64 * i + j)) 64
theorem wds_is (P : Nat → Bool) : C4 P (wds P 0) (wds P 1) (wds P 2) (wds P 3) := by
  have h := fun i => wordN_is (fun j => P (64 * i + j)) 64
  exact ⟨(h 0).1, (h 1).1, (h 2).1, (h 3).1, fun j hj => by have := (h 0).2 j hj; rw [Nat.mul_zero, Nat.zero_add] at this; exact this, fun j hj => (h 1).2 j hj, fun j hj => (h 2).2 j hj, fun j hj => (h 3).2 j hj⟩
/-- A token's cells, and the token as a value. -/
def tokC (s : TokS) : List Value := [.int .i64 s.k, .int .u8 (s.b : Nat), .int .u64 (wds s.P 0 : Nat), .int .u64 (wds s.P 1 : Nat), .int .u64 (wds s.P 2 : Nat), .int .u64 (wds s.P 3 : Nat), .bool s.nt, .int .i64 s.l, .int .i64 s.m, .bool s.lz, .int .i64 (s.at_ : Nat)]
def tokOf (s : TokS) : Value := tokV s.k s.b (wds s.P 0) (wds s.P 1) (wds s.P 2) (wds s.P 3) s.nt s.l s.m s.lz s.at_
def RetD (w : World) (s : TokS) (e : Ending) (w' : World) : Prop := e = .returned (.tuple #[tokOf s, markV s.en s.er]) ∧ Below w.heap.size w w'
theorem RetT.d {w : World} {s : TokS} {e : Ending} {w' : World} (h : RetT w s e w') : RetD w s e w' := by
  obtain ⟨k, b, a0, a1, a2, a3, nt, l, m, lz, at', en, er, rfl, ⟨rfl, rfl, h4, rfl, rfl, rfl, rfl, rfl, rfl, rfl⟩, hb⟩ := h
  obtain ⟨rfl, rfl, rfl, rfl⟩ := h4.uniq (wds_is s.P)
  exact ⟨rfl, hb⟩
end Go.Proofs.Ytlmmiicibjfcdaa
