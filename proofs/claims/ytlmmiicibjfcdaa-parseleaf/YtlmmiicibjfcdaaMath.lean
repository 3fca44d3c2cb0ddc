/- Classes of bytes as four words of bits: plain facts; the value of a class. -/
import Derived.WalkKit
import Derived.WalkSpells
import Derived.WalkLawsBesides
import Derived.Test.YtlmmiicibjfcdaaChecked
namespace Go.Proofs.Ytlmmiicibjfcdaa
open Go.RowKit

theorem testBit_lt {a : Nat} (h : a < 18446744073709551616) {j : Nat} (hj : 64 ≤ j) : a.testBit j = false := by
  apply Nat.testBit_lt_two_pow
  have h2 : (2 : Nat) ^ 64 ≤ 2 ^ j := Nat.pow_le_pow_right (by decide) hj
  have : (2 : Nat) ^ 64 = 18446744073709551616 := by decide
  omega
theorem word_ext {a b : Nat} (ha : a < 18446744073709551616) (hb : b < 18446744073709551616) (h : ∀ j, j < 64 → a.testBit j = b.testBit j) : a = b := by
  apply Nat.eq_of_testBit_eq
  intro j
  by_cases hj : j < 64
  · exact h j hj
  · rw [testBit_lt ha (by omega), testBit_lt hb (by omega)]
theorem not_bit (b : Nat) (hb : b < 18446744073709551616) (j : Nat) : (18446744073709551615 - b).testBit j = (decide (j < 64) && !b.testBit j) := by
  have : 18446744073709551615 - b = 2 ^ 64 - (b + 1) := by omega
  rw [this, Nat.testBit_two_pow_sub_succ hb]
theorem and_lt {a : Nat} (ha : a < 18446744073709551616) (b : Nat) : a &&& b < 18446744073709551616 := Nat.lt_of_le_of_lt Nat.and_le_left ha
theorem or_lt {a b : Nat} (ha : a < 18446744073709551616) (hb : b < 18446744073709551616) : a ||| b < 18446744073709551616 := Nat.or_lt_two_pow (n := 64) ha hb
theorem pow_bit_lt {j : Nat} (h : j < 64) : 2 ^ j < 18446744073709551616 := by
  have : (2 : Nat) ^ j < 2 ^ 64 := Nat.pow_lt_pow_right (by decide) h
  exact this

/-- P and one byte more. -/
def ins (P : Nat → Bool) (b : Nat) : Nat → Bool := fun x => P x || x == b
/-- The four words of a class. -/
structure C4 (P : Nat → Bool) (a b c d : Nat) : Prop where
  la : a < 18446744073709551616
  lb : b < 18446744073709551616
  lc : c < 18446744073709551616
  ld : d < 18446744073709551616
  ha : ∀ j, j < 64 → a.testBit j = P j
  hb : ∀ j, j < 64 → b.testBit j = P (64 + j)
  hc : ∀ j, j < 64 → c.testBit j = P (128 + j)
  hd : ∀ j, j < 64 → d.testBit j = P (192 + j)
theorem C4.congr {P Q : Nat → Bool} {a b c d : Nat} (h : C4 P a b c d) (hpq : ∀ b, b < 256 → P b = Q b) : C4 Q a b c d :=
  ⟨h.la, h.lb, h.lc, h.ld, fun j hj => by rw [h.ha j hj, hpq _ (by omega)], fun j hj => by rw [h.hb j hj, hpq _ (by omega)], fun j hj => by rw [h.hc j hj, hpq _ (by omega)], fun j hj => by rw [h.hd j hj, hpq _ (by omega)]⟩
theorem C4.uniq {P : Nat → Bool} {a b c d a' b' c' d' : Nat} (h : C4 P a b c d) (k : C4 P a' b' c' d') : a = a' ∧ b = b' ∧ c = c' ∧ d = d' :=
  ⟨word_ext h.la k.la fun j hj => by rw [h.ha j hj, k.ha j hj], word_ext h.lb k.lb fun j hj => by rw [h.hb j hj, k.hb j hj], word_ext h.lc k.lc fun j hj => by rw [h.hc j hj, k.hc j hj], word_ext h.ld k.ld fun j hj => by rw [h.hd j hj, k.hd j hj]⟩
/-- Any four words are a class. -/
theorem c4_of {a b c d : Nat} (ha : a < 18446744073709551616) (hb : b < 18446744073709551616) (hc : c < 18446744073709551616) (hd : d < 18446744073709551616) : ∃ P, C4 P a b c d := by
  refine ⟨fun x => if x < 64 then a.testBit x else if x < 128 then b.testBit (x - 64) else if x < 192 then c.testBit (x - 128) else d.testBit (x - 192), ha, hb, hc, hd, fun j hj => ?_, fun j hj => ?_, fun j hj => ?_, fun j hj => ?_⟩
  · show _ = ite _ _ _
    rw [if_pos hj]
  · show _ = ite _ _ _
    rw [if_neg (by omega), if_pos (by omega), show 64 + j - 64 = j by omega]
  · show _ = ite _ _ _
    rw [if_neg (by omega), if_neg (by omega), if_pos (by omega), show 128 + j - 128 = j by omega]
  · show _ = ite _ _ _
    rw [if_neg (by omega), if_neg (by omega), if_neg (by omega), show 192 + j - 192 = j by omega]
theorem c4_none : C4 (fun _ => false) 0 0 0 0 :=
  ⟨by decide, by decide, by decide, by decide, fun j _ => by simp, fun j _ => by simp, fun j _ => by simp, fun j _ => by simp⟩
theorem C4.or {P Q : Nat → Bool} {a b c d a' b' c' d' : Nat} (h : C4 P a b c d) (k : C4 Q a' b' c' d') : C4 (fun x => P x || Q x) (a ||| a') (b ||| b') (c ||| c') (d ||| d') :=
  ⟨or_lt h.la k.la, or_lt h.lb k.lb, or_lt h.lc k.lc, or_lt h.ld k.ld, fun j hj => by rw [Nat.testBit_or, h.ha j hj, k.ha j hj], fun j hj => by rw [Nat.testBit_or, h.hb j hj, k.hb j hj],
    fun j hj => by rw [Nat.testBit_or, h.hc j hj, k.hc j hj], fun j hj => by rw [Nat.testBit_or, h.hd j hj, k.hd j hj]⟩
theorem C4.and {P Q : Nat → Bool} {a b c d a' b' c' d' : Nat} (h : C4 P a b c d) (k : C4 Q a' b' c' d') : C4 (fun x => P x && Q x) (a &&& a') (b &&& b') (c &&& c') (d &&& d') :=
  ⟨and_lt h.la _, and_lt h.lb _, and_lt h.lc _, and_lt h.ld _, fun j hj => by rw [Nat.testBit_and, h.ha j hj, k.ha j hj], fun j hj => by rw [Nat.testBit_and, h.hb j hj, k.hb j hj],
    fun j hj => by rw [Nat.testBit_and, h.hc j hj, k.hc j hj], fun j hj => by rw [Nat.testBit_and, h.hd j hj, k.hd j hj]⟩
theorem xor_lt {a : Nat} (ha : a < 18446744073709551616) : 18446744073709551615 ^^^ a < 18446744073709551616 := Nat.xor_lt_two_pow (n := 64) (by decide) ha
theorem xor_bit (a : Nat) {j : Nat} (hj : j < 64) : (18446744073709551615 ^^^ a).testBit j = !a.testBit j := by
  rw [Nat.testBit_xor, show (18446744073709551615 : Nat) = 2 ^ 64 - 1 by decide, Nat.testBit_two_pow_sub_one, decide_eq_true hj]
  cases a.testBit j <;> rfl
theorem C4.not {P : Nat → Bool} {a b c d : Nat} (h : C4 P a b c d) : C4 (fun x => !P x) (18446744073709551615 ^^^ a) (18446744073709551615 ^^^ b) (18446744073709551615 ^^^ c) (18446744073709551615 ^^^ d) :=
  ⟨xor_lt h.la, xor_lt h.lb, xor_lt h.lc, xor_lt h.ld, fun j hj => by rw [xor_bit _ hj, h.ha j hj], fun j hj => by rw [xor_bit _ hj, h.hb j hj], fun j hj => by rw [xor_bit _ hj, h.hc j hj], fun j hj => by rw [xor_bit _ hj, h.hd j hj]⟩
/-- One word with one byte more. -/
theorem ins_bit {P : Nat → Bool} {a i x j : Nat} (h : a.testBit j = P (64 * i + j)) (hq : x / 64 = i) (_hj : j < 64) : (a ||| 2 ^ (x % 64)).testBit j = ins P x (64 * i + j) := by
  rw [Nat.testBit_or, h, Nat.testBit_two_pow]
  unfold ins
  congr 1
  rw [Bool.eq_iff_iff, decide_eq_true_iff, beq_iff_eq]
  omega
theorem ins_ne {P : Nat → Bool} {x k : Nat} (h : k ≠ x) : ins P x k = P k := by
  unfold ins
  rw [beq_eq_false_iff_ne.2 h, Bool.or_false]
theorem C4.ins0 {P : Nat → Bool} {a b c d x : Nat} (h : C4 P a b c d) (hq : x / 64 = 0) : C4 (ins P x) (a ||| 2 ^ (x % 64)) b c d :=
  ⟨or_lt h.la (pow_bit_lt (by omega)), h.lb, h.lc, h.ld, fun j hj => by have := ins_bit (P := P) (a := a) (i := 0) (by rw [h.ha j hj, Nat.mul_zero, Nat.zero_add]) hq hj; rwa [Nat.mul_zero, Nat.zero_add] at this, fun j hj => by rw [h.hb j hj, ins_ne (by omega)], fun j hj => by rw [h.hc j hj, ins_ne (by omega)], fun j hj => by rw [h.hd j hj, ins_ne (by omega)]⟩
theorem C4.ins1 {P : Nat → Bool} {a b c d x : Nat} (h : C4 P a b c d) (hq : x / 64 = 1) : C4 (ins P x) a (b ||| 2 ^ (x % 64)) c d :=
  ⟨h.la, or_lt h.lb (pow_bit_lt (by omega)), h.lc, h.ld, fun j hj => by rw [h.ha j hj, ins_ne (by omega)], fun j hj => ins_bit (i := 1) (h.hb j hj) hq hj, fun j hj => by rw [h.hc j hj, ins_ne (by omega)], fun j hj => by rw [h.hd j hj, ins_ne (by omega)]⟩
theorem C4.ins2 {P : Nat → Bool} {a b c d x : Nat} (h : C4 P a b c d) (hq : x / 64 = 2) : C4 (ins P x) a b (c ||| 2 ^ (x % 64)) d :=
  ⟨h.la, h.lb, or_lt h.lc (pow_bit_lt (by omega)), h.ld, fun j hj => by rw [h.ha j hj, ins_ne (by omega)], fun j hj => by rw [h.hb j hj, ins_ne (by omega)], fun j hj => ins_bit (i := 2) (h.hc j hj) hq hj, fun j hj => by rw [h.hd j hj, ins_ne (by omega)]⟩
theorem C4.ins3 {P : Nat → Bool} {a b c d x : Nat} (h : C4 P a b c d) (hq : x / 64 = 3) : C4 (ins P x) a b c (d ||| 2 ^ (x % 64)) :=
  ⟨h.la, h.lb, h.lc, or_lt h.ld (pow_bit_lt (by omega)), fun j hj => by rw [h.ha j hj, ins_ne (by omega)], fun j hj => by rw [h.hb j hj, ins_ne (by omega)], fun j hj => by rw [h.hc j hj, ins_ne (by omega)], fun j hj => ins_bit (i := 3) (h.hd j hj) hq hj⟩
theorem shl_one (k : Nat) : IntKind.u64.wrap (2 ^ (k % 64)) = ((2 ^ (k % 64) : Nat) : Int) := by
  have h : 2 ^ (k % 64) < 18446744073709551616 := pow_bit_lt (by omega)
  rw [IntKind.wrap_u64, Int.emod_eq_of_lt]
  · simp
  · have : (0 : Int) ≤ ((2 ^ (k % 64) : Nat) : Int) := Int.natCast_nonneg _
    simpa using this
  · have : ((2 ^ (k % 64) : Nat) : Int) < 18446744073709551616 := by omega
    simpa using this
theorem or_one (x k : Nat) (hx : x < 18446744073709551616) : bits .or .u64 (x : Int) (IntKind.u64.wrap (2 ^ (k % 64))) = ((x ||| 2 ^ (k % 64) : Nat) : Int) := by
  rw [shl_one, u64_or_nat _ _ hx (pow_bit_lt (by omega))]
end Go.Proofs.Ytlmmiicibjfcdaa
