/- Classes of bytes as four words of bits: plain facts; the value of a class. with and Has of package class, With and Has of the reference: the walks. Has of package class and of the reference; a class in a block of its own. -/
import Derived.WalkKit
import Derived.WalkSpells
import Derived.WalkLawsBesides
import Derived.Test.YtkbeiadbolihiaaDoorChecked
namespace Go.Proofs.YtkbeiadbolihiaaDoor
open Go.RowKit

theorem testBit_lt {a : Nat} (h : a < 18446744073709551616) {j : Nat} (hj : 64 ≤ j) : a.testBit j = false := by
  apply Nat.testBit_lt_two_pow
  have h2 : (2 : Nat) ^ 64 ≤ 2 ^ j := Nat.pow_le_pow_right (by decide) hj
  have : (2 : Nat) ^ 64 = 18446744073709551616 := by decide
  omega
theorem word_ext {a b : Nat} (ha : a < 18446744073709551616) (hb : b < 18446744073709551616) (h : ∀ j, j < 64 → a.testBit j = b.testBit j) : a = b := by
  apply Nat.eq_of_testBit_eq
  intro j
  by_cases hj : j < 64
  · exact h j hj
  · rw [testBit_lt ha (by omega), testBit_lt hb (by omega)]
theorem not_bit (b : Nat) (hb : b < 18446744073709551616) (j : Nat) : (18446744073709551615 - b).testBit j = (decide (j < 64) && !b.testBit j) := by
  have : 18446744073709551615 - b = 2 ^ 64 - (b + 1) := by omega
  rw [this, Nat.testBit_two_pow_sub_succ hb]
theorem and_lt {a : Nat} (ha : a < 18446744073709551616) (b : Nat) : a &&& b < 18446744073709551616 := Nat.lt_of_le_of_lt Nat.and_le_left ha
theorem or_lt {a b : Nat} (ha : a < 18446744073709551616) (hb : b < 18446744073709551616) : a ||| b < 18446744073709551616 := Nat.or_lt_two_pow (n := 64) ha hb
theorem pow_bit_lt {j : Nat} (h : j < 64) : 2 ^ j < 18446744073709551616 := by
  have : (2 : Nat) ^ j < 2 ^ 64 := Nat.pow_lt_pow_right (by decide) h
  exact this

/-- P and one byte more. -/
def ins (P : Nat → Bool) (b : Nat) : Nat → Bool := fun x => P x || x == b
/-- The four words of a class. -/
structure C4 (P : Nat → Bool) (a b c d : Nat) : Prop where
  la : a < 18446744073709551616
  lb : b < 18446744073709551616
  lc : c < 18446744073709551616
  ld : d < 18446744073709551616
  ha : ∀ j, j < 64 → a.testBit j = P j
  hb : ∀ j, j < 64 → b.testBit j = P (64 + j)
  hc : ∀ j, j < 64 → c.testBit j = P (128 + j)
  hd : ∀ j, j < 64 → d.testBit j = P (192 + j)
theorem C4.congr {P Q : Nat → Bool} {a b c d : Nat} (h : C4 P a b c d) (hpq : ∀ b, b < 256 → P b = Q b) : C4 Q a b c d :=
  ⟨h.la, h.lb, h.lc, h.ld, fun j hj => by rw [h.ha j hj, hpq _ (by omega)], fun j hj => by rw [h.hb j hj, hpq _ (by omega)], fun j hj => by rw [h.hc j hj, hpq _ (by omega)], fun j hj => by rw [h.hd j hj, hpq _ (by omega)]⟩
theorem C4.uniq {P : Nat → Bool} {a b c d a' b' c' d' : Nat} (h : C4 P a b c d) (k : C4 P a' b' c' d') : a = a' ∧ b = b' ∧ c = c' ∧ d = d' :=
  ⟨word_ext h.la k.la fun j hj => by rw [h.ha j hj, k.ha j hj], word_ext h.lb k.lb fun j hj => by rw [h.hb j hj, k.hb j hj], word_ext h.lc k.lc fun j hj => by rw [h.hc j hj, k.hc j hj], word_ext h.ld k.ld fun j hj => by rw [h.hd j hj, k.hd j hj]⟩
/-- Any four words are a class. -/
theorem c4_of {a b c d : Nat} (ha : a < 18446744073709551616) (hb : b < 18446744073709551616) (hc : c < 18446744073709551616) (hd : d < 18446744073709551616) : ∃ P, C4 P a b c d := by
  refine ⟨fun x => if x < 64 then a.testBit x else if x < 128 then b.testBit (x - 64) else if x < 192 then c.testBit (x - 128) else d.testBit (x - 192), ha, hb, hc, hd, fun j hj => ?_, fun j hj => ?_, fun j hj => ?_, fun j hj => ?_⟩
  · show _ = ite _ _ _
    rw [if_pos hj]
  · show _ = ite _ _ _
    rw [if_neg (by omega), if_pos (by omega), show 64 + j - 64 = j by omega]
  · show _ = ite _ _ _
    rw [if_neg (by omega), if_neg (by omega), if_pos (by omega), show 128 + j - 128 = j by omega]
  · show _ = ite _ _ _
    rw [if_neg (by omega), if_neg (by omega), if_neg (by omega), show 192 + j - 192 = j by omega]
theorem c4_none : C4 (fun _ => false) 0 0 0 0 :=
  ⟨by decide, by decide, by decide, by decide, fun j _ => by simp, fun j _ => by simp, fun j _ => by simp, fun j _ => by simp⟩
theorem C4.or {P Q : Nat → Bool} {a b c d a' b' c' d' : Nat} (h : C4 P a b c d) (k : C4 Q a' b' c' d') : C4 (fun x => P x || Q x) (a ||| a') (b ||| b') (c ||| c') (d ||| d') :=
  ⟨or_lt h.la k.la, or_lt h.lb k.lb, or_lt h.lc k.lc, or_lt h.ld k.ld, fun j hj => by rw [Nat.testBit_or, h.ha j hj, k.ha j hj], fun j hj => by rw [Nat.testBit_or, h.hb j hj, k.hb j hj],
    fun j hj => by rw [Nat.testBit_or, h.hc j hj, k.hc j hj], fun j hj => by rw [Nat.testBit_or, h.hd j hj, k.hd j hj]⟩
theorem C4.and {P Q : Nat → Bool} {a b c d a' b' c' d' : Nat} (h : C4 P a b c d) (k : C4 Q a' b' c' d') : C4 (fun x => P x && Q x) (a &&& a') (b &&& b') (c &&& c') (d &&& d') :=
  ⟨and_lt h.la _, and_lt h.lb _, and_lt h.lc _, and_lt h.ld _, fun j hj => by rw [Nat.testBit_and, h.ha j hj, k.ha j hj], fun j hj => by rw [Nat.testBit_and, h.hb j hj, k.hb j hj],
    fun j hj => by rw [Nat.testBit_and, h.hc j hj, k.hc j hj], fun j hj => by rw [Nat.testBit_and, h.hd j hj, k.hd j hj]⟩
theorem xor_lt {a : Nat} (ha : a < 18446744073709551616) : 18446744073709551615 ^^^ a < 18446744073709551616 := Nat.xor_lt_two_pow (n := 64) (by decide) ha
theorem xor_bit (a : Nat) {j : Nat} (hj : j < 64) : (18446744073709551615 ^^^ a).testBit j = !a.testBit j := by
  rw [Nat.testBit_xor, show (18446744073709551615 : Nat) = 2 ^ 64 - 1 by decide, Nat.testBit_two_pow_sub_one, decide_eq_true hj]
  cases a.testBit j <;> rfl
theorem C4.not {P : Nat → Bool} {a b c d : Nat} (h : C4 P a b c d) : C4 (fun x => !P x) (18446744073709551615 ^^^ a) (18446744073709551615 ^^^ b) (18446744073709551615 ^^^ c) (18446744073709551615 ^^^ d) :=
  ⟨xor_lt h.la, xor_lt h.lb, xor_lt h.lc, xor_lt h.ld, fun j hj => by rw [xor_bit _ hj, h.ha j hj], fun j hj => by rw [xor_bit _ hj, h.hb j hj], fun j hj => by rw [xor_bit _ hj, h.hc j hj], fun j hj => by rw [xor_bit _ hj, h.hd j hj]⟩
/-- One word with one byte more. -/
theorem ins_bit {P : Nat → Bool} {a i x j : Nat} (h : a.testBit j = P (64 * i + j)) (hq : x / 64 = i) (_hj : j < 64) : (a ||| 2 ^ (x % 64)).testBit j = ins P x (64 * i + j) := by
  rw [Nat.testBit_or, h, Nat.testBit_two_pow]
  unfold ins
  congr 1
  rw [Bool.eq_iff_iff, decide_eq_true_iff, beq_iff_eq]
  omega
theorem ins_ne {P : Nat → Bool} {x k : Nat} (h : k ≠ x) : ins P x k = P k := by
  unfold ins
  rw [beq_eq_false_iff_ne.2 h, Bool.or_false]
theorem C4.ins0 {P : Nat → Bool} {a b c d x : Nat} (h : C4 P a b c d) (hq : x / 64 = 0) : C4 (ins P x) (a ||| 2 ^ (x % 64)) b c d :=
  ⟨or_lt h.la (pow_bit_lt (by omega)), h.lb, h.lc, h.ld, fun j hj => by have := ins_bit (P := P) (a := a) (i := 0) (by rw [h.ha j hj, Nat.mul_zero, Nat.zero_add]) hq hj; rwa [Nat.mul_zero, Nat.zero_add] at this, fun j hj => by rw [h.hb j hj, ins_ne (by omega)], fun j hj => by rw [h.hc j hj, ins_ne (by omega)], fun j hj => by rw [h.hd j hj, ins_ne (by omega)]⟩
theorem C4.ins1 {P : Nat → Bool} {a b c d x : Nat} (h : C4 P a b c d) (hq : x / 64 = 1) : C4 (ins P x) a (b ||| 2 ^ (x % 64)) c d :=
  ⟨h.la, or_lt h.lb (pow_bit_lt (by omega)), h.lc, h.ld, fun j hj => by rw [h.ha j hj, ins_ne (by omega)], fun j hj => ins_bit (i := 1) (h.hb j hj) hq hj, fun j hj => by rw [h.hc j hj, ins_ne (by omega)], fun j hj => by rw [h.hd j hj, ins_ne (by omega)]⟩
theorem C4.ins2 {P : Nat → Bool} {a b c d x : Nat} (h : C4 P a b c d) (hq : x / 64 = 2) : C4 (ins P x) a b (c ||| 2 ^ (x % 64)) d :=
  ⟨h.la, h.lb, or_lt h.lc (pow_bit_lt (by omega)), h.ld, fun j hj => by rw [h.ha j hj, ins_ne (by omega)], fun j hj => by rw [h.hb j hj, ins_ne (by omega)], fun j hj => ins_bit (i := 2) (h.hc j hj) hq hj, fun j hj => by rw [h.hd j hj, ins_ne (by omega)]⟩
theorem C4.ins3 {P : Nat → Bool} {a b c d x : Nat} (h : C4 P a b c d) (hq : x / 64 = 3) : C4 (ins P x) a b c (d ||| 2 ^ (x % 64)) :=
  ⟨h.la, h.lb, h.lc, or_lt h.ld (pow_bit_lt (by omega)), fun j hj => by rw [h.ha j hj, ins_ne (by omega)], fun j hj => by rw [h.hb j hj, ins_ne (by omega)], fun j hj => by rw [h.hc j hj, ins_ne (by omega)], fun j hj => ins_bit (i := 3) (h.hd j hj) hq hj⟩
theorem shl_one (k : Nat) : IntKind.u64.wrap (2 ^ (k % 64)) = ((2 ^ (k % 64) : Nat) : Int) := by
  have h : 2 ^ (k % 64) < 18446744073709551616 := pow_bit_lt (by omega)
  rw [IntKind.wrap_u64, Int.emod_eq_of_lt]
  · simp
  · have : (0 : Int) ≤ ((2 ^ (k % 64) : Nat) : Int) := Int.natCast_nonneg _
    simpa using this
  · have : ((2 ^ (k % 64) : Nat) : Int) < 18446744073709551616 := by omega
    simpa using this
theorem or_one (x k : Nat) (hx : x < 18446744073709551616) : bits .or .u64 (x : Int) (IntKind.u64.wrap (2 ^ (k % 64))) = ((x ||| 2 ^ (k % 64) : Nat) : Int) := by
  rw [shl_one, u64_or_nat _ _ hx (pow_bit_lt (by omega))]
end Go.Proofs.YtkbeiadbolihiaaDoor
namespace Go.Proofs.YtkbeiadbolihiaaDoor
open Go.RowKit
theorem below2 (w : World) (o o' : Obj) : Below w.heap.size w ((w.alloc o).alloc o') := ((Below.refl _ _).alloc (Nat.le_refl _) _).alloc (by simp) _
/-- What a call answers that makes a class; nothing old has turned. -/
def RetC (w : World) (P : Nat → Bool) (e : Ending) (w' : World) : Prop := (∃ a b c d, e = .returned (.agg #[.int .u64 (a : Nat), .int .u64 (b : Nat), .int .u64 (c : Nat), .int .u64 (d : Nat)]) ∧ C4 P a b c d) ∧ Below w.heap.size w w'
theorem RetC.congr {w : World} {P Q : Nat → Bool} {e : Ending} {w' : World} (h : RetC w P e w') (hpq : ∀ b, b < 256 → P b = Q b) : RetC w Q e w' := by
  obtain ⟨⟨a, b, c, d, he, k⟩, hb⟩ := h
  exact ⟨⟨a, b, c, d, he, k.congr hpq⟩, hb⟩
set_option maxHeartbeats 1000000 in
theorem with_at0 (a b c d v x : Nat) (w : World) (hq : (x : Int) / 64 = 0) (hv : bits .or .u64 (a : Int) (IntKind.u64.wrap (2 ^ (x % 64))) = (v : Nat)) :
    Calls Tryd.prog 57 #[.agg #[.int .u64 (a : Nat), .int .u64 (b : Nat), .int .u64 (c : Nat), .int .u64 (d : Nat)], .int .u8 (x : Nat)] w fun e w' => e = .returned (.agg #[.int .u64 (v : Nat), .int .u64 (b : Nat), .int .u64 (c : Nat), .int .u64 (d : Nat)]) ∧ Below w.heap.size w w' := by
  go_enter Tryd.func57, Tryd.ntmps57
  go_wp2
  exact bodyPost_ret (by simp [results, Tryd.results57, go_sem]) rfl ⟨rfl, below2 _ _ _⟩
set_option maxHeartbeats 1000000 in
theorem with_at1 (a b c d v x : Nat) (w : World) (hq : (x : Int) / 64 = 1) (hv : bits .or .u64 (b : Int) (IntKind.u64.wrap (2 ^ (x % 64))) = (v : Nat)) :
    Calls Tryd.prog 57 #[.agg #[.int .u64 (a : Nat), .int .u64 (b : Nat), .int .u64 (c : Nat), .int .u64 (d : Nat)], .int .u8 (x : Nat)] w fun e w' => e = .returned (.agg #[.int .u64 (a : Nat), .int .u64 (v : Nat), .int .u64 (c : Nat), .int .u64 (d : Nat)]) ∧ Below w.heap.size w w' := by
  go_enter Tryd.func57, Tryd.ntmps57
  go_wp2
  exact bodyPost_ret (by simp [results, Tryd.results57, go_sem]) rfl ⟨rfl, below2 _ _ _⟩
set_option maxHeartbeats 1000000 in
theorem with_at2 (a b c d v x : Nat) (w : World) (hq : (x : Int) / 64 = 2) (hv : bits .or .u64 (c : Int) (IntKind.u64.wrap (2 ^ (x % 64))) = (v : Nat)) :
    Calls Tryd.prog 57 #[.agg #[.int .u64 (a : Nat), .int .u64 (b : Nat), .int .u64 (c : Nat), .int .u64 (d : Nat)], .int .u8 (x : Nat)] w fun e w' => e = .returned (.agg #[.int .u64 (a : Nat), .int .u64 (b : Nat), .int .u64 (v : Nat), .int .u64 (d : Nat)]) ∧ Below w.heap.size w w' := by
  go_enter Tryd.func57, Tryd.ntmps57
  go_wp2
  exact bodyPost_ret (by simp [results, Tryd.results57, go_sem]) rfl ⟨rfl, below2 _ _ _⟩
set_option maxHeartbeats 1000000 in
theorem with_at3 (a b c d v x : Nat) (w : World) (hq : (x : Int) / 64 = 3) (hv : bits .or .u64 (d : Int) (IntKind.u64.wrap (2 ^ (x % 64))) = (v : Nat)) :
    Calls Tryd.prog 57 #[.agg #[.int .u64 (a : Nat), .int .u64 (b : Nat), .int .u64 (c : Nat), .int .u64 (d : Nat)], .int .u8 (x : Nat)] w fun e w' => e = .returned (.agg #[.int .u64 (a : Nat), .int .u64 (b : Nat), .int .u64 (c : Nat), .int .u64 (v : Nat)]) ∧ Below w.heap.size w w' := by
  go_enter Tryd.func57, Tryd.ntmps57
  go_wp2
  exact bodyPost_ret (by simp [results, Tryd.results57, go_sem]) rfl ⟨rfl, below2 _ _ _⟩
/-- with: one byte more. -/
theorem with_c {P : Nat → Bool} {a b c d : Nat} (h : C4 P a b c d) (x : Nat) (w : World) (hx : x < 256) : Calls Tryd.prog 57 #[.agg #[.int .u64 (a : Nat), .int .u64 (b : Nat), .int .u64 (c : Nat), .int .u64 (d : Nat)], .int .u8 (x : Nat)] w (RetC w (ins P x)) := by
  have hq : x / 64 = 0 ∨ x / 64 = 1 ∨ x / 64 = 2 ∨ x / 64 = 3 := by omega
  rcases hq with hq | hq | hq | hq
  · exact (with_at0 a b c d _ x w (by omega) (or_one _ _ h.la)).mono fun e w' ⟨he, hb⟩ => ⟨⟨_, _, _, _, he, h.ins0 hq⟩, hb⟩
  · exact (with_at1 a b c d _ x w (by omega) (or_one _ _ h.lb)).mono fun e w' ⟨he, hb⟩ => ⟨⟨_, _, _, _, he, h.ins1 hq⟩, hb⟩
  · exact (with_at2 a b c d _ x w (by omega) (or_one _ _ h.lc)).mono fun e w' ⟨he, hb⟩ => ⟨⟨_, _, _, _, he, h.ins2 hq⟩, hb⟩
  · exact (with_at3 a b c d _ x w (by omega) (or_one _ _ h.ld)).mono fun e w' ⟨he, hb⟩ => ⟨⟨_, _, _, _, he, h.ins3 hq⟩, hb⟩
set_option maxHeartbeats 1000000 in
theorem rwith_at0 (a b c d v x : Nat) (w : World) (hq : (x : Int) / 64 = 0) (hv : bits .or .u64 (a : Int) (IntKind.u64.wrap (2 ^ (x % 64))) = (v : Nat)) :
    Calls Tryd.prog 49 #[.agg #[.int .u64 (a : Nat), .int .u64 (b : Nat), .int .u64 (c : Nat), .int .u64 (d : Nat)], .int .u8 (x : Nat)] w fun e w' => e = .returned (.agg #[.int .u64 (v : Nat), .int .u64 (b : Nat), .int .u64 (c : Nat), .int .u64 (d : Nat)]) ∧ Below w.heap.size w w' := by
  go_enter Tryd.func49, Tryd.ntmps49
  go_wp2
  exact bodyPost_ret (by simp [results, Tryd.results49, go_sem]) rfl ⟨rfl, below2 _ _ _⟩
set_option maxHeartbeats 1000000 in
theorem rwith_at1 (a b c d v x : Nat) (w : World) (hq : (x : Int) / 64 = 1) (hv : bits .or .u64 (b : Int) (IntKind.u64.wrap (2 ^ (x % 64))) = (v : Nat)) :
    Calls Tryd.prog 49 #[.agg #[.int .u64 (a : Nat), .int .u64 (b : Nat), .int .u64 (c : Nat), .int .u64 (d : Nat)], .int .u8 (x : Nat)] w fun e w' => e = .returned (.agg #[.int .u64 (a : Nat), .int .u64 (v : Nat), .int .u64 (c : Nat), .int .u64 (d : Nat)]) ∧ Below w.heap.size w w' := by
  go_enter Tryd.func49, Tryd.ntmps49
  go_wp2
  exact bodyPost_ret (by simp [results, Tryd.results49, go_sem]) rfl ⟨rfl, below2 _ _ _⟩
set_option maxHeartbeats 1000000 in
theorem rwith_at2 (a b c d v x : Nat) (w : World) (hq : (x : Int) / 64 = 2) (hv : bits .or .u64 (c : Int) (IntKind.u64.wrap (2 ^ (x % 64))) = (v : Nat)) :
    Calls Tryd.prog 49 #[.agg #[.int .u64 (a : Nat), .int .u64 (b : Nat), .int .u64 (c : Nat), .int .u64 (d : Nat)], .int .u8 (x : Nat)] w fun e w' => e = .returned (.agg #[.int .u64 (a : Nat), .int .u64 (b : Nat), .int .u64 (v : Nat), .int .u64 (d : Nat)]) ∧ Below w.heap.size w w' := by
  go_enter Tryd.func49, Tryd.ntmps49
  go_wp2
  exact bodyPost_ret (by simp [results, Tryd.results49, go_sem]) rfl ⟨rfl, below2 _ _ _⟩
set_option maxHeartbeats 1000000 in
theorem rwith_at3 (a b c d v x : Nat) (w : World) (hq : (x : Int) / 64 = 3) (hv : bits .or .u64 (d : Int) (IntKind.u64.wrap (2 ^ (x % 64))) = (v : Nat)) :
    Calls Tryd.prog 49 #[.agg #[.int .u64 (a : Nat), .int .u64 (b : Nat), .int .u64 (c : Nat), .int .u64 (d : Nat)], .int .u8 (x : Nat)] w fun e w' => e = .returned (.agg #[.int .u64 (a : Nat), .int .u64 (b : Nat), .int .u64 (c : Nat), .int .u64 (v : Nat)]) ∧ Below w.heap.size w w' := by
  go_enter Tryd.func49, Tryd.ntmps49
  go_wp2
  exact bodyPost_ret (by simp [results, Tryd.results49, go_sem]) rfl ⟨rfl, below2 _ _ _⟩
/-- rwith: one byte more. -/
theorem rwith_c {P : Nat → Bool} {a b c d : Nat} (h : C4 P a b c d) (x : Nat) (w : World) (hx : x < 256) : Calls Tryd.prog 49 #[.agg #[.int .u64 (a : Nat), .int .u64 (b : Nat), .int .u64 (c : Nat), .int .u64 (d : Nat)], .int .u8 (x : Nat)] w (RetC w (ins P x)) := by
  have hq : x / 64 = 0 ∨ x / 64 = 1 ∨ x / 64 = 2 ∨ x / 64 = 3 := by omega
  rcases hq with hq | hq | hq | hq
  · exact (rwith_at0 a b c d _ x w (by omega) (or_one _ _ h.la)).mono fun e w' ⟨he, hb⟩ => ⟨⟨_, _, _, _, he, h.ins0 hq⟩, hb⟩
  · exact (rwith_at1 a b c d _ x w (by omega) (or_one _ _ h.lb)).mono fun e w' ⟨he, hb⟩ => ⟨⟨_, _, _, _, he, h.ins1 hq⟩, hb⟩
  · exact (rwith_at2 a b c d _ x w (by omega) (or_one _ _ h.lc)).mono fun e w' ⟨he, hb⟩ => ⟨⟨_, _, _, _, he, h.ins2 hq⟩, hb⟩
  · exact (rwith_at3 a b c d _ x w (by omega) (or_one _ _ h.ld)).mono fun e w' ⟨he, hb⟩ => ⟨⟨_, _, _, _, he, h.ins3 hq⟩, hb⟩
end Go.Proofs.YtkbeiadbolihiaaDoor
namespace Go.Proofs.YtkbeiadbolihiaaDoor
open Go.RowKit
theorem has_bit (x j : Nat) (hx : x < 18446744073709551616) : (bits BinOp.and IntKind.u64 ((x : Int) / 2 ^ j) 1 == 1) = x.testBit j := by
  have e : (x : Int) / 2 ^ j = ((x / 2 ^ j : Nat) : Int) := by rw [Int.natCast_ediv, Int.natCast_pow]; rfl
  have h1 : x / 2 ^ j < 18446744073709551616 := Nat.lt_of_le_of_lt (Nat.div_le_self _ _) hx
  rw [e, show (1 : Int) = ((1 : Nat) : Int) from rfl, u64_and_nat _ _ h1 (by decide), nat_mask1, Nat.testBit_eq_decide_div_mod_eq]
  rw [Bool.eq_iff_iff]
  simp
  omega
theorem rhas_bit (x j : Nat) : (((x : Int) / 2 ^ j).tmod 2 == 1) = x.testBit j := by
  have e : (x : Int) / 2 ^ j = ((x / 2 ^ j : Nat) : Int) := by rw [Int.natCast_ediv, Int.natCast_pow]; rfl
  rw [e, Int.tmod_eq_emod_of_nonneg (Int.natCast_nonneg _), Nat.testBit_eq_decide_div_mod_eq, Bool.eq_iff_iff]
  simp
  omega
set_option maxHeartbeats 1000000 in
theorem has_at0 (a b c d x : Nat) (v : Bool) (w : World) (hq : (x : Int) / 64 = 0) (hv : (bits BinOp.and IntKind.u64 ((a : Int) / 2 ^ (x % 64)) 1 == 1) = v) :
    Calls Tryd.prog 67 #[.agg #[.int .u64 (a : Nat), .int .u64 (b : Nat), .int .u64 (c : Nat), .int .u64 (d : Nat)], .int .u8 (x : Nat)] w fun e w' => e = .returned (.bool v) ∧ Below w.heap.size w w' := by
  go_enter Tryd.func67, Tryd.ntmps67
  go_wp2
  go_ret
  exact ⟨rfl, (Below.refl _ _).alloc (Nat.le_refl _) _⟩
set_option maxHeartbeats 1000000 in
theorem has_at1 (a b c d x : Nat) (v : Bool) (w : World) (hq : (x : Int) / 64 = 1) (hv : (bits BinOp.and IntKind.u64 ((b : Int) / 2 ^ (x % 64)) 1 == 1) = v) :
    Calls Tryd.prog 67 #[.agg #[.int .u64 (a : Nat), .int .u64 (b : Nat), .int .u64 (c : Nat), .int .u64 (d : Nat)], .int .u8 (x : Nat)] w fun e w' => e = .returned (.bool v) ∧ Below w.heap.size w w' := by
  go_enter Tryd.func67, Tryd.ntmps67
  go_wp2
  go_ret
  exact ⟨rfl, (Below.refl _ _).alloc (Nat.le_refl _) _⟩
set_option maxHeartbeats 1000000 in
theorem has_at2 (a b c d x : Nat) (v : Bool) (w : World) (hq : (x : Int) / 64 = 2) (hv : (bits BinOp.and IntKind.u64 ((c : Int) / 2 ^ (x % 64)) 1 == 1) = v) :
    Calls Tryd.prog 67 #[.agg #[.int .u64 (a : Nat), .int .u64 (b : Nat), .int .u64 (c : Nat), .int .u64 (d : Nat)], .int .u8 (x : Nat)] w fun e w' => e = .returned (.bool v) ∧ Below w.heap.size w w' := by
  go_enter Tryd.func67, Tryd.ntmps67
  go_wp2
  go_ret
  exact ⟨rfl, (Below.refl _ _).alloc (Nat.le_refl _) _⟩
set_option maxHeartbeats 1000000 in
theorem has_at3 (a b c d x : Nat) (v : Bool) (w : World) (hq : (x : Int) / 64 = 3) (hv : (bits BinOp.and IntKind.u64 ((d : Int) / 2 ^ (x % 64)) 1 == 1) = v) :
    Calls Tryd.prog 67 #[.agg #[.int .u64 (a : Nat), .int .u64 (b : Nat), .int .u64 (c : Nat), .int .u64 (d : Nat)], .int .u8 (x : Nat)] w fun e w' => e = .returned (.bool v) ∧ Below w.heap.size w w' := by
  go_enter Tryd.func67, Tryd.ntmps67
  go_wp2
  go_ret
  exact ⟨rfl, (Below.refl _ _).alloc (Nat.le_refl _) _⟩
/-- has: whether it is in the class. -/
theorem has_c {P : Nat → Bool} {a b c d : Nat} (h : C4 P a b c d) (x : Nat) (w : World) (hx : x < 256) : Calls Tryd.prog 67 #[.agg #[.int .u64 (a : Nat), .int .u64 (b : Nat), .int .u64 (c : Nat), .int .u64 (d : Nat)], .int .u8 (x : Nat)] w fun e w' => e = .returned (.bool (P x)) ∧ Below w.heap.size w w' := by
  have hq : x / 64 = 0 ∨ x / 64 = 1 ∨ x / 64 = 2 ∨ x / 64 = 3 := by omega
  rcases hq with hq | hq | hq | hq
  · exact has_at0 a b c d x _ w (by omega) (by rw [has_bit _ _ h.la, h.ha _ (by omega)]; congr 1; omega)
  · exact has_at1 a b c d x _ w (by omega) (by rw [has_bit _ _ h.lb, h.hb _ (by omega)]; congr 1; omega)
  · exact has_at2 a b c d x _ w (by omega) (by rw [has_bit _ _ h.lc, h.hc _ (by omega)]; congr 1; omega)
  · exact has_at3 a b c d x _ w (by omega) (by rw [has_bit _ _ h.ld, h.hd _ (by omega)]; congr 1; omega)
set_option maxHeartbeats 1000000 in
theorem rhas_at0 (a b c d x : Nat) (v : Bool) (w : World) (hq : (x : Int) / 64 = 0) (hv : ((((a : Int) / 2 ^ (x % 64)).tmod 2) == 1) = v) :
    Calls Tryd.prog 44 #[.agg #[.int .u64 (a : Nat), .int .u64 (b : Nat), .int .u64 (c : Nat), .int .u64 (d : Nat)], .int .u8 (x : Nat)] w fun e w' => e = .returned (.bool v) ∧ Below w.heap.size w w' := by
  go_enter Tryd.func44, Tryd.ntmps44
  go_wp2
  go_ret
  exact ⟨rfl, (Below.refl _ _).alloc (Nat.le_refl _) _⟩
set_option maxHeartbeats 1000000 in
theorem rhas_at1 (a b c d x : Nat) (v : Bool) (w : World) (hq : (x : Int) / 64 = 1) (hv : ((((b : Int) / 2 ^ (x % 64)).tmod 2) == 1) = v) :
    Calls Tryd.prog 44 #[.agg #[.int .u64 (a : Nat), .int .u64 (b : Nat), .int .u64 (c : Nat), .int .u64 (d : Nat)], .int .u8 (x : Nat)] w fun e w' => e = .returned (.bool v) ∧ Below w.heap.size w w' := by
  go_enter Tryd.func44, Tryd.ntmps44
  go_wp2
  go_ret
  exact ⟨rfl, (Below.refl _ _).alloc (Nat.le_refl _) _⟩
set_option maxHeartbeats 1000000 in
theorem rhas_at2 (a b c d x : Nat) (v : Bool) (w : World) (hq : (x : Int) / 64 = 2) (hv : ((((c : Int) / 2 ^ (x % 64)).tmod 2) == 1) = v) :
    Calls Tryd.prog 44 #[.agg #[.int .u64 (a : Nat), .int .u64 (b : Nat), .int .u64 (c : Nat), .int .u64 (d : Nat)], .int .u8 (x : Nat)] w fun e w' => e = .returned (.bool v) ∧ Below w.heap.size w w' := by
  go_enter Tryd.func44, Tryd.ntmps44
  go_wp2
  go_ret
  exact ⟨rfl, (Below.refl _ _).alloc (Nat.le_refl _) _⟩
set_option maxHeartbeats 1000000 in
theorem rhas_at3 (a b c d x : Nat) (v : Bool) (w : World) (hq : (x : Int) / 64 = 3) (hv : ((((d : Int) / 2 ^ (x % 64)).tmod 2) == 1) = v) :
    Calls Tryd.prog 44 #[.agg #[.int .u64 (a : Nat), .int .u64 (b : Nat), .int .u64 (c : Nat), .int .u64 (d : Nat)], .int .u8 (x : Nat)] w fun e w' => e = .returned (.bool v) ∧ Below w.heap.size w w' := by
  go_enter Tryd.func44, Tryd.ntmps44
  go_wp2
  go_ret
  exact ⟨rfl, (Below.refl _ _).alloc (Nat.le_refl _) _⟩
/-- rhas: whether it is in the class. -/
theorem rhas_c {P : Nat → Bool} {a b c d : Nat} (h : C4 P a b c d) (x : Nat) (w : World) (hx : x < 256) : Calls Tryd.prog 44 #[.agg #[.int .u64 (a : Nat), .int .u64 (b : Nat), .int .u64 (c : Nat), .int .u64 (d : Nat)], .int .u8 (x : Nat)] w fun e w' => e = .returned (.bool (P x)) ∧ Below w.heap.size w w' := by
  have hq : x / 64 = 0 ∨ x / 64 = 1 ∨ x / 64 = 2 ∨ x / 64 = 3 := by omega
  rcases hq with hq | hq | hq | hq
  · exact rhas_at0 a b c d x _ w (by omega) (by rw [rhas_bit, h.ha _ (by omega)]; congr 1; omega)
  · exact rhas_at1 a b c d x _ w (by omega) (by rw [rhas_bit, h.hb _ (by omega)]; congr 1; omega)
  · exact rhas_at2 a b c d x _ w (by omega) (by rw [rhas_bit, h.hc _ (by omega)]; congr 1; omega)
  · exact rhas_at3 a b c d x _ w (by omega) (by rw [rhas_bit, h.hd _ (by omega)]; congr 1; omega)
/-- Block b holds an array of four cells. -/
def Bx (w : World) (b : Nat) (x y z t : Value) : Prop := w.heap[b]? = some (.cells #[x, y, z, t] 24 (0, 0))
section
variable {w w' : World} {b : Nat} {x y z t : Value}
theorem Bx.lt (h : Bx w b x y z t) : b < w.heap.size := (Array.getElem?_eq_some_iff.1 h).1
theorem Bx.new (w : World) (x y z t : Value) : Bx (w.alloc (.cells #[x, y, z, t] 24)) w.heap.size x y z t := heap_alloc_new w _
theorem Bx.below (h : Bx w b x y z t) (hb : Below w.heap.size w w') : Bx w' b x y z t := by
  unfold Bx; rw [hb.block b h.lt]; exact h
theorem Bx.belowB {B : Nat} (h : Bx w b x y z t) (hb : Below B w w') (hlt : b < B) : Bx w' b x y z t := by
  unfold Bx; rw [hb.block b hlt]; exact h
theorem Bx.alloc (h : Bx w b x y z t) (o : Obj) : Bx (w.alloc o) b x y z t := h.below ((Below.refl _ _).alloc (Nat.le_refl _) o)
theorem Bx.drew (h : Bx w b x y z t) : Bx w.drew b x y z t := h
theorem Bx.other (h : Bx w b x y z t) {p : Addr} (hp : p.block ≠ b) (u : Value) : Bx (w.setCell p u) b x y z t := by
  unfold Bx; rw [Below.heap_setCell _ _ _ _ (Ne.symm hp)]; exact h
theorem Bx.set0 (h : Bx w b x y z t) (u : Value) : Bx (w.setCell ⟨b, 0, none⟩ u) b u y z t := by
  have := heap_setCell_same w b 0 #[x, y, z, t] 24 u h
  simpa [Bx] using this
theorem Bx.set1 (h : Bx w b x y z t) (u : Value) : Bx (w.setCell ⟨b, 1, none⟩ u) b x u z t := by
  have := heap_setCell_same w b 1 #[x, y, z, t] 24 u h
  simpa [Bx] using this
theorem Bx.set2 (h : Bx w b x y z t) (u : Value) : Bx (w.setCell ⟨b, 2, none⟩ u) b x y u t := by
  have := heap_setCell_same w b 2 #[x, y, z, t] 24 u h
  simpa [Bx] using this
theorem Bx.set3 (h : Bx w b x y z t) (u : Value) : Bx (w.setCell ⟨b, 3, none⟩ u) b x y z u := by
  have := heap_setCell_same w b 3 #[x, y, z, t] 24 u h
  simpa [Bx] using this
/-- A class stored whole. -/
abbrev put4 (w : World) (b : Nat) (p q r s : Value) : World := (((w.setCell ⟨b, 0, none⟩ p).setCell ⟨b, 1, none⟩ q).setCell ⟨b, 2, none⟩ r).setCell ⟨b, 3, none⟩ s
theorem Bx.set (h : Bx w b x y z t) (p q r s : Value) : Bx (put4 w b p q r s) b p q r s := (((h.set0 p).set1 q).set2 r).set3 s
theorem Bx.others (h : Bx w b x y z t) {k : Nat} (hp : k ≠ b) (p q r s : Value) : Bx (put4 w k p q r s) b x y z t :=
  (((h.other (p := ⟨k, 0, none⟩) hp p).other (p := ⟨k, 1, none⟩) hp q).other (p := ⟨k, 2, none⟩) hp r).other (p := ⟨k, 3, none⟩) hp s
theorem below_put4 {B k : Nat} (h : Below B w w') (hB : B ≤ k) (p q r s : Value) : Below B w (put4 w' k p q r s) :=
  (((h.setCell (p := ⟨k, 0, none⟩) hB p).setCell (p := ⟨k, 1, none⟩) hB q).setCell (p := ⟨k, 2, none⟩) hB r).setCell (p := ⟨k, 3, none⟩) hB s
theorem Bx.cells (h : Bx w b x y z t) : w.cell? ⟨b, 0, none⟩ = some x ∧ w.cell? ⟨b, 1, none⟩ = some y ∧ w.cell? ⟨b, 2, none⟩ = some z ∧ w.cell? ⟨b, 3, none⟩ = some t ∧
    w.frozen? ⟨b, 0, none⟩ = false ∧ w.frozen? ⟨b, 1, none⟩ = false ∧ w.frozen? ⟨b, 2, none⟩ = false ∧ w.frozen? ⟨b, 3, none⟩ = false :=
  ⟨cell_of_row w b 0 _ 24 (0, 0) h, cell_of_row w b 1 _ 24 (0, 0) h, cell_of_row w b 2 _ 24 (0, 0) h, cell_of_row w b 3 _ 24 (0, 0) h,
    frozen_of_row w b 0 _ 24 h, frozen_of_row w b 1 _ 24 h, frozen_of_row w b 2 _ 24 h, frozen_of_row w b 3 _ 24 h⟩
end
end Go.Proofs.YtkbeiadbolihiaaDoor
