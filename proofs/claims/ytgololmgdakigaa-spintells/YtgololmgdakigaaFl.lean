/- Whole numbers as floats: their words, sums, order: plain. -/
import Derived.Laws.ComplexArith
namespace Go.Proofs.Ytgololmgdakigaa
open Ieee
/-- The word of a whole number's size, with a sign. -/
def fw (s : Bool) (n : Nat) : Nat := double.nearest s n 0
/-- What a word of a whole number says: its digits are put at the front. -/
def sg (n : Nat) : Nat := n * 2 ^ (52 - n.log2)
theorem log2_mul {n : Nat} (h0 : n ≠ 0) (B : Nat) : (n * 2 ^ B).log2 = n.log2 + B := by
  have hm0 : n * 2 ^ B ≠ 0 := Nat.mul_ne_zero h0 (Nat.ne_of_gt (Nat.two_pow_pos _))
  rw [Nat.log2_eq_iff hm0]
  constructor
  · rw [Nat.pow_add]
    exact Nat.mul_le_mul_right _ (Nat.log2_self_le h0)
  · rw [show n.log2 + B + 1 = (n.log2 + 1) + B by omega, Nat.pow_add]
    exact Nat.mul_lt_mul_of_pos_right (Nat.lt_log2_self) (Nat.two_pow_pos _)
theorem sg_bounds {n : Nat} (h0 : n ≠ 0) (h : n < 2 ^ 53) : 2 ^ 52 ≤ sg n ∧ sg n < 2 ^ 53 := by
  have h1 := Nat.log2_self_le h0
  have h2 := Nat.lt_log2_self (n := n)
  have h3 : n.log2 < 53 := (Nat.log2_lt h0).2 h
  unfold sg
  constructor
  · calc 2 ^ 52 = 2 ^ n.log2 * 2 ^ (52 - n.log2) := by rw [← Nat.pow_add]; congr 1; omega
      _ ≤ _ := Nat.mul_le_mul_right _ h1
  · calc _ < 2 ^ (n.log2 + 1) * 2 ^ (52 - n.log2) := Nat.mul_lt_mul_of_pos_right h2 (Nat.two_pow_pos _)
      _ = 2 ^ 53 := by rw [← Nat.pow_add]; congr 1; omega
theorem lp : double.leastPlace = -1074 := by decide
theorem bn : double.binade = 4503599627370496 := by decide
theorem sw : double.signWeight = 9223372036854775808 := by decide
theorem ir : double.infRung = 9218868437227405312 := by decide
/-- However its digits lie below the point, a whole number has one word. -/
theorem nearest_whole (s : Bool) {n : Nat} (hn : n < 2 ^ 53) (B : Nat) (hB : B ≤ 1074) : double.nearest s (n * 2 ^ B) (-(B : Int)) = if n = 0 then double.word s 0 else double.word s ((n.log2 + 1022) * 2 ^ 52 + sg n) := by
  by_cases h0 : n = 0
  · subst h0
    simp [Format.nearest]
  · have hm0 : n * 2 ^ B ≠ 0 := Nat.mul_ne_zero h0 (Nat.ne_of_gt (Nat.two_pow_pos _))
    have hlog : (n * 2 ^ B).log2 = n.log2 + B := log2_mul h0 B
    have h3 : n.log2 < 53 := (Nat.log2_lt h0).2 hn
    have hb := sg_bounds h0 hn
    rw [if_neg h0]
    unfold Format.nearest
    rw [if_neg hm0, hlog, lp, ir, bn]
    have hB1 := hB
    have e1 : max (-(B : Int) + ((n.log2 + B : Nat) : Int) - (double.fractionBits : Nat)) (-1074) = (n.log2 : Int) - 52 := by
      have : (double.fractionBits : Int) = 52 := rfl
      omega
    simp only [e1]
    have e2 : ((n.log2 : Int) - 52 - -1074).toNat = n.log2 + 1022 := by omega
    rw [e2]
    have e3 : Toward.even.cut s ((n * 2 ^ B) <<< (-(B : Int) - ((n.log2 : Int) - 52)).toNat) ((n.log2 : Int) - 52 - -(B : Int)).toNat = sg n := by
      by_cases hc : B + n.log2 ≤ 52
      · have a1 : (-(B : Int) - ((n.log2 : Int) - 52)).toNat = 52 - n.log2 - B := by omega
        have a2 : ((n.log2 : Int) - 52 - -(B : Int)).toNat = 0 := by omega
        rw [a1, a2]
        unfold Toward.cut
        simp only [Nat.zero_min, Nat.shiftLeft_zero, Nat.div_one, Nat.mod_one]
        rw [Nat.shiftLeft_eq, Nat.mul_assoc, ← Nat.pow_add, show B + (52 - n.log2 - B) = 52 - n.log2 by omega]
        simp [sg]
      · have a1 : (-(B : Int) - ((n.log2 : Int) - 52)).toNat = 0 := by omega
        have a2 : ((n.log2 : Int) - 52 - -(B : Int)).toNat = B + n.log2 - 52 := by omega
        rw [a1, a2, Nat.shiftLeft_zero]
        unfold Toward.cut
        have a3 : min (B + n.log2 - 52) ((n * 2 ^ B).log2 + 2) = B + n.log2 - 52 := by rw [hlog]; omega
        simp only [a3, Nat.one_shiftLeft]
        have a4 : n * 2 ^ B = sg n * 2 ^ (B + n.log2 - 52) := by
          unfold sg
          rw [Nat.mul_assoc, ← Nat.pow_add]
          congr 2
          omega
        rw [a4, Nat.mul_div_cancel _ (Nat.two_pow_pos _), Nat.mul_mod_left]
        have a5 := Nat.two_pow_pos (B + n.log2 - 52)
        have a6 : ¬ (2 ^ (B + n.log2 - 52) < 2 * 0) := by omega
        have a7 : (2 ^ (B + n.log2 - 52) == 2 * 0) = false := by simp
        simp
    rw [e3]
    congr 1
    have : (n.log2 + 1022) * 4503599627370496 + sg n ≤ 9218868437227405312 := by omega
    rw [Nat.min_eq_left this]
theorem fw_zero (s : Bool) : fw s 0 = double.word s 0 := by simp [fw, Format.nearest]
theorem fw_is (s : Bool) {n : Nat} (hn : n < 2 ^ 53) : fw s n = if n = 0 then double.word s 0 else double.word s ((n.log2 + 1022) * 2 ^ 52 + sg n) := by
  have := nearest_whole s hn 0 (by decide)
  simpa [fw] using this
theorem nearest_fw (s : Bool) {n : Nat} (hn : n < 2 ^ 53) (B : Nat) (hB : B ≤ 1074) : double.nearest s (n * 2 ^ B) (-(B : Int)) = fw s n := by
  rw [nearest_whole s hn B hB, fw_is s hn]
theorem read_word (s : Bool) {r : Nat} (hr : r < 9223372036854775808) : double.read (double.word s r) = if r < 4503599627370496 then .number s r (-1074) else if r < 9218868437227405312 then .number s (4503599627370496 + r % 4503599627370496) (-1074 + ((r / 4503599627370496 - 1 : Nat) : Int)) else if r = 9218868437227405312 then .infinity s else .nan s (r - 9218868437227405312) := by
  unfold Format.read Format.word
  rw [sw, bn, ir, lp]
  cases s with
  | false =>
    have e1 : r / 9223372036854775808 = 0 := Nat.div_eq_of_lt hr
    have e2 : r % 9223372036854775808 = r := Nat.mod_eq_of_lt hr
    simp [e1, e2]
  | true =>
    have e1 : (9223372036854775808 + r) / 9223372036854775808 = 1 := by omega
    have e2 : (9223372036854775808 + r) % 9223372036854775808 = r := by omega
    simp [e1, e2]
/-- What a whole number's word says. -/
theorem read_fw (s : Bool) {n : Nat} (hn : n < 2 ^ 53) : ∃ m p, double.read (fw s n) = .number s m (-(p : Nat) : Int) ∧ p ≤ 1074 ∧ m = n * 2 ^ p := by
  rw [fw_is s hn]
  by_cases h0 : n = 0
  · subst h0
    obtain ⟨p, hp⟩ : ∃ p : Nat, p = 1074 := ⟨_, rfl⟩
    refine ⟨0, p, ?_, by omega, (Nat.zero_mul _).symm⟩
    rw [if_pos rfl, read_word s (by decide), hp]
    simp
  · rw [if_neg h0]
    have hb := sg_bounds h0 hn
    have h3 : n.log2 < 53 := (Nat.log2_lt h0).2 hn
    refine ⟨sg n, 52 - n.log2, ?_, by omega, rfl⟩
    rw [read_word s (by omega)]
    rw [if_neg (by omega), if_pos (by omega)]
    congr 1
    · omega
    · omega
/-- A datum that is a whole number. -/
def Rep (d : Datum) (i : Int) : Prop := ∃ s m p, d = .number s m (-(p : Nat) : Int) ∧ p ≤ 1074 ∧ ∀ up, signed s m up = i * ((2 ^ (p + up) : Nat) : Int)
/-- A word that is a whole number: 0 may bear a sign. -/
def IsF (b : Nat) (i : Int) : Prop := ∃ s, b = fw s i.natAbs ∧ (i ≠ 0 → s = decide (i < 0))
theorem IsF.rep {b : Nat} {i : Int} (h : IsF b i) (hi : i.natAbs < 2 ^ 53) : Rep (double.read b) i := by
  obtain ⟨s, rfl, hs⟩ := h
  obtain ⟨m, p, hr, hp, hm⟩ := read_fw s hi
  refine ⟨s, m, p, hr, hp, fun up => ?_⟩
  unfold signed
  rw [hm, Nat.shiftLeft_eq, Nat.mul_assoc, ← Nat.pow_add]
  by_cases h0 : i = 0
  · subst h0
    simp
  · have := hs h0
    by_cases hn : i < 0
    · rw [this, if_pos (by simpa using hn)]
      rw [Int.natCast_mul]
      have : (i.natAbs : Int) = -i := by omega
      rw [this, Int.neg_mul, Int.neg_neg]
    · rw [this, if_neg (by simpa using hn)]
      rw [Int.natCast_mul]
      have : (i.natAbs : Int) = i := by omega
      rw [this]
theorem Rep.neg {d : Datum} {i : Int} (h : Rep d i) : Rep d.opposite (-i) := by
  obtain ⟨s, m, p, rfl, hp, hv⟩ := h
  refine ⟨!s, m, p, rfl, hp, fun up => ?_⟩
  rw [Int.neg_mul, ← hv up]
  unfold signed
  cases s <;> simp
theorem Rep.sum {d e : Datum} {i j : Int} (h : Rep d i) (k : Rep e j) (hb : (i + j).natAbs < 2 ^ 53) : ∃ r, (d.sum e).map double.write = some r ∧ IsF r (i + j) := by
  obtain ⟨s, m, p, rfl, hp, hv⟩ := h
  obtain ⟨t, n, q, rfl, hq, hw⟩ := k
  obtain ⟨P, hP⟩ : ∃ P, P = max p q := ⟨_, rfl⟩
  have hbase : min (-(p : Int)) (-(q : Int)) = -(P : Int) := by omega
  have e1 : (-(p : Int) - -(P : Int)).toNat = P - p := by omega
  have e2 : (-(q : Int) - -(P : Int)).toNat = P - q := by omega
  have htot : signed s m (P - p) + signed t n (P - q) = (i + j) * ((2 ^ P : Nat) : Int) := by
    rw [hv, hw, show p + (P - p) = P by omega, show q + (P - q) = P by omega, Int.add_mul]
  have hpos : (0 : Int) < ((2 ^ P : Nat) : Int) := by have := Nat.two_pow_pos P; omega
  simp only [Datum.sum, hbase, e1, e2, htot, Option.map_some, Format.write]
  refine ⟨_, rfl, (if (i + j) * ((2 ^ P : Nat) : Int) = 0 then s && t else decide ((i + j) * ((2 ^ P : Nat) : Int) < 0)), ?_, fun h0 => ?_⟩
  · rw [Int.natAbs_mul, Int.natAbs_natCast]
    exact nearest_fw _ hb P (by omega)
  · have h1 : ¬ (i + j) * ((2 ^ P : Nat) : Int) = 0 := fun e => by
      rcases Int.mul_eq_zero.1 e with e | e <;> omega
    rw [if_neg h1]
    congr 1
    apply propext
    constructor
    · intro h
      rcases Int.lt_trichotomy (i + j) 0 with h' | h' | h'
      · exact h'
      · exact (h0 h').elim
      · have := Int.mul_pos h' hpos
        omega
    · intro h
      exact Int.mul_neg_of_neg_of_pos h hpos
theorem add_f {a b : Nat} {i j : Int} (ha : IsF a i) (hb : IsF b j) (hi : i.natAbs < 2 ^ 53) (hj : j.natAbs < 2 ^ 53) (hs : (i + j).natAbs < 2 ^ 53) : ∃ r, floatBits .add .f64 a b = some r ∧ IsF r (i + j) :=
  (ha.rep hi).sum (hb.rep hj) hs
theorem sub_f {a b : Nat} {i j : Int} (ha : IsF a i) (hb : IsF b j) (hi : i.natAbs < 2 ^ 53) (hj : j.natAbs < 2 ^ 53) (hs : (i - j).natAbs < 2 ^ 53) : ∃ r, floatBits .sub .f64 a b = some r ∧ IsF r (i - j) :=
  (ha.rep hi).sum (hb.rep hj).neg hs
theorem order_f {a b : Nat} {i j : Int} (ha : IsF a i) (hb : IsF b j) (hi : i.natAbs < 2 ^ 53) (hj : j.natAbs < 2 ^ 53) : FloatKind.f64.format.order a b = some (compare i j) := by
  obtain ⟨s, m, p, h1, _, hv⟩ := ha.rep hi
  obtain ⟨t, n, q, h2, _, hw⟩ := hb.rep hj
  show (double.read a).order (double.read b) = _
  rw [h1, h2]
  obtain ⟨P, hP⟩ : ∃ P, P = max p q := ⟨_, rfl⟩
  have hbase : min (-(p : Int)) (-(q : Int)) = -(P : Int) := by omega
  have e1 : (-(p : Int) - -(P : Int)).toNat = P - p := by omega
  have e2 : (-(q : Int) - -(P : Int)).toNat = P - q := by omega
  have hpos : (0 : Int) < ((2 ^ P : Nat) : Int) := by have := Nat.two_pow_pos P; omega
  simp only [Datum.order, hbase, e1, e2, hv, hw]
  rw [show p + (P - p) = P by omega, show q + (P - q) = P by omega]
  congr 1
  rcases Int.lt_trichotomy i j with h | h | h
  · rw [Int.compare_eq_lt.2 h, Int.compare_eq_lt.2 (Int.mul_lt_mul_of_pos_right h hpos)]
  · subst h; rw [Int.compare_eq_eq.2 rfl, Int.compare_eq_eq.2 rfl]
  · rw [Int.compare_eq_gt.2 h, Int.compare_eq_gt.2 (Int.mul_lt_mul_of_pos_right h hpos)]
theorem of_int (n : Int) : IsF (floatOfInt .f64 n) n := ⟨decide (n < 0), rfl, fun _ => rfl⟩
theorem xor_top {r : Nat} (hr : r < 2 ^ 63) : r ^^^ 2 ^ 63 = 2 ^ 63 + r := by
  apply Nat.eq_of_testBit_eq
  intro i
  rw [Nat.testBit_xor, Nat.testBit_two_pow]
  by_cases h : i = 63
  · subst h
    rw [Nat.testBit_two_pow_add_eq, Nat.testBit_lt_two_pow hr]
    simp
  · rcases Nat.lt_or_gt_of_ne h with h' | h'
    · rw [Nat.testBit_two_pow_add_gt h']
      have : ¬ 63 = i := by omega
      simp [this]
    · have h1 : r.testBit i = false := Nat.testBit_lt_two_pow (Nat.lt_trans hr (Nat.pow_lt_pow_right (by decide) h'))
      have h2 : (2 ^ 63 + r).testBit i = false := Nat.testBit_lt_two_pow (Nat.lt_of_lt_of_le (show 2 ^ 63 + r < 2 ^ 64 by omega) (Nat.pow_le_pow_right (by decide) h'))
      have : ¬ 63 = i := by omega
      simp [h1, h2, this]
theorem neg_word (s : Bool) {r : Nat} (hr : r < 2 ^ 63) : Op.negFloat .f64 (double.word s r) = double.word (!s) r := by
  show double.word s r ^^^ 2 ^ 63 = _
  unfold Format.word
  rw [sw]
  cases s with
  | false => simpa using xor_top hr
  | true =>
    simp only [if_true, Bool.not_true, Bool.false_eq_true, if_false]
    rw [show (9223372036854775808 + r) = 2 ^ 63 + r from rfl, ← xor_top hr, Nat.xor_assoc, Nat.xor_self, Nat.xor_zero]
theorem neg_f {a : Nat} {i : Int} (h : IsF a i) (hi : i.natAbs < 2 ^ 53) : IsF (Op.negFloat .f64 a) (-i) := by
  obtain ⟨s, rfl, hs⟩ := h
  refine ⟨!s, ?_, fun h0 => ?_⟩
  · rw [Int.natAbs_neg, fw_is s hi, fw_is (!s) hi]
    by_cases h0 : i.natAbs = 0
    · rw [if_pos h0, if_pos h0, neg_word s (by decide)]
    · rw [if_neg h0, if_neg h0]
      have hb := sg_bounds h0 hi
      have h3 : i.natAbs.log2 < 53 := (Nat.log2_lt h0).2 hi
      exact neg_word s (by omega)
  · rw [hs (by omega)]
    by_cases h1 : i < 0
    · have h2 : ¬ -i < 0 := by omega
      rw [decide_eq_true h1, decide_eq_false h2]
      rfl
    · have h2 : -i < 0 := by omega
      rw [decide_eq_false h1, decide_eq_true h2]
      rfl
end Go.Proofs.Ytgololmgdakigaa
