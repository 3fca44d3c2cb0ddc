/- ClassMakes: the walk of the law. math/bits.OnesCount64: how many bits a word has; the sums behind it. math/bits.OnesCount64: how many bits a word has; the walk. Count: the walk; how many bytes a class has. The reference's Bytes: the walk. isLetter, Fold: the walks. told: the bytes of a class, in a slice of its own: the walk. -/
import Derived.Test.YtkbeiadbolihiaaDoorM05Kb
import Derived.Test.YtkbeiadbolihiaaDoorM01Bu
import Derived.Test.YtkbeiadbolihiaaDoorM04Tx
namespace Go.Proofs.YtkbeiadbolihiaaDoor
open Go.RowKit
theorem eql_same (p q r s : Nat) (w : World) : (Go.binOp .eql 24 (.agg #[.int .u64 (p : Nat), .int .u64 (q : Nat), .int .u64 (r : Nat), .int .u64 (s : Nat)]) (.agg #[.int .u64 (p : Nat), .int .u64 (q : Nat), .int .u64 (r : Nat), .int .u64 (s : Nat)])).run Tryd.prog w = .ok (.bool true) w := by
  rw [eql4]; simp
theorem full_rg {a b c d : Nat} (h : C4 (fun _ => true) a b c d) : C4 (rg 0 256) a b c d := h.congr fun x hx => by simp [rg]; omega
end Go.Proofs.YtkbeiadbolihiaaDoor
namespace Go.Proofs.YtkbeiadbolihiaaDoor
open Go.RowKit
/-- How many of the first n bits are set. -/
def pop (x : Nat) : Nat → Nat
  | 0 => 0
  | n + 1 => pop x n + (if x.testBit n then 1 else 0)
/-- The mask m, k times one byte. -/
def rep (m : Nat) : Nat → Nat
  | 0 => 0
  | k + 1 => 256 * rep m k + m
def f1 (x m : Nat) : Nat := (x / 2 &&& m) + (x &&& m)
def f2 (x m : Nat) : Nat := (x / 4 &&& m) + (x &&& m)
def f3 (x m : Nat) : Nat := (x / 16 + x) &&& m
theorem and_split (a b : Nat) : a &&& b = 256 * (a / 256 &&& b / 256) + (a % 256 &&& b % 256) := by
  have h1 : (a &&& b) % 256 = (a % 256) &&& (b % 256) := Nat.and_mod_two_pow (n := 8)
  have h2 : (a &&& b) / 256 = a / 256 &&& b / 256 := Nat.and_div_two_pow (n := 8)
  omega
theorem byte1 : ∀ l : Fin 256, ∀ r : Fin 2, ((128 * r.1 + l.1 / 2) % 256 &&& 85) = (l.1 / 2 &&& 85) := by decide +kernel
theorem byte2 : ∀ l : Fin 256, ∀ r : Fin 4, ((64 * r.1 + l.1 / 4) % 256 &&& 51) = (l.1 / 4 &&& 51) := by decide +kernel
theorem f1_split (h l M : Nat) (hl : l < 256) : f1 (256 * h + l) (256 * M + 85) = 256 * f1 h M + f1 l 85 := by
  unfold f1
  have e1 : ((256 * h + l) / 2 &&& (256 * M + 85)) = 256 * (h / 2 &&& M) + (l / 2 &&& 85) := by
    rw [and_split, show (256 * h + l) / 2 / 256 = h / 2 by omega, show (256 * M + 85) / 256 = M by omega, show (256 * M + 85) % 256 = 85 by omega]
    have := byte1 ⟨l, hl⟩ ⟨h % 2, by omega⟩
    simp only at this
    rw [show (256 * h + l) / 2 % 256 = (128 * (h % 2) + l / 2) % 256 by omega, this]
  have e2 : ((256 * h + l) &&& (256 * M + 85)) = 256 * (h &&& M) + (l &&& 85) := by
    rw [and_split, show (256 * h + l) / 256 = h by omega, show (256 * h + l) % 256 = l by omega, show (256 * M + 85) / 256 = M by omega, show (256 * M + 85) % 256 = 85 by omega]
  omega
theorem f2_split (h l M : Nat) (hl : l < 256) : f2 (256 * h + l) (256 * M + 51) = 256 * f2 h M + f2 l 51 := by
  unfold f2
  have e1 : ((256 * h + l) / 4 &&& (256 * M + 51)) = 256 * (h / 4 &&& M) + (l / 4 &&& 51) := by
    rw [and_split, show (256 * h + l) / 4 / 256 = h / 4 by omega, show (256 * M + 51) / 256 = M by omega, show (256 * M + 51) % 256 = 51 by omega]
    have := byte2 ⟨l, hl⟩ ⟨h % 4, by omega⟩
    simp only at this
    rw [show (256 * h + l) / 4 % 256 = (64 * (h % 4) + l / 4) % 256 by omega, this]
  have e2 : ((256 * h + l) &&& (256 * M + 51)) = 256 * (h &&& M) + (l &&& 51) := by
    rw [and_split, show (256 * h + l) / 256 = h by omega, show (256 * h + l) % 256 = l by omega, show (256 * M + 51) / 256 = M by omega, show (256 * M + 51) % 256 = 51 by omega]
  omega
/-- One byte through the three steps. -/
theorem byte3 : ∀ l : Fin 256, f1 l.1 85 < 256 ∧ f2 (f1 l.1 85) 51 < 256 ∧ f2 (f1 l.1 85) 51 / 16 ≤ 4 ∧ f2 (f1 l.1 85) 51 % 16 ≤ 4 ∧ f3 (f2 (f1 l.1 85) 51) 15 = pop l.1 8 := by decide +kernel
theorem and15 : ∀ v : Fin 256, v.1 &&& 15 = v.1 % 16 := by decide +kernel
theorem f3_split (h l M : Nat) (h4 : h % 16 ≤ 4) (l1 : l / 16 ≤ 4) (l2 : l % 16 ≤ 4) : f3 (256 * h + l) (256 * M + 15) = 256 * f3 h M + f3 l 15 := by
  unfold f3
  have e16 : (256 * h + l) / 16 = 16 * h + l / 16 := by omega
  rw [and_split, e16, show (256 * M + 15) / 256 = M by omega, show (256 * M + 15) % 256 = 15 by omega, show (16 * h + l / 16 + (256 * h + l)) / 256 = h / 16 + h by omega]
  have e := and15 ⟨(16 * h + l / 16 + (256 * h + l)) % 256, by omega⟩
  have e2 := and15 ⟨(l / 16 + l), by omega⟩
  simp only at e e2
  rw [e, e2, show (16 * h + l / 16 + (256 * h + l)) % 256 % 16 = (l / 16 + l) % 16 by omega]
theorem pop_split (h l k : Nat) (hl : l < 256) : pop (256 * h + l) (8 + k) = pop l 8 + pop h k := by
  induction k with
  | zero =>
    have key : ∀ n, n ≤ 8 → pop (256 * h + l) n = pop l n := by
      intro n hn
      induction n with
      | zero => rfl
      | succ n ih =>
        rw [pop, pop, ih (by omega)]
        have : (256 * h + l).testBit n = l.testBit n := by
          have := Nat.testBit_two_pow_mul_add h (show l < 2 ^ 8 from hl) n
          rw [show (2 : Nat) ^ 8 = 256 by decide] at this
          rw [this, if_pos (by omega)]
        rw [this]
    rw [key 8 (by omega)]
    rfl
  | succ k ih =>
    have e : pop (256 * h + l) (8 + (k + 1)) = pop (256 * h + l) (8 + k) + (if (256 * h + l).testBit (8 + k) then 1 else 0) := rfl
    have e' : pop h (k + 1) = pop h k + (if h.testBit k then 1 else 0) := rfl
    have : (256 * h + l).testBit (8 + k) = h.testBit k := by
      have := Nat.testBit_two_pow_mul_add h (show l < 2 ^ 8 from hl) (8 + k)
      rw [show (2 : Nat) ^ 8 = 256 by decide] at this
      rw [this, if_neg (by omega), Nat.add_sub_cancel_left]
    rw [e, e', ih, this]
    omega
/-- k bytes through the three steps. -/
def gsum (x : Nat) : Nat → Nat
  | 0 => 0
  | k + 1 => 256 * gsum (x / 256) k + pop (x % 256) 8
theorem three (k : Nat) : ∀ x, x < 256 ^ k → f3 (f2 (f1 x (rep 85 k)) (rep 51 k)) (rep 15 k) = gsum x k ∧ f2 (f1 x (rep 85 k)) (rep 51 k) % 16 ≤ 4 := by
  induction k with
  | zero =>
    intro x hx
    obtain rfl : x = 0 := by simpa using hx
    simp [f1, f2, f3, rep, gsum]
  | succ k ih =>
    intro x hx
    have hd : x / 256 < 256 ^ k := by rw [Nat.pow_succ] at hx; omega
    obtain ⟨i1, i2⟩ := ih (x / 256) hd
    have hx2 : x = 256 * (x / 256) + x % 256 := by omega
    have hl : x % 256 < 256 := Nat.mod_lt _ (by decide)
    obtain ⟨b1, b2, b3, b4, b5⟩ := byte3 ⟨x % 256, hl⟩
    simp only at b1 b2 b3 b4 b5
    have e1 : f1 x (rep 85 (k + 1)) = 256 * f1 (x / 256) (rep 85 k) + f1 (x % 256) 85 := by
      conv => lhs; rw [hx2]
      exact f1_split _ _ _ hl
    have e2 : f2 (f1 x (rep 85 (k + 1))) (rep 51 (k + 1)) = 256 * f2 (f1 (x / 256) (rep 85 k)) (rep 51 k) + f2 (f1 (x % 256) 85) 51 := by
      rw [e1]; exact f2_split _ _ _ b1
    rw [e2]
    refine ⟨?_, by omega⟩
    rw [show rep 15 (k + 1) = 256 * rep 15 k + 15 from rfl, f3_split _ _ _ i2 b3 b4, i1, b5]
    rfl
theorem pop_le (x n : Nat) : pop x n ≤ n := by
  induction n with
  | zero => exact Nat.le_refl _
  | succ n ih => rw [pop]; split <;> omega
/-- The bytes' counts together. -/
def psum (x : Nat) : Nat → Nat
  | 0 => 0
  | k + 1 => psum (x / 256) k + pop (x % 256) 8
theorem pop_psum (k : Nat) : ∀ x, pop x (8 * k) = psum x k := by
  induction k with
  | zero => intro x; rfl
  | succ k ih =>
    intro x
    have h := pop_split (x / 256) (x % 256) (8 * k) (Nat.mod_lt _ (by decide))
    rw [show 256 * (x / 256) + x % 256 = x by omega, show 8 + 8 * k = 8 * (k + 1) by omega, ih] at h
    rw [h, psum]
    omega
theorem dv1 {G q g : Nat} (h : G = 256 * q + g) (hg : g ≤ 64) : G / 256 = q := by omega
theorem dv2 {Y A B C : Nat} (h : Y = 65536 * A + 256 * B + C) (hB : B ≤ 64) (hC : C ≤ 64) : Y / 65536 = A := by omega
theorem dv3 {Z A B C D E : Nat} (h : Z = 4294967296 * A + 16777216 * B + 65536 * C + 256 * D + E) (hB : B ≤ 64) (hC : C ≤ 64) (hD : D ≤ 64) (hE : E ≤ 64) : Z / 4294967296 = A := by omega
theorem md {A E F : Nat} (hE : E + F ≤ 64) : (256 * A + (E + F)) % 128 = E + F := by omega
theorem ly {G q1 q2 q3 g0 g1 g2 : Nat} (hG : G = 256 * q1 + g0) (e1 : q1 = 256 * q2 + g1) (e2 : q2 = 256 * q3 + g2) : G + q1 = 65536 * (q2 + q3) + 256 * (g1 + g2) + (g0 + g1) := by omega
theorem lz {X Y A B C a b c : Nat} (h : X = 65536 * A + 256 * B + C) (k : Y = 65536 * a + 256 * b + c) : X + Y = 65536 * (A + a) + 256 * (B + b) + (C + c) := by omega
theorem lw {Z X A B C D E : Nat} (k : Z = 65536 * X + 256 * D + E) (h : X = 65536 * A + 256 * B + C) : Z = 4294967296 * A + 16777216 * B + 65536 * C + 256 * D + E := by omega
theorem lu {Z Y A B C D F : Nat} (h : Z = 65536 * A + 256 * B + C) (k : Y = 256 * D + F) : Z + Y = 256 * (256 * A + B + D) + (C + F) := by omega
theorem lp {q4 q5 q6 g4 g5 g6 g7 : Nat} (e4 : q4 = 256 * q5 + g4) (e5 : q5 = 256 * q6 + g5) (e6 : q6 = 256 * g7 + g6) : q4 + q5 + (q6 + g7) = 256 * (q5 + q6 + g7) + (g4 + g5 + (g6 + g7)) := by omega
theorem le2 {a b : Nat} (h : a ≤ 8) (k : b ≤ 8) : a + b ≤ 64 := by omega
theorem le4 {a b c d : Nat} (h1 : a ≤ 8) (h2 : b ≤ 8) (h3 : c ≤ 8) (h4 : d ≤ 8) : a + b + (c + d) ≤ 64 := by omega
theorem le8 {a b c d e f g h : Nat} (h1 : a ≤ 8) (h2 : b ≤ 8) (h3 : c ≤ 8) (h4 : d ≤ 8) (h5 : e ≤ 8) (h6 : f ≤ 8) (h7 : g ≤ 8) (h8 : h ≤ 8) : (a + b + (c + d)) + (e + f + (g + h)) ≤ 64 := by omega
theorem adds (g0 g1 g2 g3 g4 g5 g6 g7 q1 q2 q3 q4 q5 q6 G : Nat) (h0 : g0 ≤ 8) (h1 : g1 ≤ 8) (h2 : g2 ≤ 8) (h3 : g3 ≤ 8) (h4 : g4 ≤ 8) (h5 : g5 ≤ 8) (h6 : g6 ≤ 8) (h7 : g7 ≤ 8)
    (hG : G = 256 * q1 + g0) (e1 : q1 = 256 * q2 + g1) (e2 : q2 = 256 * q3 + g2) (e3 : q3 = 256 * q4 + g3) (e4 : q4 = 256 * q5 + g4) (e5 : q5 = 256 * q6 + g5) (e6 : q6 = 256 * g7 + g6) :
    (G + G / 256 + (G + G / 256) / 65536 + (G + G / 256 + (G + G / 256) / 65536) / 4294967296) % 128 = (g0 + g1 + (g2 + g3)) + (g4 + g5 + (g6 + g7)) := by
  have y := ly hG e1 e2
  have p2 := ly e2 e3 e4
  have p4 := ly e4 e5 e6
  have z := lz y p2
  have p24 := lz p2 p4
  rw [dv1 hG (Nat.le_trans h0 (by decide)), dv2 y (le2 h1 h2) (le2 h0 h1), dv3 (lw z p24) (le4 h3 h4 h5 h6) (le4 h2 h3 h4 h5) (le4 h1 h2 h3 h4) (le4 h0 h1 h2 h3), lu z (lp e4 e5 e6)]
  exact md (le8 h0 h1 h2 h3 h4 h5 h6 h7)
theorem gsum_lt (k : Nat) : ∀ x, 32 * gsum x k < 2 * 256 ^ k := by
  induction k with
  | zero => intro x; simp [gsum]
  | succ k ih =>
    intro x
    have h1 := ih (x / 256)
    have h2 := pop_le (x % 256) 8
    rw [gsum, Nat.pow_succ]
    generalize 256 ^ k = p at *
    omega
theorem adds_all (x : Nat) : (gsum x 8 + gsum x 8 / 256 + (gsum x 8 + gsum x 8 / 256) / 65536 + (gsum x 8 + gsum x 8 / 256 + (gsum x 8 + gsum x 8 / 256) / 65536) / 4294967296) % 128 = pop x 64 := by
  have h := adds (pop (x % 256) 8) (pop (x / 256 % 256) 8) (pop (x / 256 / 256 % 256) 8) (pop (x / 256 / 256 / 256 % 256) 8) (pop (x / 256 / 256 / 256 / 256 % 256) 8) (pop (x / 256 / 256 / 256 / 256 / 256 % 256) 8) (pop (x / 256 / 256 / 256 / 256 / 256 / 256 % 256) 8) (gsum (x / 256 / 256 / 256 / 256 / 256 / 256 / 256) 1)
    (gsum (x / 256) 7) (gsum (x / 256 / 256) 6) (gsum (x / 256 / 256 / 256) 5) (gsum (x / 256 / 256 / 256 / 256) 4) (gsum (x / 256 / 256 / 256 / 256 / 256) 3) (gsum (x / 256 / 256 / 256 / 256 / 256 / 256) 2) (gsum x 8)
    (pop_le _ _) (pop_le _ _) (pop_le _ _) (pop_le _ _) (pop_le _ _) (pop_le _ _) (pop_le _ _) (by have := pop_le (x / 256 / 256 / 256 / 256 / 256 / 256 / 256 % 256) 8; simpa [gsum] using this) rfl rfl rfl rfl rfl rfl rfl
  have e : pop x 64 = psum x 8 := pop_psum 8 x
  have e1 : gsum (x / 256 / 256 / 256 / 256 / 256 / 256 / 256) 1 = pop (x / 256 / 256 / 256 / 256 / 256 / 256 / 256 % 256) 8 := by simp [gsum]
  rw [h, e, e1]
  simp only [psum]
  clear h e e1
  generalize pop (x % 256) 8 = a0
  generalize pop (x / 256 % 256) 8 = a1
  generalize pop (x / 256 / 256 % 256) 8 = a2
  generalize pop (x / 256 / 256 / 256 % 256) 8 = a3
  generalize pop (x / 256 / 256 / 256 / 256 % 256) 8 = a4
  generalize pop (x / 256 / 256 / 256 / 256 / 256 % 256) 8 = a5
  generalize pop (x / 256 / 256 / 256 / 256 / 256 / 256 % 256) 8 = a6
  generalize pop (x / 256 / 256 / 256 / 256 / 256 / 256 / 256 % 256) 8 = a7
  omega
theorem mask_bits (x : Nat) : x &&& 127 = x % 128 := Nat.and_two_pow_sub_one_eq_mod x 7
theorem and127 (k : Nat) (hk : k < 18446744073709551616) : bits BinOp.and IntKind.i64 (k : Int) 127 = ((k % 128 : Nat) : Int) := by
  have h1 : (BitVec.ofInt 64 (127 : Int)).toNat = 127 := by decide
  have e64 : ((2 ^ 64 : Nat) : Int) = 18446744073709551616 := by decide
  have h2 : (BitVec.ofInt 64 (k : Int)).toNat = k := by
    rw [BitVec.toNat_ofInt]
    have : (k : Int) % ((2 ^ 64 : Nat) : Int) = k := Int.emod_eq_of_lt (by omega) (by omega)
    rw [this]; omega
  show IntKind.i64.wrap ((BitVec.ofInt 64 (k : Int) &&& BitVec.ofInt 64 (127 : Int)).toNat : Int) = _
  rw [BitVec.toNat_and, h1, h2, mask_bits]
  simp [IntKind.wrap, IntKind.bits, IntKind.signed]; omega
theorem and_nat (x m : Nat) (k : Nat) (hx : x < 18446744073709551616) (hm : m < 18446744073709551616) : bits BinOp.and IntKind.u64 ((x : Int) / (k : Nat)) (m : Int) = ((x / k &&& m : Nat) : Int) := by
  have e : (x : Int) / (k : Nat) = ((x / k : Nat) : Int) := (Int.natCast_ediv x k).symm
  rw [e, u64_and_nat _ _ (Nat.lt_of_le_of_lt (Nat.div_le_self _ _) hx) hm]
theorem rep1 : rep 85 8 = 6148914691236517205 := by decide
theorem rep2 : rep 51 8 = 3689348814741910323 := by decide
theorem rep3 : rep 15 8 = 1085102592571150095 := by decide
end Go.Proofs.YtkbeiadbolihiaaDoor
namespace Go.Proofs.YtkbeiadbolihiaaDoor
open Go.RowKit
theorem wrap_is {v : Int} {n : Nat} (h : v = n) (hn : n < 18446744073709551616) : IntKind.u64.wrap v = (n : Int) := by
  subst h
  simp [IntKind.wrap, IntKind.bits, IntKind.signed]; omega
theorem and_nat1 (x m k : Nat) (hx : x < 18446744073709551616) (hm : m < 18446744073709551616) {kk mm : Int} (e : kk = (k : Nat)) (e' : mm = (m : Nat)) : bits BinOp.and IntKind.u64 ((x : Int) / kk) mm = ((x / k &&& m : Nat) : Int) := by
  subst e; subst e'; exact and_nat x m k hx hm
theorem and_nat0 (x m : Nat) (hx : x < 18446744073709551616) (hm : m < 18446744073709551616) {mm : Int} (e' : mm = (m : Nat)) : bits BinOp.and IntKind.u64 (x : Int) mm = ((x &&& m : Nat) : Int) := by
  subst e'; exact u64_and_nat x m hx hm
end Go.Proofs.YtkbeiadbolihiaaDoor
namespace Go.Proofs.YtkbeiadbolihiaaDoor
open Go.RowKit
/-- How many of the first n bytes are in the class. -/
def cnt (P : Nat → Bool) : Nat → Nat
  | 0 => 0
  | n + 1 => cnt P n + (if P n then 1 else 0)
theorem cnt_pop {P : Nat → Bool} {x q : Nat} (n : Nat) (hn : n ≤ 64) (h : ∀ j, j < 64 → x.testBit j = P (q + j)) : cnt P (q + n) = cnt P q + pop x n := by
  induction n with
  | zero => rfl
  | succ n ih =>
    rw [show q + (n + 1) = (q + n) + 1 from rfl, cnt, pop, ih (by omega), h n (by omega)]
    omega
theorem cnt_le (P : Nat → Bool) (n : Nat) : cnt P n ≤ n := by
  induction n with
  | zero => exact Nat.le_refl _
  | succ n ih => rw [cnt]; split <;> omega
theorem cnt_all {P : Nat → Bool} {a b c d : Nat} (h : C4 P a b c d) : cnt P 256 = pop a 64 + pop b 64 + pop c 64 + pop d 64 := by
  have h1 := cnt_pop (P := P) (x := a) (q := 0) 64 (by decide) (fun j hj => by rw [Nat.zero_add]; exact h.ha j hj)
  have h2 := cnt_pop (q := 64) 64 (by decide) h.hb
  have h3 := cnt_pop (q := 128) 64 (by decide) h.hc
  have h4 := cnt_pop (q := 192) 64 (by decide) h.hd
  have h0 : cnt P 0 = 0 := rfl
  simp only [Nat.zero_add] at h1
  rw [h4, h3, h2, h1, h0, Nat.zero_add]
theorem cnt_come (P : Nat → Bool) (n : Nat) : cnt P n = (come P n).length := by
  induction n with
  | zero => rfl
  | succ n ih =>
    rw [cnt, ih]
    cases h : P n
    · rw [come_no h]; simp
    · rw [come_yes h]; simp
/-- A number, and what was there is as it was. -/
def RetI (w : World) (n : Nat) (e : Ending) (w' : World) : Prop := e = .returned (.int .i64 (n : Nat)) ∧ Below w.heap.size w w'
end Go.Proofs.YtkbeiadbolihiaaDoor
namespace Go.Proofs.YtkbeiadbolihiaaDoor
open Go.RowKit
/-- A row of bytes as values. -/
def byt (l : List Nat) : List Value := l.map fun x => Value.int .u8 (x : Nat)
/-- A list of bytes in memory of its own; nothing old has turned. -/
def RetBs (w : World) (l : List Nat) (e : Ending) (w' : World) : Prop := ∃ ao cap, e = .returned (.slice ao l.length cap) ∧ w'.ownsRow w.heap.size 5 1 (.slice ao l.length cap) l.length (byt l) ∧ Below w.heap.size w w'
theorem row_below {B : Nat} {w w' : World} {v : Value} {n : Nat} {xs : List Value} (h : w.ownsRow B 5 1 v n xs) (hb : Below w.heap.size w w') : w'.ownsRow B 5 1 v n xs := by
  refine ⟨h.1, ?_⟩
  rcases h.2 with h' | ⟨g, cap, cur, e, hg, hh, r⟩
  · exact .inl h'
  · exact .inr ⟨g, cap, cur, e, hg, by rw [hb.block g (Array.getElem?_eq_some_iff.1 hh).1]; exact hh, r⟩
theorem row_mono {B B' : Nat} {w : World} {v : Value} {n : Nat} {xs : List Value} (h : w.ownsRow B 5 1 v n xs) (hB : B' ≤ B) : w.ownsRow B' 5 1 v n xs :=
  ⟨h.1, h.2.imp id fun ⟨g, cap, cur, e, hg, r⟩ => ⟨g, cap, cur, e, Nat.le_trans hB hg, r⟩⟩
structure RelB (w : World) (a b c d : Nat) (P : Nat → Bool) (k : Nat) (v : Value) (wr : World) : Prop where
  box : Bx wr w.heap.size (.int .u64 (a : Nat)) (.int .u64 (b : Nat)) (.int .u64 (c : Nat)) (.int .u64 (d : Nat))
  own : wr.ownsRow (w.heap.size + 1) 5 1 v (come P k).length (byt (come P k))
  below : Below w.heap.size w wr
theorem RelB.next {w : World} {a b c d : Nat} {P : Nat → Bool} {k : Nat} {v : Value} {wr wr' : World} (h : RelB w a b c d P k v wr) (hb : Below wr.heap.size wr wr') : RelB w a b c d P k v wr' :=
  ⟨h.box.below hb, row_below h.own hb, h.below.trans (hb.mono h.below.size)⟩
set_option maxRecDepth 10000 in
set_option maxHeartbeats 2000000 in
theorem rbytes_c {P : Nat → Bool} {a b c d : Nat} (h4 : C4 P a b c d) (w : World) : Calls Tryd.prog 27 #[.agg #[.int .u64 (a : Nat), .int .u64 (b : Nat), .int .u64 (c : Nat), .int .u64 (d : Nat)]] w (RetBs w (come P 256)) := by
  obtain ⟨i0, hi, hz0, hz1, hz2⟩ := info_parts b_byte
  have hB0 : Below w.heap.size w (w.alloc (.cells #[.int .u64 (a : Nat), .int .u64 (b : Nat), .int .u64 (c : Nat), .int .u64 (d : Nat)] 24)) := (Below.refl _ _).alloc (Nat.le_refl _) _
  have q0 := Bx.new w (.int .u64 (a : Nat)) (.int .u64 (b : Nat)) (.int .u64 (c : Nat)) (.int .u64 (d : Nat))
  go_enter Tryd.func27, Tryd.ntmps27
  go_wp2_with fail
  go_loopw [3, 4] (fun v i wr => ∃ k : Nat, k ≤ 256 ∧ i = .int .i64 k ∧ RelB w a b c d P k v wr) (fun _ i _ => 256 - (intOf i).toNat)
  case atStart => exact ⟨0, Nat.zero_le _, rfl, q0, World.ownsRow_nil _ _ _ _, hB0⟩
  case round =>
    obtain ⟨k, hk, rfl, hR⟩ := hrel
    obtain ⟨p0, p1, p2, p3, _⟩ := hR.box.cells
    by_cases hlt : k < 256
    · have hki : (k : Int) < 256 := by omega
      go_wp2_with fail
      refine (rhas_c h4 k _ hlt).mono ?_
      rintro e w2 ⟨rfl, hb⟩
      replace hR := hR.next hb
      clear hb p0 p1 p2 p3
      cases hpk : P k with
      | false =>
        have HP : Hid (come P (k + 1) = come P k) := come_no hpk
        clear hpk
        go_wp2
        go_roundw
        case rel => exact ⟨k + 1, by omega, by go_num, hR.box, by rw [HP.out]; exact hR.own, hR.below⟩
        case measure => simp [intOf]; omega
      | true =>
        have HP : Hid (come P (k + 1) = come P k ++ [k]) := come_yes hpk
        clear hpk
        have hle2 := come_len P k
        have hz := hR.box.lt
        have hown := hR.own
        go_wp2_with (at_builtin; refine wpList_append_own _ rfl _ _ 34 rfl (w.heap.size + 1) 5 i0 (.int .u8 0) 1 1 Tryd.underlying34 hi hz0 hz1 hz2 rfl (by decide) _ _ _ rfl (hown.alloc _) ⟨w2.heap.size, 0, none⟩ 1 1 [.int .u8 (k : Nat)] rfl rfl (cell_one_new _ _ _) (by simp [Value.oneCell']) (by unfold maxLen; omega) (by omega) (by simp; omega) ?_)
        intro v' w3 hown' hgrow _
        have hbw : Below (w.heap.size + 1) _ w3 := (Below.refl _ _).grown hgrow (by simp; omega) (fun j e => (hown.lt j e).1)
        have R : RelB w a b c d P (k + 1) v' w3 :=
          ⟨(hR.box.alloc _).belowB hbw (by omega), by rw [HP.out]; simpa [byt] using hown', (hR.below.alloc (by omega) _).trans (hbw.mono (by omega))⟩
        clear hown' hgrow hown hR hbw
        go_wp2
        go_roundw
        case rel => exact ⟨k + 1, by omega, by go_num, R⟩
        case measure => simp [intOf]; omega
    · obtain rfl : k = 256 := by omega
      have hBf := hR.below
      obtain ⟨ao, cap, rfl⟩ : ∃ ao cap, u3 = .slice ao (come P 256).length cap := by
        rcases hR.own.2 with ⟨h, h0⟩ | ⟨g, cap, cur, h, _⟩
        · exact ⟨none, 0, by rw [h, h0]⟩
        · exact ⟨_, cap, h⟩
      have HO := row_mono hR.own (Nat.le_succ _)
      have HH : Hid _ := HO
      clear hR HO
      go_wp2
      go_ret
      exact ⟨ao, cap, rfl, HH.out, hBf⟩
end Go.Proofs.YtkbeiadbolihiaaDoor
namespace Go.Proofs.YtkbeiadbolihiaaDoor
open Go.RowKit Go.Shelf
attribute [local go_sem] Oper.semAt_some
/-- A letter. -/
def ltr (b : Nat) : Bool := decide (97 ≤ b ||| 32) && decide (b ||| 32 ≤ 122)
/-- P, and of each letter among some bytes the one of the other case. -/
def foldN (P : Nat → Bool) (l : List Nat) : Nat → Bool := fun y => P y || l.any fun b => ltr b && (b ^^^ 32 == y)
theorem foldN_nil (P : Nat → Bool) : foldN P [] = P := by funext y; simp [foldN]
theorem foldN_yes {P : Nat → Bool} {l : List Nat} {b : Nat} (h : ltr b = true) : foldN P (l ++ [b]) = ins (foldN P l) (b ^^^ 32) := by
  funext y
  unfold foldN ins
  rw [List.any_append]
  simp only [List.any_cons, List.any_nil, Bool.or_false, h, Bool.true_and]
  rw [← Bool.or_assoc, show (b ^^^ 32 == y) = (y == b ^^^ 32) from by rw [Bool.eq_iff_iff]; simp; exact eq_comm]
theorem foldN_no {P : Nat → Bool} {l : List Nat} {b : Nat} (h : ltr b = false) : foldN P (l ++ [b]) = foldN P l := by
  funext y
  unfold foldN
  rw [List.any_append]
  simp [h]
abbrev Bt : Type := { x : Nat // x < 256 }
theorem KeepC.put4 {b : Nat} {W W' : World} (h : KeepC b W W') (p q r s : Value) : KeepC b W (put4 W' b p q r s) := fun k cs t fz hk hn ht => by
  have := h k cs t fz hk hn ht
  rw [Below.heap_setCell _ _ _ _ hn, Below.heap_setCell _ _ _ _ hn, Below.heap_setCell _ _ _ _ hn, Below.heap_setCell _ _ _ _ hn]
  exact this
theorem grown_put4 (W : World) (b : Nat) (p q r s : Value) {k : Nat} {o : Obj} (h : W.heap[k]? = some o) (hb : k ≠ b) : (put4 W b p q r s).heap[k]? = some o := by
  rw [Below.heap_setCell _ _ _ _ hb, Below.heap_setCell _ _ _ _ hb, Below.heap_setCell _ _ _ _ hb, Below.heap_setCell _ _ _ _ hb]
  exact h
/-- Fold on its way: what is folded in block n + 2, the result's block n + 1. -/
structure Fw (w : World) (Q : Nat → Bool) (W : World) : Prop where
  ex : ∃ p q r s, C4 Q p q r s ∧ Bx W (w.heap.size + 2) (.int .u64 (p : Nat)) (.int .u64 (q : Nat)) (.int .u64 (r : Nat)) (.int .u64 (s : Nat))
  res : ∃ x y z t, Bx W (w.heap.size + 1) x y z t
theorem bx_grown {W W' : World} {k : Nat} {x y z t : Value} {row : Option Nat} (h : Bx W k x y z t) (hg : W.grownBy W' row) (hr : ∀ r, row = some r → ∃ o : Obj, W.heap[r]? = some o ∧ o.isCells = false) : Bx W' k x y z t := by
  unfold Bx
  rw [hg.block k h.lt (fun e => ?_)]
  · exact h
  · obtain ⟨o, ho, hc⟩ := hr k e.symm
    rw [show W.heap[k]? = _ from h] at ho; cases ho; cases hc
theorem fw_own (w : World) (P : Nat → Bool) : Go.Own (fun (l : List Bt) W => Fw w (foldN P (l.map (·.1))) W) := fun s X Y row h hg hr => by
  obtain ⟨⟨p, q, r, s, h4, hx⟩, x, y, z, t, hy⟩ := h
  exact ⟨⟨p, q, r, s, h4, bx_grown hx hg hr⟩, x, y, z, t, bx_grown hy hg hr⟩
theorem Fw.below {w W W' : World} {Q : Nat → Bool} (h : Fw w Q W) (hb : Below W.heap.size W W') : Fw w Q W' := by
  obtain ⟨⟨p, q, r, s, h4, hx⟩, x, y, z, t, hy⟩ := h
  exact ⟨⟨p, q, r, s, h4, hx.below hb⟩, x, y, z, t, hy.below hb⟩
theorem Fw.put {w W W' : World} {Q R : Nat → Bool} {p q r s : Nat} (h : Fw w Q W) (hb : Below W.heap.size W W') (h4 : C4 R p q r s) : Fw w R (Go.Proofs.YtkbeiadbolihiaaDoor.put4 W' (w.heap.size + 2) (.int .u64 (p : Nat)) (.int .u64 (q : Nat)) (.int .u64 (r : Nat)) (.int .u64 (s : Nat))) := by
  obtain ⟨⟨_, _, _, _, _, hx⟩, x, y, z, t, hy⟩ := h
  exact ⟨⟨p, q, r, s, h4, (hx.below hb).set _ _ _ _⟩, x, y, z, t, (hy.below hb).others (by omega) _ _ _ _⟩
end Go.Proofs.YtkbeiadbolihiaaDoor
namespace Go.Proofs.YtkbeiadbolihiaaDoor
open Go.RowKit Go.Shelf
attribute [local go_sem] Oper.semAt_some
theorem boxed_appended {W w1 : World} {n₀ B : Nat} {t : TypeId} {v v' : Value} {k m : Nat} {xs ys : List Value} {tmp : Obj}
    (hv : Boxed W B t v) (hte : t ≠ 5) (hrow : W.ownsRow n₀ 5 1 v k xs) (hBn : B ≤ n₀)
    (hown' : w1.ownsRow n₀ 5 1 v' m ys) (hgrow : (W.alloc tmp).grownBy w1 v.ownBlock) (hle : n₀ ≤ W.heap.size) :
    Boxed w1 B t v ∧ Boxed (w1.setCell ⟨B, 0, none⟩ v') B t v' ∧ (w1.setCell ⟨B, 0, none⟩ v').ownsRow n₀ 5 1 v' m ys ∧ KeepsOthers W (w1.setCell ⟨B, 0, none⟩ v') ∧ KeepC B W (w1.setCell ⟨B, 0, none⟩ v') ∧ Below B W (w1.setCell ⟨B, 0, none⟩ v') := by
  obtain ⟨h1, h2, _, h4, h5⟩ := Boxed.appended hv hte (row_mono hrow hBn) (by omega) (Nat.le_refl B) (row_mono hown' hBn) hgrow
  refine ⟨h1, h2, hown'.kept (grownBy_setCell' w1 B v') (.inr (h1.not_row hte hown').symm), h4, fun j cs t' fz hj hn ht => ?_, h5⟩
  rw [Below.heap_setCell _ _ _ _ hn, hgrow.block j (by simp; have := (Array.getElem?_eq_some_iff.1 hj).1; omega) ?_, Below.heap_alloc W tmp j (Array.getElem?_eq_some_iff.1 hj).1]
  · exact hj
  intro e'
  obtain ⟨c, f, h⟩ := kind_of_owns hrow j e'.symm
  rw [hj] at h
  cases h
  exact ht rfl
end Go.Proofs.YtkbeiadbolihiaaDoor
