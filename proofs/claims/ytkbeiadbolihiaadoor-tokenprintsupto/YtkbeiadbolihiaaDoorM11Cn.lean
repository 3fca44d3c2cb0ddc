/- token: the text of a repeat: the walks. ClassMakes: the walk of the law. math/bits.OnesCount64: how many bits a word has; the sums behind it. math/bits.OnesCount64: how many bits a word has; the walk. Count: the walk; how many bytes a class has. -/
import Derived.Test.YtkbeiadbolihiaaDoorM02Ia
import Derived.Test.YtkbeiadbolihiaaDoorM10Cx
import Derived.Test.YtkbeiadbolihiaaDoorM07Cl
import Derived.Test.YtkbeiadbolihiaaDoorM03It
import Derived.Test.YtkbeiadbolihiaaDoorM05Wd
namespace Go.Proofs.YtkbeiadbolihiaaDoor
open Go.RowKit Go.Shelf
/-- The text of a repeat's bounds. -/
def bndB (l : Nat) (m : Int) : List UInt8 :=
  if l = 0 ∧ m = -1 then [42] else if l = 1 ∧ m = -1 then [43] else if l = 0 ∧ m = 1 then [63] else if m = l then [123] ++ Lib.decDigits l ++ [125] else if m = -1 then [123] ++ Lib.decDigits l ++ [44, 125] else [123] ++ Lib.decDigits l ++ [44] ++ Lib.decDigits m.toNat ++ [125]
theorem dec_len : ∀ (n : Nat), n ≤ 1000 → (Lib.decDigits n).length ≤ 4 := by
  intro n hn
  have h : ∀ k : Fin 1001, (Lib.decDigits k.val).length ≤ 4 := by
    intro k
    rw [Lib.decDigits]
    split
    · simp
    rw [Lib.decDigits]
    split
    · simp
    rw [Lib.decDigits]
    split
    · simp
    rw [Lib.decDigits, dif_pos (by omega)]
    simp
  exact h ⟨n, by omega⟩
theorem Pow.below {w w' : World} (h : Pow w) (hb : Below w.heap.size w w') : Pow w' := Lib.tabBelow_of_tabIs h w' hb
theorem sz_app (x y : ByteArray) : (x ++ y).size = x.size + y.size := ByteArray.size_append
set_option maxRecDepth 20000 in
set_option maxHeartbeats 2000000 in
theorem bounds_any (l : Nat) (m : Int) (hl : l ≤ 1000) (hm : m = -1 ∨ ((l : Int) ≤ m ∧ m ≤ 1000)) (w : World) (hT : Pow w) : Calls Tryd.prog 40 #[.int .i64 (l : Nat), .int .i64 m] w (RetS w (bndB l m)) := by
  have HI := itoa_any l hl w hT
  have hd := dec_len l hl
  have hs1 : (⟨#[123]⟩ : ByteArray).size = 1 := rfl
  have hs2 : (⟨#[125]⟩ : ByteArray).size = 1 := rfl
  have hs3 : (⟨#[44, 125]⟩ : ByteArray).size = 2 := rfl
  have hs4 : (⟨#[44]⟩ : ByteArray).size = 1 := rfl
  have hsa := sz_app
  obtain ⟨S, hS⟩ : ∃ S : ByteArray, S = ⟨(Lib.decDigits l).toArray⟩ := ⟨_, rfl⟩
  have hsz : S.size ≤ 4 := by rw [hS, size_str]; exact hd
  unfold RetS at HI
  rw [← hS] at HI
  by_cases c1 : l = 0 ∧ m = -1
  · obtain ⟨rfl, rfl⟩ := c1
    have HE : Hid (bndB 0 (-1) = [42]) := rfl
    go_enter Tryd.func40, Tryd.ntmps40
    go_wp2_with (go_at_call 58; refine HI.mono ?_; rintro e w1 ⟨rfl, hb⟩)
    go_ret
    exact ⟨by rw [HE.out]; rfl, hb⟩
  by_cases c2 : l = 1 ∧ m = -1
  · obtain ⟨rfl, rfl⟩ := c2
    have HE : Hid (bndB 1 (-1) = [43]) := rfl
    go_enter Tryd.func40, Tryd.ntmps40
    go_wp2_with (go_at_call 58; refine HI.mono ?_; rintro e w1 ⟨rfl, hb⟩)
    go_ret
    exact ⟨by rw [HE.out]; rfl, hb⟩
  by_cases c3 : l = 0 ∧ m = 1
  · obtain ⟨rfl, rfl⟩ := c3
    have HE : Hid (bndB 0 1 = [63]) := rfl
    go_enter Tryd.func40, Tryd.ntmps40
    go_wp2_with (go_at_call 58; refine HI.mono ?_; rintro e w1 ⟨rfl, hb⟩)
    go_ret
    exact ⟨by rw [HE.out]; rfl, hb⟩
  by_cases c4 : m = l
  · subst c4
    have HE : Hid (bndB l (l : Int) = [123] ++ Lib.decDigits l ++ [125]) := by
      show bndB l (l : Int) = _
      unfold bndB
      rw [if_neg c1, if_neg c2, if_neg c3, if_pos rfl]
    have HV : Hid ((⟨#[123]⟩ : ByteArray) ++ S ++ ⟨#[125]⟩ = ⟨(bndB l (l : Int)).toArray⟩) := by
      show (⟨#[123]⟩ : ByteArray) ++ S ++ ⟨#[125]⟩ = ⟨(bndB l (l : Int)).toArray⟩
      rw [HE.out, hS, ← str_app, ← str_app]
    have m1 : ((l : Int) == -1) = false := by simp
    by_cases l0 : l = 0
    · subst l0
      clear hS HE
      go_enter Tryd.func40, Tryd.ntmps40
      go_wp2_with (go_at_call 58; refine HI.mono ?_; rintro e w1 ⟨rfl, hb⟩)
      go_ret
      exact ⟨by rw [← HV.out]; rfl, hb⟩
    have l1 : ((l : Int) == 0) = false := by simp; omega
    by_cases l2 : l = 1
    · subst l2
      clear hS HE
      go_enter Tryd.func40, Tryd.ntmps40
      go_wp2_with (go_at_call 58; refine HI.mono ?_; rintro e w1 ⟨rfl, hb⟩)
      go_ret
      exact ⟨by rw [← HV.out]; rfl, hb⟩
    have l3 : ((l : Int) == 1) = false := by simp; omega
    clear hS HE c1 c2 c3
    go_enter Tryd.func40, Tryd.ntmps40
    go_wp2_with (go_at_call 58; refine HI.mono ?_; rintro e w1 ⟨rfl, hb⟩)
    go_ret
    exact ⟨by rw [← HV.out]; rfl, hb⟩
  have e4 : (m == (l : Int)) = false := by simp; omega
  by_cases c5 : m = -1
  · subst c5
    have HE : Hid (bndB l (-1) = [123] ++ Lib.decDigits l ++ [44, 125]) := by
      show bndB l (-1) = _
      unfold bndB
      rw [if_neg c1, if_neg c2, if_neg c3, if_neg c4, if_pos rfl]
    have HV : Hid ((⟨#[123]⟩ : ByteArray) ++ S ++ ⟨#[44, 125]⟩ = ⟨(bndB l (-1)).toArray⟩) := by
      show (⟨#[123]⟩ : ByteArray) ++ S ++ ⟨#[44, 125]⟩ = ⟨(bndB l (-1)).toArray⟩
      rw [HE.out, hS, ← str_app, ← str_app]
    have l1 : ((l : Int) == 0) = false := by simp; omega
    have l3 : ((l : Int) == 1) = false := by simp; omega
    clear hS HE c1 c2 c3 c4 hm
    go_enter Tryd.func40, Tryd.ntmps40
    go_wp2_with (go_at_call 58; refine HI.mono ?_; rintro e w1 ⟨rfl, hb⟩)
    go_ret
    exact ⟨by rw [← HV.out]; rfl, hb⟩
  have hm2 : (l : Int) ≤ m ∧ m ≤ 1000 := hm.resolve_left c5
  have m1 : (m == -1) = false := by simp; omega
  obtain ⟨n, rfl⟩ := Int.eq_ofNat_of_zero_le (show 0 ≤ m by omega)
  have hd2 := dec_len n (by omega)
  have HE : Hid (bndB l (n : Int) = [123] ++ Lib.decDigits l ++ [44] ++ Lib.decDigits n ++ [125]) := by
    show bndB l (n : Int) = _
    unfold bndB
    rw [if_neg c1, if_neg c2, if_neg c3, if_neg c4, if_neg c5, Int.toNat_natCast]
  obtain ⟨U, hU⟩ : ∃ U : ByteArray, U = ⟨(Lib.decDigits n).toArray⟩ := ⟨_, rfl⟩
  have hsu : U.size ≤ 4 := by rw [hU, size_str]; exact hd2
  have HV : Hid ((⟨#[123]⟩ : ByteArray) ++ S ++ ⟨#[44]⟩ ++ U ++ ⟨#[125]⟩ = ⟨(bndB l (n : Int)).toArray⟩) := by
    show (⟨#[123]⟩ : ByteArray) ++ S ++ ⟨#[44]⟩ ++ U ++ ⟨#[125]⟩ = ⟨(bndB l (n : Int)).toArray⟩
    rw [HE.out, hS, hU, ← str_app, ← str_app, ← str_app, ← str_app]
  have HJ : Hid (∀ W, Below w.heap.size w W → Calls Tryd.prog 58 #[.int .i64 (n : Nat)] W fun e w' => e = .returned (.string U) ∧ Below W.heap.size W w') := fun W hb => by
    have := itoa_any n (by omega) W (hT.below hb)
    unfold RetS at this
    rw [← hU] at this
    exact this
  have m0 : Hid True := trivial
  by_cases l0 : l = 0
  · subst l0
    have n1 : ((n : Int) == 1) = false := by simp; omega
    clear hS HE hU c1 c2 c3 c4 hm hm2 c5 hd2
    go_enter Tryd.func40, Tryd.ntmps40
    go_wp2_with (go_at_call 58; first | (clear m0; refine HI.mono ?_; clear HI; rintro e w1 ⟨rfl, hb⟩) | (refine (HJ.out _ hb).mono ?_; rintro e w2 ⟨rfl, hb2⟩))
    go_ret
    exact ⟨by rw [← HV.out]; rfl, hb.trans (hb2.mono hb.size)⟩
  have l1 : ((l : Int) == 0) = false := by simp; omega
  by_cases l2 : l = 1
  · subst l2
    clear hS HE hU c1 c2 c3 c4 hm hm2 c5 hd2
    go_enter Tryd.func40, Tryd.ntmps40
    go_wp2_with (go_at_call 58; first | (clear m0; refine HI.mono ?_; clear HI; rintro e w1 ⟨rfl, hb⟩) | (refine (HJ.out _ hb).mono ?_; rintro e w2 ⟨rfl, hb2⟩))
    go_ret
    exact ⟨by rw [← HV.out]; rfl, hb.trans (hb2.mono hb.size)⟩
  have l3 : ((l : Int) == 1) = false := by simp; omega
  clear hS HE hU c1 c2 c3 c4 hm hm2 c5 hd2
  go_enter Tryd.func40, Tryd.ntmps40
  go_wp2_with (go_at_call 58; first | (clear m0; refine HI.mono ?_; clear HI; rintro e w1 ⟨rfl, hb⟩) | (refine (HJ.out _ hb).mono ?_; rintro e w2 ⟨rfl, hb2⟩))
  go_ret
  exact ⟨by rw [← HV.out]; rfl, hb.trans (hb2.mono hb.size)⟩
/-- The text of a repeat. -/
def repB (l : Nat) (m : Int) (lz : Bool) : List UInt8 := if lz then bndB l m ++ [63] else bndB l m
theorem bnd_len (l : Nat) (m : Int) (hl : l ≤ 1000) (hm : m ≤ 1000) : (bndB l m).length ≤ 12 := by
  have h1 := dec_len l hl
  have h2 := dec_len m.toNat (by omega)
  unfold bndB
  repeat' split
  all_goals simp
  all_goals omega
set_option maxRecDepth 20000 in
set_option maxHeartbeats 2000000 in
theorem repeatText_any (k : Int) (b a0 a1 a2 a3 : Nat) (nt : Bool) (l : Nat) (m : Int) (lz : Bool) (t : Int) (hl : l ≤ 1000) (hm : m = -1 ∨ ((l : Int) ≤ m ∧ m ≤ 1000)) (w : World) (hT : Pow w) : Calls Tryd.prog 24 #[tokI k b a0 a1 a2 a3 nt (l : Nat) m lz t] w (RetS w (repB l m lz)) := by
  have hB : Below w.heap.size w (w.alloc (.cells #[.int .i64 k, .int .u8 (b : Nat), .int .u64 (a0 : Nat), .int .u64 (a1 : Nat), .int .u64 (a2 : Nat), .int .u64 (a3 : Nat), .bool nt, .int .i64 (l : Nat), .int .i64 m, .bool lz, .int .i64 t] 26)) := (Below.refl _ _).alloc (Nat.le_refl _) _
  have HI := bounds_any l m hl hm _ (hT.below hB)
  have hk := Cl.new w 26 [.int .i64 k, .int .u8 (b : Nat), .int .u64 (a0 : Nat), .int .u64 (a1 : Nat), .int .u64 (a2 : Nat), .int .u64 (a3 : Nat), .bool nt, .int .i64 (l : Nat), .int .i64 m, .bool lz, .int .i64 t]
  have hd := bnd_len l m hl (by omega)
  have hs1 : (⟨#[63]⟩ : ByteArray).size = 1 := rfl
  obtain ⟨S, hS⟩ : ∃ S : ByteArray, S = ⟨(bndB l m).toArray⟩ := ⟨_, rfl⟩
  have hsz : S.size ≤ 12 := by rw [hS, size_str]; exact hd
  unfold RetS at HI
  rw [← hS] at HI
  unfold tokI
  cases lz with
  | true =>
    have HV : Hid (S ++ (⟨#[63]⟩ : ByteArray) = ⟨(repB l m true).toArray⟩) := by
      show S ++ (⟨#[63]⟩ : ByteArray) = ⟨(repB l m true).toArray⟩
      unfold repB
      rw [if_pos rfl, hS, ← str_app]
    clear hS hm hd
    go_enter Tryd.func24, Tryd.ntmps24
    go_wp2_with (go_at_call 40; refine HI.mono ?_; rintro e w1 ⟨rfl, hb⟩; obtain ⟨x0, x1, x2, x3, x4, x5, x6, x7, x8, x9, x10⟩ := (hk.below hb).eleven.1)
    go_ret
    exact ⟨by rw [← HV.out]; rfl, hB.trans (hb.mono hB.size)⟩
  | false =>
    have HV : Hid (S = ⟨(repB l m false).toArray⟩) := by
      show S = ⟨(repB l m false).toArray⟩
      unfold repB
      rw [if_neg (by simp), hS]
    clear hS hm hd
    go_enter Tryd.func24, Tryd.ntmps24
    go_wp2_with (go_at_call 40; refine HI.mono ?_; rintro e w1 ⟨rfl, hb⟩; obtain ⟨x0, x1, x2, x3, x4, x5, x6, x7, x8, x9, x10⟩ := (hk.below hb).eleven.1)
    go_ret
    exact ⟨by rw [← HV.out]; rfl, hB.trans (hb.mono hB.size)⟩
end Go.Proofs.YtkbeiadbolihiaaDoor
namespace Go.Proofs.YtkbeiadbolihiaaDoor
open Go.RowKit
theorem eql_same (p q r s : Nat) (w : World) : (Go.binOp .eql 24 (.agg #[.int .u64 (p : Nat), .int .u64 (q : Nat), .int .u64 (r : Nat), .int .u64 (s : Nat)]) (.agg #[.int .u64 (p : Nat), .int .u64 (q : Nat), .int .u64 (r : Nat), .int .u64 (s : Nat)])).run Tryd.prog w = .ok (.bool true) w := by
  rw [eql4]; simp
theorem full_rg {a b c d : Nat} (h : C4 (fun _ => true) a b c d) : C4 (rg 0 256) a b c d := h.congr fun x hx => by simp [rg]; omega
end Go.Proofs.YtkbeiadbolihiaaDoor
namespace Go.Proofs.YtkbeiadbolihiaaDoor
open Go.RowKit
/-- How many of the first n bits are set. -/
def pop (x : Nat) : Nat → Nat
  | 0 => 0
  | n + 1 => pop x n + (if x.testBit n then 1 else 0)
/-- The mask m, k times one byte. -/
def rep (m : Nat) : Nat → Nat
  | 0 => 0
  | k + 1 => 256 * rep m k + m
def f1 (x m : Nat) : Nat := (x / 2 &&& m) + (x &&& m)
def f2 (x m : Nat) : Nat := (x / 4 &&& m) + (x &&& m)
def f3 (x m : Nat) : Nat := (x / 16 + x) &&& m
theorem and_split (a b : Nat) : a &&& b = 256 * (a / 256 &&& b / 256) + (a % 256 &&& b % 256) := by
  have h1 : (a &&& b) % 256 = (a % 256) &&& (b % 256) := Nat.and_mod_two_pow (n := 8)
  have h2 : (a &&& b) / 256 = a / 256 &&& b / 256 := Nat.and_div_two_pow (n := 8)
  omega
theorem byte1 : ∀ l : Fin 256, ∀ r : Fin 2, ((128 * r.1 + l.1 / 2) % 256 &&& 85) = (l.1 / 2 &&& 85) := by decide +kernel
theorem byte2 : ∀ l : Fin 256, ∀ r : Fin 4, ((64 * r.1 + l.1 / 4) % 256 &&& 51) = (l.1 / 4 &&& 51) := by decide +kernel
theorem f1_split (h l M : Nat) (hl : l < 256) : f1 (256 * h + l) (256 * M + 85) = 256 * f1 h M + f1 l 85 := by
  unfold f1
  have e1 : ((256 * h + l) / 2 &&& (256 * M + 85)) = 256 * (h / 2 &&& M) + (l / 2 &&& 85) := by
    rw [and_split, show (256 * h + l) / 2 / 256 = h / 2 by omega, show (256 * M + 85) / 256 = M by omega, show (256 * M + 85) % 256 = 85 by omega]
    have := byte1 ⟨l, hl⟩ ⟨h % 2, by omega⟩
    simp only at this
    rw [show (256 * h + l) / 2 % 256 = (128 * (h % 2) + l / 2) % 256 by omega, this]
  have e2 : ((256 * h + l) &&& (256 * M + 85)) = 256 * (h &&& M) + (l &&& 85) := by
    rw [and_split, show (256 * h + l) / 256 = h by omega, show (256 * h + l) % 256 = l by omega, show (256 * M + 85) / 256 = M by omega, show (256 * M + 85) % 256 = 85 by omega]
  omega
theorem f2_split (h l M : Nat) (hl : l < 256) : f2 (256 * h + l) (256 * M + 51) = 256 * f2 h M + f2 l 51 := by
  unfold f2
  have e1 : ((256 * h + l) / 4 &&& (256 * M + 51)) = 256 * (h / 4 &&& M) + (l / 4 &&& 51) := by
    rw [and_split, show (256 * h + l) / 4 / 256 = h / 4 by omega, show (256 * M + 51) / 256 = M by omega, show (256 * M + 51) % 256 = 51 by omega]
    have := byte2 ⟨l, hl⟩ ⟨h % 4, by omega⟩
    simp only at this
    rw [show (256 * h + l) / 4 % 256 = (64 * (h % 4) + l / 4) % 256 by omega, this]
  have e2 : ((256 * h + l) &&& (256 * M + 51)) = 256 * (h &&& M) + (l &&& 51) := by
    rw [and_split, show (256 * h + l) / 256 = h by omega, show (256 * h + l) % 256 = l by omega, show (256 * M + 51) / 256 = M by omega, show (256 * M + 51) % 256 = 51 by omega]
  omega
/-- One byte through the three steps. -/
theorem byte3 : ∀ l : Fin 256, f1 l.1 85 < 256 ∧ f2 (f1 l.1 85) 51 < 256 ∧ f2 (f1 l.1 85) 51 / 16 ≤ 4 ∧ f2 (f1 l.1 85) 51 % 16 ≤ 4 ∧ f3 (f2 (f1 l.1 85) 51) 15 = pop l.1 8 := by decide +kernel
theorem and15 : ∀ v : Fin 256, v.1 &&& 15 = v.1 % 16 := by decide +kernel
theorem f3_split (h l M : Nat) (h4 : h % 16 ≤ 4) (l1 : l / 16 ≤ 4) (l2 : l % 16 ≤ 4) : f3 (256 * h + l) (256 * M + 15) = 256 * f3 h M + f3 l 15 := by
  unfold f3
  have e16 : (256 * h + l) / 16 = 16 * h + l / 16 := by omega
  rw [and_split, e16, show (256 * M + 15) / 256 = M by omega, show (256 * M + 15) % 256 = 15 by omega, show (16 * h + l / 16 + (256 * h + l)) / 256 = h / 16 + h by omega]
  have e := and15 ⟨(16 * h + l / 16 + (256 * h + l)) % 256, by omega⟩
  have e2 := and15 ⟨(l / 16 + l), by omega⟩
  simp only at e e2
  rw [e, e2, show (16 * h + l / 16 + (256 * h + l)) % 256 % 16 = (l / 16 + l) % 16 by omega]
theorem pop_split (h l k : Nat) (hl : l < 256) : pop (256 * h + l) (8 + k) = pop l 8 + pop h k := by
  induction k with
  | zero =>
    have key : ∀ n, n ≤ 8 → pop (256 * h + l) n = pop l n := by
      intro n hn
      induction n with
      | zero => rfl
      | succ n ih =>
        rw [pop, pop, ih (by omega)]
        have : (256 * h + l).testBit n = l.testBit n := by
          have := Nat.testBit_two_pow_mul_add h (show l < 2 ^ 8 from hl) n
          rw [show (2 : Nat) ^ 8 = 256 by decide] at this
          rw [this, if_pos (by omega)]
        rw [this]
    rw [key 8 (by omega)]
    rfl
  | succ k ih =>
    have e : pop (256 * h + l) (8 + (k + 1)) = pop (256 * h + l) (8 + k) + (if (256 * h + l).testBit (8 + k) then 1 else 0) := rfl
    have e' : pop h (k + 1) = pop h k + (if h.testBit k then 1 else 0) := rfl
    have : (256 * h + l).testBit (8 + k) = h.testBit k := by
      have := Nat.testBit_two_pow_mul_add h (show l < 2 ^ 8 from hl) (8 + k)
      rw [show (2 : Nat) ^ 8 = 256 by decide] at this
      rw [this, if_neg (by omega), Nat.add_sub_cancel_left]
    rw [e, e', ih, this]
    omega
/-- k bytes through the three steps. -/
def gsum (x : Nat) : Nat → Nat
  | 0 => 0
  | k + 1 => 256 * gsum (x / 256) k + pop (x % 256) 8
theorem three (k : Nat) : ∀ x, x < 256 ^ k → f3 (f2 (f1 x (rep 85 k)) (rep 51 k)) (rep 15 k) = gsum x k ∧ f2 (f1 x (rep 85 k)) (rep 51 k) % 16 ≤ 4 := by
  induction k with
  | zero =>
    intro x hx
    obtain rfl : x = 0 := by simpa using hx
    simp [f1, f2, f3, rep, gsum]
  | succ k ih =>
    intro x hx
    have hd : x / 256 < 256 ^ k := by rw [Nat.pow_succ] at hx; omega
    obtain ⟨i1, i2⟩ := ih (x / 256) hd
    have hx2 : x = 256 * (x / 256) + x % 256 := by omega
    have hl : x % 256 < 256 := Nat.mod_lt _ (by decide)
    obtain ⟨b1, b2, b3, b4, b5⟩ := byte3 ⟨x % 256, hl⟩
    simp only at b1 b2 b3 b4 b5
    have e1 : f1 x (rep 85 (k + 1)) = 256 * f1 (x / 256) (rep 85 k) + f1 (x % 256) 85 := by
      conv => lhs; rw [hx2]
      exact f1_split _ _ _ hl
    have e2 : f2 (f1 x (rep 85 (k + 1))) (rep 51 (k + 1)) = 256 * f2 (f1 (x / 256) (rep 85 k)) (rep 51 k) + f2 (f1 (x % 256) 85) 51 := by
      rw [e1]; exact f2_split _ _ _ b1
    rw [e2]
    refine ⟨?_, by omega⟩
    rw [show rep 15 (k + 1) = 256 * rep 15 k + 15 from rfl, f3_split _ _ _ i2 b3 b4, i1, b5]
    rfl
theorem pop_le (x n : Nat) : pop x n ≤ n := by
  induction n with
  | zero => exact Nat.le_refl _
  | succ n ih => rw [pop]; split <;> omega
/-- The bytes' counts together. -/
def psum (x : Nat) : Nat → Nat
  | 0 => 0
  | k + 1 => psum (x / 256) k + pop (x % 256) 8
theorem pop_psum (k : Nat) : ∀ x, pop x (8 * k) = psum x k := by
  induction k with
  | zero => intro x; rfl
  | succ k ih =>
    intro x
    have h := pop_split (x / 256) (x % 256) (8 * k) (Nat.mod_lt _ (by decide))
    rw [show 256 * (x / 256) + x % 256 = x by omega, show 8 + 8 * k = 8 * (k + 1) by omega, ih] at h
    rw [h, psum]
    omega
theorem dv1 {G q g : Nat} (h : G = 256 * q + g) (hg : g ≤ 64) : G / 256 = q := by omega
theorem dv2 {Y A B C : Nat} (h : Y = 65536 * A + 256 * B + C) (hB : B ≤ 64) (hC : C ≤ 64) : Y / 65536 = A := by omega
theorem dv3 {Z A B C D E : Nat} (h : Z = 4294967296 * A + 16777216 * B + 65536 * C + 256 * D + E) (hB : B ≤ 64) (hC : C ≤ 64) (hD : D ≤ 64) (hE : E ≤ 64) : Z / 4294967296 = A := by omega
theorem md {A E F : Nat} (hE : E + F ≤ 64) : (256 * A + (E + F)) % 128 = E + F := by omega
theorem ly {G q1 q2 q3 g0 g1 g2 : Nat} (hG : G = 256 * q1 + g0) (e1 : q1 = 256 * q2 + g1) (e2 : q2 = 256 * q3 + g2) : G + q1 = 65536 * (q2 + q3) + 256 * (g1 + g2) + (g0 + g1) := by omega
theorem lz {X Y A B C a b c : Nat} (h : X = 65536 * A + 256 * B + C) (k : Y = 65536 * a + 256 * b + c) : X + Y = 65536 * (A + a) + 256 * (B + b) + (C + c) := by omega
theorem lw {Z X A B C D E : Nat} (k : Z = 65536 * X + 256 * D + E) (h : X = 65536 * A + 256 * B + C) : Z = 4294967296 * A + 16777216 * B + 65536 * C + 256 * D + E := by omega
theorem lu {Z Y A B C D F : Nat} (h : Z = 65536 * A + 256 * B + C) (k : Y = 256 * D + F) : Z + Y = 256 * (256 * A + B + D) + (C + F) := by omega
theorem lp {q4 q5 q6 g4 g5 g6 g7 : Nat} (e4 : q4 = 256 * q5 + g4) (e5 : q5 = 256 * q6 + g5) (e6 : q6 = 256 * g7 + g6) : q4 + q5 + (q6 + g7) = 256 * (q5 + q6 + g7) + (g4 + g5 + (g6 + g7)) := by omega
theorem le2 {a b : Nat} (h : a ≤ 8) (k : b ≤ 8) : a + b ≤ 64 := by omega
theorem le4 {a b c d : Nat} (h1 : a ≤ 8) (h2 : b ≤ 8) (h3 : c ≤ 8) (h4 : d ≤ 8) : a + b + (c + d) ≤ 64 := by omega
theorem le8 {a b c d e f g h : Nat} (h1 : a ≤ 8) (h2 : b ≤ 8) (h3 : c ≤ 8) (h4 : d ≤ 8) (h5 : e ≤ 8) (h6 : f ≤ 8) (h7 : g ≤ 8) (h8 : h ≤ 8) : (a + b + (c + d)) + (e + f + (g + h)) ≤ 64 := by omega
theorem adds (g0 g1 g2 g3 g4 g5 g6 g7 q1 q2 q3 q4 q5 q6 G : Nat) (h0 : g0 ≤ 8) (h1 : g1 ≤ 8) (h2 : g2 ≤ 8) (h3 : g3 ≤ 8) (h4 : g4 ≤ 8) (h5 : g5 ≤ 8) (h6 : g6 ≤ 8) (h7 : g7 ≤ 8)
    (hG : G = 256 * q1 + g0) (e1 : q1 = 256 * q2 + g1) (e2 : q2 = 256 * q3 + g2) (e3 : q3 = 256 * q4 + g3) (e4 : q4 = 256 * q5 + g4) (e5 : q5 = 256 * q6 + g5) (e6 : q6 = 256 * g7 + g6) :
    (G + G / 256 + (G + G / 256) / 65536 + (G + G / 256 + (G + G / 256) / 65536) / 4294967296) % 128 = (g0 + g1 + (g2 + g3)) + (g4 + g5 + (g6 + g7)) := by
  have y := ly hG e1 e2
  have p2 := ly e2 e3 e4
  have p4 := ly e4 e5 e6
  have z := lz y p2
  have p24 := lz p2 p4
  rw [dv1 hG (Nat.le_trans h0 (by decide)), dv2 y (le2 h1 h2) (le2 h0 h1), dv3 (lw z p24) (le4 h3 h4 h5 h6) (le4 h2 h3 h4 h5) (le4 h1 h2 h3 h4) (le4 h0 h1 h2 h3), lu z (lp e4 e5 e6)]
  exact md (le8 h0 h1 h2 h3 h4 h5 h6 h7)
theorem gsum_lt (k : Nat) : ∀ x, 32 * gsum x k < 2 * 256 ^ k := by
  induction k with
  | zero => intro x; simp [gsum]
  | succ k ih =>
    intro x
    have h1 := ih (x / 256)
    have h2 := pop_le (x % 256) 8
    rw [gsum, Nat.pow_succ]
    generalize 256 ^ k = p at *
    omega
theorem adds_all (x : Nat) : (gsum x 8 + gsum x 8 / 256 + (gsum x 8 + gsum x 8 / 256) / 65536 + (gsum x 8 + gsum x 8 / 256 + (gsum x 8 + gsum x 8 / 256) / 65536) / 4294967296) % 128 = pop x 64 := by
  have h := adds (pop (x % 256) 8) (pop (x / 256 % 256) 8) (pop (x / 256 / 256 % 256) 8) (pop (x / 256 / 256 / 256 % 256) 8) (pop (x / 256 / 256 / 256 / 256 % 256) 8) (pop (x / 256 / 256 / 256 / 256 / 256 % 256) 8) (pop (x / 256 / 256 / 256 / 256 / 256 / 256 % 256) 8) (gsum (x / 256 / 256 / 256 / 256 / 256 / 256 / 256) 1)
    (gsum (x / 256) 7) (gsum (x / 256 / 256) 6) (gsum (x / 256 / 256 / 256) 5) (gsum (x / 256 / 256 / 256 / 256) 4) (gsum (x / 256 / 256 / 256 / 256 / 256) 3) (gsum (x / 256 / 256 / 256 / 256 / 256 / 256) 2) (gsum x 8)
    (pop_le _ _) (pop_le _ _) (pop_le _ _) (pop_le _ _) (pop_le _ _) (pop_le _ _) (pop_le _ _) (by have := pop_le (x / 256 / 256 / 256 / 256 / 256 / 256 / 256 % 256) 8; simpa [gsum] using this) rfl rfl rfl rfl rfl rfl rfl
  have e : pop x 64 = psum x 8 := pop_psum 8 x
  have e1 : gsum (x / 256 / 256 / 256 / 256 / 256 / 256 / 256) 1 = pop (x / 256 / 256 / 256 / 256 / 256 / 256 / 256 % 256) 8 := by simp [gsum]
  rw [h, e, e1]
  simp only [psum]
  clear h e e1
  generalize pop (x % 256) 8 = a0
  generalize pop (x / 256 % 256) 8 = a1
  generalize pop (x / 256 / 256 % 256) 8 = a2
  generalize pop (x / 256 / 256 / 256 % 256) 8 = a3
  generalize pop (x / 256 / 256 / 256 / 256 % 256) 8 = a4
  generalize pop (x / 256 / 256 / 256 / 256 / 256 % 256) 8 = a5
  generalize pop (x / 256 / 256 / 256 / 256 / 256 / 256 % 256) 8 = a6
  generalize pop (x / 256 / 256 / 256 / 256 / 256 / 256 / 256 % 256) 8 = a7
  omega
theorem mask_bits (x : Nat) : x &&& 127 = x % 128 := Nat.and_two_pow_sub_one_eq_mod x 7
theorem and127 (k : Nat) (hk : k < 18446744073709551616) : bits BinOp.and IntKind.i64 (k : Int) 127 = ((k % 128 : Nat) : Int) := by
  have h1 : (BitVec.ofInt 64 (127 : Int)).toNat = 127 := by decide
  have e64 : ((2 ^ 64 : Nat) : Int) = 18446744073709551616 := by decide
  have h2 : (BitVec.ofInt 64 (k : Int)).toNat = k := by
    rw [BitVec.toNat_ofInt]
    have : (k : Int) % ((2 ^ 64 : Nat) : Int) = k := Int.emod_eq_of_lt (by omega) (by omega)
    rw [this]; omega
  show IntKind.i64.wrap ((BitVec.ofInt 64 (k : Int) &&& BitVec.ofInt 64 (127 : Int)).toNat : Int) = _
  rw [BitVec.toNat_and, h1, h2, mask_bits]
  simp [IntKind.wrap, IntKind.bits, IntKind.signed]; omega
theorem and_nat (x m : Nat) (k : Nat) (hx : x < 18446744073709551616) (hm : m < 18446744073709551616) : bits BinOp.and IntKind.u64 ((x : Int) / (k : Nat)) (m : Int) = ((x / k &&& m : Nat) : Int) := by
  have e : (x : Int) / (k : Nat) = ((x / k : Nat) : Int) := (Int.natCast_ediv x k).symm
  rw [e, u64_and_nat _ _ (Nat.lt_of_le_of_lt (Nat.div_le_self _ _) hx) hm]
theorem rep1 : rep 85 8 = 6148914691236517205 := by decide
theorem rep2 : rep 51 8 = 3689348814741910323 := by decide
theorem rep3 : rep 15 8 = 1085102592571150095 := by decide
end Go.Proofs.YtkbeiadbolihiaaDoor
namespace Go.Proofs.YtkbeiadbolihiaaDoor
open Go.RowKit
theorem wrap_is {v : Int} {n : Nat} (h : v = n) (hn : n < 18446744073709551616) : IntKind.u64.wrap v = (n : Int) := by
  subst h
  simp [IntKind.wrap, IntKind.bits, IntKind.signed]; omega
theorem and_nat1 (x m k : Nat) (hx : x < 18446744073709551616) (hm : m < 18446744073709551616) {kk mm : Int} (e : kk = (k : Nat)) (e' : mm = (m : Nat)) : bits BinOp.and IntKind.u64 ((x : Int) / kk) mm = ((x / k &&& m : Nat) : Int) := by
  subst e; subst e'; exact and_nat x m k hx hm
theorem and_nat0 (x m : Nat) (hx : x < 18446744073709551616) (hm : m < 18446744073709551616) {mm : Int} (e' : mm = (m : Nat)) : bits BinOp.and IntKind.u64 (x : Int) mm = ((x &&& m : Nat) : Int) := by
  subst e'; exact u64_and_nat x m hx hm
end Go.Proofs.YtkbeiadbolihiaaDoor
namespace Go.Proofs.YtkbeiadbolihiaaDoor
open Go.RowKit
/-- How many of the first n bytes are in the class. -/
def cnt (P : Nat → Bool) : Nat → Nat
  | 0 => 0
  | n + 1 => cnt P n + (if P n then 1 else 0)
theorem cnt_pop {P : Nat → Bool} {x q : Nat} (n : Nat) (hn : n ≤ 64) (h : ∀ j, j < 64 → x.testBit j = P (q + j)) : cnt P (q + n) = cnt P q + pop x n := by
  induction n with
  | zero => rfl
  | succ n ih =>
    rw [show q + (n + 1) = (q + n) + 1 from rfl, cnt, pop, ih (by omega), h n (by omega)]
    omega
theorem cnt_le (P : Nat → Bool) (n : Nat) : cnt P n ≤ n := by
  induction n with
  | zero => exact Nat.le_refl _
  | succ n ih => rw [cnt]; split <;> omega
theorem cnt_all {P : Nat → Bool} {a b c d : Nat} (h : C4 P a b c d) : cnt P 256 = pop a 64 + pop b 64 + pop c 64 + pop d 64 := by
  have h1 := cnt_pop (P := P) (x := a) (q := 0) 64 (by decide) (fun j hj => by rw [Nat.zero_add]; exact h.ha j hj)
  have h2 := cnt_pop (q := 64) 64 (by decide) h.hb
  have h3 := cnt_pop (q := 128) 64 (by decide) h.hc
  have h4 := cnt_pop (q := 192) 64 (by decide) h.hd
  have h0 : cnt P 0 = 0 := rfl
  simp only [Nat.zero_add] at h1
  rw [h4, h3, h2, h1, h0, Nat.zero_add]
theorem cnt_come (P : Nat → Bool) (n : Nat) : cnt P n = (come P n).length := by
  induction n with
  | zero => rfl
  | succ n ih =>
    rw [cnt, ih]
    cases h : P n
    · rw [come_no h]; simp
    · rw [come_yes h]; simp
/-- A number, and what was there is as it was. -/
def RetI (w : World) (n : Nat) (e : Ending) (w' : World) : Prop := e = .returned (.int .i64 (n : Nat)) ∧ Below w.heap.size w w'
end Go.Proofs.YtkbeiadbolihiaaDoor
