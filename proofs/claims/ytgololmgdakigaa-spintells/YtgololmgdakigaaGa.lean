/- Whole complex numbers; Gauss and Turn on both sides: the walks. -/
import Derived.Test.YtgololmgdakigaaCb
namespace Go.Proofs.Ytgololmgdakigaa
open Go.RowKit
/-- A complex number both of whose parts are whole. -/
def IsC (v : Value) (p : Int × Int) : Prop := ∃ a b, v = .complex .f64 a b ∧ IsF a p.1 ∧ IsF b p.2
/-- A byte as a whole number. -/
def gs (b : Nat) : Int × Int := (((b / 16 : Nat) : Int), ((b % 16 : Nat) : Int))
/-- Turned by as many quarters. -/
def tn (p : Int × Int) (q : Int) : Int × Int := if q % 4 = 1 then (-p.2, p.1) else if q % 4 = 2 then (-p.1, -p.2) else if q % 4 = 3 then (p.2, -p.1) else p
/-- No part is greater than M. -/
def Wd (p : Int × Int) (M : Nat) : Prop := p.1.natAbs ≤ M ∧ p.2.natAbs ≤ M
theorem gs_wd {b : Nat} (h : b < 256) : Wd (gs b) 15 := by
  unfold Wd gs
  dsimp only
  omega
theorem tn_wd {p : Int × Int} {M : Nat} (h : Wd p M) (q : Int) : Wd (tn p q) M := by
  obtain ⟨h1, h2⟩ := h
  unfold tn Wd
  split
  · dsimp only; omega
  · split
    · dsimp only; omega
    · split
      · dsimp only; omega
      · exact ⟨h1, h2⟩
theorem unary_negf (k : FloatKind) (b : Nat) : Op.unary .neg (.float k b) = pure (.float k (Op.negFloat k b)) := rfl
theorem unary_negc (k : FloatKind) (a b : Nat) : Op.unary .neg (.complex k a b) = pure (.complex k (Op.negFloat k a) (Op.negFloat k b)) := rfl
attribute [local go_sem] unary_negf unary_negc
theorem bits_and3 (q : Int) : bits .and .i64 q 3 = q % 4 := by
  unfold bits
  have h1 : (BitVec.ofInt IntKind.i64.bits 3) = (BitVec.ofNat 64 3 : BitVec IntKind.i64.bits) := rfl
  have h2 : (BitVec.ofInt IntKind.i64.bits q &&& BitVec.ofInt IntKind.i64.bits 3).toNat = (q % 4).toNat := by
    rw [h1]
    show (BitVec.ofInt 64 q &&& BitVec.ofNat 64 3).toNat = _
    rw [BitVec.toNat_and]
    have h3 : (BitVec.ofNat 64 3).toNat = 2 ^ 2 - 1 := by decide
    rw [h3, Nat.and_two_pow_sub_one_eq_mod, BitVec.toNat_ofInt]
    omega
  simp only [h2]
  have h0 := Int.emod_nonneg q (show (4 : Int) ≠ 0 by decide)
  have h4 := Int.emod_lt_of_pos q (show (0 : Int) < 4 by decide)
  rw [IntKind.wrap_i64]
  omega
set_option maxRecDepth 10000 in
theorem gauss_any (b : Nat) (hb : b < 256) (w : World) : Calls Try.prog 10 #[.int .u8 (b : Nat)] w fun e w' => (∃ v, e = .returned v ∧ IsC v (gs b)) ∧ w' = w := by
  obtain ⟨x, hx⟩ : ∃ x, x = b / 16 := ⟨_, rfl⟩
  obtain ⟨y, hy⟩ : ∃ y, y = b % 16 := ⟨_, rfl⟩
  have e1 : (b : Int) / 16 = (x : Int) := by omega
  have e2 : (b : Int) % 16 = (y : Int) := by omega
  have e3 : (b : Int).tdiv 16 = (x : Int) := by rw [Int.tdiv_eq_ediv_of_nonneg (by omega)]; exact e1
  have e4 : (b : Int).tmod 16 = (y : Int) := by rw [Int.tmod_eq_emod_of_nonneg (by omega)]; exact e2
  have hx2 : x < 256 := by omega
  have hy2 : y < 256 := by omega
  have HG : Hid (gs b = ((x : Int), (y : Int))) := by show gs b = _; unfold gs; rw [hx, hy]
  clear hx hy
  go_enter Try.func10, Try.ntmps10
  go_wp2
  go_ret
  refine ⟨⟨_, rfl, ?_⟩, rfl⟩
  rw [HG.out]
  exact ⟨_, _, rfl, of_int _, of_int _⟩
set_option maxRecDepth 10000 in
theorem turn_any (v : Value) (p : Int × Int) (q : Int) (w : World) (hv : IsC v p) (hp : Wd p 9007199254740991) : Calls Try.prog 13 #[v, .int .i64 q] w fun e w' => (∃ v, e = .returned v ∧ IsC v (tn p q)) ∧ w' = w := by
  obtain ⟨a, b, rfl, ha, hb⟩ := hv
  have hna := neg_f ha (by have := hp.1; omega)
  have hnb := neg_f hb (by have := hp.2; omega)
  have hq := bits_and3 q
  obtain ⟨r, hr⟩ : ∃ r, r = q % 4 := ⟨_, rfl⟩
  have hr4 : r = 0 ∨ r = 1 ∨ r = 2 ∨ r = 3 := by omega
  have HF : Hid (tn p q = if r = 1 then (-p.2, p.1) else if r = 2 then (-p.1, -p.2) else if r = 3 then (p.2, -p.1) else p) := by show tn p q = _; rw [hr]; rfl
  rw [← hr] at hq
  clear hr
  have HR : Hid (IsF a p.1 ∧ IsF b p.2 ∧ IsF (Op.negFloat .f64 a) (-p.1) ∧ IsF (Op.negFloat .f64 b) (-p.2)) := ⟨ha, hb, hna, hnb⟩
  clear ha hb hna hnb hp
  rcases hr4 with rfl | rfl | rfl | rfl
  · go_enter Try.func13, Try.ntmps13
    go_wp2
    go_ret
    refine ⟨⟨_, rfl, ?_⟩, rfl⟩
    rw [HF.out]
    exact ⟨_, _, rfl, HR.out.1, HR.out.2.1⟩
  · go_enter Try.func13, Try.ntmps13
    go_wp2
    go_ret
    refine ⟨⟨_, rfl, ?_⟩, rfl⟩
    rw [HF.out]
    exact ⟨_, _, rfl, HR.out.2.2.2, HR.out.1⟩
  · go_enter Try.func13, Try.ntmps13
    go_wp2
    go_ret
    refine ⟨⟨_, rfl, ?_⟩, rfl⟩
    rw [HF.out]
    exact ⟨_, _, rfl, HR.out.2.2.1, HR.out.2.2.2⟩
  · go_enter Try.func13, Try.ntmps13
    go_wp2
    go_ret
    refine ⟨⟨_, rfl, ?_⟩, rfl⟩
    rw [HF.out]
    exact ⟨_, _, rfl, HR.out.2.1, HR.out.2.2.1⟩
end Go.Proofs.Ytgololmgdakigaa
