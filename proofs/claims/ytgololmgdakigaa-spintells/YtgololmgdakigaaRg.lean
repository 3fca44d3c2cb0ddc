/- Equal numbers; Roll, Join, the first look: the walks. -/
import Derived.Test.YtgololmgdakigaaRf
namespace Go.Proofs.Ytgololmgdakigaa
open Go.RowKit
theorem cmp_eq (i j : Int) : (compare i j == Ordering.eq) = decide (i = j) := by
  rcases Int.lt_trichotomy i j with h | h | h
  · rw [Int.compare_eq_lt.2 h]
    have : i ≠ j := by omega
    simp [this]
  · subst h
    rw [Int.compare_eq_eq.2 rfl]
    simp
  · rw [Int.compare_eq_gt.2 h]
    have : i ≠ j := by omega
    simp [this]
/-- Equal just if the numbers are. -/
theorem eql_c {a b c d : Nat} {p q : Int × Int} (hp : IsC (.complex .f64 a b) p) (hq : IsC (.complex .f64 c d) q) (mp : Wd p 9007199254740991) (mq : Wd q 9007199254740991) (P : Program) (t : TypeId) (w : World) : (Go.binOp .eql t (.complex .f64 a b) (.complex .f64 c d)).run P w = .ok (.bool (decide (p = q))) w := by
  obtain ⟨_, _, e, ha, hb⟩ := hp
  cases e
  obtain ⟨_, _, e, hc, hd⟩ := hq
  cases e
  have h1 := order_f ha hc (by have := mp.1; omega) (by have := mq.1; omega)
  have h2 := order_f hb hd (by have := mp.2; omega) (by have := mq.2; omega)
  have e : decide (p = q) = (decide (p.1 = q.1) && decide (p.2 = q.2)) := by
    rw [← Bool.decide_and]
    congr 1
    exact propext Prod.ext_iff
  simp [binOp, Op.complexOp, Op.Complex.cmp, Op.floatCmp, asBool, h1, h2, cmp_eq, e]
theorem minus_c {a b c d : Nat} {p q : Int × Int} (hp : IsC (.complex .f64 a b) p) (hq : IsC (.complex .f64 c d) q) {M N : Nat} (mp : Wd p M) (mq : Wd q N) (hm : M + N ≤ 9007199254740991) : ∃ x y, IsC (.complex .f64 x y) (p.1 - q.1, p.2 - q.2) ∧ ∀ (P : Program) (t : TypeId) (w : World), (Go.binOp .sub t (.complex .f64 a b) (.complex .f64 c d)).run P w = .ok (.complex .f64 x y) w := by
  obtain ⟨_, _, e, ha, hb⟩ := hp
  cases e
  obtain ⟨_, _, e, hc, hd⟩ := hq
  cases e
  obtain ⟨m1, m2⟩ := mp
  obtain ⟨n1, n2⟩ := mq
  obtain ⟨x, h1, h2⟩ := sub_f ha hc (by omega) (by omega) (by omega)
  obtain ⟨y, h3, h4⟩ := sub_f hb hd (by omega) (by omega) (by omega)
  exact ⟨x, y, ⟨x, y, rfl, h2, h4⟩, fun P t w => run_complex_sum w .sub (.inr rfl) t .f64 a b c d x y (by simp [cSumBits, h1, h3])⟩
/-- Rolled on by a byte. -/
def rollP (p : Int × Int) (n : Nat) (o i : Nat) : Int × Int := pl (tn (p.1 - (gs o).1, p.2 - (gs o).2) (-1)) (tn (gs i) ((n : Int) - 1))
theorem sub_wd {p q : Int × Int} {M N : Nat} (h : Wd p M) (k : Wd q N) : Wd (p.1 - q.1, p.2 - q.2) (M + N) := by
  obtain ⟨h1, h2⟩ := h
  obtain ⟨k1, k2⟩ := k
  unfold Wd
  dsimp only
  omega
set_option maxRecDepth 10000 in
set_option maxHeartbeats 1000000 in
theorem roll_any (a b : Nat) (p : Int × Int) (n o i : Nat) (w : World) (hp : IsC (.complex .f64 a b) p) (mp : Wd p 4503599627370496) (ho : o < 256) (hi : i < 256) (hn : n ≤ 1099511627776) : Calls Try.prog 21 #[.complex .f64 a b, .int .i64 (n : Nat), .int .u8 (o : Nat), .int .u8 (i : Nat)] w fun e w' => (∃ v, e = .returned v ∧ IsC v (rollP p n o i)) ∧ w' = w := by
  have HG : Hid (∀ (b : Nat) (W : World), b < 256 → Calls Try.prog 10 #[.int .u8 (b : Nat)] W fun e w' => (∃ v, e = .returned v ∧ IsC v (gs b)) ∧ w' = W) := fun b W h => gauss_any b h W
  have HM : Hid (∀ c d, IsC (.complex .f64 c d) (gs o) → ∃ x y, IsC (.complex .f64 x y) (p.1 - (gs o).1, p.2 - (gs o).2) ∧ ∀ (P : Program) (t : TypeId) (w : World), (Go.binOp .sub t (.complex .f64 a b) (.complex .f64 c d)).run P w = .ok (.complex .f64 x y) w) := fun c d h => minus_c hp h mp (gs_wd ho) (by decide)
  have m1 := sub_wd mp (gs_wd ho)
  have HT1 : Hid (∀ v W, IsC v (p.1 - (gs o).1, p.2 - (gs o).2) → Calls Try.prog 13 #[v, .int .i64 (-1)] W fun e w' => (∃ v, e = .returned v ∧ IsC v (tn (p.1 - (gs o).1, p.2 - (gs o).2) (-1))) ∧ w' = W) := fun v W h => turn_any v _ (-1) W h (m1.mono (by decide))
  have HT2 : Hid (∀ v W, IsC v (gs i) → Calls Try.prog 13 #[v, .int .i64 ((n : Int) - 1)] W fun e w' => (∃ v, e = .returned v ∧ IsC v (tn (gs i) ((n : Int) - 1))) ∧ w' = W) := fun v W h => turn_any v _ _ W h ((gs_wd hi).mono (by decide))
  have HP : Hid (∀ a b c d, IsC (.complex .f64 a b) (tn (p.1 - (gs o).1, p.2 - (gs o).2) (-1)) → IsC (.complex .f64 c d) (tn (gs i) ((n : Int) - 1)) → ∃ x y, IsC (.complex .f64 x y) (rollP p n o i) ∧ ∀ (P : Program) (t : TypeId) (w : World), (Go.binOp .add t (.complex .f64 a b) (.complex .f64 c d)).run P w = .ok (.complex .f64 x y) w) := fun a b c d h k => plus_c h k (tn_wd m1 _) (tn_wd (gs_wd hi) _) (by decide)
  have hw : IntKind.i64.wrap ((n : Int) - 1) = (n : Int) - 1 := by rw [IntKind.wrap_i64]; omega
  clear hp mp m1
  go_enter Try.func21, Try.ntmps21
  go_wp2_with (first
    | (go_at_call 13; have g := hv3; refine (HT2.out v3 _ hv3).mono ?_; rintro e w4 ⟨⟨v4, rfl, hv4⟩, rfl⟩; obtain ⟨c4, d4, rfl⟩ := hv4.is; obtain ⟨x5, y5, hv5, hr5⟩ := HP.out c2 d2 c4 d4 hv2 hv4)
    | (go_at_call 10; have g := hv2; refine (HG.out i _ hi).mono ?_; rintro e w3 ⟨⟨v3, rfl, hv3⟩, rfl⟩)
    | (go_at_call 13; refine (HT1.out _ _ hxy).mono ?_; rintro e w2 ⟨⟨v2, rfl, hv2⟩, rfl⟩; obtain ⟨c2, d2, rfl⟩ := hv2.is)
    | (go_at_call 10; refine (HG.out o _ ho).mono ?_; rintro e w1 ⟨⟨v1, rfl, hv1⟩, rfl⟩; obtain ⟨c1, d1, rfl⟩ := hv1.is; obtain ⟨x, y, hxy, hr⟩ := HM.out c1 d1 hv1))
  go_ret
  exact ⟨⟨_, rfl, hv5⟩, rfl⟩
set_option maxRecDepth 10000 in
set_option maxHeartbeats 1000000 in
theorem join_any (a b c d : Nat) (p q : Int × Int) (n : Int) (w : World) (hp : IsC (.complex .f64 a b) p) (hq : IsC (.complex .f64 c d) q) {M N : Nat} (mp : Wd p M) (mq : Wd q N) (hm : M + N ≤ 9007199254740991) : Calls Try.prog 22 #[.complex .f64 a b, .int .i64 n, .complex .f64 c d] w fun e w' => (∃ v, e = .returned v ∧ IsC v (pl p (tn q n))) ∧ w' = w := by
  have HT : Hid (∀ W, Calls Try.prog 13 #[.complex .f64 c d, .int .i64 n] W fun e w' => (∃ v, e = .returned v ∧ IsC v (tn q n)) ∧ w' = W) := fun W => turn_any _ q n W hq (mq.mono (by omega))
  have HP : Hid (∀ c d, IsC (.complex .f64 c d) (tn q n) → ∃ x y, IsC (.complex .f64 x y) (pl p (tn q n)) ∧ ∀ (P : Program) (t : TypeId) (w : World), (Go.binOp .add t (.complex .f64 a b) (.complex .f64 c d)).run P w = .ok (.complex .f64 x y) w) := fun c d k => plus_c hp k mp (tn_wd mq n) hm
  clear hp hq mp mq hm
  go_enter Try.func22, Try.ntmps22
  go_wp2_with (go_at_call 13; refine (HT.out _).mono ?_; rintro e w2 ⟨⟨v2, rfl, hv2⟩, rfl⟩; obtain ⟨c2, d2, rfl⟩ := hv2.is; obtain ⟨x5, y5, hv5, hr5⟩ := HP.out c2 d2 hv2)
  go_ret
  exact ⟨⟨_, rfl, hv5⟩, rfl⟩
end Go.Proofs.Ytgololmgdakigaa
