/- Of: the walk. -/
import Derived.Test.YtgololmgdakigaaGa
import Derived.Deep.DeepCutAuto
namespace Go.Proofs.Ytgololmgdakigaa
open Go.RowKit
def pl (p q : Int × Int) : Int × Int := (p.1 + q.1, p.2 + q.2)
/-- The fingerprint of the first k bytes. -/
def ofL (z : Nat → Nat) : Nat → Int × Int
  | 0 => (0, 0)
  | k + 1 => pl (ofL z k) (tn (gs (z k)) (k : Nat))
theorem pl_wd {p q : Int × Int} {M N : Nat} (h : Wd p M) (k : Wd q N) : Wd (pl p q) (M + N) := by
  obtain ⟨h1, h2⟩ := h
  obtain ⟨k1, k2⟩ := k
  unfold Wd pl
  dsimp only
  omega
theorem ofL_wd {z : Nat → Nat} {n : Nat} (hz : ∀ i, i < n → z i < 256) : Wd (ofL z n) (15 * n) := by
  induction n with
  | zero => exact ⟨Nat.le_refl _, Nat.le_refl _⟩
  | succ n ih =>
    have := pl_wd (ih fun i hi => hz i (by omega)) (tn_wd (gs_wd (hz n (by omega))) (n : Nat))
    rw [Nat.mul_succ]
    exact this
theorem Wd.mono {p : Int × Int} {M N : Nat} (h : Wd p M) (hm : M ≤ N) : Wd p N := ⟨Nat.le_trans h.1 hm, Nat.le_trans h.2 hm⟩
theorem zero_f : IsF 0 0 := ⟨false, by decide, fun h => (h rfl).elim⟩
/-- A sum of whole numbers. -/
theorem plus_c {a b c d : Nat} {p q : Int × Int} (hp : IsC (.complex .f64 a b) p) (hq : IsC (.complex .f64 c d) q) {M N : Nat} (mp : Wd p M) (mq : Wd q N) (hm : M + N ≤ 9007199254740991) : ∃ x y, IsC (.complex .f64 x y) (pl p q) ∧ ∀ (P : Program) (t : TypeId) (w : World), (Go.binOp .add t (.complex .f64 a b) (.complex .f64 c d)).run P w = .ok (.complex .f64 x y) w := by
  obtain ⟨_, _, e, ha, hb⟩ := hp
  cases e
  obtain ⟨_, _, e, hc, hd⟩ := hq
  cases e
  have w1 := pl_wd mp mq
  obtain ⟨x, h1, h2⟩ := add_f ha hc (by have := mp.1; omega) (by have := mq.1; omega) (by have := w1.1; unfold pl at this; dsimp only at this; omega)
  obtain ⟨y, h3, h4⟩ := add_f hb hd (by have := mp.2; omega) (by have := mq.2; omega) (by have := w1.2; unfold pl at this; dsimp only at this; omega)
  exact ⟨x, y, ⟨x, y, rfl, h2, h4⟩, fun P t w => run_complex_sum w .add (.inl rfl) t .f64 a b c d x y (by simp [cSumBits, h1, h3])⟩
theorem IsC.is {v : Value} {p : Int × Int} (h : IsC v p) : ∃ a b, v = .complex .f64 a b := by
  obtain ⟨a, b, e, _⟩ := h
  exact ⟨a, b, e⟩
set_option maxRecDepth 10000 in
set_option maxHeartbeats 1000000 in
theorem of_any (ao : Option Addr) (n cap : Nat) (z : Nat → Nat) (w : World) (hr : Rd w ao n z) (hn : n ≤ 1099511627776) : Calls Try.prog 15 #[.slice ao n cap] w fun e w' => (∃ v, e = .returned v ∧ IsC v (ofL z n)) ∧ w' = w := by
  have hz := hr.small
  have hC0 : IsC (.complex .f64 0 0) (ofL z 0) := ⟨0, 0, rfl, zero_f, zero_f⟩
  go_enter Try.func15, Try.ntmps15
  go_wp2
  go_loopw [3, 8] (fun v i wr => ∃ k : Nat, k ≤ n ∧ i = .int .i64 (k : Nat) ∧ IsC v (ofL z k) ∧ wr = w) (fun _ i _ => n - (intOf i).toNat)
  case atStart => exact ⟨0, Nat.zero_le _, rfl, hC0, rfl⟩
  case round =>
    obtain ⟨k, hk, rfl, hv, rfl⟩ := hrel
    clear hC0
    obtain ⟨a, b, rfl⟩ := hv.is
    by_cases hlt : k < n
    · have hki : (k : Int) < (n : Int) := by omega
      obtain ⟨bb, off, rfl, _, hc⟩ := hr.at_ (by omega)
      have d0 := hc k hlt
      have hzk := hz k hlt
      have HG : Hid (∀ W, Calls Try.prog 10 #[.int .u8 (z k : Nat)] W fun e w' => (∃ v, e = .returned v ∧ IsC v (gs (z k))) ∧ w' = W) := fun W => gauss_any (z k) hzk W
      have HT : Hid (∀ v W, IsC v (gs (z k)) → Calls Try.prog 13 #[v, .int .i64 (k : Nat)] W fun e w' => (∃ v, e = .returned v ∧ IsC v (tn (gs (z k)) (k : Nat))) ∧ w' = W) := fun v W h => turn_any v (gs (z k)) (k : Nat) W h ((gs_wd hzk).mono (by decide))
      have HP : Hid (∀ c d, IsC (.complex .f64 c d) (tn (gs (z k)) (k : Nat)) → ∃ x y, IsC (.complex .f64 x y) (ofL z (k + 1)) ∧ ∀ (P : Program) (t : TypeId) (w : World), (Go.binOp .add t (.complex .f64 a b) (.complex .f64 c d)).run P w = .ok (.complex .f64 x y) w) := fun c d h => plus_c hv h (ofL_wd fun i hi => hz i (by omega)) (tn_wd (gs_wd hzk) _) (by omega)
      clear hv hc hr hz
      generalize z k = zk at *
      go_wp2_with (first
        | (go_at_call 13; refine (HT.out v1 _ hv1).mono ?_; rintro e w2 ⟨⟨v2, rfl, hv2⟩, rfl⟩; obtain ⟨c2, d2, rfl⟩ := hv2.is; obtain ⟨x, y, hxy, hrun⟩ := HP.out c2 d2 hv2)
        | (go_at_call 10; refine (HG.out _).mono ?_; rintro e w1 ⟨⟨v1, rfl, hv1⟩, rfl⟩))
      go_roundw
      case rel => exact ⟨k + 1, hlt, by simp, hxy, trivial⟩
      case measure => simp [intOf]; omega
    · obtain rfl : k = n := by omega
      have hki : ¬ (k : Int) < (k : Int) := by omega
      have HV : Hid _ := hv
      clear hv hr hz
      go_wp2
      go_ret
      exact ⟨⟨_, rfl, HV.out⟩, rfl⟩
end Go.Proofs.Ytgololmgdakigaa
