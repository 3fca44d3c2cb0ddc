/- Ported: TtC. -/
import Derived.Test.YtobgmgpclcfkcaaTtB
namespace Go.Proofs.Ytobgmgpclcfkcaa.T
open Go.RowKit
/-- What startOf answers. -/
def RetSo (w : World) (s : Int) (b : Bool) (e : Ending) (w' : World) : Prop := (∃ s' : Int, (b = true → s' = s) ∧ e = .returned (.tuple #[.int .i64 s', .bool b])) ∧ Below w.heap.size w w'
theorem quiet2 {P : Program} {f : FuncId} {args : Array Value} {w : World} {k n : Nat} {v : Value}
    (h : Calls P f args (w.drewN (k + n)) fun e w' => e = .returned v ∧ w' = w.drewN (k + n)) :
    Calls P f args (w.drewN (k + n)) fun e w' => e = .returned v ∧ ∃ m, w' = w.drewN (k + m) :=
  h.mono fun _ _ h => ⟨h.1, n, h.2⟩
set_option maxRecDepth 10000 in
set_option maxHeartbeats 1000000 in
theorem startOf_1 (c0 c1 c2 c3 a b l m : Int) (z : Bool) (ao : Option Addr) (p cap : Nat) (w : World) :
    Calls Try.prog 72 #[.agg #[.int .i64 1, .int .u64 c0, .int .u64 c1, .int .u64 c2, .int .u64 c3, .int .i64 a, .int .i64 b, .int .i64 l, .int .i64 m, .bool z], .slice ao p cap] w (RetSo w p (Nd.eq ⟨1, c0, c1, c2, c3, a, b, l, m, z⟩ ⟨1, 0, 0, 0, 0, 0, 0, 0, 0, false⟩)) := by
  have he := run_eql29 ⟨1, c0, c1, c2, c3, a, b, l, m, z⟩ ⟨1, 0, 0, 0, 0, 0, 0, 0, 0, false⟩
  unfold ndV at he
  dsimp only at he
  generalize Nd.eq ⟨1, c0, c1, c2, c3, a, b, l, m, z⟩ ⟨1, 0, 0, 0, 0, 0, 0, 0, 0, false⟩ = r at *
  have hp : (p : Int) ≥ 0 := by omega
  go_enter Try.func72, Try.ntmps72
  go_wp2
  go_quiet (fail)
  go_wp2
  go_ret2
  exact ⟨⟨_, fun _ => rfl, rfl⟩, below_drewN (below2 _ _ _) _⟩
set_option maxRecDepth 10000 in
set_option maxHeartbeats 1000000 in
theorem startOf_6 (c0 c1 c2 c3 a b l m : Int) (z : Bool) (ao : Option Addr) (p cap : Nat) (w : World) :
    Calls Try.prog 72 #[.agg #[.int .i64 6, .int .u64 c0, .int .u64 c1, .int .u64 c2, .int .u64 c3, .int .i64 a, .int .i64 b, .int .i64 l, .int .i64 m, .bool z], .slice ao p cap] w (RetSo w p (Nd.eq ⟨6, c0, c1, c2, c3, a, b, l, m, z⟩ ⟨6, 0, 0, 0, 0, 0, 0, 0, 0, false⟩)) := by
  have he := run_eql29 ⟨6, c0, c1, c2, c3, a, b, l, m, z⟩ ⟨6, 0, 0, 0, 0, 0, 0, 0, 0, false⟩
  unfold ndV at he
  dsimp only at he
  generalize Nd.eq ⟨6, c0, c1, c2, c3, a, b, l, m, z⟩ ⟨6, 0, 0, 0, 0, 0, 0, 0, 0, false⟩ = r at *
  have hp : (p : Int) ≥ 0 := by omega
  go_enter Try.func72, Try.ntmps72
  go_wp2
  go_quiet (fail)
  go_wp2
  go_ret2
  exact ⟨⟨_, fun _ => rfl, rfl⟩, below_drewN (below2 _ _ _) _⟩
set_option maxRecDepth 10000 in
set_option maxHeartbeats 1000000 in
theorem startOf_7 (c0 c1 c2 c3 a b l m : Int) (z : Bool) (ao : Option Addr) (p cap : Nat) (w : World) :
    Calls Try.prog 72 #[.agg #[.int .i64 7, .int .u64 c0, .int .u64 c1, .int .u64 c2, .int .u64 c3, .int .i64 a, .int .i64 b, .int .i64 l, .int .i64 m, .bool z], .slice ao p cap] w (RetSo w p (Nd.eq ⟨7, c0, c1, c2, c3, a, b, l, m, z⟩ ⟨7, 0, 0, 0, 0, 0, 0, 0, 0, false⟩)) := by
  have he := run_eql29 ⟨7, c0, c1, c2, c3, a, b, l, m, z⟩ ⟨7, 0, 0, 0, 0, 0, 0, 0, 0, false⟩
  unfold ndV at he
  dsimp only at he
  generalize Nd.eq ⟨7, c0, c1, c2, c3, a, b, l, m, z⟩ ⟨7, 0, 0, 0, 0, 0, 0, 0, 0, false⟩ = r at *
  have hp : (p : Int) ≥ 0 := by omega
  go_enter Try.func72, Try.ntmps72
  go_wp2
  go_quiet (fail)
  go_wp2
  go_ret2
  exact ⟨⟨_, fun _ => rfl, rfl⟩, below_drewN (below2 _ _ _) _⟩
set_option maxRecDepth 10000 in
set_option maxHeartbeats 1000000 in
theorem startOf_2 (c0 c1 c2 c3 a b l m : Int) (z : Bool) (ao : Option Addr) (p cap : Nat) (w : World) :
    Calls Try.prog 72 #[.agg #[.int .i64 2, .int .u64 c0, .int .u64 c1, .int .u64 c2, .int .u64 c3, .int .i64 a, .int .i64 b, .int .i64 l, .int .i64 m, .bool z], .slice ao p cap] w (RetSo w p (Nd.eq ⟨2, c0, c1, c2, c3, a, b, l, m, z⟩ ⟨2, c0, c1, c2, c3, 0, 0, 0, 0, false⟩)) := by
  have he := run_eql29 ⟨2, c0, c1, c2, c3, a, b, l, m, z⟩ ⟨2, c0, c1, c2, c3, 0, 0, 0, 0, false⟩
  unfold ndV at he
  dsimp only at he
  generalize Nd.eq ⟨2, c0, c1, c2, c3, a, b, l, m, z⟩ ⟨2, c0, c1, c2, c3, 0, 0, 0, 0, false⟩ = r at *
  have hp : (p : Int) ≥ 0 := by omega
  go_enter Try.func72, Try.ntmps72
  go_wp2
  go_quiet (fail)
  go_wp2
  go_ret2
  exact ⟨⟨_, fun _ => rfl, rfl⟩, below_drewN (below2 _ _ _) _⟩
set_option maxRecDepth 10000 in
set_option maxHeartbeats 1000000 in
theorem startOf_no (k c0 c1 c2 c3 a b l m : Int) (z : Bool) (ao : Option Addr) (p cap : Nat) (w : World) (hk : ¬ (1 ≤ k ∧ k ≤ 7)) :
    Calls Try.prog 72 #[.agg #[.int .i64 k, .int .u64 c0, .int .u64 c1, .int .u64 c2, .int .u64 c3, .int .i64 a, .int .i64 b, .int .i64 l, .int .i64 m, .bool z], .slice ao p cap] w (RetSo w p false) := by
  have k1 : (k == 1) = false := by simp; omega
  have k2 : (k == 2) = false := by simp; omega
  have k3 : (k == 3) = false := by simp; omega
  have k4 : (k == 4) = false := by simp; omega
  have k5 : (k == 5) = false := by simp; omega
  have k6 : (k == 6) = false := by simp; omega
  have k7 : (k == 7) = false := by simp; omega
  have hf : decide False = false := rfl
  clear hk
  go_enter Try.func72, Try.ntmps72
  go_wp2
  go_quiet (fail)
  go_wp2
  go_ret2
  exact ⟨⟨_, fun h => (Bool.false_ne_true h).elim, rfl⟩, below_drewN (below2 _ _ _) _⟩
set_option maxRecDepth 10000 in
set_option maxHeartbeats 1000000 in
theorem startOf_3 (c0 c1 c2 c3 a b l m : Int) (z : Bool) (ao : Option Addr) (p cap : Nat) (f : Nat → Int) (w : World) (hr : RdI w ao p f) (hp : (p : Int) ≤ 2048) (s1 s : Int) (hx : s1 = stA f (p - 1)) (hs : s = stA f (s1 - 1)) (hxp : s1 ≤ p) (hx0 : -1 ≤ s1) (hs0 : 0 ≤ s) :
    Calls Try.prog 72 #[.agg #[.int .i64 3, .int .u64 c0, .int .u64 c1, .int .u64 c2, .int .u64 c3, .int .i64 a, .int .i64 b, .int .i64 l, .int .i64 m, .bool z], .slice ao p cap] w (RetSo w s (Nd.eq ⟨3, c0, c1, c2, c3, a, b, l, m, z⟩ ⟨3, 0, 0, 0, 0, s1 - 1, p - 1, 0, 0, false⟩)) := by
  have he := run_eql29 ⟨3, c0, c1, c2, c3, a, b, l, m, z⟩ ⟨3, 0, 0, 0, 0, s1 - 1, p - 1, 0, 0, false⟩
  unfold ndV at he
  dsimp only at he
  generalize Nd.eq ⟨3, c0, c1, c2, c3, a, b, l, m, z⟩ ⟨3, 0, 0, 0, 0, s1 - 1, p - 1, 0, 0, false⟩ = r at *
  have H1 : Hid (∀ W, Below w.heap.size w W → Calls Try.prog 74 #[.slice ao p cap, .int .i64 (p - 1)] W fun e w' => e = .returned (.int .i64 s1) ∧ w' = W) := fun W hW => hx ▸ startAt_any ao p cap f _ W (hr.below hW) (by omega)
  have H2 : Hid (∀ W, Below w.heap.size w W → Calls Try.prog 74 #[.slice ao p cap, .int .i64 (s1 - 1)] W fun e w' => e = .returned (.int .i64 s) ∧ w' = W) := fun W hW => hs ▸ startAt_any ao p cap f _ W (hr.below hW) (by omega)
  clear hr hx hs
  have m1 : Hid True := trivial
  go_enter Try.func72, Try.ntmps72
  go_wp2_with (go_at_call 74; first | (clear m1; refine (H1.out _ ?_).mono ?_; exact below2 _ _ _; rintro e W ⟨rfl, rfl⟩) | (refine (H2.out _ ?_).mono ?_; exact below2 _ _ _; rintro e W ⟨rfl, rfl⟩))
  go_quiet (fail)
  go_wp2
  go_ret2
  exact ⟨⟨_, fun _ => rfl, rfl⟩, below_drewN (below2 _ _ _) _⟩
set_option maxRecDepth 10000 in
set_option maxHeartbeats 1000000 in
theorem startOf_3n (c0 c1 c2 c3 a b l m : Int) (z : Bool) (ao : Option Addr) (p cap : Nat) (f : Nat → Int) (w : World) (hr : RdI w ao p f) (hp : (p : Int) ≤ 2048) (s1 s : Int) (hx : s1 = stA f (p - 1)) (hs : s = stA f (s1 - 1)) (hxp : s1 ≤ p) (hx0 : -1 ≤ s1) (hs0 : s < 0) :
    Calls Try.prog 72 #[.agg #[.int .i64 3, .int .u64 c0, .int .u64 c1, .int .u64 c2, .int .u64 c3, .int .i64 a, .int .i64 b, .int .i64 l, .int .i64 m, .bool z], .slice ao p cap] w (RetSo w s (false)) := by
  have hs1 : decide (s ≥ 0) = false := by simp; omega
  have H1 : Hid (∀ W, Below w.heap.size w W → Calls Try.prog 74 #[.slice ao p cap, .int .i64 (p - 1)] W fun e w' => e = .returned (.int .i64 s1) ∧ w' = W) := fun W hW => hx ▸ startAt_any ao p cap f _ W (hr.below hW) (by omega)
  have H2 : Hid (∀ W, Below w.heap.size w W → Calls Try.prog 74 #[.slice ao p cap, .int .i64 (s1 - 1)] W fun e w' => e = .returned (.int .i64 s) ∧ w' = W) := fun W hW => hs ▸ startAt_any ao p cap f _ W (hr.below hW) (by omega)
  clear hr hx hs
  have m1 : Hid True := trivial
  go_enter Try.func72, Try.ntmps72
  go_wp2_with (go_at_call 74; first | (clear m1; refine (H1.out _ ?_).mono ?_; exact below2 _ _ _; rintro e W ⟨rfl, rfl⟩) | (refine (H2.out _ ?_).mono ?_; exact below2 _ _ _; rintro e W ⟨rfl, rfl⟩))
  go_quiet (fail)
  go_wp2
  go_ret2
  exact ⟨⟨_, fun h => (Bool.false_ne_true h).elim, rfl⟩, below_drewN (below2 _ _ _) _⟩
set_option maxRecDepth 10000 in
set_option maxHeartbeats 1000000 in
theorem startOf_4 (c0 c1 c2 c3 a b l m : Int) (z : Bool) (ao : Option Addr) (p cap : Nat) (f : Nat → Int) (w : World) (hr : RdI w ao p f) (hp : (p : Int) ≤ 2048) (s1 s : Int) (hx : s1 = stA f (p - 1)) (hs : s = stA f (s1 - 1)) (hxp : s1 ≤ p) (hx0 : -1 ≤ s1) (hs0 : 0 ≤ s) :
    Calls Try.prog 72 #[.agg #[.int .i64 4, .int .u64 c0, .int .u64 c1, .int .u64 c2, .int .u64 c3, .int .i64 a, .int .i64 b, .int .i64 l, .int .i64 m, .bool z], .slice ao p cap] w (RetSo w s (Nd.eq ⟨4, c0, c1, c2, c3, a, b, l, m, z⟩ ⟨4, 0, 0, 0, 0, s1 - 1, p - 1, 0, 0, false⟩)) := by
  have he := run_eql29 ⟨4, c0, c1, c2, c3, a, b, l, m, z⟩ ⟨4, 0, 0, 0, 0, s1 - 1, p - 1, 0, 0, false⟩
  unfold ndV at he
  dsimp only at he
  generalize Nd.eq ⟨4, c0, c1, c2, c3, a, b, l, m, z⟩ ⟨4, 0, 0, 0, 0, s1 - 1, p - 1, 0, 0, false⟩ = r at *
  have H1 : Hid (∀ W, Below w.heap.size w W → Calls Try.prog 74 #[.slice ao p cap, .int .i64 (p - 1)] W fun e w' => e = .returned (.int .i64 s1) ∧ w' = W) := fun W hW => hx ▸ startAt_any ao p cap f _ W (hr.below hW) (by omega)
  have H2 : Hid (∀ W, Below w.heap.size w W → Calls Try.prog 74 #[.slice ao p cap, .int .i64 (s1 - 1)] W fun e w' => e = .returned (.int .i64 s) ∧ w' = W) := fun W hW => hs ▸ startAt_any ao p cap f _ W (hr.below hW) (by omega)
  clear hr hx hs
  have m1 : Hid True := trivial
  go_enter Try.func72, Try.ntmps72
  go_wp2_with (go_at_call 74; first | (clear m1; refine (H1.out _ ?_).mono ?_; exact below2 _ _ _; rintro e W ⟨rfl, rfl⟩) | (refine (H2.out _ ?_).mono ?_; exact below2 _ _ _; rintro e W ⟨rfl, rfl⟩))
  go_quiet (fail)
  go_wp2
  go_ret2
  exact ⟨⟨_, fun _ => rfl, rfl⟩, below_drewN (below2 _ _ _) _⟩
set_option maxRecDepth 10000 in
set_option maxHeartbeats 1000000 in
theorem startOf_4n (c0 c1 c2 c3 a b l m : Int) (z : Bool) (ao : Option Addr) (p cap : Nat) (f : Nat → Int) (w : World) (hr : RdI w ao p f) (hp : (p : Int) ≤ 2048) (s1 s : Int) (hx : s1 = stA f (p - 1)) (hs : s = stA f (s1 - 1)) (hxp : s1 ≤ p) (hx0 : -1 ≤ s1) (hs0 : s < 0) :
    Calls Try.prog 72 #[.agg #[.int .i64 4, .int .u64 c0, .int .u64 c1, .int .u64 c2, .int .u64 c3, .int .i64 a, .int .i64 b, .int .i64 l, .int .i64 m, .bool z], .slice ao p cap] w (RetSo w s (false)) := by
  have hs1 : decide (s ≥ 0) = false := by simp; omega
  have H1 : Hid (∀ W, Below w.heap.size w W → Calls Try.prog 74 #[.slice ao p cap, .int .i64 (p - 1)] W fun e w' => e = .returned (.int .i64 s1) ∧ w' = W) := fun W hW => hx ▸ startAt_any ao p cap f _ W (hr.below hW) (by omega)
  have H2 : Hid (∀ W, Below w.heap.size w W → Calls Try.prog 74 #[.slice ao p cap, .int .i64 (s1 - 1)] W fun e w' => e = .returned (.int .i64 s) ∧ w' = W) := fun W hW => hs ▸ startAt_any ao p cap f _ W (hr.below hW) (by omega)
  clear hr hx hs
  have m1 : Hid True := trivial
  go_enter Try.func72, Try.ntmps72
  go_wp2_with (go_at_call 74; first | (clear m1; refine (H1.out _ ?_).mono ?_; exact below2 _ _ _; rintro e W ⟨rfl, rfl⟩) | (refine (H2.out _ ?_).mono ?_; exact below2 _ _ _; rintro e W ⟨rfl, rfl⟩))
  go_quiet (fail)
  go_wp2
  go_ret2
  exact ⟨⟨_, fun h => (Bool.false_ne_true h).elim, rfl⟩, below_drewN (below2 _ _ _) _⟩
set_option maxRecDepth 10000 in
set_option maxHeartbeats 1000000 in
theorem startOf_5 (c0 c1 c2 c3 a b l m : Int) (z : Bool) (ao : Option Addr) (p cap : Nat) (f : Nat → Int) (w : World) (hr : RdI w ao p f) (hp : (p : Int) ≤ 2048) (s : Int) (hs : s = stA f (p - 1)) (hm : Tre.mayR l m = true) (hs0 : 0 ≤ s) :
    Calls Try.prog 72 #[.agg #[.int .i64 5, .int .u64 c0, .int .u64 c1, .int .u64 c2, .int .u64 c3, .int .i64 a, .int .i64 b, .int .i64 l, .int .i64 m, .bool z], .slice ao p cap] w (RetSo w s (Nd.eq ⟨5, c0, c1, c2, c3, a, b, l, m, z⟩ ⟨5, 0, 0, 0, 0, p - 1, 0, l, m, z⟩)) := by
  have he := run_eql29 ⟨5, c0, c1, c2, c3, a, b, l, m, z⟩ ⟨5, 0, 0, 0, 0, p - 1, 0, l, m, z⟩
  unfold ndV at he
  dsimp only at he
  generalize Nd.eq ⟨5, c0, c1, c2, c3, a, b, l, m, z⟩ ⟨5, 0, 0, 0, 0, p - 1, 0, l, m, z⟩ = r at *
  have H1 : Hid (∀ W, Below w.heap.size w W → Calls Try.prog 74 #[.slice ao p cap, .int .i64 (p - 1)] W fun e w' => e = .returned (.int .i64 s) ∧ w' = W) := fun W hW => hs ▸ startAt_any ao p cap f _ W (hr.below hW) (by omega)
  have H2 : Hid (∀ W, Calls Try.prog 75 #[.int .i64 l, .int .i64 m] W fun e w' => e = .returned (.bool true) ∧ w' = W) := fun W => hm ▸ mayRepeat_any l m W
  have hB : Hid (∀ o1 o2, Below w.heap.size w ((w.alloc o1).alloc o2)) := fun _ _ => below2 _ _ _
  clear hr hs hm
  go_enter Try.func72, Try.ntmps72
  go_wp2
  go_region
  go_wp2
  go_quiet (first | (go_at_call 74; refine quiet2 (H1.out _ ?_); exact below_drewN (below2 _ _ _) _) | (go_at_call 75; exact quiet2 (H2.out _)))
  go_wp2
  go_quiet (fail)
  go_wp2
  go_ret2
  exact ⟨⟨_, fun _ => rfl, rfl⟩, below_drewN (below_drewN (below2 _ _ _).drew _) _⟩
set_option maxRecDepth 10000 in
set_option maxHeartbeats 1000000 in
theorem startOf_5n (c0 c1 c2 c3 a b l m : Int) (z : Bool) (ao : Option Addr) (p cap : Nat) (f : Nat → Int) (w : World) (hr : RdI w ao p f) (hp : (p : Int) ≤ 2048) (s : Int) (hs : s = stA f (p - 1)) (hm : Tre.mayR l m = true) (hs0 : s < 0) :
    Calls Try.prog 72 #[.agg #[.int .i64 5, .int .u64 c0, .int .u64 c1, .int .u64 c2, .int .u64 c3, .int .i64 a, .int .i64 b, .int .i64 l, .int .i64 m, .bool z], .slice ao p cap] w (RetSo w s (false)) := by
  have hs1 : decide (s ≥ 0) = false := by simp; omega
  have H1 : Hid (∀ W, Below w.heap.size w W → Calls Try.prog 74 #[.slice ao p cap, .int .i64 (p - 1)] W fun e w' => e = .returned (.int .i64 s) ∧ w' = W) := fun W hW => hs ▸ startAt_any ao p cap f _ W (hr.below hW) (by omega)
  have H2 : Hid (∀ W, Calls Try.prog 75 #[.int .i64 l, .int .i64 m] W fun e w' => e = .returned (.bool true) ∧ w' = W) := fun W => hm ▸ mayRepeat_any l m W
  have hB : Hid (∀ o1 o2, Below w.heap.size w ((w.alloc o1).alloc o2)) := fun _ _ => below2 _ _ _
  clear hr hs hm
  go_enter Try.func72, Try.ntmps72
  go_wp2
  go_region
  go_wp2
  go_quiet (first | (go_at_call 74; refine quiet2 (H1.out _ ?_); exact below_drewN (below2 _ _ _) _) | (go_at_call 75; exact quiet2 (H2.out _)))
  go_wp2
  go_quiet (fail)
  go_wp2
  go_ret2
  exact ⟨⟨_, fun h => (Bool.false_ne_true h).elim, rfl⟩, below_drewN (below_drewN (below2 _ _ _).drew _) _⟩
set_option maxRecDepth 10000 in
set_option maxHeartbeats 1000000 in
theorem startOf_5m (c0 c1 c2 c3 a b l m : Int) (z : Bool) (ao : Option Addr) (p cap : Nat) (f : Nat → Int) (w : World) (hr : RdI w ao p f) (hp : (p : Int) ≤ 2048) (s : Int) (hs : s = stA f (p - 1)) (hm : Tre.mayR l m = false) :
    Calls Try.prog 72 #[.agg #[.int .i64 5, .int .u64 c0, .int .u64 c1, .int .u64 c2, .int .u64 c3, .int .i64 a, .int .i64 b, .int .i64 l, .int .i64 m, .bool z], .slice ao p cap] w (RetSo w s (false)) := by
  have H1 : Hid (∀ W, Below w.heap.size w W → Calls Try.prog 74 #[.slice ao p cap, .int .i64 (p - 1)] W fun e w' => e = .returned (.int .i64 s) ∧ w' = W) := fun W hW => hs ▸ startAt_any ao p cap f _ W (hr.below hW) (by omega)
  have H2 : Hid (∀ W, Calls Try.prog 75 #[.int .i64 l, .int .i64 m] W fun e w' => e = .returned (.bool false) ∧ w' = W) := fun W => hm ▸ mayRepeat_any l m W
  have hB : Hid (∀ o1 o2, Below w.heap.size w ((w.alloc o1).alloc o2)) := fun _ _ => below2 _ _ _
  clear hr hs hm
  go_enter Try.func72, Try.ntmps72
  go_wp2
  go_region
  go_wp2
  go_quiet (first | (go_at_call 74; refine quiet2 (H1.out _ ?_); exact below_drewN (below2 _ _ _) _) | (go_at_call 75; exact quiet2 (H2.out _)))
  go_wp2
  go_quiet (fail)
  go_wp2
  go_ret2
  exact ⟨⟨_, fun h => (Bool.false_ne_true h).elim, rfl⟩, below_drewN (below_drewN (below2 _ _ _).drew _) _⟩
end Go.Proofs.Ytobgmgpclcfkcaa.T
