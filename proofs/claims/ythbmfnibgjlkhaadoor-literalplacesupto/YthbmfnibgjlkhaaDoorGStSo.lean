/- startAt, mayRepeat: the walks. startOf: the walk. -/
import Derived.Test.YthbmfnibgjlkhaaDoorNb
namespace Go.Proofs.YthbmfnibgjlkhaaDoor
open Go.RowKit
/-- The cells of a slice of numbers can be read. -/
def RdI (w : World) (ao : Option Addr) (n : Nat) (f : Nat → Int) : Prop := 0 < n → ∃ bb off, ao = some ⟨bb, off, none⟩ ∧ bb < w.heap.size ∧ ∀ i, i < n → w.cell? ⟨bb, off + i, none⟩ = some (.int .i64 (f i))
theorem RdI.below {w w' : World} {ao : Option Addr} {n : Nat} {f : Nat → Int} (h : RdI w ao n f) (hb : Below w.heap.size w w') : RdI w' ao n f := by
  intro hn
  obtain ⟨bb, off, e, hlt, hc⟩ := h hn
  refine ⟨bb, off, e, Nat.lt_of_lt_of_le hlt hb.size, fun i hi => ?_⟩
  rw [hb.cell (p := ⟨bb, _, none⟩) hlt]
  exact hc i hi
/-- Where the subtree of a place starts; below 0 where there is no place. -/
def stA (f : Nat → Int) (x : Int) : Int := if x < 0 then -1 else f x.toNat
set_option maxHeartbeats 400000 in
theorem startAt_any (ao : Option Addr) (n cap : Nat) (f : Nat → Int) (x : Int) (w : World) (hr : RdI w ao n f) (hx : x < n) : Calls Tryd.prog 102 #[.slice ao n cap, .int .i64 x] w fun e w' => e = .returned (.int .i64 (stA f x)) ∧ w' = w := by
  by_cases h : x < 0
  · have e : stA f x = -1 := by simp [stA, h]
    rw [e]
    clear hr
    go_enter Tryd.func102, Tryd.ntmps102
    go_wp2
    go_ret
    exact ⟨rfl, rfl⟩
  · have e : stA f x = f x.toNat := by simp [stA, h]
    rw [e]
    obtain ⟨k, rfl⟩ : ∃ k : Nat, x = (k : Int) := ⟨x.toNat, by omega⟩
    obtain ⟨bb, off, rfl, _, hc⟩ := hr (by omega)
    have hk := hc k (by omega)
    have hkn : k < n := by omega
    rw [Int.toNat_natCast]
    generalize f k = y at *
    clear hc hr e
    go_enter Tryd.func102, Tryd.ntmps102
    go_wp2
    go_ret
    exact ⟨rfl, rfl⟩
set_option maxHeartbeats 400000 in
theorem mayRepeat_any (l m : Int) (w : World) : Calls Tryd.prog 103 #[.int .i64 l, .int .i64 m] w fun e w' => e = .returned (.bool (Tre.mayR l m)) ∧ w' = w := by
  by_cases h : m = -1
  · subst h
    by_cases h0 : 0 ≤ l
    · by_cases h1 : l ≤ 1000
      · have e : Tre.mayR l (-1) = true := by simp [Tre.mayR, h0, h1]
        rw [e]
        go_enter Tryd.func103, Tryd.ntmps103
        go_wp2
        go_ret
        exact ⟨rfl, rfl⟩
      · have e : Tre.mayR l (-1) = false := by simp [Tre.mayR, h1]
        rw [e]
        go_enter Tryd.func103, Tryd.ntmps103
        go_wp2
        go_ret
        exact ⟨rfl, rfl⟩
    · have e : Tre.mayR l (-1) = false := by simp [Tre.mayR, h0]
      rw [e]
      go_enter Tryd.func103, Tryd.ntmps103
      go_wp2
      go_ret
      exact ⟨rfl, rfl⟩
  · have hm : (m == -1) = false := by simpa using h
    by_cases h0 : 0 ≤ l
    · by_cases h1 : l ≤ m
      · by_cases h2 : m ≤ 1000
        · have e : Tre.mayR l m = true := by simp [Tre.mayR, h0, h1, h2]; omega
          rw [e]
          go_enter Tryd.func103, Tryd.ntmps103
          go_wp2
          go_ret
          exact ⟨rfl, rfl⟩
        · have e : Tre.mayR l m = false := by simp [Tre.mayR, h2, h]
          rw [e]
          go_enter Tryd.func103, Tryd.ntmps103
          go_wp2
          go_ret
          exact ⟨rfl, rfl⟩
      · have e : Tre.mayR l m = false := by simp [Tre.mayR, h1, h]
        rw [e]
        go_enter Tryd.func103, Tryd.ntmps103
        go_wp2
        go_ret
        exact ⟨rfl, rfl⟩
    · have e : Tre.mayR l m = false := by simp [Tre.mayR, h0]
      rw [e]
      go_enter Tryd.func103, Tryd.ntmps103
      go_wp2
      go_ret
      exact ⟨rfl, rfl⟩
end Go.Proofs.YthbmfnibgjlkhaaDoor
namespace Go.Proofs.YthbmfnibgjlkhaaDoor
open Go.RowKit
/-- What startOf answers. -/
def RetSo (w : World) (s : Int) (b : Bool) (e : Ending) (w' : World) : Prop := (∃ s' : Int, (b = true → s' = s) ∧ e = .returned (.tuple #[.int .i64 s', .bool b])) ∧ Below w.heap.size w w'
theorem quiet2 {P : Program} {f : FuncId} {args : Array Value} {w : World} {k n : Nat} {v : Value}
    (h : Calls P f args (w.drewN (k + n)) fun e w' => e = .returned v ∧ w' = w.drewN (k + n)) :
    Calls P f args (w.drewN (k + n)) fun e w' => e = .returned v ∧ ∃ m, w' = w.drewN (k + m) :=
  h.mono fun _ _ h => ⟨h.1, n, h.2⟩
set_option maxRecDepth 10000 in
set_option maxHeartbeats 1000000 in
theorem startOf_1 (c0 c1 c2 c3 a b l m : Int) (z : Bool) (ao : Option Addr) (p cap : Nat) (w : World) :
    Calls Tryd.prog 101 #[.agg #[.int .i64 1, .int .u64 c0, .int .u64 c1, .int .u64 c2, .int .u64 c3, .int .i64 a, .int .i64 b, .int .i64 l, .int .i64 m, .bool z], .slice ao p cap] w (RetSo w p (Nd.eq ⟨1, c0, c1, c2, c3, a, b, l, m, z⟩ ⟨1, 0, 0, 0, 0, 0, 0, 0, 0, false⟩)) := by
  have he := run_eql29 ⟨1, c0, c1, c2, c3, a, b, l, m, z⟩ ⟨1, 0, 0, 0, 0, 0, 0, 0, 0, false⟩
  unfold ndV at he
  dsimp only at he
  generalize Nd.eq ⟨1, c0, c1, c2, c3, a, b, l, m, z⟩ ⟨1, 0, 0, 0, 0, 0, 0, 0, 0, false⟩ = r at *
  have hp : (p : Int) ≥ 0 := by omega
  go_enter Tryd.func101, Tryd.ntmps101
  go_wp2
  go_quiet (fail)
  go_wp2
  go_ret2
  exact ⟨⟨_, fun _ => rfl, rfl⟩, below_drewN (below2 _ _ _) _⟩
set_option maxRecDepth 10000 in
set_option maxHeartbeats 1000000 in
theorem startOf_6 (c0 c1 c2 c3 a b l m : Int) (z : Bool) (ao : Option Addr) (p cap : Nat) (w : World) :
    Calls Tryd.prog 101 #[.agg #[.int .i64 6, .int .u64 c0, .int .u64 c1, .int .u64 c2, .int .u64 c3, .int .i64 a, .int .i64 b, .int .i64 l, .int .i64 m, .bool z], .slice ao p cap] w (RetSo w p (Nd.eq ⟨6, c0, c1, c2, c3, a, b, l, m, z⟩ ⟨6, 0, 0, 0, 0, 0, 0, 0, 0, false⟩)) := by
  have he := run_eql29 ⟨6, c0, c1, c2, c3, a, b, l, m, z⟩ ⟨6, 0, 0, 0, 0, 0, 0, 0, 0, false⟩
  unfold ndV at he
  dsimp only at he
  generalize Nd.eq ⟨6, c0, c1, c2, c3, a, b, l, m, z⟩ ⟨6, 0, 0, 0, 0, 0, 0, 0, 0, false⟩ = r at *
  have hp : (p : Int) ≥ 0 := by omega
  go_enter Tryd.func101, Tryd.ntmps101
  go_wp2
  go_quiet (fail)
  go_wp2
  go_ret2
  exact ⟨⟨_, fun _ => rfl, rfl⟩, below_drewN (below2 _ _ _) _⟩
set_option maxRecDepth 10000 in
set_option maxHeartbeats 1000000 in
theorem startOf_7 (c0 c1 c2 c3 a b l m : Int) (z : Bool) (ao : Option Addr) (p cap : Nat) (w : World) :
    Calls Tryd.prog 101 #[.agg #[.int .i64 7, .int .u64 c0, .int .u64 c1, .int .u64 c2, .int .u64 c3, .int .i64 a, .int .i64 b, .int .i64 l, .int .i64 m, .bool z], .slice ao p cap] w (RetSo w p (Nd.eq ⟨7, c0, c1, c2, c3, a, b, l, m, z⟩ ⟨7, 0, 0, 0, 0, 0, 0, 0, 0, false⟩)) := by
  have he := run_eql29 ⟨7, c0, c1, c2, c3, a, b, l, m, z⟩ ⟨7, 0, 0, 0, 0, 0, 0, 0, 0, false⟩
  unfold ndV at he
  dsimp only at he
  generalize Nd.eq ⟨7, c0, c1, c2, c3, a, b, l, m, z⟩ ⟨7, 0, 0, 0, 0, 0, 0, 0, 0, false⟩ = r at *
  have hp : (p : Int) ≥ 0 := by omega
  go_enter Tryd.func101, Tryd.ntmps101
  go_wp2
  go_quiet (fail)
  go_wp2
  go_ret2
  exact ⟨⟨_, fun _ => rfl, rfl⟩, below_drewN (below2 _ _ _) _⟩
set_option maxRecDepth 10000 in
set_option maxHeartbeats 1000000 in
theorem startOf_2 (c0 c1 c2 c3 a b l m : Int) (z : Bool) (ao : Option Addr) (p cap : Nat) (w : World) :
    Calls Tryd.prog 101 #[.agg #[.int .i64 2, .int .u64 c0, .int .u64 c1, .int .u64 c2, .int .u64 c3, .int .i64 a, .int .i64 b, .int .i64 l, .int .i64 m, .bool z], .slice ao p cap] w (RetSo w p (Nd.eq ⟨2, c0, c1, c2, c3, a, b, l, m, z⟩ ⟨2, c0, c1, c2, c3, 0, 0, 0, 0, false⟩)) := by
  have he := run_eql29 ⟨2, c0, c1, c2, c3, a, b, l, m, z⟩ ⟨2, c0, c1, c2, c3, 0, 0, 0, 0, false⟩
  unfold ndV at he
  dsimp only at he
  generalize Nd.eq ⟨2, c0, c1, c2, c3, a, b, l, m, z⟩ ⟨2, c0, c1, c2, c3, 0, 0, 0, 0, false⟩ = r at *
  have hp : (p : Int) ≥ 0 := by omega
  go_enter Tryd.func101, Tryd.ntmps101
  go_wp2
  go_quiet (fail)
  go_wp2
  go_ret2
  exact ⟨⟨_, fun _ => rfl, rfl⟩, below_drewN (below2 _ _ _) _⟩
set_option maxRecDepth 10000 in
set_option maxHeartbeats 1000000 in
theorem startOf_no (k c0 c1 c2 c3 a b l m : Int) (z : Bool) (ao : Option Addr) (p cap : Nat) (w : World) (hk : ¬ (1 ≤ k ∧ k ≤ 7)) :
    Calls Tryd.prog 101 #[.agg #[.int .i64 k, .int .u64 c0, .int .u64 c1, .int .u64 c2, .int .u64 c3, .int .i64 a, .int .i64 b, .int .i64 l, .int .i64 m, .bool z], .slice ao p cap] w (RetSo w p false) := by
  have k1 : (k == 1) = false := by simp; omega
  have k2 : (k == 2) = false := by simp; omega
  have k3 : (k == 3) = false := by simp; omega
  have k4 : (k == 4) = false := by simp; omega
  have k5 : (k == 5) = false := by simp; omega
  have k6 : (k == 6) = false := by simp; omega
  have k7 : (k == 7) = false := by simp; omega
  have hf : decide False = false := rfl
  clear hk
  go_enter Tryd.func101, Tryd.ntmps101
  go_wp2
  go_quiet (fail)
  go_wp2
  go_ret2
  exact ⟨⟨_, fun h => (Bool.false_ne_true h).elim, rfl⟩, below_drewN (below2 _ _ _) _⟩
set_option maxRecDepth 10000 in
set_option maxHeartbeats 1000000 in
theorem startOf_3 (c0 c1 c2 c3 a b l m : Int) (z : Bool) (ao : Option Addr) (p cap : Nat) (f : Nat → Int) (w : World) (hr : RdI w ao p f) (hp : (p : Int) ≤ 2048) (s1 s : Int) (hx : s1 = stA f (p - 1)) (hs : s = stA f (s1 - 1)) (hxp : s1 ≤ p) (hx0 : -1 ≤ s1) (hs0 : 0 ≤ s) :
    Calls Tryd.prog 101 #[.agg #[.int .i64 3, .int .u64 c0, .int .u64 c1, .int .u64 c2, .int .u64 c3, .int .i64 a, .int .i64 b, .int .i64 l, .int .i64 m, .bool z], .slice ao p cap] w (RetSo w s (Nd.eq ⟨3, c0, c1, c2, c3, a, b, l, m, z⟩ ⟨3, 0, 0, 0, 0, s1 - 1, p - 1, 0, 0, false⟩)) := by
  have he := run_eql29 ⟨3, c0, c1, c2, c3, a, b, l, m, z⟩ ⟨3, 0, 0, 0, 0, s1 - 1, p - 1, 0, 0, false⟩
  unfold ndV at he
  dsimp only at he
  generalize Nd.eq ⟨3, c0, c1, c2, c3, a, b, l, m, z⟩ ⟨3, 0, 0, 0, 0, s1 - 1, p - 1, 0, 0, false⟩ = r at *
  have H1 : Hid (∀ W, Below w.heap.size w W → Calls Tryd.prog 102 #[.slice ao p cap, .int .i64 (p - 1)] W fun e w' => e = .returned (.int .i64 s1) ∧ w' = W) := fun W hW => hx ▸ startAt_any ao p cap f _ W (hr.below hW) (by omega)
  have H2 : Hid (∀ W, Below w.heap.size w W → Calls Tryd.prog 102 #[.slice ao p cap, .int .i64 (s1 - 1)] W fun e w' => e = .returned (.int .i64 s) ∧ w' = W) := fun W hW => hs ▸ startAt_any ao p cap f _ W (hr.below hW) (by omega)
  clear hr hx hs
  have m1 : Hid True := trivial
  go_enter Tryd.func101, Tryd.ntmps101
  go_wp2_with (go_at_call 102; first | (clear m1; refine (H1.out _ ?_).mono ?_; exact below2 _ _ _; rintro e W ⟨rfl, rfl⟩) | (refine (H2.out _ ?_).mono ?_; exact below2 _ _ _; rintro e W ⟨rfl, rfl⟩))
  go_quiet (fail)
  go_wp2
  go_ret2
  exact ⟨⟨_, fun _ => rfl, rfl⟩, below_drewN (below2 _ _ _) _⟩
set_option maxRecDepth 10000 in
set_option maxHeartbeats 1000000 in
theorem startOf_3n (c0 c1 c2 c3 a b l m : Int) (z : Bool) (ao : Option Addr) (p cap : Nat) (f : Nat → Int) (w : World) (hr : RdI w ao p f) (hp : (p : Int) ≤ 2048) (s1 s : Int) (hx : s1 = stA f (p - 1)) (hs : s = stA f (s1 - 1)) (hxp : s1 ≤ p) (hx0 : -1 ≤ s1) (hs0 : s < 0) :
    Calls Tryd.prog 101 #[.agg #[.int .i64 3, .int .u64 c0, .int .u64 c1, .int .u64 c2, .int .u64 c3, .int .i64 a, .int .i64 b, .int .i64 l, .int .i64 m, .bool z], .slice ao p cap] w (RetSo w s (false)) := by
  have hs1 : decide (s ≥ 0) = false := by simp; omega
  have H1 : Hid (∀ W, Below w.heap.size w W → Calls Tryd.prog 102 #[.slice ao p cap, .int .i64 (p - 1)] W fun e w' => e = .returned (.int .i64 s1) ∧ w' = W) := fun W hW => hx ▸ startAt_any ao p cap f _ W (hr.below hW) (by omega)
  have H2 : Hid (∀ W, Below w.heap.size w W → Calls Tryd.prog 102 #[.slice ao p cap, .int .i64 (s1 - 1)] W fun e w' => e = .returned (.int .i64 s) ∧ w' = W) := fun W hW => hs ▸ startAt_any ao p cap f _ W (hr.below hW) (by omega)
  clear hr hx hs
  have m1 : Hid True := trivial
  go_enter Tryd.func101, Tryd.ntmps101
  go_wp2_with (go_at_call 102; first | (clear m1; refine (H1.out _ ?_).mono ?_; exact below2 _ _ _; rintro e W ⟨rfl, rfl⟩) | (refine (H2.out _ ?_).mono ?_; exact below2 _ _ _; rintro e W ⟨rfl, rfl⟩))
  go_quiet (fail)
  go_wp2
  go_ret2
  exact ⟨⟨_, fun h => (Bool.false_ne_true h).elim, rfl⟩, below_drewN (below2 _ _ _) _⟩
set_option maxRecDepth 10000 in
set_option maxHeartbeats 1000000 in
theorem startOf_4 (c0 c1 c2 c3 a b l m : Int) (z : Bool) (ao : Option Addr) (p cap : Nat) (f : Nat → Int) (w : World) (hr : RdI w ao p f) (hp : (p : Int) ≤ 2048) (s1 s : Int) (hx : s1 = stA f (p - 1)) (hs : s = stA f (s1 - 1)) (hxp : s1 ≤ p) (hx0 : -1 ≤ s1) (hs0 : 0 ≤ s) :
    Calls Tryd.prog 101 #[.agg #[.int .i64 4, .int .u64 c0, .int .u64 c1, .int .u64 c2, .int .u64 c3, .int .i64 a, .int .i64 b, .int .i64 l, .int .i64 m, .bool z], .slice ao p cap] w (RetSo w s (Nd.eq ⟨4, c0, c1, c2, c3, a, b, l, m, z⟩ ⟨4, 0, 0, 0, 0, s1 - 1, p - 1, 0, 0, false⟩)) := by
  have he := run_eql29 ⟨4, c0, c1, c2, c3, a, b, l, m, z⟩ ⟨4, 0, 0, 0, 0, s1 - 1, p - 1, 0, 0, false⟩
  unfold ndV at he
  dsimp only at he
  generalize Nd.eq ⟨4, c0, c1, c2, c3, a, b, l, m, z⟩ ⟨4, 0, 0, 0, 0, s1 - 1, p - 1, 0, 0, false⟩ = r at *
  have H1 : Hid (∀ W, Below w.heap.size w W → Calls Tryd.prog 102 #[.slice ao p cap, .int .i64 (p - 1)] W fun e w' => e = .returned (.int .i64 s1) ∧ w' = W) := fun W hW => hx ▸ startAt_any ao p cap f _ W (hr.below hW) (by omega)
  have H2 : Hid (∀ W, Below w.heap.size w W → Calls Tryd.prog 102 #[.slice ao p cap, .int .i64 (s1 - 1)] W fun e w' => e = .returned (.int .i64 s) ∧ w' = W) := fun W hW => hs ▸ startAt_any ao p cap f _ W (hr.below hW) (by omega)
  clear hr hx hs
  have m1 : Hid True := trivial
  go_enter Tryd.func101, Tryd.ntmps101
  go_wp2_with (go_at_call 102; first | (clear m1; refine (H1.out _ ?_).mono ?_; exact below2 _ _ _; rintro e W ⟨rfl, rfl⟩) | (refine (H2.out _ ?_).mono ?_; exact below2 _ _ _; rintro e W ⟨rfl, rfl⟩))
  go_quiet (fail)
  go_wp2
  go_ret2
  exact ⟨⟨_, fun _ => rfl, rfl⟩, below_drewN (below2 _ _ _) _⟩
set_option maxRecDepth 10000 in
set_option maxHeartbeats 1000000 in
theorem startOf_4n (c0 c1 c2 c3 a b l m : Int) (z : Bool) (ao : Option Addr) (p cap : Nat) (f : Nat → Int) (w : World) (hr : RdI w ao p f) (hp : (p : Int) ≤ 2048) (s1 s : Int) (hx : s1 = stA f (p - 1)) (hs : s = stA f (s1 - 1)) (hxp : s1 ≤ p) (hx0 : -1 ≤ s1) (hs0 : s < 0) :
    Calls Tryd.prog 101 #[.agg #[.int .i64 4, .int .u64 c0, .int .u64 c1, .int .u64 c2, .int .u64 c3, .int .i64 a, .int .i64 b, .int .i64 l, .int .i64 m, .bool z], .slice ao p cap] w (RetSo w s (false)) := by
  have hs1 : decide (s ≥ 0) = false := by simp; omega
  have H1 : Hid (∀ W, Below w.heap.size w W → Calls Tryd.prog 102 #[.slice ao p cap, .int .i64 (p - 1)] W fun e w' => e = .returned (.int .i64 s1) ∧ w' = W) := fun W hW => hx ▸ startAt_any ao p cap f _ W (hr.below hW) (by omega)
  have H2 : Hid (∀ W, Below w.heap.size w W → Calls Tryd.prog 102 #[.slice ao p cap, .int .i64 (s1 - 1)] W fun e w' => e = .returned (.int .i64 s) ∧ w' = W) := fun W hW => hs ▸ startAt_any ao p cap f _ W (hr.below hW) (by omega)
  clear hr hx hs
  have m1 : Hid True := trivial
  go_enter Tryd.func101, Tryd.ntmps101
  go_wp2_with (go_at_call 102; first | (clear m1; refine (H1.out _ ?_).mono ?_; exact below2 _ _ _; rintro e W ⟨rfl, rfl⟩) | (refine (H2.out _ ?_).mono ?_; exact below2 _ _ _; rintro e W ⟨rfl, rfl⟩))
  go_quiet (fail)
  go_wp2
  go_ret2
  exact ⟨⟨_, fun h => (Bool.false_ne_true h).elim, rfl⟩, below_drewN (below2 _ _ _) _⟩
set_option maxRecDepth 10000 in
set_option maxHeartbeats 1000000 in
theorem startOf_5 (c0 c1 c2 c3 a b l m : Int) (z : Bool) (ao : Option Addr) (p cap : Nat) (f : Nat → Int) (w : World) (hr : RdI w ao p f) (hp : (p : Int) ≤ 2048) (s : Int) (hs : s = stA f (p - 1)) (hm : Tre.mayR l m = true) (hs0 : 0 ≤ s) :
    Calls Tryd.prog 101 #[.agg #[.int .i64 5, .int .u64 c0, .int .u64 c1, .int .u64 c2, .int .u64 c3, .int .i64 a, .int .i64 b, .int .i64 l, .int .i64 m, .bool z], .slice ao p cap] w (RetSo w s (Nd.eq ⟨5, c0, c1, c2, c3, a, b, l, m, z⟩ ⟨5, 0, 0, 0, 0, p - 1, 0, l, m, z⟩)) := by
  have he := run_eql29 ⟨5, c0, c1, c2, c3, a, b, l, m, z⟩ ⟨5, 0, 0, 0, 0, p - 1, 0, l, m, z⟩
  unfold ndV at he
  dsimp only at he
  generalize Nd.eq ⟨5, c0, c1, c2, c3, a, b, l, m, z⟩ ⟨5, 0, 0, 0, 0, p - 1, 0, l, m, z⟩ = r at *
  have H1 : Hid (∀ W, Below w.heap.size w W → Calls Tryd.prog 102 #[.slice ao p cap, .int .i64 (p - 1)] W fun e w' => e = .returned (.int .i64 s) ∧ w' = W) := fun W hW => hs ▸ startAt_any ao p cap f _ W (hr.below hW) (by omega)
  have H2 : Hid (∀ W, Calls Tryd.prog 103 #[.int .i64 l, .int .i64 m] W fun e w' => e = .returned (.bool true) ∧ w' = W) := fun W => hm ▸ mayRepeat_any l m W
  have hB : Hid (∀ o1 o2, Below w.heap.size w ((w.alloc o1).alloc o2)) := fun _ _ => below2 _ _ _
  clear hr hs hm
  go_enter Tryd.func101, Tryd.ntmps101
  go_wp2
  go_region
  go_wp2
  go_quiet (first | (go_at_call 102; refine quiet2 (H1.out _ ?_); exact below_drewN (below2 _ _ _) _) | (go_at_call 103; exact quiet2 (H2.out _)))
  go_wp2
  go_quiet (fail)
  go_wp2
  go_ret2
  exact ⟨⟨_, fun _ => rfl, rfl⟩, below_drewN (below_drewN (below2 _ _ _).drew _) _⟩
set_option maxRecDepth 10000 in
set_option maxHeartbeats 1000000 in
theorem startOf_5n (c0 c1 c2 c3 a b l m : Int) (z : Bool) (ao : Option Addr) (p cap : Nat) (f : Nat → Int) (w : World) (hr : RdI w ao p f) (hp : (p : Int) ≤ 2048) (s : Int) (hs : s = stA f (p - 1)) (hm : Tre.mayR l m = true) (hs0 : s < 0) :
    Calls Tryd.prog 101 #[.agg #[.int .i64 5, .int .u64 c0, .int .u64 c1, .int .u64 c2, .int .u64 c3, .int .i64 a, .int .i64 b, .int .i64 l, .int .i64 m, .bool z], .slice ao p cap] w (RetSo w s (false)) := by
  have hs1 : decide (s ≥ 0) = false := by simp; omega
  have H1 : Hid (∀ W, Below w.heap.size w W → Calls Tryd.prog 102 #[.slice ao p cap, .int .i64 (p - 1)] W fun e w' => e = .returned (.int .i64 s) ∧ w' = W) := fun W hW => hs ▸ startAt_any ao p cap f _ W (hr.below hW) (by omega)
  have H2 : Hid (∀ W, Calls Tryd.prog 103 #[.int .i64 l, .int .i64 m] W fun e w' => e = .returned (.bool true) ∧ w' = W) := fun W => hm ▸ mayRepeat_any l m W
  have hB : Hid (∀ o1 o2, Below w.heap.size w ((w.alloc o1).alloc o2)) := fun _ _ => below2 _ _ _
  clear hr hs hm
  go_enter Tryd.func101, Tryd.ntmps101
  go_wp2
  go_region
  go_wp2
  go_quiet (first | (go_at_call 102; refine quiet2 (H1.out _ ?_); exact below_drewN (below2 _ _ _) _) | (go_at_call 103; exact quiet2 (H2.out _)))
  go_wp2
  go_quiet (fail)
  go_wp2
  go_ret2
  exact ⟨⟨_, fun h => (Bool.false_ne_true h).elim, rfl⟩, below_drewN (below_drewN (below2 _ _ _).drew _) _⟩
set_option maxRecDepth 10000 in
set_option maxHeartbeats 1000000 in
theorem startOf_5m (c0 c1 c2 c3 a b l m : Int) (z : Bool) (ao : Option Addr) (p cap : Nat) (f : Nat → Int) (w : World) (hr : RdI w ao p f) (hp : (p : Int) ≤ 2048) (s : Int) (hs : s = stA f (p - 1)) (hm : Tre.mayR l m = false) :
    Calls Tryd.prog 101 #[.agg #[.int .i64 5, .int .u64 c0, .int .u64 c1, .int .u64 c2, .int .u64 c3, .int .i64 a, .int .i64 b, .int .i64 l, .int .i64 m, .bool z], .slice ao p cap] w (RetSo w s (false)) := by
  have H1 : Hid (∀ W, Below w.heap.size w W → Calls Tryd.prog 102 #[.slice ao p cap, .int .i64 (p - 1)] W fun e w' => e = .returned (.int .i64 s) ∧ w' = W) := fun W hW => hs ▸ startAt_any ao p cap f _ W (hr.below hW) (by omega)
  have H2 : Hid (∀ W, Calls Tryd.prog 103 #[.int .i64 l, .int .i64 m] W fun e w' => e = .returned (.bool false) ∧ w' = W) := fun W => hm ▸ mayRepeat_any l m W
  have hB : Hid (∀ o1 o2, Below w.heap.size w ((w.alloc o1).alloc o2)) := fun _ _ => below2 _ _ _
  clear hr hs hm
  go_enter Tryd.func101, Tryd.ntmps101
  go_wp2
  go_region
  go_wp2
  go_quiet (first | (go_at_call 102; refine quiet2 (H1.out _ ?_); exact below_drewN (below2 _ _ _) _) | (go_at_call 103; exact quiet2 (H2.out _)))
  go_wp2
  go_quiet (fail)
  go_wp2
  go_ret2
  exact ⟨⟨_, fun h => (Bool.false_ne_true h).elim, rfl⟩, below_drewN (below_drewN (below2 _ _ _).drew _) _⟩
end Go.Proofs.YthbmfnibgjlkhaaDoor
