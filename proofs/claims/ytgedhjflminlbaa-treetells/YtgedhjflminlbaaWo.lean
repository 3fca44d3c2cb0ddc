/- weightOf: the walk. -/
import Derived.Test.YtgedhjflminlbaaSo
import Derived.Test.YtgedhjflminlbaaWa
namespace Go.Proofs.Ytgedhjflminlbaa
open Go.RowKit
def RetI (w : World) (v : Int) (e : Ending) (w' : World) : Prop := e = .returned (.int .i64 v) ∧ Below w.heap.size w w'
set_option maxRecDepth 10000 in
set_option maxHeartbeats 1000000 in
theorem weightOf_leaf (k c0 c1 c2 c3 a b l m : Int) (z : Bool) (ao : Option Addr) (p cap : Nat) (w : World) (hk : k ≠ 3 ∧ k ≠ 4 ∧ k ≠ 5) :
    Calls Try.prog 55 #[.agg #[.int .i64 k, .int .u64 c0, .int .u64 c1, .int .u64 c2, .int .u64 c3, .int .i64 a, .int .i64 b, .int .i64 l, .int .i64 m, .bool z], .slice ao p cap] w (RetI w (if k = 2 then 1 else 0)) := by
  obtain ⟨k3, k4, k5⟩ := hk
  have h3 : (k == 3) = false := by simpa using k3
  have h4 : (k == 4) = false := by simpa using k4
  have h5 : (k == 5) = false := by simpa using k5
  clear k3 k4 k5
  by_cases h : k = 2
  · subst h
    rw [if_pos rfl]
    go_enter Try.func55, Try.ntmps55
    go_wp2
    go_ret
    exact ⟨rfl, below1 _ _⟩
  · have h2 : (k == 2) = false := by simpa using h
    rw [if_neg h]
    go_enter Try.func55, Try.ntmps55
    go_wp2
    go_ret
    exact ⟨rfl, below1 _ _⟩
set_option maxRecDepth 10000 in
set_option maxHeartbeats 1000000 in
theorem weightOf_two (k c0 c1 c2 c3 l m : Int) (z : Bool) (i j : Nat) (ao : Option Addr) (p cap : Nat) (g : Nat → Int) (w : World) (hk : k = 3 ∨ k = 4) (hr : RdI w ao p g) (hi : i < p) (hj : j < p) (hgi : -1 ≤ g i ∧ g i ≤ 1073741824) (hgj : -1 ≤ g j ∧ g j ≤ 1073741824) :
    Calls Try.prog 55 #[.agg #[.int .i64 k, .int .u64 c0, .int .u64 c1, .int .u64 c2, .int .u64 c3, .int .i64 (i : Nat), .int .i64 (j : Nat), .int .i64 l, .int .i64 m, .bool z], .slice ao p cap] w (RetI w (pl (g i) (g j))) := by
  have HP : Hid (∀ W, Calls Try.prog 58 #[.int .i64 (g i), .int .i64 (g j)] W fun e w' => e = .returned (.int .i64 (pl (g i) (g j))) ∧ w' = W) := fun W => plus_any _ _ W hgi hgj
  obtain ⟨bb, off, rfl, hbb, hc⟩ := hr (by omega)
  have c5 := hc i hi
  have c6 := hc j hj
  have hii : (i : Int) < (p : Int) := by omega
  have hji : (j : Int) < (p : Int) := by omega
  have hB := below1 w (.cells #[.int .i64 k, .int .u64 c0, .int .u64 c1, .int .u64 c2, .int .u64 c3, .int .i64 (i : Nat), .int .i64 (j : Nat), .int .i64 l, .int .i64 m, .bool z] 29)
  rw [← hB.cell (p := ⟨bb, off + i, none⟩) hbb] at c5
  rw [← hB.cell (p := ⟨bb, off + j, none⟩) hbb] at c6
  clear hc hr hgi hgj
  generalize g i = x at *
  generalize g j = y at *
  generalize pl x y = q at *
  rcases hk with rfl | rfl
  all_goals
    go_enter Try.func55, Try.ntmps55
    go_wp2
    go_quiet ((go_at_call 58; exact Calls.quiet_of_same (HP.out _)))
    go_wp2
    go_ret
    exact ⟨rfl, below_drewN (below1 _ _) _⟩
set_option maxRecDepth 10000 in
set_option maxHeartbeats 1000000 in
theorem weightOf_rep (c0 c1 c2 c3 b l m : Int) (z : Bool) (i : Nat) (ao : Option Addr) (p cap : Nat) (g : Nat → Int) (w : World) (hr : RdI w ao p g) (hi : i < p) (hgi : -1 ≤ g i ∧ g i ≤ 1073741824) (hl : 0 ≤ l ∧ l ≤ 1000) (hm : -1 ≤ m ∧ m ≤ 1000) :
    Calls Try.prog 55 #[.agg #[.int .i64 5, .int .u64 c0, .int .u64 c1, .int .u64 c2, .int .u64 c3, .int .i64 (i : Nat), .int .i64 b, .int .i64 l, .int .i64 m, .bool z], .slice ao p cap] w (RetI w (tm (if m = -1 then l + 1 else m) (g i))) := by
  obtain ⟨bb, off, rfl, hbb, hc⟩ := hr (by omega)
  have c5 := hc i hi
  have hii : (i : Int) < (p : Int) := by omega
  have hB := below1 w (.cells #[.int .i64 5, .int .u64 c0, .int .u64 c1, .int .u64 c2, .int .u64 c3, .int .i64 (i : Nat), .int .i64 b, .int .i64 l, .int .i64 m, .bool z] 29)
  rw [← hB.cell (p := ⟨bb, off + i, none⟩) hbb] at c5
  obtain ⟨l1, l2⟩ := hl
  by_cases h : m = -1
  · subst h
    rw [if_pos rfl]
    have HT : Hid (∀ W, Calls Try.prog 60 #[.int .i64 (l + 1), .int .i64 (g i)] W fun e w' => e = .returned (.int .i64 (tm (l + 1) (g i))) ∧ w' = W) := fun W => times_any _ _ W (by omega) hgi
    clear hc hr hgi
    generalize g i = x at *
    generalize tm (l + 1) x = q at *
    go_enter Try.func55, Try.ntmps55
    go_wp2_with (go_at_call 60; refine (HT.out _).mono ?_; rintro e w1 ⟨rfl, rfl⟩)
    go_ret
    exact ⟨rfl, below1 _ _⟩
  · rw [if_neg h]
    have hm1 : (m == -1) = false := by simpa using h
    have HT : Hid (∀ W, Calls Try.prog 60 #[.int .i64 m, .int .i64 (g i)] W fun e w' => e = .returned (.int .i64 (tm m (g i))) ∧ w' = W) := fun W => times_any _ _ W (by omega) hgi
    clear hc hr hgi hm
    generalize g i = x at *
    generalize tm m x = q at *
    go_enter Try.func55, Try.ntmps55
    go_wp2_with (go_at_call 60; refine (HT.out _).mono ?_; rintro e w1 ⟨rfl, rfl⟩)
    go_ret
    exact ⟨rfl, below1 _ _⟩
end Go.Proofs.Ytgedhjflminlbaa
