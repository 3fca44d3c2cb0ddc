/- token: Check: the walk. token: Check of a repeat, and of a class: the walk. token: Check: one answer. Tokens held against each other; rows read; the words of a pattern follow each other. parse: tokens that can be read, and what is looked at in them. -/
import Derived.Deep.RegionWith
import Derived.Laws.StructEq
import Derived.Test.YtlmmiicibjfcdaaQ01
import Derived.Test.YtlmmiicibjfcdaaQ04
import Derived.Test.YtlmmiicibjfcdaaQ02
import Derived.Test.YtlmmiicibjfcdaaQ11
import Derived.Test.YtlmmiicibjfcdaaQ15
namespace Go.Proofs.Ytlmmiicibjfcdaa
open Go.RowKit
section
variable (k : Int) (b a0 a1 a2 a3 : Nat) (nt : Bool) (l m : Int) (lz : Bool) (t : Int) (k' : Int) (b' a0' a1' a2' a3' : Nat) (nt' : Bool) (l' m' : Int) (lz' : Bool) (t' : Int) (w : World)
theorem run_neq26 : (Go.binOp BinOp.neq 42 (.agg #[.int .i64 k, .int .u8 (b : Nat), .int .u64 (a0 : Nat), .int .u64 (a1 : Nat), .int .u64 (a2 : Nat), .int .u64 (a3 : Nat), .bool nt, .int .i64 l, .int .i64 m, .bool lz, .int .i64 t]) (.agg #[.int .i64 k', .int .u8 (b' : Nat), .int .u64 (a0' : Nat), .int .u64 (a1' : Nat), .int .u64 (a2' : Nat), .int .u64 (a3' : Nat), .bool nt', .int .i64 l', .int .i64 m', .bool lz', .int .i64 t'])).run Try.prog w = .ok (.bool (!eqT k b a0 a1 a2 a3 nt l m lz t k' b' a0' a1' a2' a3' nt' l' m' lz' t')) w := by
  have h := equal26 k b a0 a1 a2 a3 nt l m lz t k' b' a0' a1' a2' a3' nt' l' m' lz' t' w
  unfold tokI at h
  simp only [binOp]
  simp only [Sem.run_bind, h, Result.andThen_ok, Sem.run_pure]
end
def RetN (w : World) (v : Int) (e : Ending) (w' : World) : Prop := e = .returned (.int .i64 v) ∧ Below w.heap.size w w'
/-- What Check answers of a token that may be, and of one that may not. -/
def erV (x : Bool) : Int := if x then 0 else 45
set_option maxRecDepth 20000 in
set_option maxHeartbeats 1000000 in
theorem check_1 (b a0 a1 a2 a3 : Nat) (nt : Bool) (l m : Int) (lz : Bool) (t : Int) (w : World) : Calls Try.prog 42 #[tokI 1 b a0 a1 a2 a3 nt l m lz t] w (RetN w (erV (decide (0 ≤ t) && eqT 1 b a0 a1 a2 a3 nt l m lz t 1 b 0 0 0 0 false 0 0 false t))) := by
  have hB := below2 w (.cells #[.int .i64 1, .int .u8 (b : Nat), .int .u64 (a0 : Nat), .int .u64 (a1 : Nat), .int .u64 (a2 : Nat), .int .u64 (a3 : Nat), .bool nt, .int .i64 l, .int .i64 m, .bool lz, .int .i64 t] 42) (.cells #[.int .i64 1, .int .u8 (b : Nat), .int .u64 0, .int .u64 0, .int .u64 0, .int .u64 0, .bool false, .int .i64 0, .int .i64 0, .bool false, .int .i64 t] 42)
  unfold tokI
  by_cases ht : 0 ≤ t
  · have hge : t ≥ 0 := ht
    rw [decide_eq_true ht, Bool.true_and]
    cases hq : eqT 1 b a0 a1 a2 a3 nt l m lz t 1 b 0 0 0 0 false 0 0 false t with
    | true =>
      have hn : ∀ w, (Go.binOp BinOp.neq 42 (.agg #[.int .i64 1, .int .u8 (b : Nat), .int .u64 (a0 : Nat), .int .u64 (a1 : Nat), .int .u64 (a2 : Nat), .int .u64 (a3 : Nat), .bool nt, .int .i64 l, .int .i64 m, .bool lz, .int .i64 t]) (.agg #[.int .i64 1, .int .u8 (b : Nat), .int .u64 0, .int .u64 0, .int .u64 0, .int .u64 0, .bool false, .int .i64 0, .int .i64 0, .bool false, .int .i64 t])).run Try.prog w = .ok (.bool false) w := fun w => by
        have h := run_neq26 1 b a0 a1 a2 a3 nt l m lz t 1 b 0 0 0 0 false 0 0 false t w
        rw [hq] at h
        exact h
      clear hq
      go_enter Try.func42, Try.ntmps42
      go_wp2
      go_ret
      exact ⟨rfl, hB⟩
    | false =>
      have hn : ∀ w, (Go.binOp BinOp.neq 42 (.agg #[.int .i64 1, .int .u8 (b : Nat), .int .u64 (a0 : Nat), .int .u64 (a1 : Nat), .int .u64 (a2 : Nat), .int .u64 (a3 : Nat), .bool nt, .int .i64 l, .int .i64 m, .bool lz, .int .i64 t]) (.agg #[.int .i64 1, .int .u8 (b : Nat), .int .u64 0, .int .u64 0, .int .u64 0, .int .u64 0, .bool false, .int .i64 0, .int .i64 0, .bool false, .int .i64 t])).run Try.prog w = .ok (.bool true) w := fun w => by
        have h := run_neq26 1 b a0 a1 a2 a3 nt l m lz t 1 b 0 0 0 0 false 0 0 false t w
        rw [hq] at h
        exact h
      clear hq
      go_enter Try.func42, Try.ntmps42
      go_wp2
      go_ret
      exact ⟨rfl, hB⟩
  · have hge : ¬ t ≥ 0 := by omega
    rw [decide_eq_false ht, Bool.false_and]
    go_enter Try.func42, Try.ntmps42
    go_wp2
    go_ret
    exact ⟨rfl, hB⟩
set_option maxRecDepth 20000 in
set_option maxHeartbeats 1000000 in
theorem check_3 (b a0 a1 a2 a3 : Nat) (nt : Bool) (l m : Int) (lz : Bool) (t : Int) (w : World) : Calls Try.prog 42 #[tokI 3 b a0 a1 a2 a3 nt l m lz t] w (RetN w (erV (decide (0 ≤ t) && eqT 3 b a0 a1 a2 a3 nt l m lz t 3 0 0 0 0 0 false 0 0 false t))) := by
  have hB := below2 w (.cells #[.int .i64 3, .int .u8 (b : Nat), .int .u64 (a0 : Nat), .int .u64 (a1 : Nat), .int .u64 (a2 : Nat), .int .u64 (a3 : Nat), .bool nt, .int .i64 l, .int .i64 m, .bool lz, .int .i64 t] 42) (.cells #[.int .i64 3, .int .u8 0, .int .u64 0, .int .u64 0, .int .u64 0, .int .u64 0, .bool false, .int .i64 0, .int .i64 0, .bool false, .int .i64 t] 42)
  unfold tokI
  by_cases ht : 0 ≤ t
  · have hge : t ≥ 0 := ht
    rw [decide_eq_true ht, Bool.true_and]
    cases hq : eqT 3 b a0 a1 a2 a3 nt l m lz t 3 0 0 0 0 0 false 0 0 false t with
    | true =>
      have hn : ∀ w, (Go.binOp BinOp.neq 42 (.agg #[.int .i64 3, .int .u8 (b : Nat), .int .u64 (a0 : Nat), .int .u64 (a1 : Nat), .int .u64 (a2 : Nat), .int .u64 (a3 : Nat), .bool nt, .int .i64 l, .int .i64 m, .bool lz, .int .i64 t]) (.agg #[.int .i64 3, .int .u8 0, .int .u64 0, .int .u64 0, .int .u64 0, .int .u64 0, .bool false, .int .i64 0, .int .i64 0, .bool false, .int .i64 t])).run Try.prog w = .ok (.bool false) w := fun w => by
        have h := run_neq26 3 b a0 a1 a2 a3 nt l m lz t 3 0 0 0 0 0 false 0 0 false t w
        rw [hq] at h
        exact h
      clear hq
      go_enter Try.func42, Try.ntmps42
      go_wp2
      go_ret
      exact ⟨rfl, hB⟩
    | false =>
      have hn : ∀ w, (Go.binOp BinOp.neq 42 (.agg #[.int .i64 3, .int .u8 (b : Nat), .int .u64 (a0 : Nat), .int .u64 (a1 : Nat), .int .u64 (a2 : Nat), .int .u64 (a3 : Nat), .bool nt, .int .i64 l, .int .i64 m, .bool lz, .int .i64 t]) (.agg #[.int .i64 3, .int .u8 0, .int .u64 0, .int .u64 0, .int .u64 0, .int .u64 0, .bool false, .int .i64 0, .int .i64 0, .bool false, .int .i64 t])).run Try.prog w = .ok (.bool true) w := fun w => by
        have h := run_neq26 3 b a0 a1 a2 a3 nt l m lz t 3 0 0 0 0 0 false 0 0 false t w
        rw [hq] at h
        exact h
      clear hq
      go_enter Try.func42, Try.ntmps42
      go_wp2
      go_ret
      exact ⟨rfl, hB⟩
  · have hge : ¬ t ≥ 0 := by omega
    rw [decide_eq_false ht, Bool.false_and]
    go_enter Try.func42, Try.ntmps42
    go_wp2
    go_ret
    exact ⟨rfl, hB⟩
set_option maxRecDepth 20000 in
set_option maxHeartbeats 1000000 in
theorem check_4 (b a0 a1 a2 a3 : Nat) (nt : Bool) (l m : Int) (lz : Bool) (t : Int) (w : World) : Calls Try.prog 42 #[tokI 4 b a0 a1 a2 a3 nt l m lz t] w (RetN w (erV (decide (0 ≤ t) && eqT 4 b a0 a1 a2 a3 nt l m lz t 4 0 0 0 0 0 false 0 0 false t))) := by
  have hB := below2 w (.cells #[.int .i64 4, .int .u8 (b : Nat), .int .u64 (a0 : Nat), .int .u64 (a1 : Nat), .int .u64 (a2 : Nat), .int .u64 (a3 : Nat), .bool nt, .int .i64 l, .int .i64 m, .bool lz, .int .i64 t] 42) (.cells #[.int .i64 4, .int .u8 0, .int .u64 0, .int .u64 0, .int .u64 0, .int .u64 0, .bool false, .int .i64 0, .int .i64 0, .bool false, .int .i64 t] 42)
  unfold tokI
  by_cases ht : 0 ≤ t
  · have hge : t ≥ 0 := ht
    rw [decide_eq_true ht, Bool.true_and]
    cases hq : eqT 4 b a0 a1 a2 a3 nt l m lz t 4 0 0 0 0 0 false 0 0 false t with
    | true =>
      have hn : ∀ w, (Go.binOp BinOp.neq 42 (.agg #[.int .i64 4, .int .u8 (b : Nat), .int .u64 (a0 : Nat), .int .u64 (a1 : Nat), .int .u64 (a2 : Nat), .int .u64 (a3 : Nat), .bool nt, .int .i64 l, .int .i64 m, .bool lz, .int .i64 t]) (.agg #[.int .i64 4, .int .u8 0, .int .u64 0, .int .u64 0, .int .u64 0, .int .u64 0, .bool false, .int .i64 0, .int .i64 0, .bool false, .int .i64 t])).run Try.prog w = .ok (.bool false) w := fun w => by
        have h := run_neq26 4 b a0 a1 a2 a3 nt l m lz t 4 0 0 0 0 0 false 0 0 false t w
        rw [hq] at h
        exact h
      clear hq
      go_enter Try.func42, Try.ntmps42
      go_wp2
      go_ret
      exact ⟨rfl, hB⟩
    | false =>
      have hn : ∀ w, (Go.binOp BinOp.neq 42 (.agg #[.int .i64 4, .int .u8 (b : Nat), .int .u64 (a0 : Nat), .int .u64 (a1 : Nat), .int .u64 (a2 : Nat), .int .u64 (a3 : Nat), .bool nt, .int .i64 l, .int .i64 m, .bool lz, .int .i64 t]) (.agg #[.int .i64 4, .int .u8 0, .int .u64 0, .int .u64 0, .int .u64 0, .int .u64 0, .bool false, .int .i64 0, .int .i64 0, .bool false, .int .i64 t])).run Try.prog w = .ok (.bool true) w := fun w => by
        have h := run_neq26 4 b a0 a1 a2 a3 nt l m lz t 4 0 0 0 0 0 false 0 0 false t w
        rw [hq] at h
        exact h
      clear hq
      go_enter Try.func42, Try.ntmps42
      go_wp2
      go_ret
      exact ⟨rfl, hB⟩
  · have hge : ¬ t ≥ 0 := by omega
    rw [decide_eq_false ht, Bool.false_and]
    go_enter Try.func42, Try.ntmps42
    go_wp2
    go_ret
    exact ⟨rfl, hB⟩
set_option maxRecDepth 20000 in
set_option maxHeartbeats 1000000 in
theorem check_5 (b a0 a1 a2 a3 : Nat) (nt : Bool) (l m : Int) (lz : Bool) (t : Int) (w : World) : Calls Try.prog 42 #[tokI 5 b a0 a1 a2 a3 nt l m lz t] w (RetN w (erV (decide (0 ≤ t) && eqT 5 b a0 a1 a2 a3 nt l m lz t 5 0 0 0 0 0 false 0 0 false t))) := by
  have hB := below2 w (.cells #[.int .i64 5, .int .u8 (b : Nat), .int .u64 (a0 : Nat), .int .u64 (a1 : Nat), .int .u64 (a2 : Nat), .int .u64 (a3 : Nat), .bool nt, .int .i64 l, .int .i64 m, .bool lz, .int .i64 t] 42) (.cells #[.int .i64 5, .int .u8 0, .int .u64 0, .int .u64 0, .int .u64 0, .int .u64 0, .bool false, .int .i64 0, .int .i64 0, .bool false, .int .i64 t] 42)
  unfold tokI
  by_cases ht : 0 ≤ t
  · have hge : t ≥ 0 := ht
    rw [decide_eq_true ht, Bool.true_and]
    cases hq : eqT 5 b a0 a1 a2 a3 nt l m lz t 5 0 0 0 0 0 false 0 0 false t with
    | true =>
      have hn : ∀ w, (Go.binOp BinOp.neq 42 (.agg #[.int .i64 5, .int .u8 (b : Nat), .int .u64 (a0 : Nat), .int .u64 (a1 : Nat), .int .u64 (a2 : Nat), .int .u64 (a3 : Nat), .bool nt, .int .i64 l, .int .i64 m, .bool lz, .int .i64 t]) (.agg #[.int .i64 5, .int .u8 0, .int .u64 0, .int .u64 0, .int .u64 0, .int .u64 0, .bool false, .int .i64 0, .int .i64 0, .bool false, .int .i64 t])).run Try.prog w = .ok (.bool false) w := fun w => by
        have h := run_neq26 5 b a0 a1 a2 a3 nt l m lz t 5 0 0 0 0 0 false 0 0 false t w
        rw [hq] at h
        exact h
      clear hq
      go_enter Try.func42, Try.ntmps42
      go_wp2
      go_ret
      exact ⟨rfl, hB⟩
    | false =>
      have hn : ∀ w, (Go.binOp BinOp.neq 42 (.agg #[.int .i64 5, .int .u8 (b : Nat), .int .u64 (a0 : Nat), .int .u64 (a1 : Nat), .int .u64 (a2 : Nat), .int .u64 (a3 : Nat), .bool nt, .int .i64 l, .int .i64 m, .bool lz, .int .i64 t]) (.agg #[.int .i64 5, .int .u8 0, .int .u64 0, .int .u64 0, .int .u64 0, .int .u64 0, .bool false, .int .i64 0, .int .i64 0, .bool false, .int .i64 t])).run Try.prog w = .ok (.bool true) w := fun w => by
        have h := run_neq26 5 b a0 a1 a2 a3 nt l m lz t 5 0 0 0 0 0 false 0 0 false t w
        rw [hq] at h
        exact h
      clear hq
      go_enter Try.func42, Try.ntmps42
      go_wp2
      go_ret
      exact ⟨rfl, hB⟩
  · have hge : ¬ t ≥ 0 := by omega
    rw [decide_eq_false ht, Bool.false_and]
    go_enter Try.func42, Try.ntmps42
    go_wp2
    go_ret
    exact ⟨rfl, hB⟩
set_option maxRecDepth 20000 in
set_option maxHeartbeats 1000000 in
theorem check_6 (b a0 a1 a2 a3 : Nat) (nt : Bool) (l m : Int) (lz : Bool) (t : Int) (w : World) : Calls Try.prog 42 #[tokI 6 b a0 a1 a2 a3 nt l m lz t] w (RetN w (erV (decide (0 ≤ t) && eqT 6 b a0 a1 a2 a3 nt l m lz t 6 0 0 0 0 0 false 0 0 false t))) := by
  have hB := below2 w (.cells #[.int .i64 6, .int .u8 (b : Nat), .int .u64 (a0 : Nat), .int .u64 (a1 : Nat), .int .u64 (a2 : Nat), .int .u64 (a3 : Nat), .bool nt, .int .i64 l, .int .i64 m, .bool lz, .int .i64 t] 42) (.cells #[.int .i64 6, .int .u8 0, .int .u64 0, .int .u64 0, .int .u64 0, .int .u64 0, .bool false, .int .i64 0, .int .i64 0, .bool false, .int .i64 t] 42)
  unfold tokI
  by_cases ht : 0 ≤ t
  · have hge : t ≥ 0 := ht
    rw [decide_eq_true ht, Bool.true_and]
    cases hq : eqT 6 b a0 a1 a2 a3 nt l m lz t 6 0 0 0 0 0 false 0 0 false t with
    | true =>
      have hn : ∀ w, (Go.binOp BinOp.neq 42 (.agg #[.int .i64 6, .int .u8 (b : Nat), .int .u64 (a0 : Nat), .int .u64 (a1 : Nat), .int .u64 (a2 : Nat), .int .u64 (a3 : Nat), .bool nt, .int .i64 l, .int .i64 m, .bool lz, .int .i64 t]) (.agg #[.int .i64 6, .int .u8 0, .int .u64 0, .int .u64 0, .int .u64 0, .int .u64 0, .bool false, .int .i64 0, .int .i64 0, .bool false, .int .i64 t])).run Try.prog w = .ok (.bool false) w := fun w => by
        have h := run_neq26 6 b a0 a1 a2 a3 nt l m lz t 6 0 0 0 0 0 false 0 0 false t w
        rw [hq] at h
        exact h
      clear hq
      go_enter Try.func42, Try.ntmps42
      go_wp2
      go_ret
      exact ⟨rfl, hB⟩
    | false =>
      have hn : ∀ w, (Go.binOp BinOp.neq 42 (.agg #[.int .i64 6, .int .u8 (b : Nat), .int .u64 (a0 : Nat), .int .u64 (a1 : Nat), .int .u64 (a2 : Nat), .int .u64 (a3 : Nat), .bool nt, .int .i64 l, .int .i64 m, .bool lz, .int .i64 t]) (.agg #[.int .i64 6, .int .u8 0, .int .u64 0, .int .u64 0, .int .u64 0, .int .u64 0, .bool false, .int .i64 0, .int .i64 0, .bool false, .int .i64 t])).run Try.prog w = .ok (.bool true) w := fun w => by
        have h := run_neq26 6 b a0 a1 a2 a3 nt l m lz t 6 0 0 0 0 0 false 0 0 false t w
        rw [hq] at h
        exact h
      clear hq
      go_enter Try.func42, Try.ntmps42
      go_wp2
      go_ret
      exact ⟨rfl, hB⟩
  · have hge : ¬ t ≥ 0 := by omega
    rw [decide_eq_false ht, Bool.false_and]
    go_enter Try.func42, Try.ntmps42
    go_wp2
    go_ret
    exact ⟨rfl, hB⟩
set_option maxRecDepth 20000 in
set_option maxHeartbeats 1000000 in
theorem check_8 (b a0 a1 a2 a3 : Nat) (nt : Bool) (l m : Int) (lz : Bool) (t : Int) (w : World) : Calls Try.prog 42 #[tokI 8 b a0 a1 a2 a3 nt l m lz t] w (RetN w (erV (decide (0 ≤ t) && eqT 8 b a0 a1 a2 a3 nt l m lz t 8 0 0 0 0 0 false 0 0 false t))) := by
  have hB := below2 w (.cells #[.int .i64 8, .int .u8 (b : Nat), .int .u64 (a0 : Nat), .int .u64 (a1 : Nat), .int .u64 (a2 : Nat), .int .u64 (a3 : Nat), .bool nt, .int .i64 l, .int .i64 m, .bool lz, .int .i64 t] 42) (.cells #[.int .i64 8, .int .u8 0, .int .u64 0, .int .u64 0, .int .u64 0, .int .u64 0, .bool false, .int .i64 0, .int .i64 0, .bool false, .int .i64 t] 42)
  unfold tokI
  by_cases ht : 0 ≤ t
  · have hge : t ≥ 0 := ht
    rw [decide_eq_true ht, Bool.true_and]
    cases hq : eqT 8 b a0 a1 a2 a3 nt l m lz t 8 0 0 0 0 0 false 0 0 false t with
    | true =>
      have hn : ∀ w, (Go.binOp BinOp.neq 42 (.agg #[.int .i64 8, .int .u8 (b : Nat), .int .u64 (a0 : Nat), .int .u64 (a1 : Nat), .int .u64 (a2 : Nat), .int .u64 (a3 : Nat), .bool nt, .int .i64 l, .int .i64 m, .bool lz, .int .i64 t]) (.agg #[.int .i64 8, .int .u8 0, .int .u64 0, .int .u64 0, .int .u64 0, .int .u64 0, .bool false, .int .i64 0, .int .i64 0, .bool false, .int .i64 t])).run Try.prog w = .ok (.bool false) w := fun w => by
        have h := run_neq26 8 b a0 a1 a2 a3 nt l m lz t 8 0 0 0 0 0 false 0 0 false t w
        rw [hq] at h
        exact h
      clear hq
      go_enter Try.func42, Try.ntmps42
      go_wp2
      go_ret
      exact ⟨rfl, hB⟩
    | false =>
      have hn : ∀ w, (Go.binOp BinOp.neq 42 (.agg #[.int .i64 8, .int .u8 (b : Nat), .int .u64 (a0 : Nat), .int .u64 (a1 : Nat), .int .u64 (a2 : Nat), .int .u64 (a3 : Nat), .bool nt, .int .i64 l, .int .i64 m, .bool lz, .int .i64 t]) (.agg #[.int .i64 8, .int .u8 0, .int .u64 0, .int .u64 0, .int .u64 0, .int .u64 0, .bool false, .int .i64 0, .int .i64 0, .bool false, .int .i64 t])).run Try.prog w = .ok (.bool true) w := fun w => by
        have h := run_neq26 8 b a0 a1 a2 a3 nt l m lz t 8 0 0 0 0 0 false 0 0 false t w
        rw [hq] at h
        exact h
      clear hq
      go_enter Try.func42, Try.ntmps42
      go_wp2
      go_ret
      exact ⟨rfl, hB⟩
  · have hge : ¬ t ≥ 0 := by omega
    rw [decide_eq_false ht, Bool.false_and]
    go_enter Try.func42, Try.ntmps42
    go_wp2
    go_ret
    exact ⟨rfl, hB⟩
set_option maxRecDepth 20000 in
set_option maxHeartbeats 1000000 in
theorem check_9 (b a0 a1 a2 a3 : Nat) (nt : Bool) (l m : Int) (lz : Bool) (t : Int) (w : World) : Calls Try.prog 42 #[tokI 9 b a0 a1 a2 a3 nt l m lz t] w (RetN w (erV (decide (0 ≤ t) && eqT 9 b a0 a1 a2 a3 nt l m lz t 9 0 0 0 0 0 false 0 0 false t))) := by
  have hB := below2 w (.cells #[.int .i64 9, .int .u8 (b : Nat), .int .u64 (a0 : Nat), .int .u64 (a1 : Nat), .int .u64 (a2 : Nat), .int .u64 (a3 : Nat), .bool nt, .int .i64 l, .int .i64 m, .bool lz, .int .i64 t] 42) (.cells #[.int .i64 9, .int .u8 0, .int .u64 0, .int .u64 0, .int .u64 0, .int .u64 0, .bool false, .int .i64 0, .int .i64 0, .bool false, .int .i64 t] 42)
  unfold tokI
  by_cases ht : 0 ≤ t
  · have hge : t ≥ 0 := ht
    rw [decide_eq_true ht, Bool.true_and]
    cases hq : eqT 9 b a0 a1 a2 a3 nt l m lz t 9 0 0 0 0 0 false 0 0 false t with
    | true =>
      have hn : ∀ w, (Go.binOp BinOp.neq 42 (.agg #[.int .i64 9, .int .u8 (b : Nat), .int .u64 (a0 : Nat), .int .u64 (a1 : Nat), .int .u64 (a2 : Nat), .int .u64 (a3 : Nat), .bool nt, .int .i64 l, .int .i64 m, .bool lz, .int .i64 t]) (.agg #[.int .i64 9, .int .u8 0, .int .u64 0, .int .u64 0, .int .u64 0, .int .u64 0, .bool false, .int .i64 0, .int .i64 0, .bool false, .int .i64 t])).run Try.prog w = .ok (.bool false) w := fun w => by
        have h := run_neq26 9 b a0 a1 a2 a3 nt l m lz t 9 0 0 0 0 0 false 0 0 false t w
        rw [hq] at h
        exact h
      clear hq
      go_enter Try.func42, Try.ntmps42
      go_wp2
      go_ret
      exact ⟨rfl, hB⟩
    | false =>
      have hn : ∀ w, (Go.binOp BinOp.neq 42 (.agg #[.int .i64 9, .int .u8 (b : Nat), .int .u64 (a0 : Nat), .int .u64 (a1 : Nat), .int .u64 (a2 : Nat), .int .u64 (a3 : Nat), .bool nt, .int .i64 l, .int .i64 m, .bool lz, .int .i64 t]) (.agg #[.int .i64 9, .int .u8 0, .int .u64 0, .int .u64 0, .int .u64 0, .int .u64 0, .bool false, .int .i64 0, .int .i64 0, .bool false, .int .i64 t])).run Try.prog w = .ok (.bool true) w := fun w => by
        have h := run_neq26 9 b a0 a1 a2 a3 nt l m lz t 9 0 0 0 0 0 false 0 0 false t w
        rw [hq] at h
        exact h
      clear hq
      go_enter Try.func42, Try.ntmps42
      go_wp2
      go_ret
      exact ⟨rfl, hB⟩
  · have hge : ¬ t ≥ 0 := by omega
    rw [decide_eq_false ht, Bool.false_and]
    go_enter Try.func42, Try.ntmps42
    go_wp2
    go_ret
    exact ⟨rfl, hB⟩
set_option maxRecDepth 20000 in
set_option maxHeartbeats 1000000 in
theorem check_other (k : Int) (hk : k < 1 ∨ 9 < k) (b a0 a1 a2 a3 : Nat) (nt : Bool) (l m : Int) (lz : Bool) (t : Int) (w : World) : Calls Try.prog 42 #[tokI k b a0 a1 a2 a3 nt l m lz t] w (RetN w 45) := by
  have e1 : (k == 1) = false := by simp; omega
  have e2 : (k == 2) = false := by simp; omega
  have e3 : (k == 3) = false := by simp; omega
  have e4 : (k == 4) = false := by simp; omega
  have e5 : (k == 5) = false := by simp; omega
  have e6 : (k == 6) = false := by simp; omega
  have e7 : (k == 7) = false := by simp; omega
  have e8 : (k == 8) = false := by simp; omega
  have e9 : (k == 9) = false := by simp; omega
  have hB := below2 w (.cells #[.int .i64 k, .int .u8 (b : Nat), .int .u64 (a0 : Nat), .int .u64 (a1 : Nat), .int .u64 (a2 : Nat), .int .u64 (a3 : Nat), .bool nt, .int .i64 l, .int .i64 m, .bool lz, .int .i64 t] 42) (.cells #[.int .i64 k, .int .u8 0, .int .u64 0, .int .u64 0, .int .u64 0, .int .u64 0, .bool false, .int .i64 0, .int .i64 0, .bool false, .int .i64 t] 42)
  clear hk
  unfold tokI
  by_cases ht : 0 ≤ t
  · have hge : t ≥ 0 := ht
    go_enter Try.func42, Try.ntmps42
    go_wp2
    go_ret
    exact ⟨rfl, hB⟩
  · have hge : ¬ t ≥ 0 := by omega
    go_enter Try.func42, Try.ntmps42
    go_wp2
    go_ret
    exact ⟨rfl, hB⟩
end Go.Proofs.Ytlmmiicibjfcdaa
namespace Go.Proofs.Ytlmmiicibjfcdaa
open Go.RowKit
set_option maxRecDepth 20000 in
set_option maxHeartbeats 2000000 in
theorem check_7 (b a0 a1 a2 a3 : Nat) (nt : Bool) (l m : Int) (lz : Bool) (t : Int) (w : World) : Calls Try.prog 42 #[tokI 7 b a0 a1 a2 a3 nt l m lz t] w (RetN w (erV (decide (0 ≤ t) && repP l m && eqT 7 b a0 a1 a2 a3 nt l m lz t 7 0 0 0 0 0 false l m lz t))) := by
  have hB := below2 w (.cells #[.int .i64 7, .int .u8 (b : Nat), .int .u64 (a0 : Nat), .int .u64 (a1 : Nat), .int .u64 (a2 : Nat), .int .u64 (a3 : Nat), .bool nt, .int .i64 l, .int .i64 m, .bool lz, .int .i64 t] 42) (.cells #[.int .i64 7, .int .u8 0, .int .u64 0, .int .u64 0, .int .u64 0, .int .u64 0, .bool false, .int .i64 l, .int .i64 m, .bool lz, .int .i64 t] 42)
  have hr := mayRepeat_any l m
  unfold tokI
  by_cases ht : 0 ≤ t
  · have hge : t ≥ 0 := ht
    rw [decide_eq_true ht, Bool.true_and]
    cases hrp : repP l m with
    | true =>
      rw [hrp] at hr
      rw [Bool.true_and]
      cases hq : eqT 7 b a0 a1 a2 a3 nt l m lz t 7 0 0 0 0 0 false l m lz t with
      | true =>
        have hn : ∀ w, (Go.binOp BinOp.neq 42 (.agg #[.int .i64 7, .int .u8 (b : Nat), .int .u64 (a0 : Nat), .int .u64 (a1 : Nat), .int .u64 (a2 : Nat), .int .u64 (a3 : Nat), .bool nt, .int .i64 l, .int .i64 m, .bool lz, .int .i64 t]) (.agg #[.int .i64 7, .int .u8 0, .int .u64 0, .int .u64 0, .int .u64 0, .int .u64 0, .bool false, .int .i64 l, .int .i64 m, .bool lz, .int .i64 t])).run Try.prog w = .ok (.bool false) w := fun w => by
          have h := run_neq26 7 b a0 a1 a2 a3 nt l m lz t 7 0 0 0 0 0 false l m lz t w
          rw [hq] at h
          exact h
        clear hq
        go_enter Try.func42, Try.ntmps42
        go_wp2_with fail
        go_region
        all_goals
          go_wp2_with fail
          refine (hr _).mono ?_
          rintro e w' ⟨rfl, rfl⟩
          go_wp2
          go_ret
          exact ⟨rfl, hB.drew⟩
      | false =>
        have hn : ∀ w, (Go.binOp BinOp.neq 42 (.agg #[.int .i64 7, .int .u8 (b : Nat), .int .u64 (a0 : Nat), .int .u64 (a1 : Nat), .int .u64 (a2 : Nat), .int .u64 (a3 : Nat), .bool nt, .int .i64 l, .int .i64 m, .bool lz, .int .i64 t]) (.agg #[.int .i64 7, .int .u8 0, .int .u64 0, .int .u64 0, .int .u64 0, .int .u64 0, .bool false, .int .i64 l, .int .i64 m, .bool lz, .int .i64 t])).run Try.prog w = .ok (.bool true) w := fun w => by
          have h := run_neq26 7 b a0 a1 a2 a3 nt l m lz t 7 0 0 0 0 0 false l m lz t w
          rw [hq] at h
          exact h
        clear hq
        go_enter Try.func42, Try.ntmps42
        go_wp2_with fail
        go_region
        all_goals
          go_wp2_with fail
          refine (hr _).mono ?_
          rintro e w' ⟨rfl, rfl⟩
          go_wp2
          go_ret
          exact ⟨rfl, hB.drew⟩
    | false =>
      rw [hrp] at hr
      rw [Bool.false_and]
      go_enter Try.func42, Try.ntmps42
      go_wp2_with fail
      go_region
      all_goals
        go_wp2_with fail
        refine (hr _).mono ?_
        rintro e w' ⟨rfl, rfl⟩
        go_wp2
        go_ret
        exact ⟨rfl, hB.drew⟩
  · have hge : ¬ t ≥ 0 := by omega
    rw [decide_eq_false ht, Bool.false_and, Bool.false_and]
    clear hr
    go_enter Try.func42, Try.ntmps42
    go_wp2_with fail
    go_region
    all_goals
      go_wp2
      go_ret
      exact ⟨rfl, hB.drew⟩
set_option maxRecDepth 20000 in
set_option maxHeartbeats 2000000 in
theorem check_2 {P : Nat → Bool} (b a0 a1 a2 a3 : Nat) (nt : Bool) (l m : Int) (lz : Bool) (t : Int) (w : World) (h4 : C4 P a0 a1 a2 a3) : Calls Try.prog 42 #[tokI 2 b a0 a1 a2 a3 nt l m lz t] w (RetN w (erV (decide (0 ≤ t) && mayP P nt && eqT 2 b a0 a1 a2 a3 nt l m lz t 2 0 a0 a1 a2 a3 nt 0 0 false t))) := by
  have hB := below2 w (.cells #[.int .i64 2, .int .u8 (b : Nat), .int .u64 (a0 : Nat), .int .u64 (a1 : Nat), .int .u64 (a2 : Nat), .int .u64 (a3 : Nat), .bool nt, .int .i64 l, .int .i64 m, .bool lz, .int .i64 t] 42) (.cells #[.int .i64 2, .int .u8 0, .int .u64 (a0 : Nat), .int .u64 (a1 : Nat), .int .u64 (a2 : Nat), .int .u64 (a3 : Nat), .bool nt, .int .i64 0, .int .i64 0, .bool false, .int .i64 t] 42)
  have hr := mayClass_c h4 nt
  have HK1 : Hid (Cl (((w.alloc (.cells #[.int .i64 2, .int .u8 (b : Nat), .int .u64 (a0 : Nat), .int .u64 (a1 : Nat), .int .u64 (a2 : Nat), .int .u64 (a3 : Nat), .bool nt, .int .i64 l, .int .i64 m, .bool lz, .int .i64 t] 42)).alloc (.cells #[.int .i64 2, .int .u8 0, .int .u64 (a0 : Nat), .int .u64 (a1 : Nat), .int .u64 (a2 : Nat), .int .u64 (a3 : Nat), .bool nt, .int .i64 0, .int .i64 0, .bool false, .int .i64 t] 42)).drew) w.heap.size 42 [.int .i64 2, .int .u8 (b : Nat), .int .u64 (a0 : Nat), .int .u64 (a1 : Nat), .int .u64 (a2 : Nat), .int .u64 (a3 : Nat), .bool nt, .int .i64 l, .int .i64 m, .bool lz, .int .i64 t]) := ((Cl.new w 42 _).alloc _).drew
  have HK2 : Hid (Cl (((w.alloc (.cells #[.int .i64 2, .int .u8 (b : Nat), .int .u64 (a0 : Nat), .int .u64 (a1 : Nat), .int .u64 (a2 : Nat), .int .u64 (a3 : Nat), .bool nt, .int .i64 l, .int .i64 m, .bool lz, .int .i64 t] 42)).alloc (.cells #[.int .i64 2, .int .u8 0, .int .u64 (a0 : Nat), .int .u64 (a1 : Nat), .int .u64 (a2 : Nat), .int .u64 (a3 : Nat), .bool nt, .int .i64 0, .int .i64 0, .bool false, .int .i64 t] 42)).drew) (w.heap.size + 1) 42 [.int .i64 2, .int .u8 0, .int .u64 (a0 : Nat), .int .u64 (a1 : Nat), .int .u64 (a2 : Nat), .int .u64 (a3 : Nat), .bool nt, .int .i64 0, .int .i64 0, .bool false, .int .i64 t]) := by
    have := (Cl.new (w.alloc (.cells #[.int .i64 2, .int .u8 (b : Nat), .int .u64 (a0 : Nat), .int .u64 (a1 : Nat), .int .u64 (a2 : Nat), .int .u64 (a3 : Nat), .bool nt, .int .i64 l, .int .i64 m, .bool lz, .int .i64 t] 42)) 42 [.int .i64 2, .int .u8 0, .int .u64 (a0 : Nat), .int .u64 (a1 : Nat), .int .u64 (a2 : Nat), .int .u64 (a3 : Nat), .bool nt, .int .i64 0, .int .i64 0, .bool false, .int .i64 t]).drew
    rw [World.size_alloc] at this
    exact this
  unfold tokI
  by_cases ht : 0 ≤ t
  · have hge : t ≥ 0 := ht
    rw [decide_eq_true ht, Bool.true_and]
    cases hrp : mayP P nt with
    | true =>
      rw [hrp] at hr
      rw [Bool.true_and]
      cases hq : eqT 2 b a0 a1 a2 a3 nt l m lz t 2 0 a0 a1 a2 a3 nt 0 0 false t with
      | true =>
        have hn : ∀ w, (Go.binOp BinOp.neq 42 (.agg #[.int .i64 2, .int .u8 (b : Nat), .int .u64 (a0 : Nat), .int .u64 (a1 : Nat), .int .u64 (a2 : Nat), .int .u64 (a3 : Nat), .bool nt, .int .i64 l, .int .i64 m, .bool lz, .int .i64 t]) (.agg #[.int .i64 2, .int .u8 0, .int .u64 (a0 : Nat), .int .u64 (a1 : Nat), .int .u64 (a2 : Nat), .int .u64 (a3 : Nat), .bool nt, .int .i64 0, .int .i64 0, .bool false, .int .i64 t])).run Try.prog w = .ok (.bool false) w := fun w => by
          have h := run_neq26 2 b a0 a1 a2 a3 nt l m lz t 2 0 a0 a1 a2 a3 nt 0 0 false t w
          rw [hq] at h
          exact h
        clear hq
        go_enter Try.func42, Try.ntmps42
        go_wp2_with fail
        go_region
        all_goals
          go_wp2_with fail
          refine (hr _).mono ?_
          rintro e w' ⟨rfl, hb⟩
          have k1 := HK1.out.below hb
          have k2 := HK2.out.below hb
          have HB : Hid (Below w.heap.size w w') := (hB.drew).trans (hb.mono hB.size)
          obtain ⟨x0, x1, x2, x3, x4, x5, x6, x7, x8, x9, x10⟩ := k1.eleven.1
          obtain ⟨z0, z1, z2, z3, z4, z5, z6, z7, z8, z9, z10⟩ := k2.eleven.1
          clear k1 k2 hb
          go_wp2
          go_ret
          exact ⟨rfl, HB.out⟩
      | false =>
        have hn : ∀ w, (Go.binOp BinOp.neq 42 (.agg #[.int .i64 2, .int .u8 (b : Nat), .int .u64 (a0 : Nat), .int .u64 (a1 : Nat), .int .u64 (a2 : Nat), .int .u64 (a3 : Nat), .bool nt, .int .i64 l, .int .i64 m, .bool lz, .int .i64 t]) (.agg #[.int .i64 2, .int .u8 0, .int .u64 (a0 : Nat), .int .u64 (a1 : Nat), .int .u64 (a2 : Nat), .int .u64 (a3 : Nat), .bool nt, .int .i64 0, .int .i64 0, .bool false, .int .i64 t])).run Try.prog w = .ok (.bool true) w := fun w => by
          have h := run_neq26 2 b a0 a1 a2 a3 nt l m lz t 2 0 a0 a1 a2 a3 nt 0 0 false t w
          rw [hq] at h
          exact h
        clear hq
        go_enter Try.func42, Try.ntmps42
        go_wp2_with fail
        go_region
        all_goals
          go_wp2_with fail
          refine (hr _).mono ?_
          rintro e w' ⟨rfl, hb⟩
          have k1 := HK1.out.below hb
          have k2 := HK2.out.below hb
          have HB : Hid (Below w.heap.size w w') := (hB.drew).trans (hb.mono hB.size)
          obtain ⟨x0, x1, x2, x3, x4, x5, x6, x7, x8, x9, x10⟩ := k1.eleven.1
          obtain ⟨z0, z1, z2, z3, z4, z5, z6, z7, z8, z9, z10⟩ := k2.eleven.1
          clear k1 k2 hb
          go_wp2
          go_ret
          exact ⟨rfl, HB.out⟩
    | false =>
      rw [hrp] at hr
      rw [Bool.false_and]
      go_enter Try.func42, Try.ntmps42
      go_wp2_with fail
      go_region
      all_goals
        go_wp2_with fail
        refine (hr _).mono ?_
        rintro e w' ⟨rfl, hb⟩
        have HB : Hid (Below w.heap.size w w') := (hB.drew).trans (hb.mono hB.size)
        clear hb
        go_wp2
        go_ret
        exact ⟨rfl, HB.out⟩
  · have hge : ¬ t ≥ 0 := by omega
    rw [decide_eq_false ht, Bool.false_and, Bool.false_and]
    clear hr
    go_enter Try.func42, Try.ntmps42
    go_wp2_with fail
    go_region
    all_goals
      go_wp2
      go_ret
      exact ⟨rfl, hB.drew⟩
end Go.Proofs.Ytlmmiicibjfcdaa
namespace Go.Proofs.Ytlmmiicibjfcdaa
open Go.RowKit
/-- Whether a token may be. -/
def chk (k : Int) (b : Nat) (P : Nat → Bool) (nt : Bool) (l m : Int) (lz : Bool) (t : Int) : Bool :=
  decide (0 ≤ t) && (if k = 1 then true else b == 0) && (if k = 2 then true else eqC P (fun _ => false) && !nt) && (if k = 7 then true else l == 0 && m == 0 && !lz) && (if k = 2 then mayP P nt else if k = 7 then repP l m else decide (1 ≤ k) && decide (k ≤ 9))
theorem eqz {P : Nat → Bool} {a0 a1 a2 a3 : Nat} (h4 : C4 P a0 a1 a2 a3) : ((a0 : Int) == ((0 : Nat) : Int) && (a1 : Int) == ((0 : Nat) : Int) && (a2 : Int) == ((0 : Nat) : Int) && (a3 : Int) == ((0 : Nat) : Int)) = eqC P fun _ => false := eq4_iff h4 c4_none
theorem eqb (b : Nat) : ((b : Int) == ((0 : Nat) : Int)) = (b == 0) := by
  rw [Bool.eq_iff_iff]; simp
theorem check_all {P : Nat → Bool} (k : Int) (b a0 a1 a2 a3 : Nat) (nt : Bool) (l m : Int) (lz : Bool) (t : Int) (w : World) (h4 : C4 P a0 a1 a2 a3) : Calls Try.prog 42 #[tokI k b a0 a1 a2 a3 nt l m lz t] w (RetN w (erV (chk k b P nt l m lz t))) := by
  have ez := eqz h4
  have eb := eqb b
  have key : ∀ (k : Int), 3 ≤ k → k ≤ 9 → k ≠ 7 → (decide (0 ≤ t) && eqT k b a0 a1 a2 a3 nt l m lz t k 0 0 0 0 0 false 0 0 false t) = chk k b P nt l m lz t := by
    intro k h1 h2 h3
    unfold eqT chk
    rw [ez, eb, if_neg (by omega), if_neg (by omega), if_neg (by omega), if_neg (by omega), if_neg (by omega), decide_eq_true (show 1 ≤ k by omega), decide_eq_true h2]
    cases nt <;> cases lz <;> simp [Bool.and_assoc]
  by_cases e1 : k = 1
  · subst e1
    rw [show chk 1 b P nt l m lz t = (decide (0 ≤ t) && eqT 1 b a0 a1 a2 a3 nt l m lz t 1 b 0 0 0 0 false 0 0 false t) by
      unfold eqT chk; rw [ez]; cases nt <;> cases lz <;> simp [Bool.and_assoc]]
    exact check_1 b a0 a1 a2 a3 nt l m lz t w
  by_cases e2 : k = 2
  · subst e2
    rw [show chk 2 b P nt l m lz t = (decide (0 ≤ t) && mayP P nt && eqT 2 b a0 a1 a2 a3 nt l m lz t 2 0 a0 a1 a2 a3 nt 0 0 false t) by
      unfold eqT chk; rw [eb]; cases nt <;> cases lz <;> simp [Bool.and_assoc] <;> cases mayP P _ <;> simp]
    exact check_2 b a0 a1 a2 a3 nt l m lz t w h4
  by_cases e7 : k = 7
  · subst e7
    rw [show chk 7 b P nt l m lz t = (decide (0 ≤ t) && repP l m && eqT 7 b a0 a1 a2 a3 nt l m lz t 7 0 0 0 0 0 false l m lz t) by
      unfold eqT chk; rw [ez, eb]; cases nt <;> simp [Bool.and_assoc] <;> cases repP l m <;> simp]
    exact check_7 b a0 a1 a2 a3 nt l m lz t w
  by_cases e3 : k = 3
  · subst e3; rw [← key 3 (by omega) (by omega) (by omega)]; exact check_3 b a0 a1 a2 a3 nt l m lz t w
  by_cases e4 : k = 4
  · subst e4; rw [← key 4 (by omega) (by omega) (by omega)]; exact check_4 b a0 a1 a2 a3 nt l m lz t w
  by_cases e5 : k = 5
  · subst e5; rw [← key 5 (by omega) (by omega) (by omega)]; exact check_5 b a0 a1 a2 a3 nt l m lz t w
  by_cases e6 : k = 6
  · subst e6; rw [← key 6 (by omega) (by omega) (by omega)]; exact check_6 b a0 a1 a2 a3 nt l m lz t w
  by_cases e8 : k = 8
  · subst e8; rw [← key 8 (by omega) (by omega) (by omega)]; exact check_8 b a0 a1 a2 a3 nt l m lz t w
  by_cases e9 : k = 9
  · subst e9; rw [← key 9 (by omega) (by omega) (by omega)]; exact check_9 b a0 a1 a2 a3 nt l m lz t w
  have hk : k < 1 ∨ 9 < k := by omega
  have e : chk k b P nt l m lz t = false := by
    unfold chk
    rcases hk with h | h
    · simp [e2, e7, show ¬ 1 ≤ k by omega]
    · simp [e2, e7, show ¬ k ≤ 9 by omega]
  rw [e]
  exact check_other k hk b a0 a1 a2 a3 nt l m lz t w
end Go.Proofs.Ytlmmiicibjfcdaa
namespace Go.Proofs.Ytlmmiicibjfcdaa
open Go.RowKit
/-- The cells of a row that is read. -/
theorem row_cell {W : World} {base e size n cap : Nat} {ao : Option Addr} {xs : List Value} (h : W.ownsRow base e size (.slice ao n cap) n xs) (hn : 0 < n) :
    ∃ g, ao = some ⟨g, 0, none⟩ ∧ g < W.heap.size ∧ base ≤ g ∧ ∀ j u, xs[j]? = some u → W.cell? ⟨g, j, none⟩ = some u := by
  rcases h.2 with ⟨_, h0⟩ | ⟨g, cap', cur, hv, hg, hc, _, _, _, hx⟩
  · omega
  · cases hv
    refine ⟨g, rfl, (Array.getElem?_eq_some_iff.1 hc).1, hg, fun j u hj => ?_⟩
    rw [← hx, List.getElem?_take] at hj
    split at hj
    · rw [cell_of_row W g j _ e (0, 0) hc]
      simpa using hj
    · cases hj
theorem tokL_get (l : List TokS) (k j : Nat) (hk : k < l.length) (hj : j < 11) : (tokL l)[k * 11 + j]? = (tokC l[k])[j]? := by
  induction l generalizing k with
  | nil => simp at hk
  | cons s l ih =>
    have e : tokL (s :: l) = tokC s ++ tokL l := by simp [tokL]
    have hl : (tokC s).length = 11 := rfl
    rw [e]
    cases k with
    | zero => rw [List.getElem?_append_left (by omega)]; simp
    | succ k =>
      rw [List.getElem?_append_right (by omega), hl, show (k + 1) * 11 + j - 11 = k * 11 + j by omega]
      exact ih k (by simpa using hk)
end Go.Proofs.Ytlmmiicibjfcdaa
namespace Go.Proofs.Ytlmmiicibjfcdaa
open Go.RowKit
/-- A token that can be read, with the class of its words. -/
structure TkR where
  k : Int
  b : Nat
  a0 : Nat
  a1 : Nat
  a2 : Nat
  a3 : Nat
  P : Nat → Bool
  nt : Bool
  l : Int
  m : Int
  lz : Bool
  t : Int
structure TkR.ok (x : TkR) : Prop where
  hb : x.b < 256
  h4 : C4 x.P x.a0 x.a1 x.a2 x.a3
/-- The cells of a slice of tokens can be read. -/
structure RdK (w : World) (ao : Option Addr) (n : Nat) (F : Nat → TkR) : Prop where
  ok : ∀ i, i < n → (F i).ok
  at_ : 0 < n → ∃ bb off, ao = some ⟨bb, off, none⟩ ∧ bb < w.heap.size ∧ ∀ i, i < n → w.cell? ⟨bb, off + i * 11, none⟩ = some (.int .i64 (F i).k) ∧ w.cell? ⟨bb, off + i * 11 + 1, none⟩ = some (.int .u8 ((F i).b : Nat)) ∧ w.cell? ⟨bb, off + i * 11 + 2, none⟩ = some (.int .u64 ((F i).a0 : Nat)) ∧ w.cell? ⟨bb, off + i * 11 + 3, none⟩ = some (.int .u64 ((F i).a1 : Nat)) ∧ w.cell? ⟨bb, off + i * 11 + 4, none⟩ = some (.int .u64 ((F i).a2 : Nat)) ∧ w.cell? ⟨bb, off + i * 11 + 5, none⟩ = some (.int .u64 ((F i).a3 : Nat)) ∧ w.cell? ⟨bb, off + i * 11 + 6, none⟩ = some (.bool (F i).nt) ∧ w.cell? ⟨bb, off + i * 11 + 7, none⟩ = some (.int .i64 (F i).l) ∧ w.cell? ⟨bb, off + i * 11 + 8, none⟩ = some (.int .i64 (F i).m) ∧ w.cell? ⟨bb, off + i * 11 + 9, none⟩ = some (.bool (F i).lz) ∧ w.cell? ⟨bb, off + i * 11 + 10, none⟩ = some (.int .i64 (F i).t)
theorem RdK.below {w w' : World} {ao : Option Addr} {n : Nat} {F : Nat → TkR} (h : RdK w ao n F) (hb : Below w.heap.size w w') : RdK w' ao n F := by
  refine ⟨h.ok, fun hl => ?_⟩
  obtain ⟨bb, off, e, hlt, hc⟩ := h.at_ hl
  refine ⟨bb, off, e, Nat.lt_of_lt_of_le hlt hb.size, fun i hi => ?_⟩
  have hh : ∀ o, w'.cell? ⟨bb, o, none⟩ = w.cell? ⟨bb, o, none⟩ := fun o => hb.cell (p := ⟨bb, o, none⟩) hlt
  simp only [hh]
  exact hc i hi
/-- What is looked at in a token. -/
def TkR.tp (fl : Fg) (x : TkR) : Tp := ⟨x.k, x.t, x.l, x.m, x.lz, (leafS fl x.k x.b x.P x.nt).1, chk x.k x.b x.P x.nt x.l x.m x.lz x.t⟩
def TokS.r (s : TokS) : TkR := ⟨s.k, s.b, wds s.P 0, wds s.P 1, wds s.P 2, wds s.P 3, s.P, s.nt, s.l, s.m, s.lz, (s.at_ : Nat)⟩
theorem rdk_row {W : World} {base n cap : Nat} {ao : Option Addr} {T : Nat → TokS} (h : W.ownsRow base 42 11 (.slice ao n cap) n (tokL ((List.range n).map T))) (hb : ∀ i, i < n → (T i).b < 256) : RdK W ao n (fun i => (T i).r) := by
  refine ⟨fun i hi => ⟨hb i hi, wds_is _⟩, fun hn => ?_⟩
  obtain ⟨g, rfl, hg, _, hc⟩ := row_cell h hn
  refine ⟨g, 0, rfl, hg, fun i hi => ?_⟩
  have hl : i < ((List.range n).map T).length := by simpa using hi
  have hT : ((List.range n).map T)[i] = T i := by simp
  have key : ∀ j u, j < 11 → (tokC (T i))[j]? = some u → W.cell? ⟨g, 0 + i * 11 + j, none⟩ = some u := fun j u hj hu => by
    rw [Nat.zero_add]
    exact hc (i * 11 + j) u (by rw [tokL_get _ i j hl hj, hT]; exact hu)
  exact ⟨key 0 _ (by omega) rfl, key 1 _ (by omega) rfl, key 2 _ (by omega) rfl, key 3 _ (by omega) rfl, key 4 _ (by omega) rfl, key 5 _ (by omega) rfl, key 6 _ (by omega) rfl, key 7 _ (by omega) rfl, key 8 _ (by omega) rfl, key 9 _ (by omega) rfl, key 10 _ (by omega) rfl⟩
end Go.Proofs.Ytlmmiicibjfcdaa
