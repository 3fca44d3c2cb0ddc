/- token: Check: the walk. token: the text of a repeat: the walks. -/
import Derived.Test.YtkbeiadbolihiaaDoorM19Ck
import Derived.Test.YtkbeiadbolihiaaDoorM09Kh
import Derived.Test.YtkbeiadbolihiaaDoorM06Cl
import Derived.Test.YtkbeiadbolihiaaDoorM03It
namespace Go.Proofs.YtkbeiadbolihiaaDoor
open Go.RowKit
section
variable (k : Int) (b a0 a1 a2 a3 : Nat) (nt : Bool) (l m : Int) (lz : Bool) (t : Int) (k' : Int) (b' a0' a1' a2' a3' : Nat) (nt' : Bool) (l' m' : Int) (lz' : Bool) (t' : Int) (w : World)
theorem run_eql26 : (Go.binOp BinOp.eql 26 (.agg #[.int .i64 k, .int .u8 (b : Nat), .int .u64 (a0 : Nat), .int .u64 (a1 : Nat), .int .u64 (a2 : Nat), .int .u64 (a3 : Nat), .bool nt, .int .i64 l, .int .i64 m, .bool lz, .int .i64 t]) (.agg #[.int .i64 k', .int .u8 (b' : Nat), .int .u64 (a0' : Nat), .int .u64 (a1' : Nat), .int .u64 (a2' : Nat), .int .u64 (a3' : Nat), .bool nt', .int .i64 l', .int .i64 m', .bool lz', .int .i64 t'])).run Tryd.prog w = .ok (.bool (eqT k b a0 a1 a2 a3 nt l m lz t k' b' a0' a1' a2' a3' nt' l' m' lz' t')) w := by
  have h := equal26 k b a0 a1 a2 a3 nt l m lz t k' b' a0' a1' a2' a3' nt' l' m' lz' t' w
  unfold tokI at h
  simp only [binOp]
  simp only [Sem.run_bind, h, Result.andThen_ok, Sem.run_pure]
theorem run_neq26 : (Go.binOp BinOp.neq 26 (.agg #[.int .i64 k, .int .u8 (b : Nat), .int .u64 (a0 : Nat), .int .u64 (a1 : Nat), .int .u64 (a2 : Nat), .int .u64 (a3 : Nat), .bool nt, .int .i64 l, .int .i64 m, .bool lz, .int .i64 t]) (.agg #[.int .i64 k', .int .u8 (b' : Nat), .int .u64 (a0' : Nat), .int .u64 (a1' : Nat), .int .u64 (a2' : Nat), .int .u64 (a3' : Nat), .bool nt', .int .i64 l', .int .i64 m', .bool lz', .int .i64 t'])).run Tryd.prog w = .ok (.bool (!eqT k b a0 a1 a2 a3 nt l m lz t k' b' a0' a1' a2' a3' nt' l' m' lz' t')) w := by
  have h := equal26 k b a0 a1 a2 a3 nt l m lz t k' b' a0' a1' a2' a3' nt' l' m' lz' t' w
  unfold tokI at h
  simp only [binOp]
  simp only [Sem.run_bind, h, Result.andThen_ok, Sem.run_pure]
end
def RetN (w : World) (v : Int) (e : Ending) (w' : World) : Prop := e = .returned (.int .i64 v) ∧ Below w.heap.size w w'
/-- What Check answers of a token that may be, and of one that may not. -/
def erV (x : Bool) : Int := if x then 0 else 45
set_option maxRecDepth 20000 in
set_option maxHeartbeats 1000000 in
theorem check_1 (b a0 a1 a2 a3 : Nat) (nt : Bool) (l m : Int) (lz : Bool) (t : Int) (w : World) : Calls Tryd.prog 8 #[tokI 1 b a0 a1 a2 a3 nt l m lz t] w (RetN w (erV (decide (0 ≤ t) && eqT 1 b a0 a1 a2 a3 nt l m lz t 1 b 0 0 0 0 false 0 0 false t))) := by
  have hB := below2 w (.cells #[.int .i64 1, .int .u8 (b : Nat), .int .u64 (a0 : Nat), .int .u64 (a1 : Nat), .int .u64 (a2 : Nat), .int .u64 (a3 : Nat), .bool nt, .int .i64 l, .int .i64 m, .bool lz, .int .i64 t] 26) (.cells #[.int .i64 1, .int .u8 (b : Nat), .int .u64 0, .int .u64 0, .int .u64 0, .int .u64 0, .bool false, .int .i64 0, .int .i64 0, .bool false, .int .i64 t] 26)
  unfold tokI
  by_cases ht : 0 ≤ t
  · have hge : t ≥ 0 := ht
    rw [decide_eq_true ht, Bool.true_and]
    cases hq : eqT 1 b a0 a1 a2 a3 nt l m lz t 1 b 0 0 0 0 false 0 0 false t with
    | true =>
      have hn : ∀ w, (Go.binOp BinOp.neq 26 (.agg #[.int .i64 1, .int .u8 (b : Nat), .int .u64 (a0 : Nat), .int .u64 (a1 : Nat), .int .u64 (a2 : Nat), .int .u64 (a3 : Nat), .bool nt, .int .i64 l, .int .i64 m, .bool lz, .int .i64 t]) (.agg #[.int .i64 1, .int .u8 (b : Nat), .int .u64 0, .int .u64 0, .int .u64 0, .int .u64 0, .bool false, .int .i64 0, .int .i64 0, .bool false, .int .i64 t])).run Tryd.prog w = .ok (.bool false) w := fun w => by
        have h := run_neq26 1 b a0 a1 a2 a3 nt l m lz t 1 b 0 0 0 0 false 0 0 false t w
        rw [hq] at h
        exact h
      clear hq
      go_enter Tryd.func8, Tryd.ntmps8
      go_wp2
      go_ret
      exact ⟨rfl, hB⟩
    | false =>
      have hn : ∀ w, (Go.binOp BinOp.neq 26 (.agg #[.int .i64 1, .int .u8 (b : Nat), .int .u64 (a0 : Nat), .int .u64 (a1 : Nat), .int .u64 (a2 : Nat), .int .u64 (a3 : Nat), .bool nt, .int .i64 l, .int .i64 m, .bool lz, .int .i64 t]) (.agg #[.int .i64 1, .int .u8 (b : Nat), .int .u64 0, .int .u64 0, .int .u64 0, .int .u64 0, .bool false, .int .i64 0, .int .i64 0, .bool false, .int .i64 t])).run Tryd.prog w = .ok (.bool true) w := fun w => by
        have h := run_neq26 1 b a0 a1 a2 a3 nt l m lz t 1 b 0 0 0 0 false 0 0 false t w
        rw [hq] at h
        exact h
      clear hq
      go_enter Tryd.func8, Tryd.ntmps8
      go_wp2
      go_ret
      exact ⟨rfl, hB⟩
  · have hge : ¬ t ≥ 0 := by omega
    rw [decide_eq_false ht, Bool.false_and]
    go_enter Tryd.func8, Tryd.ntmps8
    go_wp2
    go_ret
    exact ⟨rfl, hB⟩
set_option maxRecDepth 20000 in
set_option maxHeartbeats 1000000 in
theorem check_3 (b a0 a1 a2 a3 : Nat) (nt : Bool) (l m : Int) (lz : Bool) (t : Int) (w : World) : Calls Tryd.prog 8 #[tokI 3 b a0 a1 a2 a3 nt l m lz t] w (RetN w (erV (decide (0 ≤ t) && eqT 3 b a0 a1 a2 a3 nt l m lz t 3 0 0 0 0 0 false 0 0 false t))) := by
  have hB := below2 w (.cells #[.int .i64 3, .int .u8 (b : Nat), .int .u64 (a0 : Nat), .int .u64 (a1 : Nat), .int .u64 (a2 : Nat), .int .u64 (a3 : Nat), .bool nt, .int .i64 l, .int .i64 m, .bool lz, .int .i64 t] 26) (.cells #[.int .i64 3, .int .u8 0, .int .u64 0, .int .u64 0, .int .u64 0, .int .u64 0, .bool false, .int .i64 0, .int .i64 0, .bool false, .int .i64 t] 26)
  unfold tokI
  by_cases ht : 0 ≤ t
  · have hge : t ≥ 0 := ht
    rw [decide_eq_true ht, Bool.true_and]
    cases hq : eqT 3 b a0 a1 a2 a3 nt l m lz t 3 0 0 0 0 0 false 0 0 false t with
    | true =>
      have hn : ∀ w, (Go.binOp BinOp.neq 26 (.agg #[.int .i64 3, .int .u8 (b : Nat), .int .u64 (a0 : Nat), .int .u64 (a1 : Nat), .int .u64 (a2 : Nat), .int .u64 (a3 : Nat), .bool nt, .int .i64 l, .int .i64 m, .bool lz, .int .i64 t]) (.agg #[.int .i64 3, .int .u8 0, .int .u64 0, .int .u64 0, .int .u64 0, .int .u64 0, .bool false, .int .i64 0, .int .i64 0, .bool false, .int .i64 t])).run Tryd.prog w = .ok (.bool false) w := fun w => by
        have h := run_neq26 3 b a0 a1 a2 a3 nt l m lz t 3 0 0 0 0 0 false 0 0 false t w
        rw [hq] at h
        exact h
      clear hq
      go_enter Tryd.func8, Tryd.ntmps8
      go_wp2
      go_ret
      exact ⟨rfl, hB⟩
    | false =>
      have hn : ∀ w, (Go.binOp BinOp.neq 26 (.agg #[.int .i64 3, .int .u8 (b : Nat), .int .u64 (a0 : Nat), .int .u64 (a1 : Nat), .int .u64 (a2 : Nat), .int .u64 (a3 : Nat), .bool nt, .int .i64 l, .int .i64 m, .bool lz, .int .i64 t]) (.agg #[.int .i64 3, .int .u8 0, .int .u64 0, .int .u64 0, .int .u64 0, .int .u64 0, .bool false, .int .i64 0, .int .i64 0, .bool false, .int .i64 t])).run Tryd.prog w = .ok (.bool true) w := fun w => by
        have h := run_neq26 3 b a0 a1 a2 a3 nt l m lz t 3 0 0 0 0 0 false 0 0 false t w
        rw [hq] at h
        exact h
      clear hq
      go_enter Tryd.func8, Tryd.ntmps8
      go_wp2
      go_ret
      exact ⟨rfl, hB⟩
  · have hge : ¬ t ≥ 0 := by omega
    rw [decide_eq_false ht, Bool.false_and]
    go_enter Tryd.func8, Tryd.ntmps8
    go_wp2
    go_ret
    exact ⟨rfl, hB⟩
set_option maxRecDepth 20000 in
set_option maxHeartbeats 1000000 in
theorem check_4 (b a0 a1 a2 a3 : Nat) (nt : Bool) (l m : Int) (lz : Bool) (t : Int) (w : World) : Calls Tryd.prog 8 #[tokI 4 b a0 a1 a2 a3 nt l m lz t] w (RetN w (erV (decide (0 ≤ t) && eqT 4 b a0 a1 a2 a3 nt l m lz t 4 0 0 0 0 0 false 0 0 false t))) := by
  have hB := below2 w (.cells #[.int .i64 4, .int .u8 (b : Nat), .int .u64 (a0 : Nat), .int .u64 (a1 : Nat), .int .u64 (a2 : Nat), .int .u64 (a3 : Nat), .bool nt, .int .i64 l, .int .i64 m, .bool lz, .int .i64 t] 26) (.cells #[.int .i64 4, .int .u8 0, .int .u64 0, .int .u64 0, .int .u64 0, .int .u64 0, .bool false, .int .i64 0, .int .i64 0, .bool false, .int .i64 t] 26)
  unfold tokI
  by_cases ht : 0 ≤ t
  · have hge : t ≥ 0 := ht
    rw [decide_eq_true ht, Bool.true_and]
    cases hq : eqT 4 b a0 a1 a2 a3 nt l m lz t 4 0 0 0 0 0 false 0 0 false t with
    | true =>
      have hn : ∀ w, (Go.binOp BinOp.neq 26 (.agg #[.int .i64 4, .int .u8 (b : Nat), .int .u64 (a0 : Nat), .int .u64 (a1 : Nat), .int .u64 (a2 : Nat), .int .u64 (a3 : Nat), .bool nt, .int .i64 l, .int .i64 m, .bool lz, .int .i64 t]) (.agg #[.int .i64 4, .int .u8 0, .int .u64 0, .int .u64 0, .int .u64 0, .int .u64 0, .bool false, .int .i64 0, .int .i64 0, .bool false, .int .i64 t])).run Tryd.prog w = .ok (.bool false) w := fun w => by
        have h := run_neq26 4 b a0 a1 a2 a3 nt l m lz t 4 0 0 0 0 0 false 0 0 false t w
        rw [hq] at h
        exact h
      clear hq
      go_enter Tryd.func8, Tryd.ntmps8
      go_wp2
      go_ret
      exact ⟨rfl, hB⟩
    | false =>
      have hn : ∀ w, (Go.binOp BinOp.neq 26 (.agg #[.int .i64 4, .int .u8 (b : Nat), .int .u64 (a0 : Nat), .int .u64 (a1 : Nat), .int .u64 (a2 : Nat), .int .u64 (a3 : Nat), .bool nt, .int .i64 l, .int .i64 m, .bool lz, .int .i64 t]) (.agg #[.int .i64 4, .int .u8 0, .int .u64 0, .int .u64 0, .int .u64 0, .int .u64 0, .bool false, .int .i64 0, .int .i64 0, .bool false, .int .i64 t])).run Tryd.prog w = .ok (.bool true) w := fun w => by
        have h := run_neq26 4 b a0 a1 a2 a3 nt l m lz t 4 0 0 0 0 0 false 0 0 false t w
        rw [hq] at h
        exact h
      clear hq
      go_enter Tryd.func8, Tryd.ntmps8
      go_wp2
      go_ret
      exact ⟨rfl, hB⟩
  · have hge : ¬ t ≥ 0 := by omega
    rw [decide_eq_false ht, Bool.false_and]
    go_enter Tryd.func8, Tryd.ntmps8
    go_wp2
    go_ret
    exact ⟨rfl, hB⟩
set_option maxRecDepth 20000 in
set_option maxHeartbeats 1000000 in
theorem check_5 (b a0 a1 a2 a3 : Nat) (nt : Bool) (l m : Int) (lz : Bool) (t : Int) (w : World) : Calls Tryd.prog 8 #[tokI 5 b a0 a1 a2 a3 nt l m lz t] w (RetN w (erV (decide (0 ≤ t) && eqT 5 b a0 a1 a2 a3 nt l m lz t 5 0 0 0 0 0 false 0 0 false t))) := by
  have hB := below2 w (.cells #[.int .i64 5, .int .u8 (b : Nat), .int .u64 (a0 : Nat), .int .u64 (a1 : Nat), .int .u64 (a2 : Nat), .int .u64 (a3 : Nat), .bool nt, .int .i64 l, .int .i64 m, .bool lz, .int .i64 t] 26) (.cells #[.int .i64 5, .int .u8 0, .int .u64 0, .int .u64 0, .int .u64 0, .int .u64 0, .bool false, .int .i64 0, .int .i64 0, .bool false, .int .i64 t] 26)
  unfold tokI
  by_cases ht : 0 ≤ t
  · have hge : t ≥ 0 := ht
    rw [decide_eq_true ht, Bool.true_and]
    cases hq : eqT 5 b a0 a1 a2 a3 nt l m lz t 5 0 0 0 0 0 false 0 0 false t with
    | true =>
      have hn : ∀ w, (Go.binOp BinOp.neq 26 (.agg #[.int .i64 5, .int .u8 (b : Nat), .int .u64 (a0 : Nat), .int .u64 (a1 : Nat), .int .u64 (a2 : Nat), .int .u64 (a3 : Nat), .bool nt, .int .i64 l, .int .i64 m, .bool lz, .int .i64 t]) (.agg #[.int .i64 5, .int .u8 0, .int .u64 0, .int .u64 0, .int .u64 0, .int .u64 0, .bool false, .int .i64 0, .int .i64 0, .bool false, .int .i64 t])).run Tryd.prog w = .ok (.bool false) w := fun w => by
        have h := run_neq26 5 b a0 a1 a2 a3 nt l m lz t 5 0 0 0 0 0 false 0 0 false t w
        rw [hq] at h
        exact h
      clear hq
      go_enter Tryd.func8, Tryd.ntmps8
      go_wp2
      go_ret
      exact ⟨rfl, hB⟩
    | false =>
      have hn : ∀ w, (Go.binOp BinOp.neq 26 (.agg #[.int .i64 5, .int .u8 (b : Nat), .int .u64 (a0 : Nat), .int .u64 (a1 : Nat), .int .u64 (a2 : Nat), .int .u64 (a3 : Nat), .bool nt, .int .i64 l, .int .i64 m, .bool lz, .int .i64 t]) (.agg #[.int .i64 5, .int .u8 0, .int .u64 0, .int .u64 0, .int .u64 0, .int .u64 0, .bool false, .int .i64 0, .int .i64 0, .bool false, .int .i64 t])).run Tryd.prog w = .ok (.bool true) w := fun w => by
        have h := run_neq26 5 b a0 a1 a2 a3 nt l m lz t 5 0 0 0 0 0 false 0 0 false t w
        rw [hq] at h
        exact h
      clear hq
      go_enter Tryd.func8, Tryd.ntmps8
      go_wp2
      go_ret
      exact ⟨rfl, hB⟩
  · have hge : ¬ t ≥ 0 := by omega
    rw [decide_eq_false ht, Bool.false_and]
    go_enter Tryd.func8, Tryd.ntmps8
    go_wp2
    go_ret
    exact ⟨rfl, hB⟩
set_option maxRecDepth 20000 in
set_option maxHeartbeats 1000000 in
theorem check_6 (b a0 a1 a2 a3 : Nat) (nt : Bool) (l m : Int) (lz : Bool) (t : Int) (w : World) : Calls Tryd.prog 8 #[tokI 6 b a0 a1 a2 a3 nt l m lz t] w (RetN w (erV (decide (0 ≤ t) && eqT 6 b a0 a1 a2 a3 nt l m lz t 6 0 0 0 0 0 false 0 0 false t))) := by
  have hB := below2 w (.cells #[.int .i64 6, .int .u8 (b : Nat), .int .u64 (a0 : Nat), .int .u64 (a1 : Nat), .int .u64 (a2 : Nat), .int .u64 (a3 : Nat), .bool nt, .int .i64 l, .int .i64 m, .bool lz, .int .i64 t] 26) (.cells #[.int .i64 6, .int .u8 0, .int .u64 0, .int .u64 0, .int .u64 0, .int .u64 0, .bool false, .int .i64 0, .int .i64 0, .bool false, .int .i64 t] 26)
  unfold tokI
  by_cases ht : 0 ≤ t
  · have hge : t ≥ 0 := ht
    rw [decide_eq_true ht, Bool.true_and]
    cases hq : eqT 6 b a0 a1 a2 a3 nt l m lz t 6 0 0 0 0 0 false 0 0 false t with
    | true =>
      have hn : ∀ w, (Go.binOp BinOp.neq 26 (.agg #[.int .i64 6, .int .u8 (b : Nat), .int .u64 (a0 : Nat), .int .u64 (a1 : Nat), .int .u64 (a2 : Nat), .int .u64 (a3 : Nat), .bool nt, .int .i64 l, .int .i64 m, .bool lz, .int .i64 t]) (.agg #[.int .i64 6, .int .u8 0, .int .u64 0, .int .u64 0, .int .u64 0, .int .u64 0, .bool false, .int .i64 0, .int .i64 0, .bool false, .int .i64 t])).run Tryd.prog w = .ok (.bool false) w := fun w => by
        have h := run_neq26 6 b a0 a1 a2 a3 nt l m lz t 6 0 0 0 0 0 false 0 0 false t w
        rw [hq] at h
        exact h
      clear hq
      go_enter Tryd.func8, Tryd.ntmps8
      go_wp2
      go_ret
      exact ⟨rfl, hB⟩
    | false =>
      have hn : ∀ w, (Go.binOp BinOp.neq 26 (.agg #[.int .i64 6, .int .u8 (b : Nat), .int .u64 (a0 : Nat), .int .u64 (a1 : Nat), .int .u64 (a2 : Nat), .int .u64 (a3 : Nat), .bool nt, .int .i64 l, .int .i64 m, .bool lz, .int .i64 t]) (.agg #[.int .i64 6, .int .u8 0, .int .u64 0, .int .u64 0, .int .u64 0, .int .u64 0, .bool false, .int .i64 0, .int .i64 0, .bool false, .int .i64 t])).run Tryd.prog w = .ok (.bool true) w := fun w => by
        have h := run_neq26 6 b a0 a1 a2 a3 nt l m lz t 6 0 0 0 0 0 false 0 0 false t w
        rw [hq] at h
        exact h
      clear hq
      go_enter Tryd.func8, Tryd.ntmps8
      go_wp2
      go_ret
      exact ⟨rfl, hB⟩
  · have hge : ¬ t ≥ 0 := by omega
    rw [decide_eq_false ht, Bool.false_and]
    go_enter Tryd.func8, Tryd.ntmps8
    go_wp2
    go_ret
    exact ⟨rfl, hB⟩
set_option maxRecDepth 20000 in
set_option maxHeartbeats 1000000 in
theorem check_8 (b a0 a1 a2 a3 : Nat) (nt : Bool) (l m : Int) (lz : Bool) (t : Int) (w : World) : Calls Tryd.prog 8 #[tokI 8 b a0 a1 a2 a3 nt l m lz t] w (RetN w (erV (decide (0 ≤ t) && eqT 8 b a0 a1 a2 a3 nt l m lz t 8 0 0 0 0 0 false 0 0 false t))) := by
  have hB := below2 w (.cells #[.int .i64 8, .int .u8 (b : Nat), .int .u64 (a0 : Nat), .int .u64 (a1 : Nat), .int .u64 (a2 : Nat), .int .u64 (a3 : Nat), .bool nt, .int .i64 l, .int .i64 m, .bool lz, .int .i64 t] 26) (.cells #[.int .i64 8, .int .u8 0, .int .u64 0, .int .u64 0, .int .u64 0, .int .u64 0, .bool false, .int .i64 0, .int .i64 0, .bool false, .int .i64 t] 26)
  unfold tokI
  by_cases ht : 0 ≤ t
  · have hge : t ≥ 0 := ht
    rw [decide_eq_true ht, Bool.true_and]
    cases hq : eqT 8 b a0 a1 a2 a3 nt l m lz t 8 0 0 0 0 0 false 0 0 false t with
    | true =>
      have hn : ∀ w, (Go.binOp BinOp.neq 26 (.agg #[.int .i64 8, .int .u8 (b : Nat), .int .u64 (a0 : Nat), .int .u64 (a1 : Nat), .int .u64 (a2 : Nat), .int .u64 (a3 : Nat), .bool nt, .int .i64 l, .int .i64 m, .bool lz, .int .i64 t]) (.agg #[.int .i64 8, .int .u8 0, .int .u64 0, .int .u64 0, .int .u64 0, .int .u64 0, .bool false, .int .i64 0, .int .i64 0, .bool false, .int .i64 t])).run Tryd.prog w = .ok (.bool false) w := fun w => by
        have h := run_neq26 8 b a0 a1 a2 a3 nt l m lz t 8 0 0 0 0 0 false 0 0 false t w
        rw [hq] at h
        exact h
      clear hq
      go_enter Tryd.func8, Tryd.ntmps8
      go_wp2
      go_ret
      exact ⟨rfl, hB⟩
    | false =>
      have hn : ∀ w, (Go.binOp BinOp.neq 26 (.agg #[.int .i64 8, .int .u8 (b : Nat), .int .u64 (a0 : Nat), .int .u64 (a1 : Nat), .int .u64 (a2 : Nat), .int .u64 (a3 : Nat), .bool nt, .int .i64 l, .int .i64 m, .bool lz, .int .i64 t]) (.agg #[.int .i64 8, .int .u8 0, .int .u64 0, .int .u64 0, .int .u64 0, .int .u64 0, .bool false, .int .i64 0, .int .i64 0, .bool false, .int .i64 t])).run Tryd.prog w = .ok (.bool true) w := fun w => by
        have h := run_neq26 8 b a0 a1 a2 a3 nt l m lz t 8 0 0 0 0 0 false 0 0 false t w
        rw [hq] at h
        exact h
      clear hq
      go_enter Tryd.func8, Tryd.ntmps8
      go_wp2
      go_ret
      exact ⟨rfl, hB⟩
  · have hge : ¬ t ≥ 0 := by omega
    rw [decide_eq_false ht, Bool.false_and]
    go_enter Tryd.func8, Tryd.ntmps8
    go_wp2
    go_ret
    exact ⟨rfl, hB⟩
set_option maxRecDepth 20000 in
set_option maxHeartbeats 1000000 in
theorem check_9 (b a0 a1 a2 a3 : Nat) (nt : Bool) (l m : Int) (lz : Bool) (t : Int) (w : World) : Calls Tryd.prog 8 #[tokI 9 b a0 a1 a2 a3 nt l m lz t] w (RetN w (erV (decide (0 ≤ t) && eqT 9 b a0 a1 a2 a3 nt l m lz t 9 0 0 0 0 0 false 0 0 false t))) := by
  have hB := below2 w (.cells #[.int .i64 9, .int .u8 (b : Nat), .int .u64 (a0 : Nat), .int .u64 (a1 : Nat), .int .u64 (a2 : Nat), .int .u64 (a3 : Nat), .bool nt, .int .i64 l, .int .i64 m, .bool lz, .int .i64 t] 26) (.cells #[.int .i64 9, .int .u8 0, .int .u64 0, .int .u64 0, .int .u64 0, .int .u64 0, .bool false, .int .i64 0, .int .i64 0, .bool false, .int .i64 t] 26)
  unfold tokI
  by_cases ht : 0 ≤ t
  · have hge : t ≥ 0 := ht
    rw [decide_eq_true ht, Bool.true_and]
    cases hq : eqT 9 b a0 a1 a2 a3 nt l m lz t 9 0 0 0 0 0 false 0 0 false t with
    | true =>
      have hn : ∀ w, (Go.binOp BinOp.neq 26 (.agg #[.int .i64 9, .int .u8 (b : Nat), .int .u64 (a0 : Nat), .int .u64 (a1 : Nat), .int .u64 (a2 : Nat), .int .u64 (a3 : Nat), .bool nt, .int .i64 l, .int .i64 m, .bool lz, .int .i64 t]) (.agg #[.int .i64 9, .int .u8 0, .int .u64 0, .int .u64 0, .int .u64 0, .int .u64 0, .bool false, .int .i64 0, .int .i64 0, .bool false, .int .i64 t])).run Tryd.prog w = .ok (.bool false) w := fun w => by
        have h := run_neq26 9 b a0 a1 a2 a3 nt l m lz t 9 0 0 0 0 0 false 0 0 false t w
        rw [hq] at h
        exact h
      clear hq
      go_enter Tryd.func8, Tryd.ntmps8
      go_wp2
      go_ret
      exact ⟨rfl, hB⟩
    | false =>
      have hn : ∀ w, (Go.binOp BinOp.neq 26 (.agg #[.int .i64 9, .int .u8 (b : Nat), .int .u64 (a0 : Nat), .int .u64 (a1 : Nat), .int .u64 (a2 : Nat), .int .u64 (a3 : Nat), .bool nt, .int .i64 l, .int .i64 m, .bool lz, .int .i64 t]) (.agg #[.int .i64 9, .int .u8 0, .int .u64 0, .int .u64 0, .int .u64 0, .int .u64 0, .bool false, .int .i64 0, .int .i64 0, .bool false, .int .i64 t])).run Tryd.prog w = .ok (.bool true) w := fun w => by
        have h := run_neq26 9 b a0 a1 a2 a3 nt l m lz t 9 0 0 0 0 0 false 0 0 false t w
        rw [hq] at h
        exact h
      clear hq
      go_enter Tryd.func8, Tryd.ntmps8
      go_wp2
      go_ret
      exact ⟨rfl, hB⟩
  · have hge : ¬ t ≥ 0 := by omega
    rw [decide_eq_false ht, Bool.false_and]
    go_enter Tryd.func8, Tryd.ntmps8
    go_wp2
    go_ret
    exact ⟨rfl, hB⟩
set_option maxRecDepth 20000 in
set_option maxHeartbeats 1000000 in
theorem check_other (k : Int) (hk : k < 1 ∨ 9 < k) (b a0 a1 a2 a3 : Nat) (nt : Bool) (l m : Int) (lz : Bool) (t : Int) (w : World) : Calls Tryd.prog 8 #[tokI k b a0 a1 a2 a3 nt l m lz t] w (RetN w 45) := by
  have e1 : (k == 1) = false := by simp; omega
  have e2 : (k == 2) = false := by simp; omega
  have e3 : (k == 3) = false := by simp; omega
  have e4 : (k == 4) = false := by simp; omega
  have e5 : (k == 5) = false := by simp; omega
  have e6 : (k == 6) = false := by simp; omega
  have e7 : (k == 7) = false := by simp; omega
  have e8 : (k == 8) = false := by simp; omega
  have e9 : (k == 9) = false := by simp; omega
  have hB := below2 w (.cells #[.int .i64 k, .int .u8 (b : Nat), .int .u64 (a0 : Nat), .int .u64 (a1 : Nat), .int .u64 (a2 : Nat), .int .u64 (a3 : Nat), .bool nt, .int .i64 l, .int .i64 m, .bool lz, .int .i64 t] 26) (.cells #[.int .i64 k, .int .u8 0, .int .u64 0, .int .u64 0, .int .u64 0, .int .u64 0, .bool false, .int .i64 0, .int .i64 0, .bool false, .int .i64 t] 26)
  clear hk
  unfold tokI
  by_cases ht : 0 ≤ t
  · have hge : t ≥ 0 := ht
    go_enter Tryd.func8, Tryd.ntmps8
    go_wp2
    go_ret
    exact ⟨rfl, hB⟩
  · have hge : ¬ t ≥ 0 := by omega
    go_enter Tryd.func8, Tryd.ntmps8
    go_wp2
    go_ret
    exact ⟨rfl, hB⟩
end Go.Proofs.YtkbeiadbolihiaaDoor
namespace Go.Proofs.YtkbeiadbolihiaaDoor
open Go.RowKit Go.Shelf
/-- The text of a repeat's bounds. -/
def bndB (l : Nat) (m : Int) : List UInt8 :=
  if l = 0 ∧ m = -1 then [42] else if l = 1 ∧ m = -1 then [43] else if l = 0 ∧ m = 1 then [63] else if m = l then [123] ++ Lib.decDigits l ++ [125] else if m = -1 then [123] ++ Lib.decDigits l ++ [44, 125] else [123] ++ Lib.decDigits l ++ [44] ++ Lib.decDigits m.toNat ++ [125]
theorem dec_len : ∀ (n : Nat), n ≤ 1000 → (Lib.decDigits n).length ≤ 4 := by
  intro n hn
  have h : ∀ k : Fin 1001, (Lib.decDigits k.val).length ≤ 4 := by
    intro k
    rw [Lib.decDigits]
    split
    · simp
    rw [Lib.decDigits]
    split
    · simp
    rw [Lib.decDigits]
    split
    · simp
    rw [Lib.decDigits, dif_pos (by omega)]
    simp
  exact h ⟨n, by omega⟩
theorem Pow.below {w w' : World} (h : Pow w) (hb : Below w.heap.size w w') : Pow w' := Lib.tabBelow_of_tabIs h w' hb
theorem sz_app (x y : ByteArray) : (x ++ y).size = x.size + y.size := ByteArray.size_append
set_option maxRecDepth 20000 in
set_option maxHeartbeats 2000000 in
theorem bounds_any (l : Nat) (m : Int) (hl : l ≤ 1000) (hm : m = -1 ∨ ((l : Int) ≤ m ∧ m ≤ 1000)) (w : World) (hT : Pow w) : Calls Tryd.prog 40 #[.int .i64 (l : Nat), .int .i64 m] w (RetS w (bndB l m)) := by
  have HI := itoa_any l hl w hT
  have hd := dec_len l hl
  have hs1 : (⟨#[123]⟩ : ByteArray).size = 1 := rfl
  have hs2 : (⟨#[125]⟩ : ByteArray).size = 1 := rfl
  have hs3 : (⟨#[44, 125]⟩ : ByteArray).size = 2 := rfl
  have hs4 : (⟨#[44]⟩ : ByteArray).size = 1 := rfl
  have hsa := sz_app
  obtain ⟨S, hS⟩ : ∃ S : ByteArray, S = ⟨(Lib.decDigits l).toArray⟩ := ⟨_, rfl⟩
  have hsz : S.size ≤ 4 := by rw [hS, size_str]; exact hd
  unfold RetS at HI
  rw [← hS] at HI
  by_cases c1 : l = 0 ∧ m = -1
  · obtain ⟨rfl, rfl⟩ := c1
    have HE : Hid (bndB 0 (-1) = [42]) := rfl
    go_enter Tryd.func40, Tryd.ntmps40
    go_wp2_with (go_at_call 58; refine HI.mono ?_; rintro e w1 ⟨rfl, hb⟩)
    go_ret
    exact ⟨by rw [HE.out]; rfl, hb⟩
  by_cases c2 : l = 1 ∧ m = -1
  · obtain ⟨rfl, rfl⟩ := c2
    have HE : Hid (bndB 1 (-1) = [43]) := rfl
    go_enter Tryd.func40, Tryd.ntmps40
    go_wp2_with (go_at_call 58; refine HI.mono ?_; rintro e w1 ⟨rfl, hb⟩)
    go_ret
    exact ⟨by rw [HE.out]; rfl, hb⟩
  by_cases c3 : l = 0 ∧ m = 1
  · obtain ⟨rfl, rfl⟩ := c3
    have HE : Hid (bndB 0 1 = [63]) := rfl
    go_enter Tryd.func40, Tryd.ntmps40
    go_wp2_with (go_at_call 58; refine HI.mono ?_; rintro e w1 ⟨rfl, hb⟩)
    go_ret
    exact ⟨by rw [HE.out]; rfl, hb⟩
  by_cases c4 : m = l
  · subst c4
    have HE : Hid (bndB l (l : Int) = [123] ++ Lib.decDigits l ++ [125]) := by
      show bndB l (l : Int) = _
      unfold bndB
      rw [if_neg c1, if_neg c2, if_neg c3, if_pos rfl]
    have HV : Hid ((⟨#[123]⟩ : ByteArray) ++ S ++ ⟨#[125]⟩ = ⟨(bndB l (l : Int)).toArray⟩) := by
      show (⟨#[123]⟩ : ByteArray) ++ S ++ ⟨#[125]⟩ = ⟨(bndB l (l : Int)).toArray⟩
      rw [HE.out, hS, ← str_app, ← str_app]
    have m1 : ((l : Int) == -1) = false := by simp
    by_cases l0 : l = 0
    · subst l0
      clear hS HE
      go_enter Tryd.func40, Tryd.ntmps40
      go_wp2_with (go_at_call 58; refine HI.mono ?_; rintro e w1 ⟨rfl, hb⟩)
      go_ret
      exact ⟨by rw [← HV.out]; rfl, hb⟩
    have l1 : ((l : Int) == 0) = false := by simp; omega
    by_cases l2 : l = 1
    · subst l2
      clear hS HE
      go_enter Tryd.func40, Tryd.ntmps40
      go_wp2_with (go_at_call 58; refine HI.mono ?_; rintro e w1 ⟨rfl, hb⟩)
      go_ret
      exact ⟨by rw [← HV.out]; rfl, hb⟩
    have l3 : ((l : Int) == 1) = false := by simp; omega
    clear hS HE c1 c2 c3
    go_enter Tryd.func40, Tryd.ntmps40
    go_wp2_with (go_at_call 58; refine HI.mono ?_; rintro e w1 ⟨rfl, hb⟩)
    go_ret
    exact ⟨by rw [← HV.out]; rfl, hb⟩
  have e4 : (m == (l : Int)) = false := by simp; omega
  by_cases c5 : m = -1
  · subst c5
    have HE : Hid (bndB l (-1) = [123] ++ Lib.decDigits l ++ [44, 125]) := by
      show bndB l (-1) = _
      unfold bndB
      rw [if_neg c1, if_neg c2, if_neg c3, if_neg c4, if_pos rfl]
    have HV : Hid ((⟨#[123]⟩ : ByteArray) ++ S ++ ⟨#[44, 125]⟩ = ⟨(bndB l (-1)).toArray⟩) := by
      show (⟨#[123]⟩ : ByteArray) ++ S ++ ⟨#[44, 125]⟩ = ⟨(bndB l (-1)).toArray⟩
      rw [HE.out, hS, ← str_app, ← str_app]
    have l1 : ((l : Int) == 0) = false := by simp; omega
    have l3 : ((l : Int) == 1) = false := by simp; omega
    clear hS HE c1 c2 c3 c4 hm
    go_enter Tryd.func40, Tryd.ntmps40
    go_wp2_with (go_at_call 58; refine HI.mono ?_; rintro e w1 ⟨rfl, hb⟩)
    go_ret
    exact ⟨by rw [← HV.out]; rfl, hb⟩
  have hm2 : (l : Int) ≤ m ∧ m ≤ 1000 := hm.resolve_left c5
  have m1 : (m == -1) = false := by simp; omega
  obtain ⟨n, rfl⟩ := Int.eq_ofNat_of_zero_le (show 0 ≤ m by omega)
  have hd2 := dec_len n (by omega)
  have HE : Hid (bndB l (n : Int) = [123] ++ Lib.decDigits l ++ [44] ++ Lib.decDigits n ++ [125]) := by
    show bndB l (n : Int) = _
    unfold bndB
    rw [if_neg c1, if_neg c2, if_neg c3, if_neg c4, if_neg c5, Int.toNat_natCast]
  obtain ⟨U, hU⟩ : ∃ U : ByteArray, U = ⟨(Lib.decDigits n).toArray⟩ := ⟨_, rfl⟩
  have hsu : U.size ≤ 4 := by rw [hU, size_str]; exact hd2
  have HV : Hid ((⟨#[123]⟩ : ByteArray) ++ S ++ ⟨#[44]⟩ ++ U ++ ⟨#[125]⟩ = ⟨(bndB l (n : Int)).toArray⟩) := by
    show (⟨#[123]⟩ : ByteArray) ++ S ++ ⟨#[44]⟩ ++ U ++ ⟨#[125]⟩ = ⟨(bndB l (n : Int)).toArray⟩
    rw [HE.out, hS, hU, ← str_app, ← str_app, ← str_app, ← str_app]
  have HJ : Hid (∀ W, Below w.heap.size w W → Calls Tryd.prog 58 #[.int .i64 (n : Nat)] W fun e w' => e = .returned (.string U) ∧ Below W.heap.size W w') := fun W hb => by
    have := itoa_any n (by omega) W (hT.below hb)
    unfold RetS at this
    rw [← hU] at this
    exact this
  have m0 : Hid True := trivial
  by_cases l0 : l = 0
  · subst l0
    have n1 : ((n : Int) == 1) = false := by simp; omega
    clear hS HE hU c1 c2 c3 c4 hm hm2 c5 hd2
    go_enter Tryd.func40, Tryd.ntmps40
    go_wp2_with (go_at_call 58; first | (clear m0; refine HI.mono ?_; clear HI; rintro e w1 ⟨rfl, hb⟩) | (refine (HJ.out _ hb).mono ?_; rintro e w2 ⟨rfl, hb2⟩))
    go_ret
    exact ⟨by rw [← HV.out]; rfl, hb.trans (hb2.mono hb.size)⟩
  have l1 : ((l : Int) == 0) = false := by simp; omega
  by_cases l2 : l = 1
  · subst l2
    clear hS HE hU c1 c2 c3 c4 hm hm2 c5 hd2
    go_enter Tryd.func40, Tryd.ntmps40
    go_wp2_with (go_at_call 58; first | (clear m0; refine HI.mono ?_; clear HI; rintro e w1 ⟨rfl, hb⟩) | (refine (HJ.out _ hb).mono ?_; rintro e w2 ⟨rfl, hb2⟩))
    go_ret
    exact ⟨by rw [← HV.out]; rfl, hb.trans (hb2.mono hb.size)⟩
  have l3 : ((l : Int) == 1) = false := by simp; omega
  clear hS HE hU c1 c2 c3 c4 hm hm2 c5 hd2
  go_enter Tryd.func40, Tryd.ntmps40
  go_wp2_with (go_at_call 58; first | (clear m0; refine HI.mono ?_; clear HI; rintro e w1 ⟨rfl, hb⟩) | (refine (HJ.out _ hb).mono ?_; rintro e w2 ⟨rfl, hb2⟩))
  go_ret
  exact ⟨by rw [← HV.out]; rfl, hb.trans (hb2.mono hb.size)⟩
/-- The text of a repeat. -/
def repB (l : Nat) (m : Int) (lz : Bool) : List UInt8 := if lz then bndB l m ++ [63] else bndB l m
theorem bnd_len (l : Nat) (m : Int) (hl : l ≤ 1000) (hm : m ≤ 1000) : (bndB l m).length ≤ 12 := by
  have h1 := dec_len l hl
  have h2 := dec_len m.toNat (by omega)
  unfold bndB
  repeat' split
  all_goals simp
  all_goals omega
set_option maxRecDepth 20000 in
set_option maxHeartbeats 2000000 in
theorem repeatText_any (k : Int) (b a0 a1 a2 a3 : Nat) (nt : Bool) (l : Nat) (m : Int) (lz : Bool) (t : Int) (hl : l ≤ 1000) (hm : m = -1 ∨ ((l : Int) ≤ m ∧ m ≤ 1000)) (w : World) (hT : Pow w) : Calls Tryd.prog 24 #[tokI k b a0 a1 a2 a3 nt (l : Nat) m lz t] w (RetS w (repB l m lz)) := by
  have hB : Below w.heap.size w (w.alloc (.cells #[.int .i64 k, .int .u8 (b : Nat), .int .u64 (a0 : Nat), .int .u64 (a1 : Nat), .int .u64 (a2 : Nat), .int .u64 (a3 : Nat), .bool nt, .int .i64 (l : Nat), .int .i64 m, .bool lz, .int .i64 t] 26)) := (Below.refl _ _).alloc (Nat.le_refl _) _
  have HI := bounds_any l m hl hm _ (hT.below hB)
  have hk := Cl.new w 26 [.int .i64 k, .int .u8 (b : Nat), .int .u64 (a0 : Nat), .int .u64 (a1 : Nat), .int .u64 (a2 : Nat), .int .u64 (a3 : Nat), .bool nt, .int .i64 (l : Nat), .int .i64 m, .bool lz, .int .i64 t]
  have hd := bnd_len l m hl (by omega)
  have hs1 : (⟨#[63]⟩ : ByteArray).size = 1 := rfl
  obtain ⟨S, hS⟩ : ∃ S : ByteArray, S = ⟨(bndB l m).toArray⟩ := ⟨_, rfl⟩
  have hsz : S.size ≤ 12 := by rw [hS, size_str]; exact hd
  unfold RetS at HI
  rw [← hS] at HI
  unfold tokI
  cases lz with
  | true =>
    have HV : Hid (S ++ (⟨#[63]⟩ : ByteArray) = ⟨(repB l m true).toArray⟩) := by
      show S ++ (⟨#[63]⟩ : ByteArray) = ⟨(repB l m true).toArray⟩
      unfold repB
      rw [if_pos rfl, hS, ← str_app]
    clear hS hm hd
    go_enter Tryd.func24, Tryd.ntmps24
    go_wp2_with (go_at_call 40; refine HI.mono ?_; rintro e w1 ⟨rfl, hb⟩; obtain ⟨x0, x1, x2, x3, x4, x5, x6, x7, x8, x9, x10⟩ := (hk.below hb).eleven.1)
    go_ret
    exact ⟨by rw [← HV.out]; rfl, hB.trans (hb.mono hB.size)⟩
  | false =>
    have HV : Hid (S = ⟨(repB l m false).toArray⟩) := by
      show S = ⟨(repB l m false).toArray⟩
      unfold repB
      rw [if_neg (by simp), hS]
    clear hS hm hd
    go_enter Tryd.func24, Tryd.ntmps24
    go_wp2_with (go_at_call 40; refine HI.mono ?_; rintro e w1 ⟨rfl, hb⟩; obtain ⟨x0, x1, x2, x3, x4, x5, x6, x7, x8, x9, x10⟩ := (hk.below hb).eleven.1)
    go_ret
    exact ⟨by rw [← HV.out]; rfl, hB.trans (hb.mono hB.size)⟩
end Go.Proofs.YtkbeiadbolihiaaDoor
