/- token: mayClass, unit's byte, bytesOf: the walks. token: Check: the walk. -/
import Derived.Test.YtkbeiadbolihiaaDoorM09Kf
import Derived.ChangeKeysEq
import Derived.Test.YtkbeiadbolihiaaDoorM04Ru
namespace Go.Proofs.YtkbeiadbolihiaaDoor
open Go.RowKit
theorem neq4 (a b c d a' b' c' d' : Int) (w : World) : (Go.binOp .neq 24 (.agg #[.int .u64 a, .int .u64 b, .int .u64 c, .int .u64 d]) (.agg #[.int .u64 a', .int .u64 b', .int .u64 c', .int .u64 d'])).run Tryd.prog w = .ok (.bool (!(a == a' && b == b' && c == c' && d == d'))) w := by
  obtain ⟨j, hj, _⟩ := Option.map_eq_some_iff.1 (show (Tryd.prog.info? 22).map (·.size) = some 1 by kernel_rfl)
  have h : (Op.equalIn (9999 + 1) 24 (.agg #[.int .u64 a, .int .u64 b, .int .u64 c, .int .u64 d]) (.agg #[.int .u64 a', .int .u64 b', .int .u64 c', .int .u64 d'])).run Tryd.prog w = .ok (a == a' && b == b' && c == c' && d == d') w := by
    rw [run_equalIn_array w 9999 _ _ Tryd.underlying24 hj, show List.range 4 = [0, 1, 2, 3] from rfl]
    simp only [Op.eqItems, Sem.run_bind, part0, Result.andThen_ok, eq24 9998]
    cases a == a'
    · simp only [Bool.not_false, if_true, Sem.run_pure, Bool.false_and]
    simp only [Bool.not_true, Bool.false_eq_true, if_false, Sem.run_bind, part1, Result.andThen_ok, eq24 9998, Bool.true_and]
    cases b == b'
    · simp only [Bool.not_false, if_true, Sem.run_pure, Bool.false_and]
    simp only [Bool.not_true, Bool.false_eq_true, if_false, Sem.run_bind, part2, Result.andThen_ok, eq24 9998, Bool.true_and]
    cases c == c'
    · simp only [Bool.not_false, if_true, Sem.run_pure, Bool.false_and]
    simp only [Bool.not_true, Bool.false_eq_true, if_false, Sem.run_bind, part3, Result.andThen_ok, eq24 9998, Bool.true_and]
    cases d == d'
    · simp only [Bool.not_false, if_true, Sem.run_pure]
    simp only [Bool.not_true, Bool.false_eq_true, if_false, Sem.run_pure]
  simp only [binOp]
  simp only [Op.equal, Op.maxDepth, Sem.run_bind, h, Result.andThen_ok]
  simp
theorem bel_drewN (w : World) (q : Nat) : Below w.heap.size w (w.drewN q) := by
  induction q with
  | zero => exact Below.refl _ _
  | succ q ih => exact ih.drew
/-- Whether a class may be. -/
def mayP (P : Nat → Bool) (not : Bool) : Bool := !eqC P (fun _ => false) && !(not && eqC P (fun _ => true))
def RetB (w : World) (v : Bool) (e : Ending) (w' : World) : Prop := e = .returned (.bool v) ∧ Below w.heap.size w w'
set_option maxRecDepth 100000 in
set_option maxHeartbeats 2000000 in
theorem mayClass_c {P : Nat → Bool} {a b c d : Nat} (h4 : C4 P a b c d) (not : Bool) (w : World) : Calls Tryd.prog 19 #[.agg #[.int .u64 (a : Nat), .int .u64 (b : Nat), .int .u64 (c : Nat), .int .u64 (d : Nat)], .bool not] w (RetB w (mayP P not)) := by
  have hB0 : Below w.heap.size w (w.alloc (.cells #[.int .u64 (a : Nat), .int .u64 (b : Nat), .int .u64 (c : Nat), .int .u64 (d : Nat)] 24)) := (Below.refl _ _).alloc (Nat.le_refl _) _
  have hx := (Bx.new w (.int .u64 (a : Nat)) (.int .u64 (b : Nat)) (.int .u64 (c : Nat)) (.int .u64 (d : Nat))).drew
  obtain ⟨c0, c1, c2, c3, _⟩ := hx.cells
  have hc : (w.alloc (.cells #[.int .u64 (a : Nat), .int .u64 (b : Nat), .int .u64 (c : Nat), .int .u64 (d : Nat)] 24)).drew.cell? ⟨w.heap.size, 0, none⟩ = some (.int .u64 (a : Nat)) ∧ (w.alloc (.cells #[.int .u64 (a : Nat), .int .u64 (b : Nat), .int .u64 (c : Nat), .int .u64 (d : Nat)] 24)).drew.cell? ⟨w.heap.size, 1, none⟩ = some (.int .u64 (b : Nat)) ∧ (w.alloc (.cells #[.int .u64 (a : Nat), .int .u64 (b : Nat), .int .u64 (c : Nat), .int .u64 (d : Nat)] 24)).drew.cell? ⟨w.heap.size, 2, none⟩ = some (.int .u64 (c : Nat)) ∧ (w.alloc (.cells #[.int .u64 (a : Nat), .int .u64 (b : Nat), .int .u64 (c : Nat), .int .u64 (d : Nat)] 24)).drew.cell? ⟨w.heap.size, 3, none⟩ = some (.int .u64 (d : Nat)) := ⟨c0, c1, c2, c3⟩
  have hne : ∀ W, (Go.binOp .neq 24 (.agg #[.int .u64 (a : Nat), .int .u64 (b : Nat), .int .u64 (c : Nat), .int .u64 (d : Nat)]) (.agg #[.int .u64 0, .int .u64 0, .int .u64 0, .int .u64 0])).run Tryd.prog W = .ok (.bool (!eqC P fun _ => false)) W := fun W => by
    have := neq4 (a : Int) (b : Int) (c : Int) (d : Int) 0 0 0 0 W
    rw [show (0 : Int) = ((0 : Nat) : Int) from rfl, eq4_iff h4 c4_none] at this
    exact this
  have hfull := full_any
  have HB0 : Hid (Below w.heap.size w (w.alloc (.cells #[.int .u64 (a : Nat), .int .u64 (b : Nat), .int .u64 (c : Nat), .int .u64 (d : Nat)] 24)).drew) := hB0.drew
  have HQ : Hid (∀ q, Below w.heap.size w ((w.alloc (.cells #[.int .u64 (a : Nat), .int .u64 (b : Nat), .int .u64 (c : Nat), .int .u64 (d : Nat)] 24)).drewN q)) := fun q => hB0.trans ((bel_drewN _ q).mono hB0.size)
  clear hB0 hx c0 c1 c2 c3
  have HV : Hid (∀ x : Bool, mayP P not = x → ∀ e w', RetB w x e w' → RetB w (mayP P not) e w') := fun x hx e w' h => by rw [hx]; exact h
  cases h0 : eqC P fun _ => false with
  | true =>
    rw [h0] at hne
    have HM : Hid (mayP P not = false) := by show mayP P not = false; unfold mayP; rw [h0]; rfl
    clear h0
    go_enter Tryd.func19, Tryd.ntmps19
    go_wp2_with fail
    go_quiet (fail)
    go_wp2
    go_ret
    exact HV.out _ HM.out _ _ ⟨rfl, HQ.out _⟩
  | false =>
    rw [h0] at hne
    cases not with
    | false =>
      have HM : Hid (mayP P false = true) := by show mayP P false = true; unfold mayP; rw [h0]; rfl
      clear h0
      go_enter Tryd.func19, Tryd.ntmps19
      go_wp2_with fail
      go_quiet (fail)
      go_wp2
      go_ret
      exact HV.out _ HM.out _ _ ⟨rfl, HQ.out _⟩
    | true =>
      have HM : Hid (mayP P true = !(eqC P fun _ => true)) := by show mayP P true = _; unfold mayP; rw [h0]; rfl
      have hfl : Hid (∀ W, Calls Tryd.prog 31 #[] W fun e w' => ∃ a' b' c' d' : Nat, e = .returned (.agg #[.int .u64 (a' : Nat), .int .u64 (b' : Nat), .int .u64 (c' : Nat), .int .u64 (d' : Nat)]) ∧ (∀ W, (Go.binOp .eql 24 (.agg #[.int .u64 (a : Nat), .int .u64 (b : Nat), .int .u64 (c : Nat), .int .u64 (d : Nat)]) (.agg #[.int .u64 (a' : Nat), .int .u64 (b' : Nat), .int .u64 (c' : Nat), .int .u64 (d' : Nat)])).run Tryd.prog W = .ok (.bool (eqC P fun _ => true)) W) ∧ Below W.heap.size W w') := fun W => (hfull W).mono fun e w' ⟨⟨a', b', c', d', he, k4⟩, hb⟩ => ⟨a', b', c', d', he, fun W => by rw [eql4, eq4_iff h4 k4], hb⟩
      generalize (eqC P fun _ => true) = y at *
      clear h0 hfull
      go_enter Tryd.func19, Tryd.ntmps19
      go_wp2_with fail
      go_region_held3 (fun w' => w'.cell? ⟨w.heap.size, 0, none⟩ = some (.int .u64 (a : Nat)) ∧ w'.cell? ⟨w.heap.size, 1, none⟩ = some (.int .u64 (b : Nat)) ∧ w'.cell? ⟨w.heap.size, 2, none⟩ = some (.int .u64 (c : Nat)) ∧ w'.cell? ⟨w.heap.size, 3, none⟩ = some (.int .u64 (d : Nat))) (exact hc)
        (first | (go_at_call 31; refine (hfl.out _).mono ?_; rintro e w1 ⟨a', b', c', d', rfl, hq, hb⟩; replace hc : w1.cell? ⟨w.heap.size, 0, none⟩ = some (.int .u64 (a : Nat)) ∧ w1.cell? ⟨w.heap.size, 1, none⟩ = some (.int .u64 (b : Nat)) ∧ w1.cell? ⟨w.heap.size, 2, none⟩ = some (.int .u64 (c : Nat)) ∧ w1.cell? ⟨w.heap.size, 3, none⟩ = some (.int .u64 (d : Nat)) := ⟨by rw [hb.cell (p := ⟨w.heap.size, 0, none⟩) (by simp)]; exact hc.1, by rw [hb.cell (p := ⟨w.heap.size, 1, none⟩) (by simp)]; exact hc.2.1, by rw [hb.cell (p := ⟨w.heap.size, 2, none⟩) (by simp)]; exact hc.2.2.1, by rw [hb.cell (p := ⟨w.heap.size, 3, none⟩) (by simp)]; exact hc.2.2.2⟩; have HB1 : Hid (Below w.heap.size w w1) := HB0.out.trans (hb.mono HB0.out.size); clear hb))
      all_goals
        go_wp2
        go_ret
        exact HV.out _ HM.out _ _ ⟨rfl, HB1.out⟩
end Go.Proofs.YtkbeiadbolihiaaDoor
namespace Go.Proofs.YtkbeiadbolihiaaDoor
open Go.RowKit
section
variable (k : Int) (b a0 a1 a2 a3 : Nat) (nt : Bool) (l m : Int) (lz : Bool) (t : Int) (k' : Int) (b' a0' a1' a2' a3' : Nat) (nt' : Bool) (l' m' : Int) (lz' : Bool) (t' : Int) (w : World)
theorem run_eql26 : (Go.binOp BinOp.eql 26 (.agg #[.int .i64 k, .int .u8 (b : Nat), .int .u64 (a0 : Nat), .int .u64 (a1 : Nat), .int .u64 (a2 : Nat), .int .u64 (a3 : Nat), .bool nt, .int .i64 l, .int .i64 m, .bool lz, .int .i64 t]) (.agg #[.int .i64 k', .int .u8 (b' : Nat), .int .u64 (a0' : Nat), .int .u64 (a1' : Nat), .int .u64 (a2' : Nat), .int .u64 (a3' : Nat), .bool nt', .int .i64 l', .int .i64 m', .bool lz', .int .i64 t'])).run Tryd.prog w = .ok (.bool (eqT k b a0 a1 a2 a3 nt l m lz t k' b' a0' a1' a2' a3' nt' l' m' lz' t')) w := by
  have h := equal26 k b a0 a1 a2 a3 nt l m lz t k' b' a0' a1' a2' a3' nt' l' m' lz' t' w
  unfold tokI at h
  simp only [binOp]
  simp only [Sem.run_bind, h, Result.andThen_ok, Sem.run_pure]
theorem run_neq26 : (Go.binOp BinOp.neq 26 (.agg #[.int .i64 k, .int .u8 (b : Nat), .int .u64 (a0 : Nat), .int .u64 (a1 : Nat), .int .u64 (a2 : Nat), .int .u64 (a3 : Nat), .bool nt, .int .i64 l, .int .i64 m, .bool lz, .int .i64 t]) (.agg #[.int .i64 k', .int .u8 (b' : Nat), .int .u64 (a0' : Nat), .int .u64 (a1' : Nat), .int .u64 (a2' : Nat), .int .u64 (a3' : Nat), .bool nt', .int .i64 l', .int .i64 m', .bool lz', .int .i64 t'])).run Tryd.prog w = .ok (.bool (!eqT k b a0 a1 a2 a3 nt l m lz t k' b' a0' a1' a2' a3' nt' l' m' lz' t')) w := by
  have h := equal26 k b a0 a1 a2 a3 nt l m lz t k' b' a0' a1' a2' a3' nt' l' m' lz' t' w
  unfold tokI at h
  simp only [binOp]
  simp only [Sem.run_bind, h, Result.andThen_ok, Sem.run_pure]
end
def RetN (w : World) (v : Int) (e : Ending) (w' : World) : Prop := e = .returned (.int .i64 v) ∧ Below w.heap.size w w'
/-- What Check answers of a token that may be, and of one that may not. -/
def erV (x : Bool) : Int := if x then 0 else 45
set_option maxRecDepth 20000 in
set_option maxHeartbeats 1000000 in
theorem check_1 (b a0 a1 a2 a3 : Nat) (nt : Bool) (l m : Int) (lz : Bool) (t : Int) (w : World) : Calls Tryd.prog 8 #[tokI 1 b a0 a1 a2 a3 nt l m lz t] w (RetN w (erV (decide (0 ≤ t) && eqT 1 b a0 a1 a2 a3 nt l m lz t 1 b 0 0 0 0 false 0 0 false t))) := by
  have hB := below2 w (.cells #[.int .i64 1, .int .u8 (b : Nat), .int .u64 (a0 : Nat), .int .u64 (a1 : Nat), .int .u64 (a2 : Nat), .int .u64 (a3 : Nat), .bool nt, .int .i64 l, .int .i64 m, .bool lz, .int .i64 t] 26) (.cells #[.int .i64 1, .int .u8 (b : Nat), .int .u64 0, .int .u64 0, .int .u64 0, .int .u64 0, .bool false, .int .i64 0, .int .i64 0, .bool false, .int .i64 t] 26)
  unfold tokI
  by_cases ht : 0 ≤ t
  · have hge : t ≥ 0 := ht
    rw [decide_eq_true ht, Bool.true_and]
    cases hq : eqT 1 b a0 a1 a2 a3 nt l m lz t 1 b 0 0 0 0 false 0 0 false t with
    | true =>
      have hn : ∀ w, (Go.binOp BinOp.neq 26 (.agg #[.int .i64 1, .int .u8 (b : Nat), .int .u64 (a0 : Nat), .int .u64 (a1 : Nat), .int .u64 (a2 : Nat), .int .u64 (a3 : Nat), .bool nt, .int .i64 l, .int .i64 m, .bool lz, .int .i64 t]) (.agg #[.int .i64 1, .int .u8 (b : Nat), .int .u64 0, .int .u64 0, .int .u64 0, .int .u64 0, .bool false, .int .i64 0, .int .i64 0, .bool false, .int .i64 t])).run Tryd.prog w = .ok (.bool false) w := fun w => by
        have h := run_neq26 1 b a0 a1 a2 a3 nt l m lz t 1 b 0 0 0 0 false 0 0 false t w
        rw [hq] at h
        exact h
      clear hq
      go_enter Tryd.func8, Tryd.ntmps8
      go_wp2
      go_ret
      exact ⟨rfl, hB⟩
    | false =>
      have hn : ∀ w, (Go.binOp BinOp.neq 26 (.agg #[.int .i64 1, .int .u8 (b : Nat), .int .u64 (a0 : Nat), .int .u64 (a1 : Nat), .int .u64 (a2 : Nat), .int .u64 (a3 : Nat), .bool nt, .int .i64 l, .int .i64 m, .bool lz, .int .i64 t]) (.agg #[.int .i64 1, .int .u8 (b : Nat), .int .u64 0, .int .u64 0, .int .u64 0, .int .u64 0, .bool false, .int .i64 0, .int .i64 0, .bool false, .int .i64 t])).run Tryd.prog w = .ok (.bool true) w := fun w => by
        have h := run_neq26 1 b a0 a1 a2 a3 nt l m lz t 1 b 0 0 0 0 false 0 0 false t w
        rw [hq] at h
        exact h
      clear hq
      go_enter Tryd.func8, Tryd.ntmps8
      go_wp2
      go_ret
      exact ⟨rfl, hB⟩
  · have hge : ¬ t ≥ 0 := by omega
    rw [decide_eq_false ht, Bool.false_and]
    go_enter Tryd.func8, Tryd.ntmps8
    go_wp2
    go_ret
    exact ⟨rfl, hB⟩
set_option maxRecDepth 20000 in
set_option maxHeartbeats 1000000 in
theorem check_3 (b a0 a1 a2 a3 : Nat) (nt : Bool) (l m : Int) (lz : Bool) (t : Int) (w : World) : Calls Tryd.prog 8 #[tokI 3 b a0 a1 a2 a3 nt l m lz t] w (RetN w (erV (decide (0 ≤ t) && eqT 3 b a0 a1 a2 a3 nt l m lz t 3 0 0 0 0 0 false 0 0 false t))) := by
  have hB := below2 w (.cells #[.int .i64 3, .int .u8 (b : Nat), .int .u64 (a0 : Nat), .int .u64 (a1 : Nat), .int .u64 (a2 : Nat), .int .u64 (a3 : Nat), .bool nt, .int .i64 l, .int .i64 m, .bool lz, .int .i64 t] 26) (.cells #[.int .i64 3, .int .u8 0, .int .u64 0, .int .u64 0, .int .u64 0, .int .u64 0, .bool false, .int .i64 0, .int .i64 0, .bool false, .int .i64 t] 26)
  unfold tokI
  by_cases ht : 0 ≤ t
  · have hge : t ≥ 0 := ht
    rw [decide_eq_true ht, Bool.true_and]
    cases hq : eqT 3 b a0 a1 a2 a3 nt l m lz t 3 0 0 0 0 0 false 0 0 false t with
    | true =>
      have hn : ∀ w, (Go.binOp BinOp.neq 26 (.agg #[.int .i64 3, .int .u8 (b : Nat), .int .u64 (a0 : Nat), .int .u64 (a1 : Nat), .int .u64 (a2 : Nat), .int .u64 (a3 : Nat), .bool nt, .int .i64 l, .int .i64 m, .bool lz, .int .i64 t]) (.agg #[.int .i64 3, .int .u8 0, .int .u64 0, .int .u64 0, .int .u64 0, .int .u64 0, .bool false, .int .i64 0, .int .i64 0, .bool false, .int .i64 t])).run Tryd.prog w = .ok (.bool false) w := fun w => by
        have h := run_neq26 3 b a0 a1 a2 a3 nt l m lz t 3 0 0 0 0 0 false 0 0 false t w
        rw [hq] at h
        exact h
      clear hq
      go_enter Tryd.func8, Tryd.ntmps8
      go_wp2
      go_ret
      exact ⟨rfl, hB⟩
    | false =>
      have hn : ∀ w, (Go.binOp BinOp.neq 26 (.agg #[.int .i64 3, .int .u8 (b : Nat), .int .u64 (a0 : Nat), .int .u64 (a1 : Nat), .int .u64 (a2 : Nat), .int .u64 (a3 : Nat), .bool nt, .int .i64 l, .int .i64 m, .bool lz, .int .i64 t]) (.agg #[.int .i64 3, .int .u8 0, .int .u64 0, .int .u64 0, .int .u64 0, .int .u64 0, .bool false, .int .i64 0, .int .i64 0, .bool false, .int .i64 t])).run Tryd.prog w = .ok (.bool true) w := fun w => by
        have h := run_neq26 3 b a0 a1 a2 a3 nt l m lz t 3 0 0 0 0 0 false 0 0 false t w
        rw [hq] at h
        exact h
      clear hq
      go_enter Tryd.func8, Tryd.ntmps8
      go_wp2
      go_ret
      exact ⟨rfl, hB⟩
  · have hge : ¬ t ≥ 0 := by omega
    rw [decide_eq_false ht, Bool.false_and]
    go_enter Tryd.func8, Tryd.ntmps8
    go_wp2
    go_ret
    exact ⟨rfl, hB⟩
set_option maxRecDepth 20000 in
set_option maxHeartbeats 1000000 in
theorem check_4 (b a0 a1 a2 a3 : Nat) (nt : Bool) (l m : Int) (lz : Bool) (t : Int) (w : World) : Calls Tryd.prog 8 #[tokI 4 b a0 a1 a2 a3 nt l m lz t] w (RetN w (erV (decide (0 ≤ t) && eqT 4 b a0 a1 a2 a3 nt l m lz t 4 0 0 0 0 0 false 0 0 false t))) := by
  have hB := below2 w (.cells #[.int .i64 4, .int .u8 (b : Nat), .int .u64 (a0 : Nat), .int .u64 (a1 : Nat), .int .u64 (a2 : Nat), .int .u64 (a3 : Nat), .bool nt, .int .i64 l, .int .i64 m, .bool lz, .int .i64 t] 26) (.cells #[.int .i64 4, .int .u8 0, .int .u64 0, .int .u64 0, .int .u64 0, .int .u64 0, .bool false, .int .i64 0, .int .i64 0, .bool false, .int .i64 t] 26)
  unfold tokI
  by_cases ht : 0 ≤ t
  · have hge : t ≥ 0 := ht
    rw [decide_eq_true ht, Bool.true_and]
    cases hq : eqT 4 b a0 a1 a2 a3 nt l m lz t 4 0 0 0 0 0 false 0 0 false t with
    | true =>
      have hn : ∀ w, (Go.binOp BinOp.neq 26 (.agg #[.int .i64 4, .int .u8 (b : Nat), .int .u64 (a0 : Nat), .int .u64 (a1 : Nat), .int .u64 (a2 : Nat), .int .u64 (a3 : Nat), .bool nt, .int .i64 l, .int .i64 m, .bool lz, .int .i64 t]) (.agg #[.int .i64 4, .int .u8 0, .int .u64 0, .int .u64 0, .int .u64 0, .int .u64 0, .bool false, .int .i64 0, .int .i64 0, .bool false, .int .i64 t])).run Tryd.prog w = .ok (.bool false) w := fun w => by
        have h := run_neq26 4 b a0 a1 a2 a3 nt l m lz t 4 0 0 0 0 0 false 0 0 false t w
        rw [hq] at h
        exact h
      clear hq
      go_enter Tryd.func8, Tryd.ntmps8
      go_wp2
      go_ret
      exact ⟨rfl, hB⟩
    | false =>
      have hn : ∀ w, (Go.binOp BinOp.neq 26 (.agg #[.int .i64 4, .int .u8 (b : Nat), .int .u64 (a0 : Nat), .int .u64 (a1 : Nat), .int .u64 (a2 : Nat), .int .u64 (a3 : Nat), .bool nt, .int .i64 l, .int .i64 m, .bool lz, .int .i64 t]) (.agg #[.int .i64 4, .int .u8 0, .int .u64 0, .int .u64 0, .int .u64 0, .int .u64 0, .bool false, .int .i64 0, .int .i64 0, .bool false, .int .i64 t])).run Tryd.prog w = .ok (.bool true) w := fun w => by
        have h := run_neq26 4 b a0 a1 a2 a3 nt l m lz t 4 0 0 0 0 0 false 0 0 false t w
        rw [hq] at h
        exact h
      clear hq
      go_enter Tryd.func8, Tryd.ntmps8
      go_wp2
      go_ret
      exact ⟨rfl, hB⟩
  · have hge : ¬ t ≥ 0 := by omega
    rw [decide_eq_false ht, Bool.false_and]
    go_enter Tryd.func8, Tryd.ntmps8
    go_wp2
    go_ret
    exact ⟨rfl, hB⟩
set_option maxRecDepth 20000 in
set_option maxHeartbeats 1000000 in
theorem check_5 (b a0 a1 a2 a3 : Nat) (nt : Bool) (l m : Int) (lz : Bool) (t : Int) (w : World) : Calls Tryd.prog 8 #[tokI 5 b a0 a1 a2 a3 nt l m lz t] w (RetN w (erV (decide (0 ≤ t) && eqT 5 b a0 a1 a2 a3 nt l m lz t 5 0 0 0 0 0 false 0 0 false t))) := by
  have hB := below2 w (.cells #[.int .i64 5, .int .u8 (b : Nat), .int .u64 (a0 : Nat), .int .u64 (a1 : Nat), .int .u64 (a2 : Nat), .int .u64 (a3 : Nat), .bool nt, .int .i64 l, .int .i64 m, .bool lz, .int .i64 t] 26) (.cells #[.int .i64 5, .int .u8 0, .int .u64 0, .int .u64 0, .int .u64 0, .int .u64 0, .bool false, .int .i64 0, .int .i64 0, .bool false, .int .i64 t] 26)
  unfold tokI
  by_cases ht : 0 ≤ t
  · have hge : t ≥ 0 := ht
    rw [decide_eq_true ht, Bool.true_and]
    cases hq : eqT 5 b a0 a1 a2 a3 nt l m lz t 5 0 0 0 0 0 false 0 0 false t with
    | true =>
      have hn : ∀ w, (Go.binOp BinOp.neq 26 (.agg #[.int .i64 5, .int .u8 (b : Nat), .int .u64 (a0 : Nat), .int .u64 (a1 : Nat), .int .u64 (a2 : Nat), .int .u64 (a3 : Nat), .bool nt, .int .i64 l, .int .i64 m, .bool lz, .int .i64 t]) (.agg #[.int .i64 5, .int .u8 0, .int .u64 0, .int .u64 0, .int .u64 0, .int .u64 0, .bool false, .int .i64 0, .int .i64 0, .bool false, .int .i64 t])).run Tryd.prog w = .ok (.bool false) w := fun w => by
        have h := run_neq26 5 b a0 a1 a2 a3 nt l m lz t 5 0 0 0 0 0 false 0 0 false t w
        rw [hq] at h
        exact h
      clear hq
      go_enter Tryd.func8, Tryd.ntmps8
      go_wp2
      go_ret
      exact ⟨rfl, hB⟩
    | false =>
      have hn : ∀ w, (Go.binOp BinOp.neq 26 (.agg #[.int .i64 5, .int .u8 (b : Nat), .int .u64 (a0 : Nat), .int .u64 (a1 : Nat), .int .u64 (a2 : Nat), .int .u64 (a3 : Nat), .bool nt, .int .i64 l, .int .i64 m, .bool lz, .int .i64 t]) (.agg #[.int .i64 5, .int .u8 0, .int .u64 0, .int .u64 0, .int .u64 0, .int .u64 0, .bool false, .int .i64 0, .int .i64 0, .bool false, .int .i64 t])).run Tryd.prog w = .ok (.bool true) w := fun w => by
        have h := run_neq26 5 b a0 a1 a2 a3 nt l m lz t 5 0 0 0 0 0 false 0 0 false t w
        rw [hq] at h
        exact h
      clear hq
      go_enter Tryd.func8, Tryd.ntmps8
      go_wp2
      go_ret
      exact ⟨rfl, hB⟩
  · have hge : ¬ t ≥ 0 := by omega
    rw [decide_eq_false ht, Bool.false_and]
    go_enter Tryd.func8, Tryd.ntmps8
    go_wp2
    go_ret
    exact ⟨rfl, hB⟩
set_option maxRecDepth 20000 in
set_option maxHeartbeats 1000000 in
theorem check_6 (b a0 a1 a2 a3 : Nat) (nt : Bool) (l m : Int) (lz : Bool) (t : Int) (w : World) : Calls Tryd.prog 8 #[tokI 6 b a0 a1 a2 a3 nt l m lz t] w (RetN w (erV (decide (0 ≤ t) && eqT 6 b a0 a1 a2 a3 nt l m lz t 6 0 0 0 0 0 false 0 0 false t))) := by
  have hB := below2 w (.cells #[.int .i64 6, .int .u8 (b : Nat), .int .u64 (a0 : Nat), .int .u64 (a1 : Nat), .int .u64 (a2 : Nat), .int .u64 (a3 : Nat), .bool nt, .int .i64 l, .int .i64 m, .bool lz, .int .i64 t] 26) (.cells #[.int .i64 6, .int .u8 0, .int .u64 0, .int .u64 0, .int .u64 0, .int .u64 0, .bool false, .int .i64 0, .int .i64 0, .bool false, .int .i64 t] 26)
  unfold tokI
  by_cases ht : 0 ≤ t
  · have hge : t ≥ 0 := ht
    rw [decide_eq_true ht, Bool.true_and]
    cases hq : eqT 6 b a0 a1 a2 a3 nt l m lz t 6 0 0 0 0 0 false 0 0 false t with
    | true =>
      have hn : ∀ w, (Go.binOp BinOp.neq 26 (.agg #[.int .i64 6, .int .u8 (b : Nat), .int .u64 (a0 : Nat), .int .u64 (a1 : Nat), .int .u64 (a2 : Nat), .int .u64 (a3 : Nat), .bool nt, .int .i64 l, .int .i64 m, .bool lz, .int .i64 t]) (.agg #[.int .i64 6, .int .u8 0, .int .u64 0, .int .u64 0, .int .u64 0, .int .u64 0, .bool false, .int .i64 0, .int .i64 0, .bool false, .int .i64 t])).run Tryd.prog w = .ok (.bool false) w := fun w => by
        have h := run_neq26 6 b a0 a1 a2 a3 nt l m lz t 6 0 0 0 0 0 false 0 0 false t w
        rw [hq] at h
        exact h
      clear hq
      go_enter Tryd.func8, Tryd.ntmps8
      go_wp2
      go_ret
      exact ⟨rfl, hB⟩
    | false =>
      have hn : ∀ w, (Go.binOp BinOp.neq 26 (.agg #[.int .i64 6, .int .u8 (b : Nat), .int .u64 (a0 : Nat), .int .u64 (a1 : Nat), .int .u64 (a2 : Nat), .int .u64 (a3 : Nat), .bool nt, .int .i64 l, .int .i64 m, .bool lz, .int .i64 t]) (.agg #[.int .i64 6, .int .u8 0, .int .u64 0, .int .u64 0, .int .u64 0, .int .u64 0, .bool false, .int .i64 0, .int .i64 0, .bool false, .int .i64 t])).run Tryd.prog w = .ok (.bool true) w := fun w => by
        have h := run_neq26 6 b a0 a1 a2 a3 nt l m lz t 6 0 0 0 0 0 false 0 0 false t w
        rw [hq] at h
        exact h
      clear hq
      go_enter Tryd.func8, Tryd.ntmps8
      go_wp2
      go_ret
      exact ⟨rfl, hB⟩
  · have hge : ¬ t ≥ 0 := by omega
    rw [decide_eq_false ht, Bool.false_and]
    go_enter Tryd.func8, Tryd.ntmps8
    go_wp2
    go_ret
    exact ⟨rfl, hB⟩
set_option maxRecDepth 20000 in
set_option maxHeartbeats 1000000 in
theorem check_8 (b a0 a1 a2 a3 : Nat) (nt : Bool) (l m : Int) (lz : Bool) (t : Int) (w : World) : Calls Tryd.prog 8 #[tokI 8 b a0 a1 a2 a3 nt l m lz t] w (RetN w (erV (decide (0 ≤ t) && eqT 8 b a0 a1 a2 a3 nt l m lz t 8 0 0 0 0 0 false 0 0 false t))) := by
  have hB := below2 w (.cells #[.int .i64 8, .int .u8 (b : Nat), .int .u64 (a0 : Nat), .int .u64 (a1 : Nat), .int .u64 (a2 : Nat), .int .u64 (a3 : Nat), .bool nt, .int .i64 l, .int .i64 m, .bool lz, .int .i64 t] 26) (.cells #[.int .i64 8, .int .u8 0, .int .u64 0, .int .u64 0, .int .u64 0, .int .u64 0, .bool false, .int .i64 0, .int .i64 0, .bool false, .int .i64 t] 26)
  unfold tokI
  by_cases ht : 0 ≤ t
  · have hge : t ≥ 0 := ht
    rw [decide_eq_true ht, Bool.true_and]
    cases hq : eqT 8 b a0 a1 a2 a3 nt l m lz t 8 0 0 0 0 0 false 0 0 false t with
    | true =>
      have hn : ∀ w, (Go.binOp BinOp.neq 26 (.agg #[.int .i64 8, .int .u8 (b : Nat), .int .u64 (a0 : Nat), .int .u64 (a1 : Nat), .int .u64 (a2 : Nat), .int .u64 (a3 : Nat), .bool nt, .int .i64 l, .int .i64 m, .bool lz, .int .i64 t]) (.agg #[.int .i64 8, .int .u8 0, .int .u64 0, .int .u64 0, .int .u64 0, .int .u64 0, .bool false, .int .i64 0, .int .i64 0, .bool false, .int .i64 t])).run Tryd.prog w = .ok (.bool false) w := fun w => by
        have h := run_neq26 8 b a0 a1 a2 a3 nt l m lz t 8 0 0 0 0 0 false 0 0 false t w
        rw [hq] at h
        exact h
      clear hq
      go_enter Tryd.func8, Tryd.ntmps8
      go_wp2
      go_ret
      exact ⟨rfl, hB⟩
    | false =>
      have hn : ∀ w, (Go.binOp BinOp.neq 26 (.agg #[.int .i64 8, .int .u8 (b : Nat), .int .u64 (a0 : Nat), .int .u64 (a1 : Nat), .int .u64 (a2 : Nat), .int .u64 (a3 : Nat), .bool nt, .int .i64 l, .int .i64 m, .bool lz, .int .i64 t]) (.agg #[.int .i64 8, .int .u8 0, .int .u64 0, .int .u64 0, .int .u64 0, .int .u64 0, .bool false, .int .i64 0, .int .i64 0, .bool false, .int .i64 t])).run Tryd.prog w = .ok (.bool true) w := fun w => by
        have h := run_neq26 8 b a0 a1 a2 a3 nt l m lz t 8 0 0 0 0 0 false 0 0 false t w
        rw [hq] at h
        exact h
      clear hq
      go_enter Tryd.func8, Tryd.ntmps8
      go_wp2
      go_ret
      exact ⟨rfl, hB⟩
  · have hge : ¬ t ≥ 0 := by omega
    rw [decide_eq_false ht, Bool.false_and]
    go_enter Tryd.func8, Tryd.ntmps8
    go_wp2
    go_ret
    exact ⟨rfl, hB⟩
set_option maxRecDepth 20000 in
set_option maxHeartbeats 1000000 in
theorem check_9 (b a0 a1 a2 a3 : Nat) (nt : Bool) (l m : Int) (lz : Bool) (t : Int) (w : World) : Calls Tryd.prog 8 #[tokI 9 b a0 a1 a2 a3 nt l m lz t] w (RetN w (erV (decide (0 ≤ t) && eqT 9 b a0 a1 a2 a3 nt l m lz t 9 0 0 0 0 0 false 0 0 false t))) := by
  have hB := below2 w (.cells #[.int .i64 9, .int .u8 (b : Nat), .int .u64 (a0 : Nat), .int .u64 (a1 : Nat), .int .u64 (a2 : Nat), .int .u64 (a3 : Nat), .bool nt, .int .i64 l, .int .i64 m, .bool lz, .int .i64 t] 26) (.cells #[.int .i64 9, .int .u8 0, .int .u64 0, .int .u64 0, .int .u64 0, .int .u64 0, .bool false, .int .i64 0, .int .i64 0, .bool false, .int .i64 t] 26)
  unfold tokI
  by_cases ht : 0 ≤ t
  · have hge : t ≥ 0 := ht
    rw [decide_eq_true ht, Bool.true_and]
    cases hq : eqT 9 b a0 a1 a2 a3 nt l m lz t 9 0 0 0 0 0 false 0 0 false t with
    | true =>
      have hn : ∀ w, (Go.binOp BinOp.neq 26 (.agg #[.int .i64 9, .int .u8 (b : Nat), .int .u64 (a0 : Nat), .int .u64 (a1 : Nat), .int .u64 (a2 : Nat), .int .u64 (a3 : Nat), .bool nt, .int .i64 l, .int .i64 m, .bool lz, .int .i64 t]) (.agg #[.int .i64 9, .int .u8 0, .int .u64 0, .int .u64 0, .int .u64 0, .int .u64 0, .bool false, .int .i64 0, .int .i64 0, .bool false, .int .i64 t])).run Tryd.prog w = .ok (.bool false) w := fun w => by
        have h := run_neq26 9 b a0 a1 a2 a3 nt l m lz t 9 0 0 0 0 0 false 0 0 false t w
        rw [hq] at h
        exact h
      clear hq
      go_enter Tryd.func8, Tryd.ntmps8
      go_wp2
      go_ret
      exact ⟨rfl, hB⟩
    | false =>
      have hn : ∀ w, (Go.binOp BinOp.neq 26 (.agg #[.int .i64 9, .int .u8 (b : Nat), .int .u64 (a0 : Nat), .int .u64 (a1 : Nat), .int .u64 (a2 : Nat), .int .u64 (a3 : Nat), .bool nt, .int .i64 l, .int .i64 m, .bool lz, .int .i64 t]) (.agg #[.int .i64 9, .int .u8 0, .int .u64 0, .int .u64 0, .int .u64 0, .int .u64 0, .bool false, .int .i64 0, .int .i64 0, .bool false, .int .i64 t])).run Tryd.prog w = .ok (.bool true) w := fun w => by
        have h := run_neq26 9 b a0 a1 a2 a3 nt l m lz t 9 0 0 0 0 0 false 0 0 false t w
        rw [hq] at h
        exact h
      clear hq
      go_enter Tryd.func8, Tryd.ntmps8
      go_wp2
      go_ret
      exact ⟨rfl, hB⟩
  · have hge : ¬ t ≥ 0 := by omega
    rw [decide_eq_false ht, Bool.false_and]
    go_enter Tryd.func8, Tryd.ntmps8
    go_wp2
    go_ret
    exact ⟨rfl, hB⟩
set_option maxRecDepth 20000 in
set_option maxHeartbeats 1000000 in
theorem check_other (k : Int) (hk : k < 1 ∨ 9 < k) (b a0 a1 a2 a3 : Nat) (nt : Bool) (l m : Int) (lz : Bool) (t : Int) (w : World) : Calls Tryd.prog 8 #[tokI k b a0 a1 a2 a3 nt l m lz t] w (RetN w 45) := by
  have e1 : (k == 1) = false := by simp; omega
  have e2 : (k == 2) = false := by simp; omega
  have e3 : (k == 3) = false := by simp; omega
  have e4 : (k == 4) = false := by simp; omega
  have e5 : (k == 5) = false := by simp; omega
  have e6 : (k == 6) = false := by simp; omega
  have e7 : (k == 7) = false := by simp; omega
  have e8 : (k == 8) = false := by simp; omega
  have e9 : (k == 9) = false := by simp; omega
  have hB := below2 w (.cells #[.int .i64 k, .int .u8 (b : Nat), .int .u64 (a0 : Nat), .int .u64 (a1 : Nat), .int .u64 (a2 : Nat), .int .u64 (a3 : Nat), .bool nt, .int .i64 l, .int .i64 m, .bool lz, .int .i64 t] 26) (.cells #[.int .i64 k, .int .u8 0, .int .u64 0, .int .u64 0, .int .u64 0, .int .u64 0, .bool false, .int .i64 0, .int .i64 0, .bool false, .int .i64 t] 26)
  clear hk
  unfold tokI
  by_cases ht : 0 ≤ t
  · have hge : t ≥ 0 := ht
    go_enter Tryd.func8, Tryd.ntmps8
    go_wp2
    go_ret
    exact ⟨rfl, hB⟩
  · have hge : ¬ t ≥ 0 := by omega
    go_enter Tryd.func8, Tryd.ntmps8
    go_wp2
    go_ret
    exact ⟨rfl, hB⟩
end Go.Proofs.YtkbeiadbolihiaaDoor
