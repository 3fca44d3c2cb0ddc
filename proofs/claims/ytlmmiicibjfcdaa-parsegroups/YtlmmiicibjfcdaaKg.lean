/- token: mayClass, unit's byte, bytesOf: the walks. -/
import Derived.Test.YtlmmiicibjfcdaaKf
import Derived.ChangeKeysEq
namespace Go.Proofs.Ytlmmiicibjfcdaa
open Go.RowKit
theorem neq4 (a b c d a' b' c' d' : Int) (w : World) : (Go.binOp .neq 40 (.agg #[.int .u64 a, .int .u64 b, .int .u64 c, .int .u64 d]) (.agg #[.int .u64 a', .int .u64 b', .int .u64 c', .int .u64 d'])).run Try.prog w = .ok (.bool (!(a == a' && b == b' && c == c' && d == d'))) w := by
  obtain ⟨j, hj, _⟩ := Option.map_eq_some_iff.1 (show (Try.prog.info? 38).map (·.size) = some 1 by kernel_rfl)
  have h : (Op.equalIn (9999 + 1) 40 (.agg #[.int .u64 a, .int .u64 b, .int .u64 c, .int .u64 d]) (.agg #[.int .u64 a', .int .u64 b', .int .u64 c', .int .u64 d'])).run Try.prog w = .ok (a == a' && b == b' && c == c' && d == d') w := by
    rw [run_equalIn_array w 9999 _ _ Try.underlying40 hj, show List.range 4 = [0, 1, 2, 3] from rfl]
    simp only [Op.eqItems, Sem.run_bind, part0, Result.andThen_ok, eq24 9998]
    cases a == a'
    · simp only [Bool.not_false, if_true, Sem.run_pure, Bool.false_and]
    simp only [Bool.not_true, Bool.false_eq_true, if_false, Sem.run_bind, part1, Result.andThen_ok, eq24 9998, Bool.true_and]
    cases b == b'
    · simp only [Bool.not_false, if_true, Sem.run_pure, Bool.false_and]
    simp only [Bool.not_true, Bool.false_eq_true, if_false, Sem.run_bind, part2, Result.andThen_ok, eq24 9998, Bool.true_and]
    cases c == c'
    · simp only [Bool.not_false, if_true, Sem.run_pure, Bool.false_and]
    simp only [Bool.not_true, Bool.false_eq_true, if_false, Sem.run_bind, part3, Result.andThen_ok, eq24 9998, Bool.true_and]
    cases d == d'
    · simp only [Bool.not_false, if_true, Sem.run_pure]
    simp only [Bool.not_true, Bool.false_eq_true, if_false, Sem.run_pure]
  simp only [binOp]
  simp only [Op.equal, Op.maxDepth, Sem.run_bind, h, Result.andThen_ok]
  simp
theorem bel_drewN (w : World) (q : Nat) : Below w.heap.size w (w.drewN q) := by
  induction q with
  | zero => exact Below.refl _ _
  | succ q ih => exact ih.drew
/-- Whether a class may be. -/
def mayP (P : Nat → Bool) (not : Bool) : Bool := !eqC P (fun _ => false) && !(not && eqC P (fun _ => true))
def RetB (w : World) (v : Bool) (e : Ending) (w' : World) : Prop := e = .returned (.bool v) ∧ Below w.heap.size w w'
set_option maxRecDepth 100000 in
set_option maxHeartbeats 2000000 in
theorem mayClass_c {P : Nat → Bool} {a b c d : Nat} (h4 : C4 P a b c d) (not : Bool) (w : World) : Calls Try.prog 63 #[.agg #[.int .u64 (a : Nat), .int .u64 (b : Nat), .int .u64 (c : Nat), .int .u64 (d : Nat)], .bool not] w (RetB w (mayP P not)) := by
  have hB0 : Below w.heap.size w (w.alloc (.cells #[.int .u64 (a : Nat), .int .u64 (b : Nat), .int .u64 (c : Nat), .int .u64 (d : Nat)] 40)) := (Below.refl _ _).alloc (Nat.le_refl _) _
  have hx := (Bx.new w (.int .u64 (a : Nat)) (.int .u64 (b : Nat)) (.int .u64 (c : Nat)) (.int .u64 (d : Nat))).drew
  obtain ⟨c0, c1, c2, c3, _⟩ := hx.cells
  have hc : (w.alloc (.cells #[.int .u64 (a : Nat), .int .u64 (b : Nat), .int .u64 (c : Nat), .int .u64 (d : Nat)] 40)).drew.cell? ⟨w.heap.size, 0, none⟩ = some (.int .u64 (a : Nat)) ∧ (w.alloc (.cells #[.int .u64 (a : Nat), .int .u64 (b : Nat), .int .u64 (c : Nat), .int .u64 (d : Nat)] 40)).drew.cell? ⟨w.heap.size, 1, none⟩ = some (.int .u64 (b : Nat)) ∧ (w.alloc (.cells #[.int .u64 (a : Nat), .int .u64 (b : Nat), .int .u64 (c : Nat), .int .u64 (d : Nat)] 40)).drew.cell? ⟨w.heap.size, 2, none⟩ = some (.int .u64 (c : Nat)) ∧ (w.alloc (.cells #[.int .u64 (a : Nat), .int .u64 (b : Nat), .int .u64 (c : Nat), .int .u64 (d : Nat)] 40)).drew.cell? ⟨w.heap.size, 3, none⟩ = some (.int .u64 (d : Nat)) := ⟨c0, c1, c2, c3⟩
  have hne : ∀ W, (Go.binOp .neq 40 (.agg #[.int .u64 (a : Nat), .int .u64 (b : Nat), .int .u64 (c : Nat), .int .u64 (d : Nat)]) (.agg #[.int .u64 0, .int .u64 0, .int .u64 0, .int .u64 0])).run Try.prog W = .ok (.bool (!eqC P fun _ => false)) W := fun W => by
    have := neq4 (a : Int) (b : Int) (c : Int) (d : Int) 0 0 0 0 W
    rw [show (0 : Int) = ((0 : Nat) : Int) from rfl, eq4_iff h4 c4_none] at this
    exact this
  have hfull := full_any
  have HB0 : Hid (Below w.heap.size w (w.alloc (.cells #[.int .u64 (a : Nat), .int .u64 (b : Nat), .int .u64 (c : Nat), .int .u64 (d : Nat)] 40)).drew) := hB0.drew
  have HQ : Hid (∀ q, Below w.heap.size w ((w.alloc (.cells #[.int .u64 (a : Nat), .int .u64 (b : Nat), .int .u64 (c : Nat), .int .u64 (d : Nat)] 40)).drewN q)) := fun q => hB0.trans ((bel_drewN _ q).mono hB0.size)
  clear hB0 hx c0 c1 c2 c3
  have HV : Hid (∀ x : Bool, mayP P not = x → ∀ e w', RetB w x e w' → RetB w (mayP P not) e w') := fun x hx e w' h => by rw [hx]; exact h
  cases h0 : eqC P fun _ => false with
  | true =>
    rw [h0] at hne
    have HM : Hid (mayP P not = false) := by show mayP P not = false; unfold mayP; rw [h0]; rfl
    clear h0
    go_enter Try.func63, Try.ntmps63
    go_wp2_with fail
    go_quiet (fail)
    go_wp2
    go_ret
    exact HV.out _ HM.out _ _ ⟨rfl, HQ.out _⟩
  | false =>
    rw [h0] at hne
    cases not with
    | false =>
      have HM : Hid (mayP P false = true) := by show mayP P false = true; unfold mayP; rw [h0]; rfl
      clear h0
      go_enter Try.func63, Try.ntmps63
      go_wp2_with fail
      go_quiet (fail)
      go_wp2
      go_ret
      exact HV.out _ HM.out _ _ ⟨rfl, HQ.out _⟩
    | true =>
      have HM : Hid (mayP P true = !(eqC P fun _ => true)) := by show mayP P true = _; unfold mayP; rw [h0]; rfl
      have hfl : Hid (∀ W, Calls Try.prog 56 #[] W fun e w' => ∃ a' b' c' d' : Nat, e = .returned (.agg #[.int .u64 (a' : Nat), .int .u64 (b' : Nat), .int .u64 (c' : Nat), .int .u64 (d' : Nat)]) ∧ (∀ W, (Go.binOp .eql 40 (.agg #[.int .u64 (a : Nat), .int .u64 (b : Nat), .int .u64 (c : Nat), .int .u64 (d : Nat)]) (.agg #[.int .u64 (a' : Nat), .int .u64 (b' : Nat), .int .u64 (c' : Nat), .int .u64 (d' : Nat)])).run Try.prog W = .ok (.bool (eqC P fun _ => true)) W) ∧ Below W.heap.size W w') := fun W => (hfull W).mono fun e w' ⟨⟨a', b', c', d', he, k4⟩, hb⟩ => ⟨a', b', c', d', he, fun W => by rw [eql4, eq4_iff h4 k4], hb⟩
      generalize (eqC P fun _ => true) = y at *
      clear h0 hfull
      go_enter Try.func63, Try.ntmps63
      go_wp2_with fail
      go_region_held3 (fun w' => w'.cell? ⟨w.heap.size, 0, none⟩ = some (.int .u64 (a : Nat)) ∧ w'.cell? ⟨w.heap.size, 1, none⟩ = some (.int .u64 (b : Nat)) ∧ w'.cell? ⟨w.heap.size, 2, none⟩ = some (.int .u64 (c : Nat)) ∧ w'.cell? ⟨w.heap.size, 3, none⟩ = some (.int .u64 (d : Nat))) (exact hc)
        (first | (go_at_call 56; refine (hfl.out _).mono ?_; rintro e w1 ⟨a', b', c', d', rfl, hq, hb⟩; replace hc : w1.cell? ⟨w.heap.size, 0, none⟩ = some (.int .u64 (a : Nat)) ∧ w1.cell? ⟨w.heap.size, 1, none⟩ = some (.int .u64 (b : Nat)) ∧ w1.cell? ⟨w.heap.size, 2, none⟩ = some (.int .u64 (c : Nat)) ∧ w1.cell? ⟨w.heap.size, 3, none⟩ = some (.int .u64 (d : Nat)) := ⟨by rw [hb.cell (p := ⟨w.heap.size, 0, none⟩) (by simp)]; exact hc.1, by rw [hb.cell (p := ⟨w.heap.size, 1, none⟩) (by simp)]; exact hc.2.1, by rw [hb.cell (p := ⟨w.heap.size, 2, none⟩) (by simp)]; exact hc.2.2.1, by rw [hb.cell (p := ⟨w.heap.size, 3, none⟩) (by simp)]; exact hc.2.2.2⟩; have HB1 : Hid (Below w.heap.size w w1) := HB0.out.trans (hb.mono HB0.out.size); clear hb))
      all_goals
        go_wp2
        go_ret
        exact HV.out _ HM.out _ _ ⟨rfl, HB1.out⟩
end Go.Proofs.Ytlmmiicibjfcdaa
