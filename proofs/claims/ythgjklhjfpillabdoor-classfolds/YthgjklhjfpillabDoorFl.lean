/- ClassFolds: the walk of the law. -/
import Derived.Test.YthgjklhjfpillabDoorTi
import Derived.Test.YthgjklhjfpillabDoorBk
import Derived.Deep.RegionHeld3
namespace Go.Proofs.YthgjklhjfpillabDoor
open Go.RowKit
/-- The boxes of two classes, as they were laid. -/
structure T2 (w : World) (a b c d e f g h : Nat) (W : World) : Prop where
  bel : Below w.heap.size w W
  b0 : Bx W w.heap.size (.int .u64 (a : Nat)) (.int .u64 (b : Nat)) (.int .u64 (c : Nat)) (.int .u64 (d : Nat))
  b1 : Bx W (w.heap.size + 1) (.int .u64 (e : Nat)) (.int .u64 (f : Nat)) (.int .u64 (g : Nat)) (.int .u64 (h : Nat))
theorem T2.next {w W W' : World} {a b c d e f g h : Nat} (t : T2 w a b c d e f g h W) (hb : Below W.heap.size W W') : T2 w a b c d e f g h W' :=
  ⟨t.bel.trans (hb.mono t.bel.size), t.b0.below hb, t.b1.below hb⟩
theorem T2.start (w : World) (a b c d e f g h : Nat) : T2 w a b c d e f g h ((w.alloc (.cells #[.int .u64 (a : Nat), .int .u64 (b : Nat), .int .u64 (c : Nat), .int .u64 (d : Nat)] 24)).alloc (.cells #[.int .u64 (e : Nat), .int .u64 (f : Nat), .int .u64 (g : Nat), .int .u64 (h : Nat)] 24)) := by
  refine ⟨((Below.refl _ _).alloc (Nat.le_refl _) _).alloc (by simp) _, (Bx.new w _ _ _ _).alloc _, ?_⟩
  have := Bx.new (w.alloc (.cells #[.int .u64 (a : Nat), .int .u64 (b : Nat), .int .u64 (c : Nat), .int .u64 (d : Nat)] 24)) (.int .u64 (e : Nat)) (.int .u64 (f : Nat)) (.int .u64 (g : Nat)) (.int .u64 (h : Nat))
  simpa using this
theorem T2.cells {w W : World} {a b c d e f g h : Nat} (t : T2 w a b c d e f g h W) : W.cell? ⟨w.heap.size, 0, none⟩ = some (.int .u64 (a : Nat)) ∧ W.cell? ⟨w.heap.size, 1, none⟩ = some (.int .u64 (b : Nat)) ∧ W.cell? ⟨w.heap.size, 2, none⟩ = some (.int .u64 (c : Nat)) ∧ W.cell? ⟨w.heap.size, 3, none⟩ = some (.int .u64 (d : Nat)) ∧ W.cell? ⟨w.heap.size + 1, 0, none⟩ = some (.int .u64 (e : Nat)) ∧ W.cell? ⟨w.heap.size + 1, 1, none⟩ = some (.int .u64 (f : Nat)) ∧ W.cell? ⟨w.heap.size + 1, 2, none⟩ = some (.int .u64 (g : Nat)) ∧ W.cell? ⟨w.heap.size + 1, 3, none⟩ = some (.int .u64 (h : Nat)) := by
  obtain ⟨c0, c1, c2, c3, _⟩ := t.b0.cells
  obtain ⟨c4, c5, c6, c7, _⟩ := t.b1.cells
  exact ⟨c0, c1, c2, c3, c4, c5, c6, c7⟩
theorem T2.cellsA {w W : World} {a b c d e f g h : Nat} (t : T2 w a b c d e f g h W) (o : Obj) : (W.alloc o).cell? ⟨w.heap.size, 0, none⟩ = some (.int .u64 (a : Nat)) ∧ (W.alloc o).cell? ⟨w.heap.size, 1, none⟩ = some (.int .u64 (b : Nat)) ∧ (W.alloc o).cell? ⟨w.heap.size, 2, none⟩ = some (.int .u64 (c : Nat)) ∧ (W.alloc o).cell? ⟨w.heap.size, 3, none⟩ = some (.int .u64 (d : Nat)) ∧ (W.alloc o).cell? ⟨w.heap.size + 1, 0, none⟩ = some (.int .u64 (e : Nat)) ∧ (W.alloc o).cell? ⟨w.heap.size + 1, 1, none⟩ = some (.int .u64 (f : Nat)) ∧ (W.alloc o).cell? ⟨w.heap.size + 1, 2, none⟩ = some (.int .u64 (g : Nat)) ∧ (W.alloc o).cell? ⟨w.heap.size + 1, 3, none⟩ = some (.int .u64 (h : Nat)) :=
  (t.next ((Below.refl _ _).alloc (Nat.le_refl _) o)).cells
/-- What a call answers that makes a text with a name. -/
def RetT (w : World) (s : ByteArray) (e : Ending) (w' : World) : Prop := e = .returned (.string s) ∧ Below w.heap.size w w'
set_option maxRecDepth 100000 in
set_option maxHeartbeats 4000000 in
theorem classFolds_walk {P Q : Nat → Bool} {a b c d e f g h : Nat} (hA : C4 P a b c d) (hB : C4 Q e f g h) (w : World) (hT : Tab w) :
    Calls Tryd.prog 4 #[.agg #[.int .u64 (a : Nat), .int .u64 (b : Nat), .int .u64 (c : Nat), .int .u64 (d : Nat)], .agg #[.int .u64 (e : Nat), .int .u64 (f : Nat), .int .u64 (g : Nat), .int .u64 (h : Nat)]] w fun en w' => en = .returned (.bool true) ∧ Below w.heap.size w w' := by
  have t := (T2.start w a b c d e f g h).next (Below.refl _ _).drew
  obtain ⟨a1, b1, c1, d1, hA1⟩ := c4_ex (fo P)
  obtain ⟨e1, f1, g1, h1, hB1⟩ := c4_ex (fo Q)
  obtain ⟨u1, u2, u3, u4, hU⟩ := c4_ex fun x => P x || Q x
  obtain ⟨v1, v2, v3, v4, hV⟩ := c4_ex fun x => fo P x || fo Q x
  have fa : Hid (∀ W, Calls Tryd.prog 15 #[.agg #[.int .u64 (a : Nat), .int .u64 (b : Nat), .int .u64 (c : Nat), .int .u64 (d : Nat)]] W (RetW W a1 b1 c1 d1)) := fun W => (fold_c hA W).mono (RetW.of (hA1.congr fun y hy => (fold_is P y hy).symm))
  have fb : Hid (∀ W, Calls Tryd.prog 15 #[.agg #[.int .u64 (e : Nat), .int .u64 (f : Nat), .int .u64 (g : Nat), .int .u64 (h : Nat)]] W (RetW W e1 f1 g1 h1)) := fun W => (fold_c hB W).mono (RetW.of (hB1.congr fun y hy => (fold_is Q y hy).symm))
  have fa1 : Hid (∀ W, Calls Tryd.prog 15 #[.agg #[.int .u64 (a1 : Nat), .int .u64 (b1 : Nat), .int .u64 (c1 : Nat), .int .u64 (d1 : Nat)]] W (RetW W a1 b1 c1 d1)) := fun W => (fold_c hA1 W).mono (RetW.of (hA1.congr fun y hy => by rw [fold_is _ y hy, fo_twice P y hy]))
  have fu : Hid (∀ W, Calls Tryd.prog 15 #[.agg #[.int .u64 (u1 : Nat), .int .u64 (u2 : Nat), .int .u64 (u3 : Nat), .int .u64 (u4 : Nat)]] W (RetW W v1 v2 v3 v4)) := fun W => (fold_c hU W).mono (RetW.of (hV.congr fun y hy => by rw [fold_is _ y hy, fo_or]))
  have un1 : Hid (∀ W, Calls Tryd.prog 9 #[.slice (some ⟨W.heap.size, 0, none⟩) 2 2] (W.alloc (.cells #[.int .u64 (a : Nat), .int .u64 (b : Nat), .int .u64 (c : Nat), .int .u64 (d : Nat), .int .u64 (e : Nat), .int .u64 (f : Nat), .int .u64 (g : Nat), .int .u64 (h : Nat)] 24)) (RetW W u1 u2 u3 u4)) := fun W => (union_two hA hB W).mono (RetW.of hU)
  have un2 : Hid (∀ W, Calls Tryd.prog 9 #[.slice (some ⟨W.heap.size, 0, none⟩) 2 2] (W.alloc (.cells #[.int .u64 (a1 : Nat), .int .u64 (b1 : Nat), .int .u64 (c1 : Nat), .int .u64 (d1 : Nat), .int .u64 (e1 : Nat), .int .u64 (f1 : Nat), .int .u64 (g1 : Nat), .int .u64 (h1 : Nat)] 24)) (RetW W v1 v2 v3 v4)) := fun W => (union_two hA1 hB1 W).mono (RetW.of hV)
  have me : Hid (∀ W, Calls Tryd.prog 16 #[.agg #[.int .u64 (a : Nat), .int .u64 (b : Nat), .int .u64 (c : Nat), .int .u64 (d : Nat)], .agg #[.int .u64 (a1 : Nat), .int .u64 (b1 : Nat), .int .u64 (c1 : Nat), .int .u64 (d1 : Nat)]] W (RetW W a b c d)) := fun W => (meet_c hA hA1 W).mono (RetW.of (hA.congr fun y _ => (fo_and P y).symm))
  obtain ⟨r, hr⟩ : ∃ r : ByteArray, (⟨(textB P).toArray⟩ : ByteArray) = r := ⟨_, rfl⟩
  obtain ⟨s, hs⟩ : ∃ s : ByteArray, (⟨(textB Q).toArray⟩ : ByteArray) = s := ⟨_, rfl⟩
  have ta : Hid (∀ W, Tab W → Calls Tryd.prog 17 #[.agg #[.int .u64 (a : Nat), .int .u64 (b : Nat), .int .u64 (c : Nat), .int .u64 (d : Nat)]] W (RetT W r)) := fun W hW => by rw [← hr]; exact text_c hA W hW
  have tb : Hid (∀ W, Tab W → Calls Tryd.prog 17 #[.agg #[.int .u64 (e : Nat), .int .u64 (f : Nat), .int .u64 (g : Nat), .int .u64 (h : Nat)]] W (RetT W s)) := fun W hW => by rw [← hs]; exact text_c hB W hW
  have hst : (r.toList == s.toList) = eqC P Q := by
    rw [← hr, ← hs, ByteArray.toList_eq, ByteArray.toList_eq, Bool.eq_iff_iff, beq_iff_eq, ← text_same]
  have hcl : ∀ W, (Go.binOp .eql 24 (.agg #[.int .u64 (a : Nat), .int .u64 (b : Nat), .int .u64 (c : Nat), .int .u64 (d : Nat)]) (.agg #[.int .u64 (e : Nat), .int .u64 (f : Nat), .int .u64 (g : Nat), .int .u64 (h : Nat)])).run Tryd.prog W = .ok (.bool (eqC P Q)) W := fun W => by rw [eql4, eq4_iff hA hB]
  have q1 : ∀ W, (Go.binOp .eql 24 (.agg #[.int .u64 (a : Nat), .int .u64 (b : Nat), .int .u64 (c : Nat), .int .u64 (d : Nat)]) (.agg #[.int .u64 (a : Nat), .int .u64 (b : Nat), .int .u64 (c : Nat), .int .u64 (d : Nat)])).run Tryd.prog W = .ok (.bool true) W := fun W => by rw [eql4]; simp
  have q2 : ∀ W, (Go.binOp .eql 24 (.agg #[.int .u64 (a1 : Nat), .int .u64 (b1 : Nat), .int .u64 (c1 : Nat), .int .u64 (d1 : Nat)]) (.agg #[.int .u64 (a1 : Nat), .int .u64 (b1 : Nat), .int .u64 (c1 : Nat), .int .u64 (d1 : Nat)])).run Tryd.prog W = .ok (.bool true) W := fun W => by rw [eql4]; simp
  have q3 : ∀ W, (Go.binOp .eql 24 (.agg #[.int .u64 (v1 : Nat), .int .u64 (v2 : Nat), .int .u64 (v3 : Nat), .int .u64 (v4 : Nat)]) (.agg #[.int .u64 (v1 : Nat), .int .u64 (v2 : Nat), .int .u64 (v3 : Nat), .int .u64 (v4 : Nat)])).run Tryd.prog W = .ok (.bool true) W := fun W => by rw [eql4]; simp
  generalize eqC P Q = z at *
  have hz : (z == z) = true := by simp
  clear hr hs hA hB hA1 hB1 hU hV
  have m1 : Hid True := trivial
  have m2 : Hid True := trivial
  have m3 : Hid True := trivial
  have m4 : Hid True := trivial
  have m5 : Hid True := trivial
  have m6 : Hid True := trivial
  have n1 : Hid True := trivial
  have n2 : Hid True := trivial
  go_enter Tryd.func4, Tryd.ntmps4
  go_wp2_with fail
  have hc := t.cells
  have hca := t.cellsA
  go_region_held3 (fun w' => w'.cell? ⟨w.heap.size, 0, none⟩ = some (.int .u64 (a : Nat)) ∧ w'.cell? ⟨w.heap.size, 1, none⟩ = some (.int .u64 (b : Nat)) ∧ w'.cell? ⟨w.heap.size, 2, none⟩ = some (.int .u64 (c : Nat)) ∧ w'.cell? ⟨w.heap.size, 3, none⟩ = some (.int .u64 (d : Nat)) ∧ w'.cell? ⟨w.heap.size + 1, 0, none⟩ = some (.int .u64 (e : Nat)) ∧ w'.cell? ⟨w.heap.size + 1, 1, none⟩ = some (.int .u64 (f : Nat)) ∧ w'.cell? ⟨w.heap.size + 1, 2, none⟩ = some (.int .u64 (g : Nat)) ∧ w'.cell? ⟨w.heap.size + 1, 3, none⟩ = some (.int .u64 (h : Nat))) (first | exact hc | exact hca _)
    (first
      | (go_at_call 11; refine (begun_any _ (hT.below t.bel)).mono ?_; rintro en w0 ⟨rfl, k⟩; replace t := t.next k; clear k hc hca; have hc := t.cells; have hca := t.cellsA)
      | (go_at_call 15; (first | (clear m1; refine (fa.out _).mono ?_) | (clear m2; refine (fa1.out _).mono ?_) | (clear m3; refine (fa.out _).mono ?_) | (clear m4; refine (fu.out _).mono ?_) | (clear m5; refine (fa.out _).mono ?_) | (clear m6; refine (fb.out _).mono ?_) | (refine (fa.out _).mono ?_)); rintro en w1 ⟨rfl, k⟩; replace t := t.next k; clear k hc hca; have hc := t.cells; have hca := t.cellsA)
      | (go_at_call 9; (first | (clear n1; refine (un1.out _).mono ?_) | (refine (un2.out _).mono ?_)); rintro en w2 ⟨rfl, k⟩; replace t := t.next k; clear k hc hca; have hc := t.cells; have hca := t.cellsA)
      | (go_at_call 16; refine (me.out _).mono ?_; rintro en w3 ⟨rfl, k⟩; replace t := t.next k; clear k hc hca; have hc := t.cells; have hca := t.cellsA)
      | (go_at_call 17; (first | (clear n2; refine (ta.out _ (hT.below t.bel)).mono ?_) | (refine (tb.out _ (hT.below t.bel)).mono ?_)); rintro en w4 ⟨rfl, k⟩; replace t := t.next k; clear k hc hca; have hc := t.cells; have hca := t.cellsA))
  all_goals
    go_wp2
    go_ret
    exact ⟨rfl, t.bel⟩
end Go.Proofs.YthgjklhjfpillabDoor
