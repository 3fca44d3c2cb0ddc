/- ClassJoins: the walk of the law. -/
import Derived.Test.YthgjklhjfpillaaDoorRf
import Derived.Deep.RegionHeld3
namespace Go.Proofs.YthgjklhjfpillaaDoor
open Go.RowKit
/-- The boxes of two classes, as they were laid. -/
structure T2 (w : World) (a b c d e f g h : Nat) (W : World) : Prop where
  bel : Below w.heap.size w W
  b0 : Bx W w.heap.size (.int .u64 (a : Nat)) (.int .u64 (b : Nat)) (.int .u64 (c : Nat)) (.int .u64 (d : Nat))
  b1 : Bx W (w.heap.size + 1) (.int .u64 (e : Nat)) (.int .u64 (f : Nat)) (.int .u64 (g : Nat)) (.int .u64 (h : Nat))
theorem T2.next {w W W' : World} {a b c d e f g h : Nat} (t : T2 w a b c d e f g h W) (hb : Below W.heap.size W W') : T2 w a b c d e f g h W' :=
  ⟨t.bel.trans (hb.mono t.bel.size), t.b0.below hb, t.b1.below hb⟩
theorem T2.start (w : World) (a b c d e f g h : Nat) : T2 w a b c d e f g h ((w.alloc (.cells #[.int .u64 (a : Nat), .int .u64 (b : Nat), .int .u64 (c : Nat), .int .u64 (d : Nat)] 26)).alloc (.cells #[.int .u64 (e : Nat), .int .u64 (f : Nat), .int .u64 (g : Nat), .int .u64 (h : Nat)] 26)) := by
  refine ⟨below2 _ _ _, (Bx.new w _ _ _ _).alloc _, ?_⟩
  have := Bx.new (w.alloc (.cells #[.int .u64 (a : Nat), .int .u64 (b : Nat), .int .u64 (c : Nat), .int .u64 (d : Nat)] 26)) (.int .u64 (e : Nat)) (.int .u64 (f : Nat)) (.int .u64 (g : Nat)) (.int .u64 (h : Nat))
  simpa using this
theorem T2.cells {w W : World} {a b c d e f g h : Nat} (t : T2 w a b c d e f g h W) : W.cell? ⟨w.heap.size, 0, none⟩ = some (.int .u64 (a : Nat)) ∧ W.cell? ⟨w.heap.size, 1, none⟩ = some (.int .u64 (b : Nat)) ∧ W.cell? ⟨w.heap.size, 2, none⟩ = some (.int .u64 (c : Nat)) ∧ W.cell? ⟨w.heap.size, 3, none⟩ = some (.int .u64 (d : Nat)) ∧ W.cell? ⟨w.heap.size + 1, 0, none⟩ = some (.int .u64 (e : Nat)) ∧ W.cell? ⟨w.heap.size + 1, 1, none⟩ = some (.int .u64 (f : Nat)) ∧ W.cell? ⟨w.heap.size + 1, 2, none⟩ = some (.int .u64 (g : Nat)) ∧ W.cell? ⟨w.heap.size + 1, 3, none⟩ = some (.int .u64 (h : Nat)) := by
  obtain ⟨c0, c1, c2, c3, _⟩ := t.b0.cells
  obtain ⟨c4, c5, c6, c7, _⟩ := t.b1.cells
  exact ⟨c0, c1, c2, c3, c4, c5, c6, c7⟩
set_option maxRecDepth 100000 in
set_option maxHeartbeats 8000000 in
theorem classJoins_walk {P Q : Nat → Bool} {a b c d e f g h : Nat} (hA : C4 P a b c d) (hB : C4 Q e f g h) (ao : Option Addr) (len cap : Nat) (F : Nat → Nat → Nat) (Ps : Nat → Nat → Bool) (w : World) (hT : Tab w) (hr : RdC w ao len F) (hC : ∀ i, i < len → C4 (Ps i) (F i 0) (F i 1) (F i 2) (F i 3)) (hl : (len : Int) ≤ 9223372036854775807) :
    Calls Tryd.prog 5 #[.slice ao len cap, .agg #[.int .u64 (a : Nat), .int .u64 (b : Nat), .int .u64 (c : Nat), .int .u64 (d : Nat)], .agg #[.int .u64 (e : Nat), .int .u64 (f : Nat), .int .u64 (g : Nat), .int .u64 (h : Nat)]] w fun en w' => en = .returned (.bool true) ∧ Below w.heap.size w w' := by
  have t := (T2.start w a b c d e f g h).next (Below.refl _ _).drew
  have heq := eql_same
  have HU := fun W (hb : Below w.heap.size w W) => union_any ao len cap F Ps W (hr.below hb) hC hl
  have HV := fun W (hb : Below w.heap.size w W) => runion_any ao len cap F Ps W (hr.below hb) hC hl
  have hu : Hid (∀ W, Below w.heap.size w W → Calls Tryd.prog 27 #[.slice ao len cap] W (RetC W (unN Ps len))) := HU
  have hv : Hid (∀ W, Below w.heap.size w W → Calls Tryd.prog 28 #[.slice ao len cap] W (RetC W (unN Ps len))) := HV
  clear HU HV hr hC
  go_enter Tryd.func5, Tryd.ntmps5
  go_wp2_with fail
  have hc := t.cells
  go_region_held3 (fun w' => w'.cell? ⟨w.heap.size, 0, none⟩ = some (.int .u64 (a : Nat)) ∧ w'.cell? ⟨w.heap.size, 1, none⟩ = some (.int .u64 (b : Nat)) ∧ w'.cell? ⟨w.heap.size, 2, none⟩ = some (.int .u64 (c : Nat)) ∧ w'.cell? ⟨w.heap.size, 3, none⟩ = some (.int .u64 (d : Nat)) ∧ w'.cell? ⟨w.heap.size + 1, 0, none⟩ = some (.int .u64 (e : Nat)) ∧ w'.cell? ⟨w.heap.size + 1, 1, none⟩ = some (.int .u64 (f : Nat)) ∧ w'.cell? ⟨w.heap.size + 1, 2, none⟩ = some (.int .u64 (g : Nat)) ∧ w'.cell? ⟨w.heap.size + 1, 3, none⟩ = some (.int .u64 (h : Nat))) (exact hc)
    (first
      | (go_at_call 9; refine (begun_any _ (hT.below t.bel)).mono ?_; rintro en v0 ⟨rfl, q⟩; replace t := t.next q; clear q hc; have hc := t.cells)
      | (go_at_call 27; refine (hu.out _ t.bel).mono ?_; rintro en v1 ⟨⟨a1, b1, c1, d1, rfl, h1⟩, q⟩; replace t := t.next q; clear q hc; have hc := t.cells)
      | (go_at_call 28; refine (hv.out _ t.bel).mono ?_; rintro en v1' ⟨⟨a', b', c', d', rfl, k1⟩, q⟩; obtain ⟨rfl, rfl, rfl, rfl⟩ := h1.uniq k1; clear h1 k1; replace t := t.next q; clear q hc; have hc := t.cells)
      | (go_at_call 29; refine (meet_c hA hB _).mono ?_; rintro en v2 ⟨⟨a2, b2, c2, d2, rfl, h2⟩, q⟩; replace t := t.next q; clear q hc; have hc := t.cells)
      | (go_at_call 30; refine (rmeet_c hA hB _).mono ?_; rintro en v2' ⟨⟨a', b', c', d', rfl, k2⟩, q⟩; obtain ⟨rfl, rfl, rfl, rfl⟩ := h2.uniq k2; clear h2 k2; replace t := t.next q; clear q hc; have hc := t.cells)
      | (go_at_call 31; refine (not_c hA _).mono ?_; rintro en v3 ⟨⟨a3, b3, c3, d3, rfl, h3⟩, q⟩; replace t := t.next q; clear q hc; have hc := t.cells)
      | (go_at_call 32; refine (rnot_c hA _).mono ?_; rintro en v3' ⟨⟨a', b', c', d', rfl, k3⟩, q⟩; obtain ⟨rfl, rfl, rfl, rfl⟩ := h3.uniq k3; clear h3 k3; replace t := t.next q; clear q hc; have hc := t.cells)
      | (go_at_call 33; refine (fold_c hA _).mono ?_; rintro en v4 ⟨⟨a4, b4, c4, d4, rfl, h4⟩, q⟩; replace t := t.next q; clear q hc; have hc := t.cells)
      | (go_at_call 34; refine (rfold_c hA _).mono ?_; rintro en v4' ⟨⟨a', b', c', d', rfl, k4⟩, q⟩; obtain ⟨rfl, rfl, rfl, rfl⟩ := h4.uniq k4; clear h4 k4; replace t := t.next q; clear q hc; have hc := t.cells))
  go_wp2
  go_ret
  exact ⟨rfl, t.bel⟩
end Go.Proofs.YthgjklhjfpillaaDoor
