/- ClassTexts: the walk of the law. -/
import Derived.Test.YthgjklhjfpillaaDoorRx
import Derived.Deep.RegionHeld3
namespace Go.Proofs.YthgjklhjfpillaaDoor
open Go.RowKit
/-- The box of a class, as it was laid. -/
structure T7 (w : World) (a b c d : Nat) (W : World) : Prop where
  bel : Below w.heap.size w W
  b0 : Bx W w.heap.size (.int .u64 (a : Nat)) (.int .u64 (b : Nat)) (.int .u64 (c : Nat)) (.int .u64 (d : Nat))
theorem T7.next {w W W' : World} {a b c d : Nat} (t : T7 w a b c d W) (hb : Below W.heap.size W W') : T7 w a b c d W' :=
  ⟨t.bel.trans (hb.mono t.bel.size), t.b0.below hb⟩
theorem T7.cells {w W : World} {a b c d : Nat} (t : T7 w a b c d W) : W.cell? ⟨w.heap.size, 0, none⟩ = some (.int .u64 (a : Nat)) ∧ W.cell? ⟨w.heap.size, 1, none⟩ = some (.int .u64 (b : Nat)) ∧ W.cell? ⟨w.heap.size, 2, none⟩ = some (.int .u64 (c : Nat)) ∧ W.cell? ⟨w.heap.size, 3, none⟩ = some (.int .u64 (d : Nat)) := by
  obtain ⟨c0, c1, c2, c3, _⟩ := t.b0.cells
  exact ⟨c0, c1, c2, c3⟩
/-- What a call answers that makes a text with a name. -/
def RetT (w : World) (s : ByteArray) (e : Ending) (w' : World) : Prop := e = .returned (.string s) ∧ Below w.heap.size w w'
theorem eqS (s : ByteArray) (w : World) : (Go.binOp .eql 9 (.string s) (.string s)).run Tryd.prog w = .ok (.bool true) w := by
  simp [go_sem]
set_option maxRecDepth 100000 in
set_option maxHeartbeats 2000000 in
theorem classTexts_walk {P : Nat → Bool} {a b c d : Nat} (hA : C4 P a b c d) (x : Nat) (hx : x < 256) (w : World) (hT : Tab w) :
    Calls Tryd.prog 7 #[.agg #[.int .u64 (a : Nat), .int .u64 (b : Nat), .int .u64 (c : Nat), .int .u64 (d : Nat)], .int .u8 (x : Nat)] w fun en w' => en = .returned (.bool true) ∧ Below w.heap.size w w' := by
  obtain ⟨p, hp⟩ : ∃ p : ByteArray, (⟨(litB x).toArray⟩ : ByteArray) = p := ⟨_, rfl⟩
  obtain ⟨q, hq⟩ : ∃ q : ByteArray, (⟨(innB x).toArray⟩ : ByteArray) = q := ⟨_, rfl⟩
  obtain ⟨r, hr⟩ : ∃ r : ByteArray, (⟨(textB P).toArray⟩ : ByteArray) = r := ⟨_, rfl⟩
  have h42 : Hid (∀ W, Calls Tryd.prog 42 #[.int .u8 (x : Nat)] W (RetT W p)) := fun W => by rw [← hp]; exact literal_any x W hx
  have h43 : Hid (∀ W, Calls Tryd.prog 43 #[.int .u8 (x : Nat)] W (RetT W p)) := fun W => by rw [← hp]; exact rliteral_any x W hx
  have h44 : Hid (∀ W, Calls Tryd.prog 44 #[.int .u8 (x : Nat)] W (RetT W q)) := fun W => by rw [← hq]; exact inner_any x W hx
  have h45 : Hid (∀ W, Calls Tryd.prog 45 #[.int .u8 (x : Nat)] W (RetT W q)) := fun W => by rw [← hq]; exact rinner_any x W hx
  have h46 : Hid (∀ W, Tab W → Calls Tryd.prog 46 #[.agg #[.int .u64 (a : Nat), .int .u64 (b : Nat), .int .u64 (c : Nat), .int .u64 (d : Nat)]] W (RetT W r)) := fun W h => by rw [← hr]; exact text_c hA W h
  have h47 : Hid (∀ W, Calls Tryd.prog 47 #[.agg #[.int .u64 (a : Nat), .int .u64 (b : Nat), .int .u64 (c : Nat), .int .u64 (d : Nat)]] W (RetT W r)) := fun W => by rw [← hr]; exact rtext_c hA W
  clear hp hq hr
  have e1 := eqS p
  have e2 := eqS q
  have e3 := eqS r
  have t : T7 w a b c d (w.alloc (.cells #[.int .u64 (a : Nat), .int .u64 (b : Nat), .int .u64 (c : Nat), .int .u64 (d : Nat)] 26)) := ⟨(Below.refl _ _).alloc (Nat.le_refl _) _, Bx.new w _ _ _ _⟩
  replace t := t.next (Below.refl _ _).drew
  go_enter Tryd.func7, Tryd.ntmps7
  go_wp2_with fail
  have hc := t.cells
  go_region_held3 (fun w' => w'.cell? ⟨w.heap.size, 0, none⟩ = some (.int .u64 (a : Nat)) ∧ w'.cell? ⟨w.heap.size, 1, none⟩ = some (.int .u64 (b : Nat)) ∧ w'.cell? ⟨w.heap.size, 2, none⟩ = some (.int .u64 (c : Nat)) ∧ w'.cell? ⟨w.heap.size, 3, none⟩ = some (.int .u64 (d : Nat))) (exact hc)
    (first
      | (go_at_call 9; refine (begun_any _ (hT.below t.bel)).mono ?_; rintro en v0 ⟨rfl, k⟩; replace t := t.next k; clear k hc; have hc := t.cells)
      | (go_at_call 42; refine (h42.out _).mono ?_; rintro en v1 ⟨rfl, k⟩; replace t := t.next k; clear k hc; have hc := t.cells)
      | (go_at_call 43; refine (h43.out _).mono ?_; rintro en v2 ⟨rfl, k⟩; replace t := t.next k; clear k hc; have hc := t.cells)
      | (go_at_call 44; refine (h44.out _).mono ?_; rintro en v3 ⟨rfl, k⟩; replace t := t.next k; clear k hc; have hc := t.cells)
      | (go_at_call 45; refine (h45.out _).mono ?_; rintro en v4 ⟨rfl, k⟩; replace t := t.next k; clear k hc; have hc := t.cells)
      | (go_at_call 46; refine (h46.out _ (hT.below t.bel)).mono ?_; rintro en v5 ⟨rfl, k⟩; replace t := t.next k; clear k hc; have hc := t.cells)
      | (go_at_call 47; refine (h47.out _).mono ?_; rintro en v6 ⟨rfl, k⟩; replace t := t.next k; clear k hc; have hc := t.cells))
  all_goals
    go_wp2
    go_ret
    exact ⟨rfl, t.bel⟩
end Go.Proofs.YthgjklhjfpillaaDoor
