/- The reference's Accepts: the walk. -/
import Derived.Test.YtehlmjjdegmnaaaDoorRx
import Derived.Deep.RegionHeld3
namespace Go.Proofs.YtehlmjjdegmnaaaDoor
open Go.RowKit
theorem field26l (a b c d lo hi : Value) (w : World) : (Instr.field 26 (.agg #[a, b, c, d, lo, hi]) 1).run Tryd.prog w = .ok lo w := by kernel_rfl
/-- What Accepts answers. -/
def RetAc (w : World) (lo : Nat) (Q : Nat → Bool) (e : Ending) (w' : World) : Prop := (∃ v : Bool, e = .returned (.bool v) ∧ (v = true ↔ ∃ j, lo ≤ j ∧ Q j = true)) ∧ Below w.heap.size w w'
theorem RetF.two {w w' : World} {Q : Nat → Bool} {a : Nat} {e : Ending} (h : RetF w Q a e w') : ∃ (z : Int) (v : Bool), e = .returned (.tuple #[.int .i64 z, .bool v]) ∧ (v = true ↔ ∃ j, a ≤ j ∧ Q j = true) ∧ Below w.heap.size w w' := by
  obtain ⟨⟨k, he, hk⟩ | ⟨he, hk⟩, hb⟩ := h
  · exact ⟨_, _, he, ⟨fun _ => ⟨k, hk.le, hk.yes⟩, fun _ => rfl⟩, hb⟩
  · refine ⟨_, _, he, ⟨fun h => (by cases h), fun ⟨j, h1, h2⟩ => ?_⟩, hb⟩
    rw [hk j h1] at h2
    exact h2
structure TA (w : World) (a b c d : Nat) (lo hi m : Int) (xo : Option Addr) (xl xc N : Nat) (Q : Nat → Bool) (W : World) : Prop where
  rg : RgAt W w.heap.size a b c d lo hi
  bs : Box W (w.heap.size + 1) (.int .i64 m) (.slice xo xl xc)
  st : Sta W (.agg #[.int .i64 m, .slice xo xl xc]) N Q
  bel : Below w.heap.size w W
theorem TA.next {w : World} {a b c d : Nat} {lo hi m : Int} {xo : Option Addr} {xl xc N : Nat} {Q : Nat → Bool} {W W' : World} (h : TA w a b c d lo hi m xo xl xc N Q W) (hb : Below W.heap.size W W') : TA w a b c d lo hi m xo xl xc N Q W' :=
  ⟨h.rg.below hb, h.bs.below hb, h.st.below hb, h.bel.trans (hb.mono h.bel.size)⟩
set_option maxRecDepth 100000 in
set_option maxHeartbeats 4000000 in
/-- The reference's Accepts. -/
theorem raccepts_any {a b c d a' b' c' d' lo' hi' : Nat} {lo hi : Int} {x : Value} {Q : Nat → Bool} (w : World) (HM : ∀ w, Calls Tryd.prog 29 #[rgV a b c d lo hi] w fun e w' => e = .returned (rgV a' b' c' d' lo' hi') ∧ Below w.heap.size w w') (hhi : hi' ≤ 1000) (hx : Sta w x (hi' + 1) Q) :
    Calls Tryd.prog 19 #[rgV a b c d lo hi, x] w (RetAc w lo' Q) := by
  obtain ⟨m, xo, xl, xc, rfl⟩ := hx.shape
  have hT : TA w a b c d lo hi m xo xl xc (hi' + 1) Q ((w.alloc (.cells #[.int .u64 (a : Nat), .int .u64 (b : Nat), .int .u64 (c : Nat), .int .u64 (d : Nat), .int .i64 lo, .int .i64 hi] 26)).alloc (.cells #[.int .i64 m, .slice xo xl xc] 29)) := by
    have hB := below_two w (.cells #[.int .u64 (a : Nat), .int .u64 (b : Nat), .int .u64 (c : Nat), .int .u64 (d : Nat), .int .i64 lo, .int .i64 hi] 26) (.cells #[.int .i64 m, .slice xo xl xc] 29)
    exact ⟨(RgAt.new w a b c d lo hi).below ((Below.refl _ _).alloc (Nat.le_refl _) _), Box.new1 w _ _ _, hx.below hB, hB⟩
  have HM1 : ∀ w, Calls Tryd.prog 29 #[.agg #[.int .u64 (a : Nat), .int .u64 (b : Nat), .int .u64 (c : Nat), .int .u64 (d : Nat), .int .i64 lo, .int .i64 hi]] w fun e w' => e = .returned (.agg #[.int .u64 (a' : Nat), .int .u64 (b' : Nat), .int .u64 (c' : Nat), .int .u64 (d' : Nat), .int .i64 (lo' : Nat), .int .i64 (hi' : Nat)]) ∧ Below w.heap.size w w' := HM
  have HST : ∀ w, Sta w (.agg #[.int .i64 m, .slice xo xl xc]) (hi' + 1) Q → Calls Tryd.prog 26 #[.agg #[.int .u64 (a : Nat), .int .u64 (b : Nat), .int .u64 (c : Nat), .int .u64 (d : Nat), .int .i64 lo, .int .i64 hi], .agg #[.int .i64 m, .slice xo xl xc]] w (RetSt w (hi' + 1) Q) := fun w h => rstate_any w HM hhi h
  have hf := field26l
  clear HM hx
  unfold rgV
  go_enter Tryd.func19, Tryd.ntmps19
  go_wp2_with fail
  generalize (w.alloc (.cells #[.int .u64 (a : Nat), .int .u64 (b : Nat), .int .u64 (c : Nat), .int .u64 (d : Nat), .int .i64 lo, .int .i64 hi] 26)).alloc (.cells #[.int .i64 m, .slice xo xl xc] 29) = W at *
  replace hT := hT.next (Below.refl _ W).drew
  go_region_held3 (fun w' => (w'.cell? ⟨w.heap.size, 0, none⟩ = some (.int .u64 (a : Nat)) ∧ w'.cell? ⟨w.heap.size, 1, none⟩ = some (.int .u64 (b : Nat)) ∧ w'.cell? ⟨w.heap.size, 2, none⟩ = some (.int .u64 (c : Nat)) ∧ w'.cell? ⟨w.heap.size, 3, none⟩ = some (.int .u64 (d : Nat)) ∧ w'.cell? ⟨w.heap.size, 4, none⟩ = some (.int .i64 lo) ∧ w'.cell? ⟨w.heap.size, 5, none⟩ = some (.int .i64 hi)) ∧ w'.cell? ⟨w.heap.size + 1, 0, none⟩ = some (.int .i64 m) ∧ w'.cell? ⟨w.heap.size + 1, 1, none⟩ = some (.slice xo xl xc))
    (exact ⟨hT.rg.cells.1, hT.bs.cells.1, hT.bs.cells.2.1⟩)
    (first
      | (go_at_call 26; refine (HST _ hT.st).mono ?_; intro e w2 h2; obtain ⟨yo, yl, yc, rfl, harg, hb2⟩ := RetSt.arg h2; replace hT := hT.next hb2; clear h2)
      | (go_at_call 29; refine (HM1 _).mono ?_; rintro e w3 ⟨rfl, hb3⟩; replace hT := hT.next hb3; (try replace harg := harg.below hb3))
      | (go_at_call 38; refine (rfirst_any (lo' : Int) harg).mono ?_; intro e w4 h4; obtain ⟨z4, v4, rfl, hv4, hb4⟩ := RetF.two h4; replace hT := hT.next hb4; clear h4))
  all_goals go_wp2
  all_goals go_ret
  all_goals exact ⟨⟨v4, rfl, by rw [Int.toNat_natCast] at hv4; exact hv4⟩, hT.bel⟩
end Go.Proofs.YtehlmjjdegmnaaaDoor
