/- ring.Trigger: the walk. -/
import Derived.Test.YtehlmjjdegmnaaaDoorRu
import Derived.Deep.RegionWith
namespace Go.Proofs.YtehlmjjdegmnaaaDoor
open Go.RowKit Go.Shelf
set_option maxRecDepth 100000 in
set_option maxHeartbeats 2000000 in
/-- Trigger. -/
theorem trigger_any {a b c d a' b' c' d' lo' hi' : Nat} {lo hi : Int} {Q : Nat → Bool} {x : Value} (w : World)
    (HS : ∀ w, Calls Tryd.prog 24 #[rgV a b c d lo hi] w fun e w' => e = .returned (rgV a' b' c' d' lo' hi') ∧ Below w.heap.size w w') (hhi : hi' ≤ 1000) (hx : Sta w x (hi' + 1) Q) :
    Calls Tryd.prog 12 #[rgV a b c d lo hi, x] w (RetFr w (hi' + 1) fun i => Q i || decide ((i : Int) = 0 ∧ i < hi' + 1)) := by
  obtain ⟨m, xo, xl, xc, rfl⟩ := hx.shape
  have hB0 := below3 w (.cells #[.int .u64 (a : Nat), .int .u64 (b : Nat), .int .u64 (c : Nat), .int .u64 (d : Nat), .int .i64 lo, .int .i64 hi] 26) (.cells #[.int .i64 m, .slice xo xl xc] 29) (.cells #[.int .i64 0, .slice none 0 0] 29)
  have r0 := RgAt.new3 w a b c d lo hi (.cells #[.int .i64 m, .slice xo xl xc] 29) (.cells #[.int .i64 0, .slice none 0 0] 29)
  have b1 := (Box.new1 w (.cells #[.int .u64 (a : Nat), .int .u64 (b : Nat), .int .u64 (c : Nat), .int .u64 (d : Nat), .int .i64 lo, .int .i64 hi] 26) (.int .i64 m) (.slice xo xl xc)).alloc (.cells #[.int .i64 0, .slice none 0 0] 29)
  have b2 := Box.new2' w (.cells #[.int .u64 (a : Nat), .int .u64 (b : Nat), .int .u64 (c : Nat), .int .u64 (d : Nat), .int .i64 lo, .int .i64 hi] 26) (.cells #[.int .i64 m, .slice xo xl xc] 29) (.int .i64 0) (.slice none 0 0)
  have hcast : ((hi' + 1 : Nat) : Int) = (hi' : Int) + 1 := by omega
  have hx0 := hx.below hB0
  have hsz : (((w.alloc (.cells #[.int .u64 (a : Nat), .int .u64 (b : Nat), .int .u64 (c : Nat), .int .u64 (d : Nat), .int .i64 lo, .int .i64 hi] 26)).alloc (.cells #[.int .i64 m, .slice xo xl xc] 29)).alloc (.cells #[.int .i64 0, .slice none 0 0] 29)).heap.size = w.heap.size + 1 + 1 + 1 := by simp
  have HS1 : ∀ w, Calls Tryd.prog 24 #[.agg #[.int .u64 (a : Nat), .int .u64 (b : Nat), .int .u64 (c : Nat), .int .u64 (d : Nat), .int .i64 lo, .int .i64 hi]] w fun e w' => e = .returned (.agg #[.int .u64 (a' : Nat), .int .u64 (b' : Nat), .int .u64 (c' : Nat), .int .u64 (d' : Nat), .int .i64 (lo' : Nat), .int .i64 (hi' : Nat)]) ∧ Below w.heap.size w w' := HS
  have HST : ∀ w, Sta w (.agg #[.int .i64 m, .slice xo xl xc]) (hi' + 1) Q → Calls Tryd.prog 23 #[.agg #[.int .u64 (a' : Nat), .int .u64 (b' : Nat), .int .u64 (c' : Nat), .int .u64 (d' : Nat), .int .i64 (lo' : Nat), .int .i64 (hi' : Nat)], .agg #[.int .i64 m, .slice xo xl xc]] w (RetSt w (hi' + 1) Q) := fun w h => state_any w hhi h
  clear HS hx
  unfold rgV
  go_enter Tryd.func12, Tryd.ntmps12
  go_wp2_with fail
  generalize ((w.alloc (.cells #[.int .u64 (a : Nat), .int .u64 (b : Nat), .int .u64 (c : Nat), .int .u64 (d : Nat), .int .i64 lo, .int .i64 hi] 26)).alloc (.cells #[.int .i64 m, .slice xo xl xc] 29)).alloc (.cells #[.int .i64 0, .slice none 0 0] 29) = W at *
  obtain ⟨⟨g0, g1, g2, g3, g4, g5⟩, -⟩ := r0.cells
  obtain ⟨c10, c11, -, -⟩ := b1.cells
  go_region_with (first
    | (go_at_call 24; refine (HS1 _).mono ?_; rintro e w1 ⟨rfl, hb1⟩; have hW1 : Below W.heap.size W w1 := (Below.refl _ _).drew.trans hb1; obtain ⟨d10, d11, -, -⟩ := (b1.below hW1).cells)
    | (go_at_call 23; refine (HST w1 (hx0.below hW1)).mono ?_; intro e w3 h3; obtain ⟨ao3, len3, cap3, rfl, harg, hb3⟩ := RetSt.arg h3; have hW3 := hW1.trans (hb3.mono hW1.size))
    | (go_at_call 30; refine (with_any 0 harg).mono ?_; intro e w4 h4; obtain ⟨ao2, len2, cap2, f2, he, hr2, hq2, hs2, hb4⟩ := RetSet.fr h4; rw [hcast] at he; subst he; have hW4 := hW3.trans (hb4.mono hW3.size); have hz3 := hW3.size; have b3 := b2.below hW4; have hB3 := hB0.trans (hW4.mono hB0.size); have hz2 := hB0.size; have hzz := b2.lt; obtain ⟨c20, c21, f20, f21⟩ := b3.cells))
  all_goals go_wp2
  all_goals
    have b4 := b3.set (.int .i64 ((hi' : Int) + 1)) (.slice ao2 len2 cap2)
    obtain ⟨k0, k1, -, -⟩ := b4.cells
    have hszz := b3.lt
    refine bodyPost_ret (v := .agg #[.int .i64 ((hi' + 1 : Nat) : Int), .slice ao2 len2 cap2]) (by simp [results, Tryd.results12, go_sem, k0, k1, hcast]) rfl ⟨_, _, _, f2, rfl, ?_, fun q e => ?_, hs2, ?_⟩
    · exact hr2.set2 (fun q e h0 => by have := hq2 q e; omega) _ _
    · have := hq2 q e
      omega
    · exact (hB3.setCell (p := ⟨w.heap.size + 1 + 1, 0, none⟩) (by simp; omega) _).setCell (p := ⟨w.heap.size + 1 + 1, 1, none⟩) (by simp; omega) _
end Go.Proofs.YtehlmjjdegmnaaaDoor
