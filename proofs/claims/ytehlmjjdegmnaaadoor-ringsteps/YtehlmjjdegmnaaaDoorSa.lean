/- None, Next, Oldest: the walks. -/
import Derived.Test.YtehlmjjdegmnaaaDoorBt
import Derived.Test.YtehlmjjdegmnaaaDoorTg
import Derived.Test.YtehlmjjdegmnaaaDoorRq
import Derived.Deep.RegionWith
namespace Go.Proofs.YtehlmjjdegmnaaaDoor
open Go.RowKit Go.Shelf

set_option maxRecDepth 100000 in
set_option maxHeartbeats 2000000 in
/-- None. -/
theorem pnone_any {a b c d a' b' c' d' lo' hi' : Nat} {lo hi : Int} (w : World) (HS : ∀ w, Calls Tryd.prog 24 #[rgV a b c d lo hi] w fun e w' => e = .returned (rgV a' b' c' d' lo' hi') ∧ Below w.heap.size w w') (hhi : hi' ≤ 1000) :
    Calls Tryd.prog 10 #[rgV a b c d lo hi] w (RetFr w (hi' + 1) (fun _ => false)) := by
  have hB0 := below_two w (.cells #[.int .u64 (a : Nat), .int .u64 (b : Nat), .int .u64 (c : Nat), .int .u64 (d : Nat), .int .i64 lo, .int .i64 hi] 26) (.cells #[.int .i64 0, .slice none 0 0] 29)
  have b1 := Box.new1 w (.cells #[.int .u64 (a : Nat), .int .u64 (b : Nat), .int .u64 (c : Nat), .int .u64 (d : Nat), .int .i64 lo, .int .i64 hi] 26) (.int .i64 0) (.slice none 0 0)
  have HS0 := HS ((w.alloc (.cells #[.int .u64 (a : Nat), .int .u64 (b : Nat), .int .u64 (c : Nat), .int .u64 (d : Nat), .int .i64 lo, .int .i64 hi] 26)).alloc (.cells #[.int .i64 0, .slice none 0 0] 29))
  have hcast : ((hi' + 1 : Nat) : Int) = (hi' : Int) + 1 := by omega
  have HN := fun W => none_any (a := a') (b := b') (c := c') (d := d') (lo := lo') (hi := hi') W hhi
  clear HS
  unfold rgV at HS0 HN ⊢
  go_enter Tryd.func10, Tryd.ntmps10
  go_wp2_with (first
    | (go_at_call 24; refine HS0.mono ?_; rintro e w1 ⟨rfl, hb⟩; have hB1 := hB0.trans (hb.mono (by simp; omega)); have b1' := b1.below hb; clear hb HS0 b1 hB0)
    | (go_at_call 27; refine (HN w1).mono ?_; rintro e w2 ⟨ao, len, cap, f, he, hr, hq, hs, hb2⟩; rw [hcast] at he; subst he; have hB2 := hB1.trans (hb2.mono hB1.size); have b2 := b1'.below hb2; have hz1 := b1'.lt; have HSt := hidM hs; clear hb2 hs; obtain ⟨c20, c21, f20, f21⟩ := b2.cells))
  have b4 := b2.set (.int .i64 ((hi' : Int) + 1)) (.slice ao len cap)
  obtain ⟨k0, k1, -, -⟩ := b4.cells
  refine bodyPost_ret (v := .agg #[.int .i64 ((hi' + 1 : Nat) : Int), .slice ao len cap]) (by simp [results, Tryd.results10, go_sem, k0, k1, hcast]) rfl ⟨_, _, _, _, rfl, ?_, fun q e => ?_, HSt.out, ?_⟩
  · exact hr.set2 (fun q e h0 => by have := hq q e; omega) _ _
  · have := hq q e
    omega
  · exact (hB2.setCell (p := ⟨w.heap.size + 1, 0, none⟩) (by simp) _).setCell (p := ⟨w.heap.size + 1, 1, none⟩) (by simp) _
/-- What Last answers, as two values. -/
structure IsM (Q : Nat → Bool) (N : Nat) (z : Nat) (v : Bool) : Prop where
  yes : v = true → z < N ∧ Q z = true ∧ ∀ j, z < j → Q j = false
  no : v = false → z = 0 ∧ ∀ j, Q j = false
theorem RetM.two {w w' : World} {Q : Nat → Bool} {N : Nat} {e : Ending} (h : RetM w Q N e w') : ∃ (z : Nat) (v : Bool), e = .returned (.tuple #[.int .i64 (z : Nat), .bool v]) ∧ IsM Q N z v ∧ Below w.heap.size w w' := by
  obtain ⟨⟨k, he, h1, h2, h3⟩ | ⟨he, h1⟩, hb⟩ := h
  · exact ⟨k, true, he, ⟨fun _ => ⟨h1, h2, h3⟩, fun h => by cases h⟩, hb⟩
  · exact ⟨0, false, he, ⟨fun h => (by cases h), fun _ => ⟨rfl, h1⟩⟩, hb⟩
theorem IsM.ret {w w' : World} {Q : Nat → Bool} {N z : Nat} {v : Bool} (h : IsM Q N z v) (hb : Below w.heap.size w w') : RetM w Q N (.returned (.tuple #[.int .i64 (z : Nat), .bool v])) w' := by
  cases v with
  | true =>
    obtain ⟨h1, h2, h3⟩ := h.yes rfl
    exact ⟨.inl ⟨z, rfl, h1, h2, h3⟩, hb⟩
  | false =>
    obtain ⟨h1, h2⟩ := h.no rfl
    subst h1
    exact ⟨.inr ⟨rfl, h2⟩, hb⟩
theorem IsM.uniq {Q : Nat → Bool} {N z z' : Nat} {v v' : Bool} (h : IsM Q N z v) (h' : IsM Q N z' v') : z = z' ∧ v = v' := by
  cases v with
  | true =>
    obtain ⟨h1, h2, h3⟩ := h.yes rfl
    cases v' with
    | true =>
      obtain ⟨g1, g2, g3⟩ := h'.yes rfl
      refine ⟨?_, rfl⟩
      rcases Nat.lt_trichotomy z z' with h4 | h4 | h4
      · rw [h3 z' h4] at g2; cases g2
      · exact h4
      · rw [g3 z h4] at h2; cases h2
    | false => rw [(h'.no rfl).2 z] at h2; cases h2
  | false =>
    obtain ⟨h1, h2⟩ := h.no rfl
    cases v' with
    | true =>
      obtain ⟨g1, g2, g3⟩ := h'.yes rfl
      rw [h2 z'] at g2; cases g2
    | false => exact ⟨h1.trans (h'.no rfl).1.symm, rfl⟩
theorem rdB_one (w : World) (y : Nat) (hy : y < 256) : RdB (w.alloc (.cells #[.int .u8 (y : Nat)] 5)) (some ⟨w.heap.size, 0, none⟩) 1 (fun _ => y) :=
  ⟨fun _ _ => hy, fun _ => ⟨w.heap.size, 0, rfl, by simp, fun i hi => by
    obtain rfl : i = 0 := by omega
    exact (Cl.new w 5 [.int .u8 (y : Nat)]).cell 0 rfl⟩⟩
set_option maxRecDepth 100000 in
set_option maxHeartbeats 2000000 in
/-- Next. -/
theorem next_any {a b c d a' b' c' d' lo' hi' : Nat} {lo hi : Int} {P Q : Nat → Bool} {x : Value} (w : World) (y : Nat) (hy : y < 256)
    (HS : ∀ w, Calls Tryd.prog 24 #[rgV a b c d lo hi] w fun e w' => e = .returned (rgV a' b' c' d' lo' hi') ∧ Below w.heap.size w w') (hP : C4 P a' b' c' d') (hhi : hi' ≤ 1000) (hx : Sta w x (hi' + 1) Q) :
    Calls Tryd.prog 14 #[rgV a b c d lo hi, x, .int .u8 (y : Nat)] w (RetFr w (hi' + 1) fun i => P y && decide (1 ≤ i) && Q (i - 1) && decide (i < hi' + 1)) := by
  obtain ⟨m, xo, xl, xc, rfl⟩ := hx.shape
  have hB0 := below3 w (.cells #[.int .u64 (a : Nat), .int .u64 (b : Nat), .int .u64 (c : Nat), .int .u64 (d : Nat), .int .i64 lo, .int .i64 hi] 26) (.cells #[.int .i64 m, .slice xo xl xc] 29) (.cells #[.int .i64 0, .slice none 0 0] 29)
  have r0 := RgAt.new3 w a b c d lo hi (.cells #[.int .i64 m, .slice xo xl xc] 29) (.cells #[.int .i64 0, .slice none 0 0] 29)
  have b1 := (Box.new1 w (.cells #[.int .u64 (a : Nat), .int .u64 (b : Nat), .int .u64 (c : Nat), .int .u64 (d : Nat), .int .i64 lo, .int .i64 hi] 26) (.int .i64 m) (.slice xo xl xc)).alloc (.cells #[.int .i64 0, .slice none 0 0] 29)
  have b2 := Box.new2' w (.cells #[.int .u64 (a : Nat), .int .u64 (b : Nat), .int .u64 (c : Nat), .int .u64 (d : Nat), .int .i64 lo, .int .i64 hi] 26) (.cells #[.int .i64 m, .slice xo xl xc] 29) (.int .i64 0) (.slice none 0 0)
  have hcast : ((hi' + 1 : Nat) : Int) = (hi' : Int) + 1 := by omega
  have hx0 := hx.below hB0
  have HR : ∀ (W : World) (go : Option Addr) (gc : Nat), Sta W (.agg #[.int .i64 m, .slice xo xl xc]) (hi' + 1) Q → RdB W go 1 (fun _ => y) → Calls Tryd.prog 16 #[.agg #[.int .u64 (a : Nat), .int .u64 (b : Nat), .int .u64 (c : Nat), .int .u64 (d : Nat), .int .i64 lo, .int .i64 hi], .agg #[.int .i64 m, .slice xo xl xc], .slice go 1 gc] W (RetFr W (hi' + 1) (rP P (fun _ => y) 1 (hi' + 1) Q)) := fun W go gc h1 h2 => run_any W go 1 gc (fun _ => y) HS hP hhi h1 h2 (by decide)
  have hfin : ∀ i, rP P (fun _ => y) 1 (hi' + 1) Q i = (P y && decide (1 ≤ i) && Q (i - 1) && decide (i < hi' + 1)) := fun i => by simp [rP, alF]
  have HF := hidM hfin
  clear HS hx hfin
  unfold rgV
  go_enter Tryd.func14, Tryd.ntmps14
  go_upto_region 1 with fail
  generalize ((w.alloc (.cells #[.int .u64 (a : Nat), .int .u64 (b : Nat), .int .u64 (c : Nat), .int .u64 (d : Nat), .int .i64 lo, .int .i64 hi] 26)).alloc (.cells #[.int .i64 m, .slice xo xl xc] 29)).alloc (.cells #[.int .i64 0, .slice none 0 0] 29) = W at *
  obtain ⟨⟨g0, g1, g2, g3, g4, g5⟩, -⟩ := r0.cells
  obtain ⟨c10, c11, -, -⟩ := b1.cells
  have hbA := (Below.refl W.heap.size W).alloc (Nat.le_refl _) (.cells #[.int .u8 (y : Nat)] 5)
  have hlA := rdB_one W y hy
  have hxA := hx0.below hbA
  go_wp2_with (go_at_call 16; refine (HR _ _ _ hxA hlA).mono ?_; rintro e w4 ⟨ao2, len2, cap2, f2, he, hr2, hq2, hs2, hb4⟩; rw [hcast] at he; subst he; have hW4 := hbA.trans (hb4.mono hbA.size); have b3 := b2.below hW4; have hB3 := hB0.trans (hW4.mono hB0.size); have hzz := b2.lt; have HSt := hidM hs2; clear hs2; obtain ⟨c20, c21, f20, f21⟩ := b3.cells)
  have b4 := b3.set (.int .i64 ((hi' : Int) + 1)) (.slice ao2 len2 cap2)
  obtain ⟨k0, k1, -, -⟩ := b4.cells
  have hszz := b3.lt
  have hz0 := hB0.size
  have hzA := hbA.size
  refine bodyPost_ret (v := .agg #[.int .i64 ((hi' + 1 : Nat) : Int), .slice ao2 len2 cap2]) (by simp [results, Tryd.results14, go_sem, k0, k1, hcast]) rfl ⟨_, _, _, f2, rfl, ?_, fun q e => ?_, HSt.out.congr' HF.out, ?_⟩
  · exact hr2.set2 (fun q e h0 => by have := hq2 q e; omega) _ _
  · have := hq2 q e
    omega
  · exact (hB3.setCell (p := ⟨w.heap.size + 1 + 1, 0, none⟩) (by simp; omega) _).setCell (p := ⟨w.heap.size + 1 + 1, 1, none⟩) (by simp; omega) _
set_option maxRecDepth 100000 in
set_option maxHeartbeats 2000000 in
/-- Oldest. -/
theorem oldest_any {a b c d a' b' c' d' lo' hi' : Nat} {lo hi : Int} {Q : Nat → Bool} {x : Value} (w : World) (HS : ∀ w, Calls Tryd.prog 24 #[rgV a b c d lo hi] w fun e w' => e = .returned (rgV a' b' c' d' lo' hi') ∧ Below w.heap.size w w') (hhi : hi' ≤ 1000) (hx : Sta w x (hi' + 1) Q) :
    Calls Tryd.prog 5 #[rgV a b c d lo hi, x] w (RetM w Q (hi' + 1)) := by
  obtain ⟨m, xo, xl, xc, rfl⟩ := hx.shape
  have hB0 := below_two w (.cells #[.int .u64 (a : Nat), .int .u64 (b : Nat), .int .u64 (c : Nat), .int .u64 (d : Nat), .int .i64 lo, .int .i64 hi] 26) (.cells #[.int .i64 m, .slice xo xl xc] 29)
  have r0 := (RgAt.new w a b c d lo hi).below ((Below.refl _ _).alloc (Nat.le_refl _) (.cells #[.int .i64 m, .slice xo xl xc] 29))
  have b1 := Box.new1 w (.cells #[.int .u64 (a : Nat), .int .u64 (b : Nat), .int .u64 (c : Nat), .int .u64 (d : Nat), .int .i64 lo, .int .i64 hi] 26) (.int .i64 m) (.slice xo xl xc)
  have hx0 := hx.below hB0
  have HS1 : ∀ w, Calls Tryd.prog 24 #[.agg #[.int .u64 (a : Nat), .int .u64 (b : Nat), .int .u64 (c : Nat), .int .u64 (d : Nat), .int .i64 lo, .int .i64 hi]] w fun e w' => e = .returned (.agg #[.int .u64 (a' : Nat), .int .u64 (b' : Nat), .int .u64 (c' : Nat), .int .u64 (d' : Nat), .int .i64 (lo' : Nat), .int .i64 (hi' : Nat)]) ∧ Below w.heap.size w w' := HS
  have HST : ∀ w, Sta w (.agg #[.int .i64 m, .slice xo xl xc]) (hi' + 1) Q → Calls Tryd.prog 23 #[.agg #[.int .u64 (a' : Nat), .int .u64 (b' : Nat), .int .u64 (c' : Nat), .int .u64 (d' : Nat), .int .i64 (lo' : Nat), .int .i64 (hi' : Nat)], .agg #[.int .i64 m, .slice xo xl xc]] w (RetSt w (hi' + 1) Q) := fun w h => state_any w hhi h
  clear HS hx
  unfold rgV
  go_enter Tryd.func5, Tryd.ntmps5
  go_upto_region 1 with fail
  generalize (w.alloc (.cells #[.int .u64 (a : Nat), .int .u64 (b : Nat), .int .u64 (c : Nat), .int .u64 (d : Nat), .int .i64 lo, .int .i64 hi] 26)).alloc (.cells #[.int .i64 m, .slice xo xl xc] 29) = W at *
  obtain ⟨⟨g0, g1, g2, g3, g4, g5⟩, -⟩ := r0.cells
  obtain ⟨c10, c11, -, -⟩ := b1.cells
  go_region_with (first
    | (go_at_call 24; refine (HS1 _).mono ?_; rintro e w1 ⟨rfl, hb1⟩; have hW1 : Below W.heap.size W w1 := (Below.refl _ _).drew.trans hb1; obtain ⟨d10, d11, -, -⟩ := (b1.below hW1).cells)
    | (go_at_call 23; refine (HST w1 (hx0.below hW1)).mono ?_; intro e w3 h3; obtain ⟨ao3, len3, cap3, rfl, harg, hb3⟩ := RetSt.arg h3; have hW3 := hW1.trans (hb3.mono hW1.size))
    | (go_at_call 22; refine (last_any harg).mono ?_; intro e w4 h4; obtain ⟨zv, bv, rfl, hM, hb4⟩ := RetM.two h4; have hW4 := hW3.trans (hb4.mono hW3.size); have hB4 := hB0.trans (hW4.mono hB0.size)))
  all_goals go_wp2
  all_goals
    refine bodyPost_ret (v := .tuple #[.int .i64 (zv : Nat), .bool bv]) (by simp [results, Tryd.results5, go_sem]) rfl (hM.ret hB4)
end Go.Proofs.YtehlmjjdegmnaaaDoor
