/- The reference's Next, Trigger: the walks. -/
import Derived.Test.YtehlmjjdegmnaaaDoorRs
import Derived.Test.YtehlmjjdegmnaaaDoorRu
namespace Go.Proofs.YtehlmjjdegmnaaaDoor
open Go.RowKit
theorem field26c (a b c d lo hi : Value) (w : World) : (Instr.field 26 (.agg #[a, b, c, d, lo, hi]) 0).run Tryd.prog w = .ok (.agg #[a, b, c, d]) w := by kernel_rfl
set_option maxRecDepth 100000 in
set_option maxHeartbeats 2000000 in
/-- The reference's Trigger. -/
theorem rtrig_any {a b c d a' b' c' d' lo' hi' : Nat} {lo hi : Int} {x : Value} {Q : Nat → Bool} (w : World) (HM : ∀ w, Calls Tryd.prog 29 #[rgV a b c d lo hi] w fun e w' => e = .returned (rgV a' b' c' d' lo' hi') ∧ Below w.heap.size w w') (hhi : hi' ≤ 1000) (hx : Sta w x (hi' + 1) Q) :
    Calls Tryd.prog 13 #[rgV a b c d lo hi, x] w (RetFr w (hi' + 1) fun i => Q i || decide ((i : Int) = 0 ∧ i < hi' + 1)) := by
  obtain ⟨m, xo, xl, xc, rfl⟩ := hx.shape
  have hB0 := below3 w (.cells #[.int .u64 (a : Nat), .int .u64 (b : Nat), .int .u64 (c : Nat), .int .u64 (d : Nat), .int .i64 lo, .int .i64 hi] 26) (.cells #[.int .i64 m, .slice xo xl xc] 29) (.cells #[.int .i64 0, .slice none 0 0] 29)
  have r0 := RgAt.new3 w a b c d lo hi (.cells #[.int .i64 m, .slice xo xl xc] 29) (.cells #[.int .i64 0, .slice none 0 0] 29)
  have b1 := (Box.new1 w (.cells #[.int .u64 (a : Nat), .int .u64 (b : Nat), .int .u64 (c : Nat), .int .u64 (d : Nat), .int .i64 lo, .int .i64 hi] 26) (.int .i64 m) (.slice xo xl xc)).alloc (.cells #[.int .i64 0, .slice none 0 0] 29)
  have b2 := Box.new2' w (.cells #[.int .u64 (a : Nat), .int .u64 (b : Nat), .int .u64 (c : Nat), .int .u64 (d : Nat), .int .i64 lo, .int .i64 hi] 26) (.cells #[.int .i64 m, .slice xo xl xc] 29) (.int .i64 0) (.slice none 0 0)
  have hcast : ((hi' + 1 : Nat) : Int) = (hi' : Int) + 1 := by omega
  have HST := rstate_any (((w.alloc (.cells #[.int .u64 (a : Nat), .int .u64 (b : Nat), .int .u64 (c : Nat), .int .u64 (d : Nat), .int .i64 lo, .int .i64 hi] 26)).alloc (.cells #[.int .i64 m, .slice xo xl xc] 29)).alloc (.cells #[.int .i64 0, .slice none 0 0] 29)) HM hhi (hx.below hB0)
  clear HM hx
  unfold rgV at HST ⊢
  go_enter Tryd.func13, Tryd.ntmps13
  go_wp2_with fail
  generalize ((w.alloc (.cells #[.int .u64 (a : Nat), .int .u64 (b : Nat), .int .u64 (c : Nat), .int .u64 (d : Nat), .int .i64 lo, .int .i64 hi] 26)).alloc (.cells #[.int .i64 m, .slice xo xl xc] 29)).alloc (.cells #[.int .i64 0, .slice none 0 0] 29) = W at *
  obtain ⟨⟨g0, g1, g2, g3, g4, g5⟩, -⟩ := r0.cells
  obtain ⟨c10, c11, -, -⟩ := b1.cells
  refine HST.mono ?_
  intro e w3 h3
  obtain ⟨ao3, len3, cap3, rfl, harg, hb3⟩ := RetSt.arg h3
  go_wp2_with (go_at_call 31; refine (rwith_any 0 harg).mono ?_; intro e w4 h4; obtain ⟨ao2, len2, cap2, f2, he, hr2, hq2, hs2, hb4⟩ := RetL.fr h4; rw [hcast] at he; subst he; have hW4 := hb3.trans (hb4.mono hb3.size); have hz3 := hb3.size; have b3 := b2.below hW4; have hB3 := hB0.trans (hW4.mono hB0.size); have hzz := b2.lt; obtain ⟨c20, c21, f20, f21⟩ := b3.cells)
  have b4 := b3.set (.int .i64 ((hi' : Int) + 1)) (.slice ao2 len2 cap2)
  obtain ⟨k0, k1, -, -⟩ := b4.cells
  have hszz := b3.lt
  have hz0 := hB0.size
  refine bodyPost_ret (v := .agg #[.int .i64 ((hi' + 1 : Nat) : Int), .slice ao2 len2 cap2]) (by simp [results, Tryd.results13, go_sem, k0, k1, hcast]) rfl ⟨_, _, _, f2, rfl, ?_, fun q e => ?_, hs2, ?_⟩
  · exact hr2.set2 (fun q e h0 => by have := hq2 q e; omega) _ _
  · have := hq2 q e
    omega
  · exact (hB3.setCell (p := ⟨w.heap.size + 1 + 1, 0, none⟩) (by simp; omega) _).setCell (p := ⟨w.heap.size + 1 + 1, 1, none⟩) (by simp; omega) _
set_option maxRecDepth 100000 in
set_option maxHeartbeats 2000000 in
/-- The reference's Next. -/
theorem rnext_any {a b c d a' b' c' d' lo' hi' : Nat} {lo hi : Int} {x : Value} {P Q : Nat → Bool} (w : World) (y : Nat) (hy : y < 256) (HM : ∀ w, Calls Tryd.prog 29 #[rgV a b c d lo hi] w fun e w' => e = .returned (rgV a' b' c' d' lo' hi') ∧ Below w.heap.size w w') (hP : C4 P a' b' c' d') (hhi : hi' ≤ 1000) (hx : Sta w x (hi' + 1) Q) :
    Calls Tryd.prog 15 #[rgV a b c d lo hi, x, .int .u8 (y : Nat)] w (RetFr w (hi' + 1) fun i => P y && decide (1 ≤ i) && Q (i - 1) && decide (i < hi' + 1)) := by
  obtain ⟨m, xo, xl, xc, rfl⟩ := hx.shape
  have hB0 := below3 w (.cells #[.int .u64 (a : Nat), .int .u64 (b : Nat), .int .u64 (c : Nat), .int .u64 (d : Nat), .int .i64 lo, .int .i64 hi] 26) (.cells #[.int .i64 m, .slice xo xl xc] 29) (.cells #[.int .i64 0, .slice none 0 0] 29)
  have r0 := RgAt.new3 w a b c d lo hi (.cells #[.int .i64 m, .slice xo xl xc] 29) (.cells #[.int .i64 0, .slice none 0 0] 29)
  have b1 := (Box.new1 w (.cells #[.int .u64 (a : Nat), .int .u64 (b : Nat), .int .u64 (c : Nat), .int .u64 (d : Nat), .int .i64 lo, .int .i64 hi] 26) (.int .i64 m) (.slice xo xl xc)).alloc (.cells #[.int .i64 0, .slice none 0 0] 29)
  have b2 := Box.new2' w (.cells #[.int .u64 (a : Nat), .int .u64 (b : Nat), .int .u64 (c : Nat), .int .u64 (d : Nat), .int .i64 lo, .int .i64 hi] 26) (.cells #[.int .i64 m, .slice xo xl xc] 29) (.int .i64 0) (.slice none 0 0)
  have hcast : ((hi' + 1 : Nat) : Int) = (hi' : Int) + 1 := by omega
  have hx0 := hx.below hB0
  have HM1 : ∀ w, Calls Tryd.prog 29 #[.agg #[.int .u64 (a : Nat), .int .u64 (b : Nat), .int .u64 (c : Nat), .int .u64 (d : Nat), .int .i64 lo, .int .i64 hi]] w fun e w' => e = .returned (.agg #[.int .u64 (a' : Nat), .int .u64 (b' : Nat), .int .u64 (c' : Nat), .int .u64 (d' : Nat), .int .i64 (lo' : Nat), .int .i64 (hi' : Nat)]) ∧ Below w.heap.size w w' := HM
  have HN : ∀ w, Calls Tryd.prog 11 #[.agg #[.int .u64 (a : Nat), .int .u64 (b : Nat), .int .u64 (c : Nat), .int .u64 (d : Nat), .int .i64 lo, .int .i64 hi]] w (RetFr w (hi' + 1) (fun _ => false)) := fun w => rnone_any w HM hhi
  have HST : ∀ w, Sta w (.agg #[.int .i64 m, .slice xo xl xc]) (hi' + 1) Q → Calls Tryd.prog 26 #[.agg #[.int .u64 (a : Nat), .int .u64 (b : Nat), .int .u64 (c : Nat), .int .u64 (d : Nat), .int .i64 lo, .int .i64 hi], .agg #[.int .i64 m, .slice xo xl xc]] w (RetSt w (hi' + 1) Q) := fun w h => rstate_any w HM hhi h
  have HH := fun W => rhas_c hP y W hy
  have hf := field26c
  clear HM hx
  unfold rgV
  go_enter Tryd.func15, Tryd.ntmps15
  go_wp2_with fail
  generalize ((w.alloc (.cells #[.int .u64 (a : Nat), .int .u64 (b : Nat), .int .u64 (c : Nat), .int .u64 (d : Nat), .int .i64 lo, .int .i64 hi] 26)).alloc (.cells #[.int .i64 m, .slice xo xl xc] 29)).alloc (.cells #[.int .i64 0, .slice none 0 0] 29) = W at *
  refine (HM1 _).mono ?_
  rintro e w1 ⟨rfl, hb1⟩
  cases hp : P y with
  | false =>
    rw [hp] at HH
    go_wp2_with (first
      | (go_at_call 32; refine (HH _).mono ?_; rintro e w2 ⟨rfl, hb2⟩; have hW2 := hb1.trans (hb2.mono hb1.size); have r2 := r0.below hW2; obtain ⟨⟨g0, g1, g2, g3, g4, g5⟩, -⟩ := r2.cells)
      | (go_at_call 11; refine (HN _).mono ?_; rintro e w4 ⟨ao2, len2, cap2, f2, he, hr2, hq2, hs2, hb4⟩; rw [hcast] at he; subst he; have hW4 := hW2.trans (hb4.mono hW2.size); have hz3 := hW2.size; have b3 := b2.below hW4; have hB3 := hB0.trans (hW4.mono hB0.size); have hzz := b2.lt; obtain ⟨c20, c21, f20, f21⟩ := b3.cells))
    have b4 := b3.set (.int .i64 ((hi' : Int) + 1)) (.slice ao2 len2 cap2)
    obtain ⟨k0, k1, -, -⟩ := b4.cells
    have hszz := b3.lt
    have hz0 := hB0.size
    refine bodyPost_ret (v := .agg #[.int .i64 ((hi' + 1 : Nat) : Int), .slice ao2 len2 cap2]) (by simp [results, Tryd.results15, go_sem, k0, k1, hcast]) rfl ⟨_, _, _, f2, rfl, ?_, fun q e => ?_, ?_, ?_⟩
    · exact hr2.set2 (fun q e h0 => by have := hq2 q e; omega) _ _
    · have := hq2 q e
      omega
    · exact hs2.congr' fun i => by simp [hp]
    · exact (hB3.setCell (p := ⟨w.heap.size + 1 + 1, 0, none⟩) (by simp; omega) _).setCell (p := ⟨w.heap.size + 1 + 1, 1, none⟩) (by simp; omega) _
  | true =>
    rw [hp] at HH
    go_wp2_with (first
      | (go_at_call 32; refine (HH _).mono ?_; rintro e w2 ⟨rfl, hb2⟩; have hW2 := hb1.trans (hb2.mono hb1.size); have r2 := r0.below hW2; obtain ⟨⟨g0, g1, g2, g3, g4, g5⟩, -⟩ := r2.cells; obtain ⟨c10, c11, -, -⟩ := (b1.below hW2).cells)
      | (go_at_call 26; refine (HST w2 (hx0.below hW2)).mono ?_; intro e w3 h3; obtain ⟨ao3, len3, cap3, rfl, harg, hb3⟩ := RetSt.arg h3; have hW3 := hW2.trans (hb3.mono hW2.size))
      | (go_at_call 33; refine (rshift_any 1 harg).mono ?_; intro e w4 h4; obtain ⟨ao2, len2, cap2, f2, he, hr2, hq2, hs2, hb4⟩ := RetL.fr h4; rw [hcast] at he; subst he; have hW4 := hW3.trans (hb4.mono hW3.size); have hz3 := hW3.size; have b3 := b2.below hW4; have hB3 := hB0.trans (hW4.mono hB0.size); have hzz := b2.lt; obtain ⟨c20, c21, f20, f21⟩ := b3.cells))
    have b4 := b3.set (.int .i64 ((hi' : Int) + 1)) (.slice ao2 len2 cap2)
    obtain ⟨k0, k1, -, -⟩ := b4.cells
    have hszz := b3.lt
    have hz0 := hB0.size
    refine bodyPost_ret (v := .agg #[.int .i64 ((hi' + 1 : Nat) : Int), .slice ao2 len2 cap2]) (by simp [results, Tryd.results15, go_sem, k0, k1, hcast]) rfl ⟨_, _, _, f2, rfl, ?_, fun q e => ?_, ?_, ?_⟩
    · exact hr2.set2 (fun q e h0 => by have := hq2 q e; omega) _ _
    · have := hq2 q e
      omega
    · refine hs2.congr' fun i => ?_
      rw [hp, Bool.true_and]
      by_cases h : 1 ≤ i
      · rw [decide_eq_true (p := (0 : Int) ≤ (i : Int) - 1) (by omega), decide_eq_true h, show ((i : Int) - 1).toNat = i - 1 by omega]
      · rw [decide_eq_false (p := (0 : Int) ≤ (i : Int) - 1) (by omega), decide_eq_false h]; rfl
    · exact (hB3.setCell (p := ⟨w.heap.size + 1 + 1, 0, none⟩) (by simp; omega) _).setCell (p := ⟨w.heap.size + 1 + 1, 1, none⟩) (by simp; omega) _
end Go.Proofs.YtehlmjjdegmnaaaDoor
