/- The reference's state: the walk. -/
import Derived.Test.YtehlmjjdegmnaaaDoorRv
import Derived.Deep.RegionWith
namespace Go.Proofs.YtehlmjjdegmnaaaDoor
open Go.RowKit
set_option maxRecDepth 100000 in
set_option maxHeartbeats 4000000 in
/-- The reference's state. -/
theorem rstate_any {a b c d a' b' c' d' lo' hi' : Nat} {lo hi : Int} {x : Value} {P : Nat → Bool} (w : World) (HM : ∀ w, Calls Tryd.prog 29 #[rgV a b c d lo hi] w fun e w' => e = .returned (rgV a' b' c' d' lo' hi') ∧ Below w.heap.size w w') (hhi : hi' ≤ 1000) (h : Sta w x (hi' + 1) P) :
    Calls Tryd.prog 26 #[rgV a b c d lo hi, x] w (RetSt w (hi' + 1) P) := by
  obtain ⟨m, ao, len, cap, f, rfl, hr, h⟩ := h
  have hB0 := below3 w (.cells #[.int .u64 (a : Nat), .int .u64 (b : Nat), .int .u64 (c : Nat), .int .u64 (d : Nat), .int .i64 lo, .int .i64 hi] 26) (.cells #[.int .i64 m, .slice ao len cap] 29) (.cells #[.int .i64 0, .slice none 0 0] 29)
  have r0 := RgAt.new3 w a b c d lo hi (.cells #[.int .i64 m, .slice ao len cap] 29) (.cells #[.int .i64 0, .slice none 0 0] 29)
  have b1 := (Box.new1 w (.cells #[.int .u64 (a : Nat), .int .u64 (b : Nat), .int .u64 (c : Nat), .int .u64 (d : Nat), .int .i64 lo, .int .i64 hi] 26) (.int .i64 m) (.slice ao len cap)).alloc (.cells #[.int .i64 0, .slice none 0 0] 29)
  have b2 := Box.new2' w (.cells #[.int .u64 (a : Nat), .int .u64 (b : Nat), .int .u64 (c : Nat), .int .u64 (d : Nat), .int .i64 lo, .int .i64 hi] 26) (.cells #[.int .i64 m, .slice ao len cap] 29) (.int .i64 0) (.slice none 0 0)
  have hcast : ((hi' + 1 : Nat) : Int) = (hi' : Int) + 1 := by omega
  have hr0 := hr.below hB0
  have hlo := hr.lo
  have HM1 : ∀ w, Calls Tryd.prog 29 #[.agg #[.int .u64 (a : Nat), .int .u64 (b : Nat), .int .u64 (c : Nat), .int .u64 (d : Nat), .int .i64 lo, .int .i64 hi]] w fun e w' => e = .returned (.agg #[.int .u64 (a' : Nat), .int .u64 (b' : Nat), .int .u64 (c' : Nat), .int .u64 (d' : Nat), .int .i64 (lo' : Nat), .int .i64 (hi' : Nat)]) ∧ Below w.heap.size w w' := HM
  have HN : ∀ w, Calls Tryd.prog 11 #[.agg #[.int .u64 (a : Nat), .int .u64 (b : Nat), .int .u64 (c : Nat), .int .u64 (d : Nat), .int .i64 lo, .int .i64 hi]] w (RetFr w (hi' + 1) (fun _ => false)) := fun w => rnone_any w HM hhi
  have hf := field26
  obtain ⟨Nn, hNn⟩ : ∃ Nn : Int, (hi' : Int) + 1 = Nn := ⟨_, rfl⟩
  have hwp : IntKind.i64.wrap Nn = Nn := wrapi64_in _ (by omega) (by omega)
  have HNn : Hid ((hi' : Int) + 1 = Nn) := hNn
  have HCAST : Hid (((hi' + 1 : Nat) : Int) = (hi' : Int) + 1) := hcast
  have hn2 : w.heap.size + 1 + 1 < (((w.alloc (.cells #[.int .u64 (a : Nat), .int .u64 (b : Nat), .int .u64 (c : Nat), .int .u64 (d : Nat), .int .i64 lo, .int .i64 hi] 26)).alloc (.cells #[.int .i64 m, .slice ao len cap] 29)).alloc (.cells #[.int .i64 0, .slice none 0 0] 29)).heap.size := b2.lt
  clear HM hhi
  unfold rgV
  rcases h with ⟨hm, hs⟩ | ⟨hno, rfl⟩
  · have hok : Ok m len f := by rw [hm]; exact hs.ok
    rw [hcast, hNn] at hm
    subst hm
    have HCk : ∀ W, Rd W ao len f → Calls Tryd.prog 45 #[.agg #[.int .i64 m, .slice ao len cap]] W fun e w' => e = .returned (.int .i64 0) ∧ Below W.heap.size W w' := by
      intro W hr
      refine (rcheck_any m ao len cap f W hr).mono ?_
      rintro e w' ⟨⟨_, he⟩ | ⟨hx, _⟩, hb⟩
      · exact ⟨he, hb⟩
      · exact absurd hok hx
    have hne : (m != m) = false := by simp
    clear hcast
    go_enter Tryd.func26, Tryd.ntmps26
    go_wp2_with fail
    generalize ((w.alloc (.cells #[.int .u64 (a : Nat), .int .u64 (b : Nat), .int .u64 (c : Nat), .int .u64 (d : Nat), .int .i64 lo, .int .i64 hi] 26)).alloc (.cells #[.int .i64 m, .slice ao len cap] 29)).alloc (.cells #[.int .i64 0, .slice none 0 0] 29) = W at *
    obtain ⟨⟨g0, g1, g2, g3, g4, g5⟩, -⟩ := r0.cells
    obtain ⟨c10, c11, -, -⟩ := b1.cells
    go_region_with (first
      | (go_at_call 45; refine (HCk _ (hr0.below (Below.refl _ _).drew)).mono ?_; rintro e w1 ⟨rfl, hb1⟩; have hW1 : Below W.heap.size W w1 := (Below.refl _ _).drew.trans hb1; clear g0 g1 g2 g3 g4 g5 c10 c11; obtain ⟨⟨g0, g1, g2, g3, g4, g5⟩, -⟩ := (r0.below hW1).cells; obtain ⟨c10, c11, -, -⟩ := (b1.below hW1).cells)
      | (go_at_call 29; refine (HM1 _).mono ?_; rintro e w2 ⟨rfl, hb2⟩; have hW2 := hW1.trans (hb2.mono hW1.size); clear g0 g1 g2 g3 g4 g5 c10 c11; obtain ⟨c10, c11, -, -⟩ := (b1.below hW2).cells; have b3 := b2.below hW2; obtain ⟨c20, c21, f20, f21⟩ := b3.cells))
    all_goals go_wp2_with fail
    all_goals
      have b4 := b3.set (.int .i64 m) (.slice ao len cap)
      obtain ⟨k0, k1, -, -⟩ := b4.cells
      have hB3 := hB0.trans (hW2.mono hB0.size)
      have hr3 := hr0.below hW2
      have hbl := b2.lt
      refine bodyPost_ret (v := .agg #[.int .i64 m, .slice ao len cap]) (by simp [results, Tryd.results26, go_sem, k0, k1]) rfl ⟨_, _, _, f, by rw [HCAST.out, HNn.out], ?_, hs, ?_⟩
      · exact hr3.set2 (fun q e h0 => by have := hlo q e h0; omega) _ _
      · exact (hB3.setCell (p := ⟨w.heap.size + 1 + 1, 0, none⟩) (by simp; omega) _).setCell (p := ⟨w.heap.size + 1 + 1, 1, none⟩) (by simp; omega) _
  · by_cases hok : Ok m len f
    · have hmN : m ≠ Nn := by rw [← hNn, ← hcast]; exact fun e => hno ⟨e, hok⟩
      have HCk : ∀ W, Rd W ao len f → Calls Tryd.prog 45 #[.agg #[.int .i64 m, .slice ao len cap]] W fun e w' => e = .returned (.int .i64 0) ∧ Below W.heap.size W w' := by
        intro W hr
        refine (rcheck_any m ao len cap f W hr).mono ?_
        rintro e w' ⟨⟨_, he⟩ | ⟨hx, _⟩, hb⟩
        · exact ⟨he, hb⟩
        · exact absurd hok hx
      have hne : (m != Nn) = true := by simpa using hmN
      clear hcast hno hok
      go_enter Tryd.func26, Tryd.ntmps26
      go_wp2_with fail
      generalize ((w.alloc (.cells #[.int .u64 (a : Nat), .int .u64 (b : Nat), .int .u64 (c : Nat), .int .u64 (d : Nat), .int .i64 lo, .int .i64 hi] 26)).alloc (.cells #[.int .i64 m, .slice ao len cap] 29)).alloc (.cells #[.int .i64 0, .slice none 0 0] 29) = W at *
      obtain ⟨⟨g0, g1, g2, g3, g4, g5⟩, -⟩ := r0.cells
      obtain ⟨c10, c11, -, -⟩ := b1.cells
      go_region_with (first
        | (go_at_call 45; refine (HCk _ (hr0.below (Below.refl _ _).drew)).mono ?_; rintro e w1 ⟨rfl, hb1⟩; have hW1 : Below W.heap.size W w1 := (Below.refl _ _).drew.trans hb1; clear g0 g1 g2 g3 g4 g5 c10 c11; obtain ⟨⟨g0, g1, g2, g3, g4, g5⟩, -⟩ := (r0.below hW1).cells; obtain ⟨c10, c11, -, -⟩ := (b1.below hW1).cells)
        | (go_at_call 29; refine (HM1 _).mono ?_; rintro e w2 ⟨rfl, hb2⟩; have hW2 := hW1.trans (hb2.mono hW1.size); clear g0 g1 g2 g3 g4 g5 c10 c11; obtain ⟨c10, c11, -, -⟩ := (b1.below hW2).cells; obtain ⟨⟨g0, g1, g2, g3, g4, g5⟩, -⟩ := (r0.below hW2).cells))
      all_goals go_wp2_with (go_at_call 11; refine (HN w2).mono ?_; rintro e w5 ⟨ao2, len2, cap2, f2, he2, hr2, hq2, hs2, hb5⟩; rw [HCAST.out, HNn.out] at he2; subst he2; have hW5 := hW2.trans (hb5.mono hW2.size); have hz5 := hW2.size; have b5 := b2.below hW5; have hB5 := hB0.trans (hW5.mono hB0.size); obtain ⟨c20, c21, f20, f21⟩ := b5.cells)
      all_goals
        have b4 := b5.set (.int .i64 Nn) (.slice ao2 len2 cap2)
        obtain ⟨k0, k1, -, -⟩ := b4.cells
        have hbl := b2.lt
        refine bodyPost_ret (v := .agg #[.int .i64 Nn, .slice ao2 len2 cap2]) (by simp [results, Tryd.results26, go_sem, k0, k1]) rfl ⟨_, _, _, f2, by rw [HCAST.out, HNn.out], ?_, hs2, ?_⟩
        · exact hr2.set2 (fun q e h0 => by have := hq2 q e; omega) _ _
        · exact (hB5.setCell (p := ⟨w.heap.size + 1 + 1, 0, none⟩) (by simp; omega) _).setCell (p := ⟨w.heap.size + 1 + 1, 1, none⟩) (by simp; omega) _
    · have HCk : ∀ W, Rd W ao len f → Calls Tryd.prog 45 #[.agg #[.int .i64 m, .slice ao len cap]] W fun e w' => e = .returned (.int .i64 10) ∧ Below W.heap.size W w' := by
        intro W hr
        refine (rcheck_any m ao len cap f W hr).mono ?_
        rintro e w' ⟨⟨hx, _⟩ | ⟨_, he⟩, hb⟩
        · exact absurd hx hok
        · exact ⟨he, hb⟩
      clear hcast hno hok
      go_enter Tryd.func26, Tryd.ntmps26
      go_wp2_with fail
      generalize ((w.alloc (.cells #[.int .u64 (a : Nat), .int .u64 (b : Nat), .int .u64 (c : Nat), .int .u64 (d : Nat), .int .i64 lo, .int .i64 hi] 26)).alloc (.cells #[.int .i64 m, .slice ao len cap] 29)).alloc (.cells #[.int .i64 0, .slice none 0 0] 29) = W at *
      obtain ⟨⟨g0, g1, g2, g3, g4, g5⟩, -⟩ := r0.cells
      obtain ⟨c10, c11, -, -⟩ := b1.cells
      have n1 := fun u => (b1.below (near_below W u)).cells.1
      have n2 := fun u => (b1.below (near_below W u)).cells.2.1
      have hrd := fun u => hr0.below (near_below W u)
      clear g0 g1 g2 g3 g4 g5
      refine wp_region_quiet_tail 11 (fun w' => ∃ u : World, w' = near W u) (by kernel_rfl) (by kernel_rfl) (Near.start _) ?_
      simp only [List.take_succ_cons, List.take_zero, List.drop_succ_cons, List.drop_zero]
      repeat (first | go_big_quiet_skip | go_big_quiet_step ((go_at_call 45; exact Near.call (HCk _ (hrd _)))))
      refine wpQuiet_nil ?_
      rintro _ ⟨u, rfl⟩
      have hW1 := near_below W u
      obtain ⟨⟨g0, g1, g2, g3, g4, g5⟩, -⟩ := (r0.below hW1).cells
      generalize near W u = w1 at *
      all_goals go_wp2_with (go_at_call 11; refine (HN w1).mono ?_; rintro e w5 ⟨ao2, len2, cap2, f2, he2, hr2, hq2, hs2, hb5⟩; rw [HCAST.out, HNn.out] at he2; subst he2; have hW5 := hW1.trans (hb5.mono hW1.size); have hz5 := hW1.size; have b5 := b2.below hW5; have hB5 := hB0.trans (hW5.mono hB0.size); obtain ⟨c20, c21, f20, f21⟩ := b5.cells)
      all_goals
        have b4 := b5.set (.int .i64 Nn) (.slice ao2 len2 cap2)
        obtain ⟨k0, k1, -, -⟩ := b4.cells
        have hbl := b2.lt
        refine bodyPost_ret (v := .agg #[.int .i64 Nn, .slice ao2 len2 cap2]) (by simp [results, Tryd.results26, go_sem, k0, k1]) rfl ⟨_, _, _, f2, by rw [HCAST.out, HNn.out], ?_, hs2, ?_⟩
        · exact hr2.set2 (fun q e h0 => by have := hq2 q e; omega) _ _
        · exact (hB5.setCell (p := ⟨w.heap.size + 1 + 1, 0, none⟩) (by simp; omega) _).setCell (p := ⟨w.heap.size + 1 + 1, 1, none⟩) (by simp; omega) _
end Go.Proofs.YtehlmjjdegmnaaaDoor
