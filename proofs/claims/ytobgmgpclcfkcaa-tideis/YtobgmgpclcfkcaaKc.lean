/- Check of the reference; CheckState of both, New: the walks. -/
import Derived.Test.YtobgmgpclcfkcaaKb
namespace Go.Proofs.Ytobgmgpclcfkcaa
open Go.RowKit Go.Shelf
set_option maxHeartbeats 1000000 in
theorem rcheck_t (a b c d : Nat) (lo : Int) (w : World) : Calls Try.prog 11 #[tdV a b c d lo] w fun e w' => e = .returned (.int .i64 (if okT a b c d lo = true then 0 else 1)) ∧ Below w.heap.size w w' := by
  have hB : Below w.heap.size w (w.alloc (tdO a b c d lo)) := (Below.refl _ _).alloc (Nat.le_refl _) _
  have e4 := eql4 a b c d 0 0 0 0
  unfold okT
  unfold tdO at hB
  unfold tdV
  cases hz : ((a : Int) == 0 && (b : Int) == 0 && (c : Int) == 0 && (d : Int) == 0) with
  | true =>
    rw [hz] at e4
    clear hz
    go_enter Try.func11, Try.ntmps11
    go_wp2
    go_ret
    exact ⟨rfl, hB⟩
  | false =>
    rw [hz] at e4
    clear hz
    by_cases h1 : lo < 0
    · rw [decide_eq_false (p := 0 ≤ lo) (by omega)]
      go_enter Try.func11, Try.ntmps11
      go_wp2
      go_ret
      exact ⟨rfl, hB⟩
    · rw [decide_eq_true (p := 0 ≤ lo) (by omega)]
      by_cases h2 : 1000 < lo
      · rw [decide_eq_false (p := lo ≤ 1000) (by omega)]
        go_enter Try.func11, Try.ntmps11
        go_wp2
        go_ret
        exact ⟨rfl, hB⟩
      · rw [decide_eq_true (p := lo ≤ 1000) (by omega)]
        go_enter Try.func11, Try.ntmps11
        go_wp2
        go_ret
        exact ⟨rfl, hB⟩
/-- What CheckState lets by, of a tide that may be. -/
def okS (lo g : Int) : Bool := decide (-1 ≤ g) && decide (g ≤ lo)
set_option maxHeartbeats 1000000 in
theorem cstate_t (a b c d : Nat) (lo g : Int) (w : World) : Calls Try.prog 12 #[tdV a b c d lo, stV g] w fun e w' => e = .returned (.int .i64 (if (okT a b c d lo && okS lo g) = true then 0 else 1)) ∧ Below w.heap.size w w' := by
  have HC := check_t a b c d lo ((w.alloc (tdO a b c d lo)).alloc (stO g))
  have r0 := (TdAt.new w a b c d lo).alloc (stO g)
  have s0 := StAt.new (w.alloc (tdO a b c d lo)) g
  rw [World.size_alloc] at s0
  have hB : Below w.heap.size w ((w.alloc (tdO a b c d lo)).alloc (stO g)) := ((Below.refl _ _).alloc (Nat.le_refl _) _).alloc (by simp) _
  unfold okS
  unfold tdO stO at *
  unfold tdV at *
  cases hz : okT a b c d lo with
  | false =>
    rw [hz, if_neg (by decide)] at HC
    rw [Bool.false_and, if_neg (by decide)]
    clear hz
    go_enter Try.func12, Try.ntmps12
    go_wp2_with (go_at_call 10; refine HC.mono ?_; rintro e w1 ⟨rfl, hb⟩)
    go_ret
    exact ⟨rfl, hB.trans (hb.mono hB.size)⟩
  | true =>
    rw [hz, if_pos rfl] at HC
    rw [Bool.true_and]
    clear hz
    by_cases h1 : g < -1
    · rw [decide_eq_false (p := -1 ≤ g) (by omega), Bool.false_and, if_neg (by decide)]
      go_enter Try.func12, Try.ntmps12
      go_wp2_with (go_at_call 10; refine HC.mono ?_; rintro e w1 ⟨rfl, hb⟩; have r1 := r0.below hb; have s1 := s0.below hb; obtain ⟨⟨g0, g1, g2, g3, g4⟩, -⟩ := r1.cells; obtain ⟨c0, -⟩ := s1.cells)
      go_ret
      exact ⟨rfl, hB.trans (hb.mono hB.size)⟩
    · rw [decide_eq_true (p := -1 ≤ g) (by omega), Bool.true_and]
      by_cases h2 : lo < g
      · rw [decide_eq_false (p := g ≤ lo) (by omega), if_neg (by decide)]
        go_enter Try.func12, Try.ntmps12
        go_wp2_with (go_at_call 10; refine HC.mono ?_; rintro e w1 ⟨rfl, hb⟩; have r1 := r0.below hb; have s1 := s0.below hb; obtain ⟨⟨g0, g1, g2, g3, g4⟩, -⟩ := r1.cells; obtain ⟨c0, -⟩ := s1.cells)
        go_ret
        exact ⟨rfl, hB.trans (hb.mono hB.size)⟩
      · rw [decide_eq_true (p := g ≤ lo) (by omega), if_pos rfl]
        go_enter Try.func12, Try.ntmps12
        go_wp2_with (go_at_call 10; refine HC.mono ?_; rintro e w1 ⟨rfl, hb⟩; have r1 := r0.below hb; have s1 := s0.below hb; obtain ⟨⟨g0, g1, g2, g3, g4⟩, -⟩ := r1.cells; obtain ⟨c0, -⟩ := s1.cells)
        go_ret
        exact ⟨rfl, hB.trans (hb.mono hB.size)⟩
set_option maxHeartbeats 1000000 in
theorem rcstate_t (a b c d : Nat) (lo g : Int) (w : World) : Calls Try.prog 13 #[tdV a b c d lo, stV g] w fun e w' => e = .returned (.int .i64 (if (okT a b c d lo && okS lo g) = true then 0 else 1)) ∧ Below w.heap.size w w' := by
  have HC := rcheck_t a b c d lo ((w.alloc (tdO a b c d lo)).alloc (stO g))
  have r0 := (TdAt.new w a b c d lo).alloc (stO g)
  have s0 := StAt.new (w.alloc (tdO a b c d lo)) g
  rw [World.size_alloc] at s0
  have hB : Below w.heap.size w ((w.alloc (tdO a b c d lo)).alloc (stO g)) := ((Below.refl _ _).alloc (Nat.le_refl _) _).alloc (by simp) _
  unfold okS
  unfold tdO stO at *
  unfold tdV at *
  cases hz : okT a b c d lo with
  | false =>
    rw [hz, if_neg (by decide)] at HC
    rw [Bool.false_and, if_neg (by decide)]
    clear hz
    go_enter Try.func13, Try.ntmps13
    go_wp2_with (go_at_call 11; refine HC.mono ?_; rintro e w1 ⟨rfl, hb⟩)
    go_ret
    exact ⟨rfl, hB.trans (hb.mono hB.size)⟩
  | true =>
    rw [hz, if_pos rfl] at HC
    rw [Bool.true_and]
    clear hz
    by_cases h1 : g < -1
    · rw [decide_eq_false (p := -1 ≤ g) (by omega), Bool.false_and, if_neg (by decide)]
      go_enter Try.func13, Try.ntmps13
      go_wp2_with (go_at_call 11; refine HC.mono ?_; rintro e w1 ⟨rfl, hb⟩; have r1 := r0.below hb; have s1 := s0.below hb; obtain ⟨⟨g0, g1, g2, g3, g4⟩, -⟩ := r1.cells; obtain ⟨c0, -⟩ := s1.cells)
      go_ret
      exact ⟨rfl, hB.trans (hb.mono hB.size)⟩
    · rw [decide_eq_true (p := -1 ≤ g) (by omega), Bool.true_and]
      by_cases h2 : lo < g
      · rw [decide_eq_false (p := g ≤ lo) (by omega), if_neg (by decide)]
        go_enter Try.func13, Try.ntmps13
        go_wp2_with (go_at_call 11; refine HC.mono ?_; rintro e w1 ⟨rfl, hb⟩; have r1 := r0.below hb; have s1 := s0.below hb; obtain ⟨⟨g0, g1, g2, g3, g4⟩, -⟩ := r1.cells; obtain ⟨c0, -⟩ := s1.cells)
        go_ret
        exact ⟨rfl, hB.trans (hb.mono hB.size)⟩
      · rw [decide_eq_true (p := g ≤ lo) (by omega), if_pos rfl]
        go_enter Try.func13, Try.ntmps13
        go_wp2_with (go_at_call 11; refine HC.mono ?_; rintro e w1 ⟨rfl, hb⟩; have r1 := r0.below hb; have s1 := s0.below hb; obtain ⟨⟨g0, g1, g2, g3, g4⟩, -⟩ := r1.cells; obtain ⟨c0, -⟩ := s1.cells)
        go_ret
        exact ⟨rfl, hB.trans (hb.mono hB.size)⟩
set_option maxHeartbeats 1000000 in
theorem new_t (w : World) : Calls Try.prog 14 #[] w fun e w' => e = .returned (stV (-1)) ∧ Below w.heap.size w w' := by
  go_enter Try.func14, Try.ntmps14
  go_wp2
  exact bodyPost_ret (by simp [results, Try.results14, go_sem]) rfl ⟨rfl, by first | exact below2 _ _ _ | exact ((Below.refl _ _).alloc (Nat.le_refl _) _)⟩
end Go.Proofs.Ytobgmgpclcfkcaa
