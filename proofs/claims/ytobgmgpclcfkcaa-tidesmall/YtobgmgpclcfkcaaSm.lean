/- TideSmall: the walk. -/
import Derived.Test.YtobgmgpclcfkcaaKg
namespace Go.Proofs.Ytobgmgpclcfkcaa
open Go.RowKit Go.Shelf
theorem okS_of {lo g : Int} (h : -1 ≤ g) (h2 : g ≤ lo) : okS lo g = true := by
  unfold okS
  rw [decide_eq_true h, decide_eq_true h2]
  rfl
theorem okS_to {lo g : Int} (h : okS lo g = true) : -1 ≤ g ∧ g ≤ lo := by
  unfold okS at h
  simp only [Bool.and_eq_true, decide_eq_true_eq] at h
  exact h
set_option maxRecDepth 100000 in
set_option maxHeartbeats 4000000 in
/-- Of inputs that the law passes by. -/
theorem small_out {a b c d : Nat} {lo g : Int} (w : World) (ao : Option Addr) (n cap : Nat) (zo : Option Addr) (l lc : Nat) (h : (okT a b c d lo && okS lo g) = false ∨ 300 < (n : Int) ∨ 300 < (l : Int)) :
    Calls Try.prog 8 #[tdV a b c d lo, stV g, .slice ao n cap, .slice zo l lc] w fun e w' => e = .returned (.bool true) ∧ Below w.heap.size w w' := by
  have hT := B2.start w a b c d lo g
  have HC := fun W => check_t a b c d lo W
  have HK := fun W => cstate_t a b c d lo g W
  have HB : Hid (∀ W, Calls Try.prog 9 #[] W fun e w' => e = .returned (.bool true) ∧ Below W.heap.size W w') := fun W => begun_any W
  unfold w2 tdO stO at hT
  unfold tdV at *
  cases ht : okT a b c d lo with
  | false =>
    simp only [ht, Bool.false_eq_true, if_false] at HC
    clear h ht HK
    go_enter Try.func8, Try.ntmps8
    go_wp2_with (first
      | (go_at_call 9; (fail_if_success (have hx := hb1)); refine (HB.out _).mono ?_; rintro e w1 ⟨rfl, hb1⟩; replace hT := hT.next hb1; obtain ⟨⟨g0, g1, g2, g3, g4⟩, -⟩ := hT.t.cells; obtain ⟨c0, -⟩ := hT.s.cells)
      | (go_at_call 10; refine (HC _).mono ?_; rintro e w2 ⟨rfl, hb2⟩; replace hT := hT.next hb2; clear g0 g1 g2 g3 g4 c0; obtain ⟨⟨g0, g1, g2, g3, g4⟩, -⟩ := hT.t.cells; obtain ⟨c0, -⟩ := hT.s.cells)
      | (go_at_call 9; refine (HB.out _).mono ?_; rintro e w4 ⟨rfl, hb4⟩; replace hT := hT.next hb4))
    go_ret
    exact ⟨rfl, hT.bel⟩
  | true =>
    rw [ht, Bool.true_and] at h
    simp only [ht, if_true, Bool.true_and] at HC HK
    clear ht
    cases hs : okS lo g with
    | false =>
      simp only [hs, Bool.false_eq_true, if_false] at HK
      clear h hs
      go_enter Try.func8, Try.ntmps8
      go_wp2_with (first
        | (go_at_call 9; (fail_if_success (have hx := hb1)); refine (HB.out _).mono ?_; rintro e w1 ⟨rfl, hb1⟩; replace hT := hT.next hb1; obtain ⟨⟨g0, g1, g2, g3, g4⟩, -⟩ := hT.t.cells; obtain ⟨c0, -⟩ := hT.s.cells)
        | (go_at_call 10; refine (HC _).mono ?_; rintro e w2 ⟨rfl, hb2⟩; replace hT := hT.next hb2; clear g0 g1 g2 g3 g4 c0; obtain ⟨⟨g0, g1, g2, g3, g4⟩, -⟩ := hT.t.cells; obtain ⟨c0, -⟩ := hT.s.cells)
        | (go_at_call 12; refine (HK _).mono ?_; rintro e w3 ⟨rfl, hb3⟩; replace hT := hT.next hb3; clear g0 g1 g2 g3 g4 c0; obtain ⟨⟨g0, g1, g2, g3, g4⟩, -⟩ := hT.t.cells; obtain ⟨c0, -⟩ := hT.s.cells)
        | (go_at_call 9; refine (HB.out _).mono ?_; rintro e w4 ⟨rfl, hb4⟩; replace hT := hT.next hb4))
      go_ret
      exact ⟨rfl, hT.bel⟩
    | true =>
      rw [hs] at h
      simp only [hs, if_true] at HK
      clear hs
      by_cases hn : 300 < (n : Int)
      · clear h
        go_enter Try.func8, Try.ntmps8
        go_wp2_with (first
          | (go_at_call 9; (fail_if_success (have hx := hb1)); refine (HB.out _).mono ?_; rintro e w1 ⟨rfl, hb1⟩; replace hT := hT.next hb1; obtain ⟨⟨g0, g1, g2, g3, g4⟩, -⟩ := hT.t.cells; obtain ⟨c0, -⟩ := hT.s.cells)
          | (go_at_call 10; refine (HC _).mono ?_; rintro e w2 ⟨rfl, hb2⟩; replace hT := hT.next hb2; clear g0 g1 g2 g3 g4 c0; obtain ⟨⟨g0, g1, g2, g3, g4⟩, -⟩ := hT.t.cells; obtain ⟨c0, -⟩ := hT.s.cells)
          | (go_at_call 12; refine (HK _).mono ?_; rintro e w3 ⟨rfl, hb3⟩; replace hT := hT.next hb3; clear g0 g1 g2 g3 g4 c0; obtain ⟨⟨g0, g1, g2, g3, g4⟩, -⟩ := hT.t.cells; obtain ⟨c0, -⟩ := hT.s.cells)
          | (go_at_call 9; refine (HB.out _).mono ?_; rintro e w4 ⟨rfl, hb4⟩; replace hT := hT.next hb4))
        go_ret
        exact ⟨rfl, hT.bel⟩
      · have hl : 300 < (l : Int) := by
          rcases h with h | h | h
          · cases h
          · exact absurd h hn
          · exact h
        clear h
        go_enter Try.func8, Try.ntmps8
        go_wp2_with (first
          | (go_at_call 9; (fail_if_success (have hx := hb1)); refine (HB.out _).mono ?_; rintro e w1 ⟨rfl, hb1⟩; replace hT := hT.next hb1; obtain ⟨⟨g0, g1, g2, g3, g4⟩, -⟩ := hT.t.cells; obtain ⟨c0, -⟩ := hT.s.cells)
          | (go_at_call 10; refine (HC _).mono ?_; rintro e w2 ⟨rfl, hb2⟩; replace hT := hT.next hb2; clear g0 g1 g2 g3 g4 c0; obtain ⟨⟨g0, g1, g2, g3, g4⟩, -⟩ := hT.t.cells; obtain ⟨c0, -⟩ := hT.s.cells)
          | (go_at_call 12; refine (HK _).mono ?_; rintro e w3 ⟨rfl, hb3⟩; replace hT := hT.next hb3; clear g0 g1 g2 g3 g4 c0; obtain ⟨⟨g0, g1, g2, g3, g4⟩, -⟩ := hT.t.cells; obtain ⟨c0, -⟩ := hT.s.cells)
          | (go_at_call 9; refine (HB.out _).mono ?_; rintro e w4 ⟨rfl, hb4⟩; replace hT := hT.next hb4))
        go_ret
        exact ⟨rfl, hT.bel⟩
set_option maxRecDepth 100000 in
set_option maxHeartbeats 4000000 in
theorem small_in {a b c d lo : Nat} {g : Int} {P : Nat → Bool} (w : World) (ao : Option Addr) (n cap : Nat) (t : Nat → Nat) (zo : Option Addr) (l lc : Nat) (z : Nat → Int) (ht : okT a b c d lo = true) (hs : okS lo g = true) (hn : ¬ 300 < (n : Int)) (hl : ¬ 300 < (l : Int)) (hP : C4 P a b c d) (hr : RdB w ao n t) (hz : RdI w zo l z) :
    Calls Try.prog 8 #[tdV a b c d lo, stV g, .slice ao n cap, .slice zo l lc] w fun e w' => e = .returned (.bool true) ∧ Below w.heap.size w w' := by
  obtain ⟨hg1, hg2⟩ := okS_to hs
  have hlo := okT_lo ht
  have hT := B2.start w a b c d lo g
  have HC := fun W => check_t a b c d lo W
  have HK := fun W => cstate_t a b c d lo g W
  have HB : Hid (∀ W, Calls Try.prog 9 #[] W fun e w' => e = .returned (.bool true) ∧ Below W.heap.size W w') := fun W => begun_any W
  have HE : Eff 34 a b c d lo a b c d lo := fun g w => sound_yes g w ht
  have HR : Hid (∀ W, Below w.heap.size w W → Calls Try.prog 21 #[.agg #[.int .u64 (a : Nat), .int .u64 (b : Nat), .int .u64 (c : Nat), .int .u64 (d : Nat), .int .i64 (lo : Nat)], .agg #[.int .i64 g], .slice ao n cap, .slice zo l lc] W (RetRun W (ageF P lo (among z l) t g n) (plc (fun j => ageF P lo (among z l) t g j == lo) (n + 1)))) := by
    intro W hW
    have := run_t g W ao n cap t zo l lc z HE HE hP (by omega) (hr.below hW) (by omega) (hz.below hW) (by omega)
    rwa [clS_self hg1 hg2] at this
  obtain ⟨hx1, hx2⟩ := ageF_rng (P := P) (T := among z l) (t := t) hg1 hg2 n
  generalize ageF P lo (among z l) t g n = X at *
  generalize plc (fun j => ageF P lo (among z l) t g j == lo) (n + 1) = L at *
  have hy := trg_rng hx1 hx2
  have HX : Hid (∀ W, Calls Try.prog 12 #[.agg #[.int .u64 (a : Nat), .int .u64 (b : Nat), .int .u64 (c : Nat), .int .u64 (d : Nat), .int .i64 (lo : Nat)], .agg #[.int .i64 X]] W fun e w' => e = .returned (.int .i64 0) ∧ Below W.heap.size W w') := by
    intro W
    have := cstate_t a b c d lo X W
    rwa [ht, okS_of hx1 hx2] at this
  have HY : Hid (∀ W, Calls Try.prog 12 #[.agg #[.int .u64 (a : Nat), .int .u64 (b : Nat), .int .u64 (c : Nat), .int .u64 (d : Nat), .int .i64 (lo : Nat)], .agg #[.int .i64 (trg X)]] W fun e w' => e = .returned (.int .i64 0) ∧ Below W.heap.size W w') := by
    intro W
    have := cstate_t a b c d lo (trg X) W
    rwa [ht, okS_of hy.1 hy.2] at this
  have HT : Hid (∀ W, Calls Try.prog 15 #[.agg #[.int .u64 (a : Nat), .int .u64 (b : Nat), .int .u64 (c : Nat), .int .u64 (d : Nat), .int .i64 (lo : Nat)], .agg #[.int .i64 X]] W fun e w' => e = .returned (.agg #[.int .i64 (trg X)]) ∧ Below W.heap.size W w') := by
    intro W
    have := trigger_t X W HE
    rwa [clS_self hx1 hx2] at this
  simp only [ht, hs, if_true, Bool.true_and] at HC HK
  have HW : Hid (Below w.heap.size w w) := Below.refl _ _
  clear ht hs hg1 hg2 hlo hP hr hz hx1 hx2 hy HE
  generalize trg X = Y at *
  unfold w2 tdO stO at hT
  unfold tdV at *
  go_enter Try.func8, Try.ntmps8
  go_wp2_with (first
    | (go_at_call 9; (fail_if_success (have hx := hb1)); refine (HB.out _).mono ?_; rintro e w1 ⟨rfl, hb1⟩; replace hT := hT.next hb1; obtain ⟨⟨g0, g1, g2, g3, g4⟩, -⟩ := hT.t.cells; obtain ⟨c0, -⟩ := hT.s.cells)
    | (go_at_call 10; refine (HC _).mono ?_; rintro e w2 ⟨rfl, hb2⟩; replace hT := hT.next hb2; clear g0 g1 g2 g3 g4 c0; obtain ⟨⟨g0, g1, g2, g3, g4⟩, -⟩ := hT.t.cells; obtain ⟨c0, -⟩ := hT.s.cells)
    | (go_at_call 12; refine (HK _).mono ?_; rintro e w3 ⟨rfl, hb3⟩; replace hT := hT.next hb3; clear g0 g1 g2 g3 g4 c0; obtain ⟨⟨g0, g1, g2, g3, g4⟩, -⟩ := hT.t.cells; obtain ⟨c0, -⟩ := hT.s.cells)
    | (go_at_call 21; refine (HR.out _ hT.bel).mono ?_; rintro e w5 ⟨v, rfl, hrow, hb5⟩; replace hT := hT.next hb5; clear g0 g1 g2 g3 g4 c0 hrow))
  have hsz := hT.s.lt
  have hS := StAt.new w5 X
  have hT6 := hT.next ((Below.refl _ _).alloc (Nat.le_refl _) (stO X))
  obtain ⟨⟨g0, g1, g2, g3, g4⟩, -⟩ := hT6.t.cells
  obtain ⟨c0, -⟩ := hS.cells
  replace c0 := Near.cell c0 hS.lt
  replace g0 := Near.cell g0 hT6.t.lt
  replace g1 := Near.cell g1 hT6.t.lt
  replace g2 := Near.cell g2 hT6.t.lt
  replace g3 := Near.cell g3 hT6.t.lt
  replace g4 := Near.cell g4 hT6.t.lt
  have HT6 := Hid.mk' hT6.bel
  clear hT hT6 hS
  generalize w5.alloc (stO X) = W at *
  refine wp_region_quiet_tail 12 (fun w' => ∃ u : World, w' = near W u) (by kernel_rfl) (by kernel_rfl) (Near.start _) ?_
  simp only [List.take_succ_cons, List.take_zero, List.drop_succ_cons, List.drop_zero]
  repeat (go_big_quiet_step ((first | (go_at_call_of 12 X; exact Near.call (HX.out _)) | (go_at_call 15; exact Near.call (HT.out _)) | (go_at_call 12; exact Near.call (HY.out _)))))
  refine wpQuiet_nil ?_
  rintro _ ⟨u, rfl⟩
  have hbb := HT6.out.trans ((near_below _ u).mono HT6.out.size)
  generalize near W u = W2 at *
  go_wp2
  go_ret
  exact ⟨rfl, hbb⟩
theorem small_walk {a b c d : Nat} {lo g : Int} {P : Nat → Bool} (w : World) (ao : Option Addr) (n cap : Nat) (t : Nat → Nat) (zo : Option Addr) (l lc : Nat) (z : Nat → Int) (hP : C4 P a b c d) (hr : RdB w ao n t) (hz : RdI w zo l z) :
    Calls Try.prog 8 #[tdV a b c d lo, stV g, .slice ao n cap, .slice zo l lc] w fun e w' => e = .returned (.bool true) ∧ Below w.heap.size w w' := by
  by_cases h : (okT a b c d lo && okS lo g) = false ∨ 300 < (n : Int) ∨ 300 < (l : Int)
  · exact small_out w ao n cap zo l lc h
  · have h1 : (okT a b c d lo && okS lo g) = true := by
      cases hh : (okT a b c d lo && okS lo g) with
      | true => rfl
      | false => exact absurd (.inl hh) h
    rw [Bool.and_eq_true] at h1
    obtain ⟨h2, h3⟩ := okT_lo h1.1
    obtain ⟨lo, rfl⟩ := Int.eq_ofNat_of_zero_le h2
    exact small_in w ao n cap t zo l lc z h1.1 h1.2 (fun h' => h (.inr (.inl h'))) (fun h' => h (.inr (.inr h'))) hP hr hz
end Go.Proofs.Ytobgmgpclcfkcaa
