/- TideRuns: the walk. -/
import Derived.Test.YtobgmgpclcfkcaaKg
import Derived.Test.YtobgmgpclcfkcaaRr
namespace Go.Proofs.Ytobgmgpclcfkcaa
open Go.RowKit Go.Shelf
set_option maxRecDepth 100000 in
set_option maxHeartbeats 4000000 in
theorem runs_walk {a b c d : Nat} {lo g : Int} {P : Nat → Bool} (w : World) (ao : Option Addr) (n cap : Nat) (t : Nat → Nat) (zo : Option Addr) (l lc : Nat) (z : Nat → Int) (hP : C4 P a b c d) (hr : RdB w ao n t) (hz : RdI w zo l z) :
    Calls Try.prog 4 #[tdV a b c d lo, stV g, .slice ao n cap, .slice zo l lc] w fun e w' => e = .returned (.bool true) ∧ Below w.heap.size w w' := by
  have hT := B2.start w a b c d lo g
  unfold w2 tdO stO at hT
  by_cases hn : 300 < (n : Int)
  · unfold tdV
    go_enter Try.func4, Try.ntmps4
    go_wp2
    go_ret
    exact ⟨rfl, hT.bel⟩
  by_cases hl : 300 < (l : Int)
  · unfold tdV
    go_enter Try.func4, Try.ntmps4
    go_wp2
    go_ret
    exact ⟨rfl, hT.bel⟩
  obtain ⟨a', b', c', d', lo', P', hlo, -, hP', HE, HM, HE', HM', -⟩ := eff_of lo hP
  have HR : Hid (∀ W, Below w.heap.size w W → Calls Try.prog 21 #[.agg #[.int .u64 (a : Nat), .int .u64 (b : Nat), .int .u64 (c : Nat), .int .u64 (d : Nat), .int .i64 lo], .agg #[.int .i64 g], .slice ao n cap, .slice zo l lc] W (RetRun W (ageF P' lo' (among z l) t (clS lo' g) n) (plc (fun j => ageF P' lo' (among z l) t (clS lo' g) j == lo') (n + 1)))) := fun W hW => run_t g W ao n cap t zo l lc z HE HE' hP' hlo (hr.below hW) (by omega) (hz.below hW) (by omega)
  have HQ : Hid (∀ W, Below w.heap.size w W → Calls Try.prog 22 #[.agg #[.int .u64 (a : Nat), .int .u64 (b : Nat), .int .u64 (c : Nat), .int .u64 (d : Nat), .int .i64 lo], .agg #[.int .i64 g], .slice ao n cap, .slice zo l lc] W (RetRun W (ageF P' lo' (among z l) t (clS lo' g) n) (plc (fun j => ageF P' lo' (among z l) t (clS lo' g) j == lo') (n + 1)))) := fun W hW => rrun_t g W ao n cap t zo l lc z HM HM' hP' hlo (hr.below hW) (by omega) (hz.below hW) (by omega)
  have hLl := plc_len (fun j => ageF P' lo' (among z l) t (clS lo' g) j == lo') (n + 1)
  have HB : Hid (∀ W, Calls Try.prog 9 #[] W fun e w' => e = .returned (.bool true) ∧ Below W.heap.size W w') := fun W => begun_any W
  generalize ageF P' lo' (among z l) t (clS lo' g) n = X at *
  generalize plc (fun j => ageF P' lo' (among z l) t (clS lo' g) j == lo') (n + 1) = L at *
  have hLm : (L.length : Int) ≤ 9223372036854775807 := by omega
  have e1 := eql28 X X
  rw [show (X == X) = true by simp] at e1
  clear HE HM HE' HM' hP' hP hr hz hlo hLl
  unfold tdV
  go_enter Try.func4, Try.ntmps4
  obtain ⟨⟨g0, g1, g2, g3, g4⟩, -⟩ := hT.t.cells
  obtain ⟨c0, -⟩ := hT.s.cells
  go_wp2_with (first
    | (go_at_call 21; refine (HR.out _ hT.bel).mono ?_; rintro e w5 ⟨v5, rfl, hrow5, hb5⟩; replace hT := hT.next hb5; clear g0 g1 g2 g3 g4 c0; replace hT := hT.next ((Below.refl _ _).alloc (Nat.le_refl _) (.cells #[.int .i64 X] 28)); have hS5 := StAt.new w5 X; replace hrow5 := ownsRow_below hrow5 ((Below.refl _ _).alloc (Nat.le_refl _) (.cells #[.int .i64 X] 28)); obtain ⟨⟨g0, g1, g2, g3, g4⟩, -⟩ := hT.t.cells; obtain ⟨c0, -⟩ := hT.s.cells)
    | (go_at_call 22; refine (HQ.out _ hT.bel).mono ?_; rintro e w6 ⟨v6, rfl, hrow6, hb6⟩; replace hT := hT.next hb6; clear g0 g1 g2 g3 g4 c0; replace hS5 := (hS5.below hb6).alloc (.cells #[.int .i64 X] 28); have hS6 := StAt.new w6 X; replace hrow6 := ownsRow_below hrow6 ((Below.refl _ _).alloc (Nat.le_refl _) (.cells #[.int .i64 X] 28)); replace hrow5 := ownsRow_below (ownsRow_below hrow5 hb6) ((Below.refl _ _).alloc (Nat.le_refl _) (.cells #[.int .i64 X] 28)); have hb7 := hT.bel.trans (((Below.refl _ _).alloc (Nat.le_refl _) (.cells #[.int .i64 X] 28)).mono hT.bel.size); clear hT hb6)
    | (go_at_call 9; refine (HB.out _).mono ?_; rintro e w8 ⟨rfl, hb8⟩; replace hS5 := hS5.below hb8; replace hS6 := hS6.below hb8; replace hrow5 := ownsRow_below hrow5 hb8; replace hrow6 := ownsRow_below hrow6 hb8; obtain ⟨c5, -⟩ := hS5.cells; obtain ⟨c6, -⟩ := hS6.cells; obtain ⟨ao5, cap5, rfl⟩ := RowL.slice hrow5; obtain ⟨ao6, cap6, rfl⟩ := RowL.slice hrow6; have hbz := hb7.trans (hb8.mono hb7.size))
    | (go_at_call 23; refine (equalI_same ao5 ao6 L.length cap5 cap6 (fun i => L.getD i 0) _ (RowL.rd hrow5) (RowL.rd hrow6) hLm).mono ?_; rintro e w9 ⟨rfl, hb9⟩))
  go_ret
  exact ⟨rfl, hbz.trans (hb9.mono hbz.size)⟩
end Go.Proofs.Ytobgmgpclcfkcaa
