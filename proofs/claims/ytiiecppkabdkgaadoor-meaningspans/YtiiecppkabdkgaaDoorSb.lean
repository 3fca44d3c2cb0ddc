/- The reference's SameTable, where both tables are the same: the walk. -/
import Derived.Test.YtiiecppkabdkgaaDoorLt
namespace Go.Proofs.YtiiecppkabdkgaaDoor
open Go.RowKit
set_option maxRecDepth 10000 in
set_option maxHeartbeats 4000000 in
theorem sameT_any (B1 B2 ta tb N : Nat) (T1 T2 : Tab) (w : World) (hA : BRows w B1 ta N N T1) (hB : BRows w B2 tb N N T2) (hN : N ≤ 25) (he : ∀ i j, i < N → j < N → spB T1 i j = spB T2 i j) :
    Calls Tryd.prog 11 #[.slice (some ⟨ta, 0, none⟩) N N, .slice (some ⟨tb, 0, none⟩) N N] w (RetTrue w) := by
  have hNi : (N : Int) ≤ 25 := by omega
  have e0 : ((N : Int) == (N : Int)) = true := by simp
  go_enter Tryd.func11, Tryd.ntmps11
  go_wp2_with fail
  go_loopw [5] (fun v wr => ∃ i : Nat, i ≤ N ∧ v = .int .i64 (i : Nat) ∧ Below w.heap.size w wr) (fun v _ => N - (intOf v).toNat)
  case atStart => exact ⟨0, Nat.zero_le _, rfl, Below.refl _ _⟩
  case round =>
    obtain ⟨i, hi, rfl, hbi⟩ := hrel
    by_cases hli : i < N
    · have hii : (i : Int) < (N : Int) := by omega
      obtain ⟨ba, ca1, _, _, ca2⟩ := (hA.below hbi).get hli
      obtain ⟨bb, cb1, _, _, cb2⟩ := (hB.below hbi).get hli
      clear ca2 cb2
      go_wp2_with fail
      go_quiet (fail)
      generalize hwq : wr.drewN _ = wq
      have hbq : Below w.heap.size w wq := by rw [← hwq]; exact below_drewN hbi _
      clear hwq hbi ca1 cb1
      go_wp2_with fail
      go_loopw [6] (fun v wr => ∃ j : Nat, j ≤ N ∧ v = .int .i64 (j : Nat) ∧ Below w.heap.size w wr) (fun v _ => N - (intOf v).toNat)
      case atStart => exact ⟨0, Nat.zero_le _, rfl, hbq⟩
      case round =>
        obtain ⟨j, hj, rfl, hbj⟩ := hrel
        obtain ⟨ba, ca1, _, _, ca2⟩ := (hA.below hbj).get hli
        obtain ⟨bb, cb1, _, _, cb2⟩ := (hB.below hbj).get hli
        by_cases hlj : j < N
        · have hjj : (j : Int) < (N : Int) := by omega
          have c2 := ca2 j hlj
          have c4 := cb2 j hlj
          rw [← he i j hli hlj] at c4
          generalize spB T1 i j = B at *
          have HY : Hid (∀ q, ∃ j' : Nat, j' ≤ N ∧ Value.int .i64 ((j : Int) + 1) = .int .i64 (j' : Nat) ∧ Below w.heap.size w (wr.drewN q)) := fun q => ⟨j + 1, by omega, by simp, below_drewN hbj q⟩
          clear hA hB ca2 cb2 he hbq
          go_wp2_with fail
          go_quiet (fail)
          go_wp2_with fail
          go_roundw
          case rel => exact HY.out _
          case measure => simp [intOf]; omega
        · have hjj : ¬ (j : Int) < (N : Int) := by omega
          go_wp2_with fail
          go_roundw
          case rel => exact ⟨i + 1, by omega, by simp, hbj⟩
          case measure => simp [intOf]; omega
    · have hii : ¬ (i : Int) < (N : Int) := by omega
      go_wp2_with fail
      go_ret
      exact ⟨rfl, hbi⟩
end Go.Proofs.YtiiecppkabdkgaaDoor
