/- live: the walk. -/
import Derived.Test.YtnjnaihogbnmaaaUs
namespace Go.Proofs.Ytnjnaihogbnmaaa
open Go.RowKit
/-- Bytes in a new block. -/
theorem rd_new (w : World) (l : List Nat) (h : ∀ x ∈ l, x < 256) : Rd (w.alloc (.cells (l.map fun x => Value.int .u8 (x : Nat)).toArray 5)) (some ⟨w.heap.size, 0, none⟩) l.length (fun i => l.getD i 0) := by
  refine ⟨fun i hi => ?_, fun _ => ⟨w.heap.size, 0, rfl, by simp, fun i hi => ?_⟩⟩
  · apply h
    rw [List.getD_eq_getElem?_getD, List.getElem?_eq_getElem hi]
    exact List.getElem_mem hi
  · rw [cell_of_row _ w.heap.size (0 + i) _ 5 (0, 0) (heap_alloc_new w _), Nat.zero_add]
    simp [hi]
theorem live_num : eqW 2 (putB 0 2 (fun _ => 0) fun _ => 300) (fun i => [44, 1].getD i 0) = true := by
  unfold eqW
  rw [decide_eq_true_iff]
  intro i hi
  have : i = 0 ∨ i = 1 := by omega
  rcases this with rfl | rfl <;> rfl
theorem live_sum0 : sumB (fun _ => 0) 0 = 1 := by simp [sumB, loB, hiB]
theorem live_sum1 : sumB (fun i => [5].getD i 0) 1 = 25769803782 := by simp [sumB, loB, hiB]
set_option maxHeartbeats 400000 in
theorem live_any (w : World) : Calls Try.prog 9 #[] w fun e w' => e = .returned (.bool true) ∧ Below w.heap.size w w' := by
  go_enter Try.func9, Try.ntmps9
  go_wp2_with fail
  have hnum := num_any none 0 0 (fun _ => 0) 2 (some ⟨w.heap.size, 0, none⟩) 1 1 (fun _ => 300) _ (rd_none _ _ _) (rdu_one w 300 (by decide)) (by decide) (by decide) (by rw [show szB 2 = 2 from rfl]; omega) (by decide)
  rw [show szB 2 = 2 from rfl] at hnum
  refine hnum.mono ?_
  rintro e w2 ⟨ao2, cap2, rfl, hown, hb⟩
  have hb2 : Below w.heap.size w w2 := ((Below.refl _ _).alloc (Nat.le_refl _) _).trans (hb.mono (by simp))
  have hr2 := hown.rd
  clear hown hb hnum
  simp only [Nat.zero_add, Nat.mul_one] at hr2 ⊢
  have ha : Below w2.heap.size w2 (w2.alloc (.cells #[.int .u8 44, .int .u8 1] 5)) := (Below.refl _ _).alloc (Nat.le_refl _) _
  have hq := equal_same ao2 (some ⟨w2.heap.size, 0, none⟩) 2 cap2 2 _ _ _ (hr2.below ha) (rd_new w2 [44, 1] (by decide)) (by decide)
  rw [live_num] at hq
  go_wp2_with fail
  refine hq.mono ?_
  rintro e w4 ⟨rfl, q, e4⟩
  have hb3' : Below w.heap.size w w4 := by rw [e4]; exact below_drewN (hb2.alloc hb2.size _) q
  clear hq hr2 ha e4
  go_wp2_with fail
  refine (sum_any none 0 0 (fun _ => 0) _ (rd_none _ _ _) (by decide)).mono ?_
  rintro e w5 ⟨rfl, rfl⟩
  rw [live_sum0]
  have hs := sum_any (some ⟨w5.heap.size, 0, none⟩) 1 1 _ _ (rd_new w5 [5] (by decide)) (by decide)
  rw [live_sum1] at hs
  go_wp2_with fail
  refine hs.mono ?_
  rintro e w6 ⟨rfl, rfl⟩
  clear hs
  go_wp2
  go_ret
  exact ⟨rfl, hb3'.alloc hb3'.size _⟩
end Go.Proofs.Ytnjnaihogbnmaaa
