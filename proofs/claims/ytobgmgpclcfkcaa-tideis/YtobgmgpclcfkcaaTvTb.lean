/- Ported: TvTb. -/
import Derived.Test.YtobgmgpclcfkcaaTva
import Derived.Test.YtobgmgpclcfkcaaTvb
import Derived.Test.YtobgmgpclcfkcaaTvc
import Derived.Test.YtobgmgpclcfkcaaTve
import Derived.Test.YtobgmgpclcfkcaaTvTa
namespace Go.Proofs.Ytobgmgpclcfkcaa.T
open Go.RowKit
set_option maxRecDepth 10000 in
set_option maxHeartbeats 2000000 in
theorem same58_any (n : Nat) (w : World) (hn : n ≤ 24) : Calls Try.prog 64 #[.int .i64 (n : Nat)] w (RetR w (n + 1) (fun i j => i == j)) := by
  obtain ⟨N, hNe⟩ : ∃ N, n + 1 = N := ⟨_, rfl⟩
  have HE := empty36_any n w hn
  have hni : (n : Int) ≤ 24 := by omega
  rw [hNe] at HE ⊢
  go_enter Try.func64, Try.ntmps64
  go_wp2_with fail
  refine HE.mono ?_
  rintro e w1 ⟨g, cap, rfl, hR, hb⟩
  clear HE
  go_wp2_with fail
  go_loopw [4] (fun i wr => ∃ k : Nat, k ≤ N ∧ i = .int .i64 (k : Nat) ∧ RT wr w.heap.size g N (fun i j => decide (i < k) && i == j) ∧ Below w.heap.size w wr) (fun i _ => N - (intOf i).toNat)
  case atStart => exact ⟨0, Nat.zero_le _, rfl, hR.congr (fun i j _ _ => by simp), hb⟩
  case round =>
    obtain ⟨k, hk, rfl, hRk, hbk⟩ := hrel
    by_cases hlt : k < N
    · have hki : (k : Int) ≤ (n : Int) := by omega
      have hki2 : (k : Int) < (N : Int) := by omega
      obtain ⟨b, hBb, _, _, d1, d2, f2, hset⟩ := hRk.get hlt
      have d3 := d2 k hlt
      have f3 := f2 k
      have hsetk := (hset wr (Below.refl _ _) k true).congr (q := fun i j => decide (i < k + 1) && i == j) (fun i j _ _ => by
        unfold upd2
        by_cases h : i = k ∧ j = k
        · rw [if_pos h]; simp [h]
        · rw [if_neg h]
          show (decide (i < k) && (i == j)) = (decide (i < k + 1) && (i == j))
          cases hij : (i == j) with
          | false => simp
          | true =>
            have h1 : i = j := by simpa using hij
            have hik : i ≠ k := fun e => h ⟨e, by omega⟩
            have : (i < k) ↔ (i < k + 1) := by omega
            simp [this])
      have HY : Hid (∃ k' : Nat, k' ≤ N ∧ Value.int .i64 ((k : Int) + 1) = .int .i64 (k' : Nat) ∧ RT (wr.setCell ⟨b, k, none⟩ (.bool true)) w.heap.size g N (fun i j => decide (i < k') && i == j) ∧ Below w.heap.size w (wr.setCell ⟨b, k, none⟩ (.bool true))) := ⟨k + 1, by omega, by simp, hsetk, hbk.setCell (p := ⟨b, k, none⟩) hBb _⟩
      clear hset hsetk hRk d2 f2 hR hbk
      go_wp2_with fail
      go_roundw
      case rel => exact HY.out
      case measure => simp [intOf]; omega
    · obtain rfl : k = N := by omega
      have hki : ¬ (k : Int) ≤ (n : Int) := by omega
      have HR : Hid (RetR w k (fun i j => i == j) (.returned (.slice (some ⟨g, 0, none⟩) k cap)) wr) := ⟨g, cap, rfl, hRk.congr (fun i j hi _ => by simp [hi]), hbk⟩
      clear hRk hR
      go_wp2_with fail
      go_ret
      exact HR.out
set_option maxRecDepth 10000 in
set_option maxHeartbeats 4000000 in
theorem or38_any (B1 B2 ga gb N ca cb : Nat) (p q : Nat → Nat → Bool) (w : World) (hA : RT w B1 ga N p) (hB : RT w B2 gb N q) (hN : N ≤ 25) (hN1 : 1 ≤ N) : Calls Try.prog 47 #[.slice (some ⟨ga, 0, none⟩) N ca, .slice (some ⟨gb, 0, none⟩) N cb] w (RetR w N (fun i j => p i j || q i j)) := by
  have HE := empty36_any (N - 1) w (by omega)
  rw [show N - 1 + 1 = N by omega, show ((N - 1 : Nat) : Int) = (N : Int) - 1 by omega] at HE
  have hNi : (N : Int) ≤ 25 := by omega
  have hwN : IntKind.i64.wrap ((N : Int) - 1) = (N : Int) - 1 := by rw [IntKind.wrap_i64]; omega
  go_enter Try.func47, Try.ntmps47
  go_wp2_with fail
  refine HE.mono ?_
  rintro e w1 ⟨g, cap, rfl, hR, hb⟩
  clear HE
  go_wp2_with fail
  go_loopw [6] (fun i wr => ∃ k : Nat, k ≤ N ∧ i = .int .i64 (k : Nat) ∧ RT wr w.heap.size g N (fun i j => decide (i < k) && (p i j || q i j)) ∧ Below w.heap.size w wr) (fun i _ => N - (intOf i).toNat)
  case atStart => exact ⟨0, Nat.zero_le _, rfl, hR.congr (fun i j _ _ => by simp), hb⟩
  case round =>
    obtain ⟨i, hi, rfl, hRi, hbi⟩ := hrel
    by_cases hlt : i < N
    · have hii : (i : Int) < (N : Int) := by omega
      go_wp2_with fail
      go_loopw [7] (fun v wr => ∃ j : Nat, j ≤ N ∧ v = .int .i64 (j : Nat) ∧ RT wr w.heap.size g N (fun i' j' => (decide (i' < i) || (decide (i' = i) && decide (j' < j))) && (p i' j' || q i' j')) ∧ Below w.heap.size w wr) (fun v _ => N - (intOf v).toNat)
      case atStart => exact ⟨0, Nat.zero_le _, rfl, hRi.congr (fun i' j' _ _ => by simp), hbi⟩
      case round =>
        obtain ⟨j, hj, rfl, hRj, hbj⟩ := hrel
        by_cases hltj : j < N
        · have hjj : (j : Int) < (N : Int) := by omega
          obtain ⟨b, hBb, hgl, hbl, d1, d2, f2, hset⟩ := hRj.get hlt
          obtain ⟨ba, _, hal, hbal, a1, a2, _, _⟩ := (hA.below hbj).get hlt
          obtain ⟨bb, _, hbl2, hbbl, b1, b2, _, _⟩ := (hB.below hbj).get hlt
          have n1 := Near.cell d1 hgl
          have n2 := Near.cell a1 hal
          have n3 := Near.cell (a2 j hltj) hbal
          have n4 := Near.cell b1 hbl2
          have n5 := Near.cell (b2 j hltj) hbbl
          have n6 := Near.cell (d2 j hltj) hbl
          have n7 := Near.frozen (f2 j) hbl
          have HY : Hid (∀ u : World, ∃ j' : Nat, j' ≤ N ∧ Value.int .i64 ((j : Int) + 1) = .int .i64 (j' : Nat) ∧ RT ((near wr u).setCell ⟨b, j, none⟩ (.bool (p i j || q i j))) w.heap.size g N (fun i' j'' => (decide (i' < i) || (decide (i' = i) && decide (j'' < j'))) && (p i' j'' || q i' j'')) ∧ Below w.heap.size w ((near wr u).setCell ⟨b, j, none⟩ (.bool (p i j || q i j)))) := fun u => by
            have hn := near_below wr u
            refine ⟨j + 1, by omega, by simp, (hset _ hn j (p i j || q i j)).congr (fun i' j' _ _ => ?_), (hbj.trans (hn.mono hbj.size)).setCell (p := ⟨b, j, none⟩) hBb _⟩
            unfold upd2
            by_cases h : i' = i ∧ j' = j
            · rw [if_pos h, h.1, h.2]; simp
            · rw [if_neg h]
              by_cases h1 : i' = i
              · subst h1
                have hjn : j' ≠ j := fun e => h ⟨rfl, e⟩
                have : (j' < j) ↔ (j' < j + 1) := by omega
                simp [this]
              · simp [h1]
          clear hset hRj hA hB d1 d2 f2 a1 a2 b1 b2 hR hRi hbi hb
          generalize p i j = x at *
          generalize q i j = y at *
          go_wp2_with fail
          cases x with
          | true =>
            refine wp_region_quiet_tail 22 (fun w' => ∃ u : World, w' = near wr u) (by kernel_rfl) (by kernel_rfl) (Near.start _) ?_
            simp only [List.take_succ_cons, List.take_zero, List.drop_succ_cons, List.drop_zero]
            repeat (go_big_quiet_step (fail))
            refine wpQuiet_nil ?_
            rintro _ ⟨u, rfl⟩
            go_wp2_with fail
            go_roundw
            case rel => exact HY.out u
            case measure => simp [intOf]; omega
          | false =>
            refine wp_region_quiet_tail 22 (fun w' => ∃ u : World, w' = near wr u) (by kernel_rfl) (by kernel_rfl) (Near.start _) ?_
            simp only [List.take_succ_cons, List.take_zero, List.drop_succ_cons, List.drop_zero]
            repeat (go_big_quiet_step (fail))
            refine wpQuiet_nil ?_
            rintro _ ⟨u, rfl⟩
            go_wp2_with fail
            go_roundw
            case rel => exact HY.out u
            case measure => simp [intOf]; omega
        · have hjj : ¬ (j : Int) < (N : Int) := by omega
          have HY : Hid (∃ k' : Nat, k' ≤ N ∧ Value.int .i64 ((i : Int) + 1) = .int .i64 (k' : Nat) ∧ RT wr w.heap.size g N (fun i j => decide (i < k') && (p i j || q i j)) ∧ Below w.heap.size w wr) := ⟨i + 1, by omega, by simp, hRj.congr (fun i' j' _ hj' => by
            have h1 : (j' < j) := by omega
            have h2 : (i' < i + 1) ↔ (i' < i ∨ i' = i) := by omega
            simp [h1, h2]), hbj⟩
          clear hRj hR hRi
          go_wp2_with fail
          go_roundw
          case rel => exact HY.out
          case measure => simp [intOf]; omega
    · obtain rfl : i = N := by omega
      have hii : ¬ (i : Int) < (i : Int) := by omega
      have HR : Hid (RetR w i (fun i j => p i j || q i j) (.returned (.slice (some ⟨g, 0, none⟩) i cap)) wr) := ⟨g, cap, rfl, hRi.congr (fun i' j hi _ => by simp [hi]), hbi⟩
      clear hRi hR
      go_wp2_with fail
      go_ret
      exact HR.out
end Go.Proofs.Ytobgmgpclcfkcaa.T
