/- Ported: TvTc. -/
import Derived.Test.YtobgmgpclcfkcaaTva
import Derived.Test.YtobgmgpclcfkcaaTvc
import Derived.Test.YtobgmgpclcfkcaaTve
import Derived.Test.YtobgmgpclcfkcaaTvTa
namespace Go.Proofs.Ytobgmgpclcfkcaa.T
open Go.RowKit
/-- Along p to a place below k, and on along q. -/
def thK (p q : Nat → Nat → Bool) (i j k : Nat) : Bool := (List.range k).any fun k' => decide (i ≤ k') && (decide (k' ≤ j) && (p i k' && q k' j))
theorem thK_succ (p q : Nat → Nat → Bool) (i j k : Nat) : thK p q i j (k + 1) = (thK p q i j k || (decide (i ≤ k) && (decide (k ≤ j) && (p i k && q k j)))) := by
  unfold thK
  rw [List.range_succ, List.any_append]
  simp
theorem thK_low (p q : Nat → Nat → Bool) (i j : Nat) : ∀ k, k ≤ i → thK p q i j k = false
  | 0, _ => rfl
  | k + 1, h => by rw [thK_succ, thK_low p q i j k (by omega)]; simp; omega
/-- The rows ahead of i done, row i as r says. -/
def stg (N : Nat) (p q : Nat → Nat → Bool) (i : Nat) (r : Nat → Bool) : Nat → Nat → Bool := fun i' j' => if i' < i then thK p q i' j' N else if i' = i then r j' else false
theorem stg_upd {N : Nat} {p q : Nat → Nat → Bool} {i j : Nat} {r r' : Nat → Bool} {x : Bool} (h1 : r' j = x) (h2 : ∀ j', j' ≠ j → r' j' = r j') (i' j' : Nat) : upd2 (stg N p q i r) i j x i' j' = stg N p q i r' i' j' := by
  unfold upd2 stg
  by_cases hi : i' = i
  · subst hi
    simp only [Nat.lt_irrefl, if_false, if_true, true_and]
    by_cases hj : j' = j
    · subst hj; simp [h1]
    · simp [hj, h2 j' hj]
  · simp [hi]
/-- Row i with all up to k, and of k those below j. -/
def rwK (p q : Nat → Nat → Bool) (i k j : Nat) : Nat → Bool := fun j' => thK p q i j' k || (decide (k ≤ j') && (decide (j' < j) && (p i k && q k j')))
set_option maxRecDepth 10000 in
set_option maxHeartbeats 8000000 in
theorem then37_any (B1 B2 ga gb N ca cb : Nat) (p q : Nat → Nat → Bool) (w : World) (hA : RT w B1 ga N p) (hB : RT w B2 gb N q) (hN : N ≤ 25) (hN1 : 1 ≤ N) : Calls Try.prog 46 #[.slice (some ⟨ga, 0, none⟩) N ca, .slice (some ⟨gb, 0, none⟩) N cb] w (RetR w N (fun i j => thK p q i j N)) := by
  have HE := empty36_any (N - 1) w (by omega)
  rw [show N - 1 + 1 = N by omega, show ((N - 1 : Nat) : Int) = (N : Int) - 1 by omega] at HE
  have hNi : (N : Int) ≤ 25 := by omega
  have hwN : IntKind.i64.wrap ((N : Int) - 1) = (N : Int) - 1 := by rw [IntKind.wrap_i64]; omega
  go_enter Try.func46, Try.ntmps46
  go_wp2_with fail
  refine HE.mono ?_
  rintro e w1 ⟨g, cap, rfl, hR, hb⟩
  clear HE
  go_wp2_with fail
  go_loopw [6] (fun v wr => ∃ i : Nat, i ≤ N ∧ v = .int .i64 (i : Nat) ∧ RT wr w.heap.size g N (stg N p q i (fun _ => false)) ∧ Below w.heap.size w wr) (fun v _ => N - (intOf v).toNat)
  case atStart => exact ⟨0, Nat.zero_le _, rfl, hR.congr (fun i j _ _ => by simp [stg]), hb⟩
  case round =>
    obtain ⟨i, hi, rfl, hRi, hbi⟩ := hrel
    clear hR hb
    by_cases hlt : i < N
    · have hii : (i : Int) < (N : Int) := by omega
      go_wp2_with fail
      go_loopw [7] (fun v wr => ∃ k : Nat, i ≤ k ∧ k ≤ N ∧ v = .int .i64 (k : Nat) ∧ RT wr w.heap.size g N (stg N p q i (fun j => thK p q i j k)) ∧ Below w.heap.size w wr) (fun v _ => N - (intOf v).toNat)
      case atStart => exact ⟨i, Nat.le_refl _, hi, rfl, hRi.congr (fun i' j' _ _ => by simp only [stg, thK_low p q i j' i (Nat.le_refl _)]), hbi⟩
      case round =>
        obtain ⟨k, hik, hk, rfl, hRk, hbk⟩ := hrel
        clear hRi hbi
        by_cases hltk : k < N
        · have hkk : (k : Int) < (N : Int) := by omega
          go_wp2_with fail
          go_loopw [8] (fun v wr => ∃ j : Nat, k ≤ j ∧ j ≤ N ∧ v = .int .i64 (j : Nat) ∧ RT wr w.heap.size g N (stg N p q i (rwK p q i k j)) ∧ Below w.heap.size w wr) (fun v _ => N - (intOf v).toNat)
          case atStart => exact ⟨k, Nat.le_refl _, hk, rfl, hRk.congr (fun i' j' _ _ => by
            unfold stg rwK
            have : (decide (k ≤ j') && (decide (j' < k) && (p i k && q k j'))) = false := by simp; omega
            simp only [this, Bool.or_false]), hbk⟩
          case round =>
            obtain ⟨j, hkj, hj, rfl, hRj, hbj⟩ := hrel
            clear hRk hbk
            obtain ⟨ba, _, hal, hbal, a1, a2, _, _⟩ := (hA.below hbj).get hlt
            have a3 := a2 k hltk
            by_cases hgo : p i k = true ∧ j < N
            · obtain ⟨hpt, hltj⟩ := hgo
              have hjj : (j : Int) < (N : Int) := by omega
              rw [hpt] at a3
              obtain ⟨b, hBb, hgl, hbl, d1, d2, f2, hset⟩ := hRj.get hlt
              obtain ⟨bb, _, hbl2, hbbl, b1, b2, _, _⟩ := (hB.below hbj).get hltk
              have hold : stg N p q i (rwK p q i k j) i j = thK p q i j k := by
                unfold stg rwK
                simp
              have d3 := d2 j hltj
              rw [hold] at d3
              have n1 := Near.cell d1 hgl
              have n4 := Near.cell b1 hbl2
              have n5 := Near.cell (b2 j hltj) hbbl
              have n6 := Near.cell d3 hbl
              have n7 := Near.frozen (f2 j) hbl
              have HY : Hid (∀ u : World, ∃ j' : Nat, k ≤ j' ∧ j' ≤ N ∧ Value.int .i64 ((j : Int) + 1) = .int .i64 (j' : Nat) ∧ RT ((near wr u).setCell ⟨b, j, none⟩ (.bool (thK p q i j k || q k j))) w.heap.size g N (stg N p q i (rwK p q i k j')) ∧ Below w.heap.size w ((near wr u).setCell ⟨b, j, none⟩ (.bool (thK p q i j k || q k j)))) := fun u => by
                have hn := near_below wr u
                refine ⟨j + 1, by omega, by omega, by simp, (hset _ hn j _).congr (fun i' j' _ _ => stg_upd ?_ ?_ i' j'), (hbj.trans (hn.mono hbj.size)).setCell (p := ⟨b, j, none⟩) hBb _⟩
                · unfold rwK; simp [hkj, hpt]
                · intro j'' hne
                  unfold rwK
                  have : (j'' < j + 1) ↔ (j'' < j) := by omega
                  simp [this]
              clear hset hRj hA hB d1 d2 d3 f2 a2 b1 b2 hold
              generalize thK p q i j k = x at *
              generalize q k j = y at *
              go_wp2_with fail
              cases x with
              | true =>
                refine wp_region_quiet_tail 22 (fun w' => ∃ u : World, w' = near wr u) (by kernel_rfl) (by kernel_rfl) (Near.start _) ?_
                simp only [List.take_succ_cons, List.take_zero, List.drop_succ_cons, List.drop_zero]
                repeat (go_big_quiet_step (fail))
                refine wpQuiet_nil ?_
                rintro _ ⟨u, rfl⟩
                go_wp2_with fail
                go_roundw
                case rel => exact HY.out u
                case measure => simp [intOf]; omega
              | false =>
                refine wp_region_quiet_tail 22 (fun w' => ∃ u : World, w' = near wr u) (by kernel_rfl) (by kernel_rfl) (Near.start _) ?_
                simp only [List.take_succ_cons, List.take_zero, List.drop_succ_cons, List.drop_zero]
                repeat (go_big_quiet_step (fail))
                refine wpQuiet_nil ?_
                rintro _ ⟨u, rfl⟩
                go_wp2_with fail
                go_roundw
                case rel => exact HY.out u
                case measure => simp [intOf]; omega
            · have HY : Hid (∃ k' : Nat, i ≤ k' ∧ k' ≤ N ∧ Value.int .i64 ((k : Int) + 1) = .int .i64 (k' : Nat) ∧ RT wr w.heap.size g N (stg N p q i (fun j => thK p q i j k')) ∧ Below w.heap.size w wr) := by
                refine ⟨k + 1, by omega, by omega, by simp, hRj.congr (fun i' j' _ hj' => ?_), hbj⟩
                unfold stg rwK
                by_cases hi' : i' = i
                · subst hi'
                  simp only [Nat.lt_irrefl, if_false, if_true]
                  rw [thK_succ]
                  congr 1
                  cases hpt : p i' k with
                  | false => simp
                  | true =>
                    have hjN : ¬ j < N := fun h => hgo ⟨hpt, h⟩
                    have h1 : j' < j := by omega
                    simp [h1, hik]
                · simp [hi']
              cases hpt : p i k with
              | false =>
                rw [hpt] at a3
                clear hRj hA hB a2 hgo
                go_wp2_with fail
                go_roundw
                case rel => exact HY.out
                case measure => simp [intOf]; omega
              | true =>
                have hjN : ¬ j < N := fun h => hgo ⟨hpt, h⟩
                have hjj : ¬ (j : Int) < (N : Int) := by omega
                rw [hpt] at a3
                clear hRj hA hB a2 hgo
                go_wp2_with fail
                go_roundw
                case rel => exact HY.out
                case measure => simp [intOf]; omega
        · have hkk : ¬ (k : Int) < (N : Int) := by omega
          obtain rfl : k = N := by omega
          have HY : Hid (∃ i' : Nat, i' ≤ k ∧ Value.int .i64 ((i : Int) + 1) = .int .i64 (i' : Nat) ∧ RT wr w.heap.size g k (stg k p q i' (fun _ => false)) ∧ Below w.heap.size w wr) := ⟨i + 1, by omega, by simp, hRk.congr (fun i' j' _ _ => by
            unfold stg
            by_cases h1 : i' < i
            · simp [h1, show i' < i + 1 by omega]
            · by_cases h2 : i' = i
              · subst h2; simp
              · simp [h1, h2, show ¬ i' < i + 1 by omega]), hbk⟩
          clear hRk hA hB
          go_wp2_with fail
          go_roundw
          case rel => exact HY.out
          case measure => simp [intOf]; omega
    · obtain rfl : i = N := by omega
      have hii : ¬ (i : Int) < (i : Int) := by omega
      have HR : Hid (RetR w i (fun i' j => thK p q i' j i) (.returned (.slice (some ⟨g, 0, none⟩) i cap)) wr) := ⟨g, cap, rfl, hRi.congr (fun i' j hi _ => by simp [stg, hi]), hbi⟩
      clear hRi hA hB
      go_wp2_with fail
      go_ret
      exact HR.out
end Go.Proofs.Ytobgmgpclcfkcaa.T
