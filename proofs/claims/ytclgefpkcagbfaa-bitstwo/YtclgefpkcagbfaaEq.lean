/- slices.Equal and slices.Clone of words: the walks. -/
import Derived.Test.YtclgefpkcagbfaaTwo
namespace Go.Proofs.Ytclgefpkcagbfaa
open Go.RowKit
set_option maxHeartbeats 400000 in
theorem equal_len (ao bo : Option Addr) (la ca lb cb : Nat) (w : World) (h : la ≠ lb) :
    Calls Try.prog 32 #[.slice ao la ca, .slice bo lb cb] w fun e w' => e = .returned (.bool false) ∧ ∃ q, w' = w.drewN q := by
  have hn : ((la : Int) != (lb : Int)) = true := by rw [bne_iff_ne]; omega
  go_enter Try.func32, Try.ntmps32
  go_wp2
  go_ret
  exact ⟨rfl, 0, rfl⟩
/-- Whether two rows of words are the same. -/
def eqW (l : Nat) (f g : Nat → Nat) : Bool := decide (∀ i, i < l → f i = g i)
set_option maxHeartbeats 400000 in
theorem equal_same (ao bo : Option Addr) (l ca cb : Nat) (f g : Nat → Nat) (w : World) (hra : Rd w ao l f) (hrb : Rd w bo l g) (hm : (l : Int) ≤ 9223372036854775807) :
    Calls Try.prog 32 #[.slice ao l ca, .slice bo l cb] w fun e w' => e = .returned (.bool (eqW l f g)) ∧ ∃ q, w' = w.drewN q := by
  have hn : ((l : Int) != (l : Int)) = false := by simp
  go_enter Try.func32, Try.ntmps32
  go_wp2_with fail
  go_loopw [13] (fun i wr => ∃ k : Nat, k ≤ l ∧ i = .int .i64 k ∧ (∀ j, j < k → f j = g j) ∧ ∃ q, wr = w.drewN q) (fun i _ => l - (intOf i).toNat)
  case atStart => exact ⟨0, Nat.zero_le _, rfl, fun j hj => by omega, 0, rfl⟩
  case round =>
    obtain ⟨k, hk, rfl, hall, q, rfl⟩ := hrel
    have HA : Hid (∀ j, j < k → f j = g j) := hall
    clear hall
    by_cases hlt : k < l
    · obtain ⟨b, off, rfl, hb, hc⟩ := hra.at_ (by omega)
      obtain ⟨b2, off2, rfl, hb2, hc2⟩ := hrb.at_ (by omega)
      have t1 := hc k hlt
      have t2 := hc2 k hlt
      have hki : (k : Int) < (l : Int) := by omega
      clear hc hc2
      by_cases heq : f k = g k
      · have hne : ((f k : Nat) : Int) = ((g k : Nat) : Int) := by rw [heq]
        have hnb : (((f k : Nat) : Int) != ((g k : Nat) : Int)) = false := by simp [heq]
        have HE : Hid (f k = g k) := heq
        clear hne heq
        go_wp2
        go_quiet (fail)
        go_wp2
        go_roundw
        case rel => exact ⟨k + 1, by omega, by go_num, fun j hj => (if h : j = k then h ▸ HE.out else HA.out j (by omega)), _, rfl⟩
        case measure => simp [intOf]; omega
      · have hnb : (((f k : Nat) : Int) != ((g k : Nat) : Int)) = true := by rw [bne_iff_ne]; omega
        have hf : Hid (eqW l f g = false) := by unfold Hid eqW; rw [decide_eq_false_iff_not]; exact fun h => heq (h k hlt)
        have HE : Hid (¬ f k = g k) := heq
        clear heq
        go_wp2
        go_quiet (fail)
        go_wp2
        go_ret
        rw [hf.out]
        exact ⟨rfl, q + nq, by rw [World.drewN_drewN]⟩
    · have hf : Hid (eqW l f g = true) := by unfold Hid eqW; rw [decide_eq_true_iff]; exact fun i hi => HA.out i (by omega)
      go_wp2
      go_ret
      rw [hf.out]
      exact ⟨rfl, _, rfl⟩

set_option maxHeartbeats 400000 in
theorem clone_nil (w : World) : Calls Try.prog 30 #[.slice none 0 0] w fun e w' => e = .returned (.slice none 0 0) ∧ w' = w := by
  have hnil := fun w => Lib.run_eql_slice_nil (P := Try.prog) w 23 46 none 0 0 0 0 Try.underlying23
  go_enter Try.func30, Try.ntmps30
  go_wp2
  go_ret
  exact ⟨rfl, rfl⟩
set_option maxHeartbeats 400000 in
theorem clone_some (a : Addr) (l c : Nat) (f : Nat → Nat) (w : World) (hr : Rd w (some a) l f) (hm : l * 8 ≤ 140737488351232) :
    Calls Try.prog 30 #[.slice (some a) l c] w fun e w' => ∃ g cap, e = .returned (.slice (some ⟨g, 0, none⟩) l cap) ∧ Rd w' (some ⟨g, 0, none⟩) l f ∧ w.heap.size ≤ g ∧ g < w'.heap.size ∧ Below w.heap.size w w' := by
  have hnil := fun w => Lib.run_eql_slice_nil (P := Try.prog) w 23 46 (some a) l c 0 0 Try.underlying23
  obtain ⟨i0, hi, hz0, hz1, hz2⟩ := info_parts Try.info46
  go_enter Try.func30, Try.ntmps30
  have hnews : ∀ j u, ((List.range l).map fun i => Value.int .u64 (f i : Nat))[j]? = some u → (w.alloc (.cells #[] 46)).cell? (a.add j) = some u := by
    intro j u hj
    have hjl : j < l := by
      by_cases h : j < l
      · exact h
      · rw [List.getElem?_eq_none (by simp; omega)] at hj; simp at hj
    simp only [List.getElem?_map, List.getElem?_range hjl, Option.map_some, Option.some.injEq] at hj
    subst hj
    obtain ⟨b, off, e, hb, hc⟩ := hr.at_ (by omega)
    obtain rfl := Option.some.inj e
    have hcj := hc j hjl
    rw [((Below.refl _ w).alloc (Nat.le_refl _) _).cell (by by_cases h0 : j = 0 <;> simpa [Addr.add, h0] using hb)]
    by_cases h0 : j = 0
    · subst h0; simpa [Addr.add] using hcj
    · simpa [Addr.add, h0] using hcj
  go_wp2_with (at_builtin; refine wpList_append_own _ rfl _ _ 23 rfl w.heap.size 46 i0 (.int .u64 0) 1 8 Try.underlying23 hi hz0 hz1 hz2 rfl (by decide) _ _ _ rfl (World.ownsRow_made (e := 46) (size := 1) (base := w.heap.size) w #[] 0 (Nat.le_refl _) (Nat.zero_le _) rfl) a l c ((List.range l).map fun i => Value.int .u64 (f i : Nat)) rfl (by simp) hnews (by intro v hv; simp only [List.mem_map] at hv; obtain ⟨i, _, rfl⟩ := hv; rfl) (by unfold maxLen; omega) (by omega) (by simp) ?_)
  intro v' w2 hown hgr hnil'
  have hb2 : Below w.heap.size w w2 := ((Below.refl _ _).alloc (Nat.le_refl _) _).grown hgr (by simp) (by intro k hk; simp [Value.ownBlock] at hk; omega)
  obtain ⟨g, cap, rfl, hrd, hg1, hg2⟩ : ∃ g cap, v' = .slice (some ⟨g, 0, none⟩) l cap ∧ Rd w2 (some ⟨g, 0, none⟩) l f ∧ w.heap.size ≤ g ∧ g < w2.heap.size := by
    rcases hown.2 with ⟨h', _⟩ | ⟨g, cap, cur, h', hbg, hg, hncap, _, hsz, htake⟩
    · exact (hnil' h').elim
    · have hlt : g < w2.heap.size := (Array.getElem?_eq_some_iff.1 hg).1
      refine ⟨g, cap, h', ⟨hr.small, fun hl => ⟨g, 0, rfl, hlt, fun i hi => ?_⟩⟩, hbg, hlt⟩
      rw [cell_of_row w2 g (0 + i) cur 46 (0, 0) hg, Nat.zero_add]
      have e : cur.toList[i]? = ((List.range l).map fun i => Value.int .u64 (f i : Nat))[i]? := by
        rw [← htake, List.getElem?_take, if_pos (by omega)]
      rw [← Array.getElem?_toList, e]
      simp [hi]
  clear hown hgr hnil' hnews hr
  go_wp2
  go_ret
  exact ⟨g, cap, rfl, hrd, hg1, hg2, hb2⟩
end Go.Proofs.Ytclgefpkcagbfaa
