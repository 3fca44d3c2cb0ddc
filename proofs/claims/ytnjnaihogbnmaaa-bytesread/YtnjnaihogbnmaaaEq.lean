/- slices.Equal and slices.Clone of bytes: the walks. -/
import Derived.Test.YtnjnaihogbnmaaaSm
namespace Go.Proofs.Ytnjnaihogbnmaaa
open Go.RowKit
set_option maxHeartbeats 400000 in
theorem equal_len (ao bo : Option Addr) (la ca lb cb : Nat) (w : World) (h : la ≠ lb) :
    Calls Try.prog 12 #[.slice ao la ca, .slice bo lb cb] w fun e w' => e = .returned (.bool false) ∧ ∃ q, w' = w.drewN q := by
  have hn : ((la : Int) != (lb : Int)) = true := by rw [bne_iff_ne]; omega
  go_enter Try.func12, Try.ntmps12
  go_wp2
  go_ret
  exact ⟨rfl, 0, rfl⟩
/-- Whether two rows of words are the same. -/
def eqW (l : Nat) (f g : Nat → Nat) : Bool := decide (∀ i, i < l → f i = g i)
set_option maxHeartbeats 400000 in
theorem equal_same (ao bo : Option Addr) (l ca cb : Nat) (f g : Nat → Nat) (w : World) (hra : Rd w ao l f) (hrb : Rd w bo l g) (hm : (l : Int) ≤ 9223372036854775807) :
    Calls Try.prog 12 #[.slice ao l ca, .slice bo l cb] w fun e w' => e = .returned (.bool (eqW l f g)) ∧ ∃ q, w' = w.drewN q := by
  have hn : ((l : Int) != (l : Int)) = false := by simp
  go_enter Try.func12, Try.ntmps12
  go_wp2_with fail
  go_loopw [13] (fun i wr => ∃ k : Nat, k ≤ l ∧ i = .int .i64 k ∧ (∀ j, j < k → f j = g j) ∧ ∃ q, wr = w.drewN q) (fun i _ => l - (intOf i).toNat)
  case atStart => exact ⟨0, Nat.zero_le _, rfl, fun j hj => by omega, 0, rfl⟩
  case round =>
    obtain ⟨k, hk, rfl, hall, q, rfl⟩ := hrel
    have HA : Hid (∀ j, j < k → f j = g j) := hall
    clear hall
    by_cases hlt : k < l
    · obtain ⟨b, off, rfl, hb, hc⟩ := hra.at_ (by omega)
      obtain ⟨b2, off2, rfl, hb2, hc2⟩ := hrb.at_ (by omega)
      have t1 := hc k hlt
      have t2 := hc2 k hlt
      have hki : (k : Int) < (l : Int) := by omega
      clear hc hc2
      by_cases heq : f k = g k
      · have hne : ((f k : Nat) : Int) = ((g k : Nat) : Int) := by rw [heq]
        have hnb : (((f k : Nat) : Int) != ((g k : Nat) : Int)) = false := by simp [heq]
        have HE : Hid (f k = g k) := heq
        clear hne heq
        go_wp2
        go_quiet (fail)
        go_wp2
        go_roundw
        case rel => exact ⟨k + 1, by omega, by go_num, fun j hj => (if h : j = k then h ▸ HE.out else HA.out j (by omega)), _, rfl⟩
        case measure => simp [intOf]; omega
      · have hnb : (((f k : Nat) : Int) != ((g k : Nat) : Int)) = true := by rw [bne_iff_ne]; omega
        have hf : Hid (eqW l f g = false) := by unfold Hid eqW; rw [decide_eq_false_iff_not]; exact fun h => heq (h k hlt)
        have HE : Hid (¬ f k = g k) := heq
        clear heq
        go_wp2
        go_quiet (fail)
        go_wp2
        go_ret
        rw [hf.out]
        exact ⟨rfl, q + nq, by rw [World.drewN_drewN]⟩
    · have hf : Hid (eqW l f g = true) := by unfold Hid eqW; rw [decide_eq_true_iff]; exact fun i hi => HA.out i (by omega)
      go_wp2
      go_ret
      rw [hf.out]
      exact ⟨rfl, _, rfl⟩

set_option maxHeartbeats 400000 in
theorem clone_nil (w : World) : Calls Try.prog 35 #[.slice none 0 0] w fun e w' => e = .returned (.slice none 0 0) ∧ w' = w := by
  have hnil := fun w => Lib.run_eql_slice_nil (P := Try.prog) w 22 5 none 0 0 0 0 Try.underlying22
  go_enter Try.func35, Try.ntmps35
  go_wp2
  go_ret
  exact ⟨rfl, rfl⟩
set_option maxHeartbeats 400000 in
theorem clone_some (a : Addr) (l c : Nat) (f : Nat → Nat) (w : World) (hr : Rd w (some a) l f) (hm : l ≤ 140737488355328) :
    Calls Try.prog 35 #[.slice (some a) l c] w (RetB w l f) := by
  have hnil := fun w => Lib.run_eql_slice_nil (P := Try.prog) w 22 5 (some a) l c 0 0 Try.underlying22
  obtain ⟨i0, hi, hz0, hz1, hz2⟩ := info_parts Try.info5
  go_enter Try.func35, Try.ntmps35
  have hnews : ∀ j u, (row f l)[j]? = some u → (w.alloc (.cells #[] 5)).cell? (a.add j) = some u := by
    intro j u hj
    obtain ⟨hjl, rfl⟩ := row_some hj
    obtain ⟨b, off, e, hb, hc⟩ := hr.at_ (by omega)
    obtain rfl := Option.some.inj e
    have hcj := hc j hjl
    rw [((Below.refl _ w).alloc (Nat.le_refl _) _).cell (by by_cases h0 : j = 0 <;> simpa [Addr.add, h0] using hb)]
    by_cases h0 : j = 0
    · subst h0; simpa [Addr.add] using hcj
    · simpa [Addr.add, h0] using hcj
  go_wp2_with (at_builtin; refine wpList_append_own _ rfl _ _ 22 rfl w.heap.size 5 i0 (.int .u8 0) 1 1 Try.underlying22 hi hz0 hz1 hz2 rfl (by decide) _ _ _ rfl (World.ownsRow_made (e := 5) (size := 1) (base := w.heap.size) w #[] 0 (Nat.le_refl _) (Nat.zero_le _) rfl) a l c (row f l) rfl (by simp [row_length]) hnews (row_one f l) (by unfold maxLen; omega) (by omega) (by simp) ?_)
  intro v' w2 hown hgr hnil'
  have hb2 : Below w.heap.size w w2 := ((Below.refl _ _).alloc (Nat.le_refl _) _).grown hgr (by simp) (by intro k hk; simp [Value.ownBlock] at hk; omega)
  obtain ⟨g, cap, rfl, hrd⟩ : ∃ g cap, v' = .slice (some ⟨g, 0, none⟩) l cap ∧ Own w.heap.size w2 (some ⟨g, 0, none⟩) l cap f := by
    replace hown : w2.ownsRow w.heap.size 5 1 v' l (row f l) := by simpa using hown
    rcases hown.2 with ⟨h', _⟩ | ⟨g, cap, cur, h', _⟩
    · exact (hnil' h').elim
    · exact ⟨g, cap, h', hr.small, by rw [← h']; exact hown⟩
  clear hown hgr hnil' hnews hr
  go_wp2
  go_ret
  exact ⟨_, cap, rfl, hrd, hb2⟩
/-- Clone: the same bytes, in memory of its own. -/
theorem clone_any (ao : Option Addr) (l c : Nat) (f : Nat → Nat) (w : World) (hr : Rd w ao l f) (hm : l ≤ 140737488355328) (hn : (ao = none ∧ l = 0 ∧ c = 0) ∨ ∃ a, ao = some a) :
    Calls Try.prog 35 #[.slice ao l c] w (RetB w l f) := by
  rcases hn with ⟨rfl, rfl, rfl⟩ | ⟨a, rfl⟩
  · exact (clone_nil w).mono fun e w' ⟨he, hw⟩ => ⟨none, 0, he, ⟨fun i hi => by omega, by simp [row], .inl ⟨rfl, rfl⟩⟩, by rw [hw]; exact Below.refl _ _⟩
  · exact clone_some a l c f w hr hm
end Go.Proofs.Ytnjnaihogbnmaaa
