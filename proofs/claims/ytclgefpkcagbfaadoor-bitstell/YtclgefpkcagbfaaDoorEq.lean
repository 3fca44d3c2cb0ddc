/- slices.Equal and slices.Clone of words: the walks. -/
import Derived.Test.YtclgefpkcagbfaaDoorTwo
namespace Go.Proofs.YtclgefpkcagbfaaDoor
open Go.RowKit
set_option maxHeartbeats 400000 in
theorem equal_len (ao bo : Option Addr) (la ca lb cb : Nat) (w : World) (h : la ≠ lb) :
    Calls Tryd.prog 17 #[.slice ao la ca, .slice bo lb cb] w fun e w' => e = .returned (.bool false) ∧ ∃ q, w' = w.drewN q := by
  have hn : ((la : Int) != (lb : Int)) = true := by rw [bne_iff_ne]; omega
  go_enter Tryd.func17, Tryd.ntmps17
  go_wp2
  go_ret
  exact ⟨rfl, 0, rfl⟩
/-- Whether two rows of words are the same. -/
def eqW (l : Nat) (f g : Nat → Nat) : Bool := decide (∀ i, i < l → f i = g i)
set_option maxHeartbeats 400000 in
theorem equal_same (ao bo : Option Addr) (l ca cb : Nat) (f g : Nat → Nat) (w : World) (hra : Rd w ao l f) (hrb : Rd w bo l g) (hm : (l : Int) ≤ 9223372036854775807) :
    Calls Tryd.prog 17 #[.slice ao l ca, .slice bo l cb] w fun e w' => e = .returned (.bool (eqW l f g)) ∧ ∃ q, w' = w.drewN q := by
  have hn : ((l : Int) != (l : Int)) = false := by simp
  go_enter Tryd.func17, Tryd.ntmps17
  go_wp2_with fail
  go_loopw [13] (fun i wr => ∃ k : Nat, k ≤ l ∧ i = .int .i64 k ∧ (∀ j, j < k → f j = g j) ∧ ∃ q, wr = w.drewN q) (fun i _ => l - (intOf i).toNat)
  case atStart => exact ⟨0, Nat.zero_le _, rfl, fun j hj => by omega, 0, rfl⟩
  case round =>
    obtain ⟨k, hk, rfl, hall, q, rfl⟩ := hrel
    have HA : Hid (∀ j, j < k → f j = g j) := hall
    clear hall
    by_cases hlt : k < l
    · obtain ⟨b, off, rfl, hb, hc⟩ := hra.at_ (by omega)
      obtain ⟨b2, off2, rfl, hb2, hc2⟩ := hrb.at_ (by omega)
      have t1 := hc k hlt
      have t2 := hc2 k hlt
      have hki : (k : Int) < (l : Int) := by omega
      clear hc hc2
      by_cases heq : f k = g k
      · have hne : ((f k : Nat) : Int) = ((g k : Nat) : Int) := by rw [heq]
        have hnb : (((f k : Nat) : Int) != ((g k : Nat) : Int)) = false := by simp [heq]
        have HE : Hid (f k = g k) := heq
        clear hne heq
        go_wp2
        go_quiet (fail)
        go_wp2
        go_roundw
        case rel => exact ⟨k + 1, by omega, by go_num, fun j hj => (if h : j = k then h ▸ HE.out else HA.out j (by omega)), _, rfl⟩
        case measure => simp [intOf]; omega
      · have hnb : (((f k : Nat) : Int) != ((g k : Nat) : Int)) = true := by rw [bne_iff_ne]; omega
        have hf : Hid (eqW l f g = false) := by unfold Hid eqW; rw [decide_eq_false_iff_not]; exact fun h => heq (h k hlt)
        have HE : Hid (¬ f k = g k) := heq
        clear heq
        go_wp2
        go_quiet (fail)
        go_wp2
        go_ret
        rw [hf.out]
        exact ⟨rfl, q + nq, by rw [World.drewN_drewN]⟩
    · have hf : Hid (eqW l f g = true) := by unfold Hid eqW; rw [decide_eq_true_iff]; exact fun i hi => HA.out i (by omega)
      go_wp2
      go_ret
      rw [hf.out]
      exact ⟨rfl, _, rfl⟩

end Go.Proofs.YtclgefpkcagbfaaDoor
