/- Check: the walk. -/
import Derived.Test.YtgedhjflminlbaaAp
import Derived.Test.YtgedhjflminlbaaMw
import Derived.Test.YtgedhjflminlbaaMe
namespace Go.Proofs.Ytgedhjflminlbaa
open Go.RowKit
/-- What Check answers. -/
def chkE (F : Nat → Nd) (n : Nat) : Int := match treeOf F n with
  | none => 50
  | some t => if anc t (true, true) = true then 0 else 51
set_option maxRecDepth 10000 in
set_option maxHeartbeats 1000000 in
theorem check_any (a : Option Addr) (n c : Nat) (F : Nat → Nd) (w : World) (ha : RdN w a n F) (hn : (n : Int) ≤ 9223372036854775807) : Calls Try.prog 27 #[.agg #[.slice a n c]] w (RetI w (chkE F n)) := by
  have hW0 := below1 w (.cells #[.slice a n c] 24)
  have k0 := Cl.new w 24 [.slice a n c]
  have HS := starts_any a n c F _ (ha.below hW0) hn
  unfold RetSts at HS
  cases ht : treeOf F n with
  | none =>
    have e : chkE F n = 50 := by simp [chkE, ht]
    rw [e]
    rw [ht] at HS
    clear ha ht e
    go_enter Try.func27, Try.ntmps27
    go_wp2_with (go_at_call 51; refine HS.mono ?_; rintro e w1 ⟨⟨v, rfl, _⟩, hb⟩)
    go_ret
    exact ⟨rfl, hW0.trans (hb.mono (by simp))⟩
  | some t =>
    obtain ⟨e1, e2, e3, e4⟩ := treeOf_some ht
    have hp := t.size_pos
    obtain ⟨bb, off, rfl, hbb, _⟩ := ha (by omega)
    subst e1
    have hr' : RdN w (some ⟨bb, off, none⟩) t.size (nodes t) := ha.congr e4
    have HA : Hid (∀ W, Below w.heap.size w W → Calls Try.prog 52 #[.slice (some ⟨bb, off, none⟩) t.size c] W (RetBo W (anc t (true, true)))) := fun W hW => anchors_any W bb off c t e2 e3 (hr'.below hW)
    rw [ht] at HS
    have e : chkE F t.size = if anc t (true, true) = true then 0 else 51 := by simp [chkE, ht]
    rw [e]
    clear ha ht e hr' e2 e3 e4
    cases hq : anc t (true, true) with
    | true =>
      rw [hq] at HA
      rw [if_pos rfl]
      generalize t.size = m at *
      go_enter Try.func27, Try.ntmps27
      go_wp2_with (first | (go_at_call 51; refine HS.mono ?_; rintro e w1 ⟨⟨v, rfl, _⟩, hb⟩; have d1 := (k0.below hb).cell 0 rfl) | (go_at_call 52; refine (HA.out _ (hW0.trans (hb.mono (by simp)))).mono ?_; rintro e w2 ⟨rfl, hb2⟩))
      go_ret
      exact ⟨rfl, (hW0.trans (hb.mono (by simp))).trans (hb2.mono (Nat.le_trans (by simp) hb.size))⟩
    | false =>
      rw [hq] at HA
      rw [if_neg (by simp)]
      generalize t.size = m at *
      go_enter Try.func27, Try.ntmps27
      go_wp2_with (first | (go_at_call 51; refine HS.mono ?_; rintro e w1 ⟨⟨v, rfl, _⟩, hb⟩; have d1 := (k0.below hb).cell 0 rfl) | (go_at_call 52; refine (HA.out _ (hW0.trans (hb.mono (by simp)))).mono ?_; rintro e w2 ⟨rfl, hb2⟩))
      go_ret
      exact ⟨rfl, (hW0.trans (hb.mono (by simp))).trans (hb2.mono (Nat.le_trans (by simp) hb.size))⟩
end Go.Proofs.Ytgedhjflminlbaa
