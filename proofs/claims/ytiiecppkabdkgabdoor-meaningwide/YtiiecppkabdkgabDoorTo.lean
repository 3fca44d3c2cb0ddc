/- Whether a tree means no bytes: the walk of Empty. -/
import Derived.Test.YtiiecppkabdkgabDoorGSyEnBg
import Derived.Test.YtiiecppkabdkgabDoorWf
namespace Go.Proofs.YtiiecppkabdkgabDoor
open Go.RowKit
set_option maxRecDepth 10000 in
theorem empty21_any (to_ : Option Addr) (m c : Nat) (F : Nat → Nd) (w : World) (ht : RdN w to_ m F) (hm : m ≤ 60) (hF : ∀ i, i < m → wfN (F i)) (hT : TabZ w) : Calls Tryd.prog 8 #[.agg #[.slice to_ m c]] w fun e w' => e = .returned (.bool (mTab (fun _ => 0) 0 false F m 0 0)) ∧ Below w.heap.size w w' := by
  have hb0 := below1 w (.cells #[.slice to_ m c] 24)
  have k0 := Cl.new w 24 [.slice to_ m c]
  have d0 := k0.cell 0 rfl
  have HM := match_in to_ m c F none 0 0 false 0 0 (fun _ => 0) _ (ht.below hb0) (by omega) hF ⟨fun i hi => by omega, fun h => by omega⟩ (by omega) (Nat.le_refl _) (Nat.le_refl _) (hT.below hb0)
  clear k0
  generalize mTab (fun _ => 0) 0 false F m 0 (0 - 0) = x at *
  go_enter Tryd.func8, Tryd.ntmps8
  go_wp2_with fail
  refine HM.mono ?_
  rintro e w1 ⟨rfl, b1⟩
  go_wp2_with fail
  go_ret
  exact ⟨rfl, hb0.trans (b1.mono hb0.size)⟩
theorem mTab_nul (F : Nat → Nd) (m : Nat) {t : Tre} (h : treeOf F m = some t) (ha : anc t (true, true) = true) : mTab (fun _ => 0) 0 false F m 0 0 = nul t := by
  unfold mTab
  rw [h]
  dsimp only
  rw [if_pos ha]
  exact nul_mean (fun _ => 0) false t (treeOf_some h).2.1
end Go.Proofs.YtiiecppkabdkgabDoor
