/- begun: the walk. -/
import Derived.Test.YthgjklhjfpillaaDoorFo
namespace Go.Proofs.YthgjklhjfpillaaDoor
open Go.RowKit
theorem t_digit : textB (rg 48 10) = [91, 48, 45, 57, 93] := by decide +kernel
theorem t_fold : textB (foldN (ofN (fun _ => 97) 1) (come (ofN (fun _ => 97) 1) 256)) = [91, 65, 97, 93] := by decide +kernel
theorem t_dot : textB (ofN (fun _ => 46) 1) = [92, 46] := by decide +kernel
set_option maxRecDepth 10000 in
set_option maxHeartbeats 2000000 in
theorem begun_any (w : World) (hT : Tab w) : Calls Tryd.prog 9 #[] w fun e w' => e = .returned (.bool true) ∧ Below w.heap.size w w' := by
  go_enter Tryd.func9, Tryd.ntmps9
  go_wp2_with fail
  refine (digit_any w).mono ?_
  rintro e w1 ⟨⟨a, b, c, d, rfl, h4⟩, hb1⟩
  have hT1 := hT.below hb1
  go_wp2_with fail
  refine (text_c h4 w1 hT1).mono ?_
  rintro e w2 ⟨rfl, hb2⟩
  rw [t_digit]
  have hB2 := hb1.trans (hb2.mono hb1.size)
  clear h4 hT1 hb1 hb2
  go_wp2_with fail
  refine (of_any _ 1 1 (fun _ => 97) _ (rd_one w2 97 (by decide)) (by decide)).mono ?_
  rintro e w3 ⟨⟨a, b, c, d, rfl, h4⟩, hb3⟩
  have hB3 : Below w.heap.size w w3 := (hB2.alloc hB2.size _).trans (hb3.mono (by have := hB2.size; simp; omega))
  clear hb3
  go_wp2_with fail
  refine (fold_c h4 w3).mono ?_
  rintro e w4 ⟨⟨a, b, c, d, rfl, h4⟩, hb4⟩
  have hB4 := hB3.trans (hb4.mono hB3.size)
  clear hb4
  go_wp2_with fail
  refine (text_c h4 w4 (hT.below hB4)).mono ?_
  rintro e w5 ⟨rfl, hb5⟩
  rw [t_fold]
  have hB5 := hB4.trans (hb5.mono hB4.size)
  clear hb5 h4
  go_wp2_with fail
  refine (of_any _ 1 1 (fun _ => 46) _ (rd_one w5 46 (by decide)) (by decide)).mono ?_
  rintro e w6 ⟨⟨a, b, c, d, rfl, h4⟩, hb6⟩
  have hB6 : Below w.heap.size w w6 := (hB5.alloc hB5.size _).trans (hb6.mono (by have := hB5.size; simp; omega))
  clear hb6
  go_wp2_with fail
  refine (text_c h4 w6 (hT.below hB6)).mono ?_
  rintro e w7 ⟨rfl, hb7⟩
  rw [t_dot]
  have hB7 := hB6.trans (hb7.mono hB6.size)
  clear hb7 h4
  go_wp2_with fail
  go_ret
  exact ⟨rfl, hB7⟩
end Go.Proofs.YthgjklhjfpillaaDoor
