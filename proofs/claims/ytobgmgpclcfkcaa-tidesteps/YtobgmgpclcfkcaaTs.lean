/- TideSteps: the walk. -/
import Derived.Test.YtobgmgpclcfkcaaKg
namespace Go.Proofs.Ytobgmgpclcfkcaa
open Go.RowKit Go.Shelf
set_option maxRecDepth 100000 in
set_option maxHeartbeats 4000000 in
theorem steps_walk {a b c d : Nat} {lo g : Int} {P : Nat → Bool} {x : Nat} (w : World) (hP : C4 P a b c d) (hx : x < 256) :
    Calls Try.prog 3 #[tdV a b c d lo, stV g, .int .u8 (x : Nat)] w fun e w' => e = .returned (.bool true) ∧ Below w.heap.size w w' := by
  have hT := B2.start w a b c d lo g
  unfold w2 tdO stO at hT
  obtain ⟨a', b', c', d', lo', P', hlo, -, hP', HE, HM, -, -, -⟩ := eff_of lo hP
  have H9 : Hid (∀ W, Calls Try.prog 9 #[] W fun e w' => e = .returned (.bool true) ∧ Below W.heap.size W w') := fun W => begun_any W
  have H10 := fun W => check_t a b c d lo W
  have H11 := fun W => rcheck_t a b c d lo W
  have H12 := fun W => cstate_t a b c d lo g W
  have H13 := fun W => rcstate_t a b c d lo g W
  have H15 := fun W => trigger_t g W HE
  have H16 := fun W => rtrigger_t g W HM
  have H17 := fun W => step_t g x W HE hP' hlo hx
  have H18 := fun W => rstep_t g x W HM hP' hlo hx
  have H19 := fun W => ready_t g W HE
  have H20 := fun W => rready_t g W HM
  generalize (if okT a b c d lo = true then (0 : Int) else 1) = E1 at *
  generalize (if (okT a b c d lo && okS lo g) = true then (0 : Int) else 1) = E2 at *
  generalize trg (clS lo' g) = E3 at *
  generalize stp P' lo' (clS lo' g) x = E4 at *
  generalize (clS lo' g == (lo' : Int)) = E5 at *
  unfold tdV at *
  have K10 := Hid.mk' H10
  have K11 := Hid.mk' H11
  have K12 := Hid.mk' H12
  have K13 := Hid.mk' H13
  have K15 := Hid.mk' H15
  have K16 := Hid.mk' H16
  have K17 := Hid.mk' H17
  have K18 := Hid.mk' H18
  have K19 := Hid.mk' H19
  have K20 := Hid.mk' H20
  have q3 := eql28 E3 E3
  have q4 := eql28 E4 E4
  have q0 := eql28 (-1) (-1)
  rw [show (E3 == E3) = true by simp] at q3
  rw [show (E4 == E4) = true by simp] at q4
  rw [show ((-1 : Int) == -1) = true by simp] at q0
  obtain ⟨⟨g0, g1, g2, g3, g4⟩, -⟩ := hT.t.cells
  obtain ⟨c0, -⟩ := hT.s.cells
  replace c0 := Near.cell c0 hT.s.lt
  replace g0 := Near.cell g0 hT.t.lt
  replace g1 := Near.cell g1 hT.t.lt
  replace g2 := Near.cell g2 hT.t.lt
  replace g3 := Near.cell g3 hT.t.lt
  replace g4 := Near.cell g4 hT.t.lt
  have HT := Hid.mk' hT.bel
  clear hT H10 H11 H12 H13 H15 H16 H17 H18 H19 H20 HE HM hP' hlo hP hx
  go_enter Try.func3, Try.ntmps3
  go_wp2_with fail
  generalize (w.alloc (.cells #[.int .u64 (a : Nat), .int .u64 (b : Nat), .int .u64 (c : Nat), .int .u64 (d : Nat), .int .i64 lo] 26)).alloc (.cells #[.int .i64 g] 28) = W at *
  refine wp_region_quiet_tail 51 (fun w' => ∃ u : World, w' = near W u) (by kernel_rfl) (by kernel_rfl) (Near.start _) ?_
  simp only [List.take_succ_cons, List.take_zero, List.drop_succ_cons, List.drop_zero]
  repeat (go_big_quiet_step ((first | (go_at_call 9; exact Near.call (H9.out _)) | (go_at_call 10; exact Near.call (K10.out _)) | (go_at_call 11; exact Near.call (K11.out _)) | (go_at_call 12; exact Near.call (K12.out _)) | (go_at_call 13; exact Near.call (K13.out _)) | (go_at_call 14; exact Near.call (new_t _)) | (go_at_call 15; exact Near.call (K15.out _)) | (go_at_call 16; exact Near.call (K16.out _)) | (go_at_call 17; exact Near.call (K17.out _)) | (go_at_call 18; exact Near.call (K18.out _)) | (go_at_call 19; exact Near.call (K19.out _)) | (go_at_call 20; exact Near.call (K20.out _)))))
  refine wpQuiet_nil ?_
  rintro _ ⟨u, rfl⟩
  have hbb := HT.out.trans ((near_below _ u).mono HT.out.size)
  generalize near W u = W2 at *
  go_wp2
  go_ret
  exact ⟨rfl, hbb⟩
end Go.Proofs.Ytobgmgpclcfkcaa
