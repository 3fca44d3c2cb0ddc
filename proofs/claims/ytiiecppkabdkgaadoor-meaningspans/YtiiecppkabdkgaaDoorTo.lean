/- The reference's Spans of what may not be; its Match: the walks. -/
import Derived.Test.YtiiecppkabdkgaaDoorTj
import Derived.Test.YtiiecppkabdkgaaDoorTl
import Derived.Test.YtiiecppkabdkgaaDoorGSyEnBg
namespace Go.Proofs.YtiiecppkabdkgaaDoor
open Go.RowKit
theorem spB_no (i j : Nat) : false = spB tNo i j := by simp [spB, tNo]
set_option maxRecDepth 10000 in
set_option maxHeartbeats 2000000 in
theorem spans13_any (to_ : Option Addr) (m c : Nat) (F : Nat → Nd) (ao : Option Addr) (n cap : Nat) (mu : Bool) (f : Nat → Nat) (w : World) (ht : RdN w to_ m F) (hm : m ≤ 60) (hF : ∀ i, i < m → wfN (F i)) (hr : RdB w ao n f) (hn : n ≤ 24) :
    Calls Tryd.prog 13 #[.agg #[.slice to_ m c], .bool mu, .slice ao n cap] w (RetR w (n + 1) (spB (mTab f n mu F m))) := by
  by_cases hck : chkE F m = 0
  · obtain ⟨t, htr, _, hmT, _⟩ := mTab_ok (f := f) (n := n) (mu := mu) hck
    rw [hmT]
    exact spans13_ok to_ m c F ao n cap mu f t w ht hm hF hr hn hck htr
  · have hmT : mTab f n mu F m = tNo := by
      unfold mTab
      unfold chkE at hck
      split <;> rename_i h
      · rw [h] at hck; dsimp only at hck
        rw [if_neg]
        intro hc; rw [if_pos hc] at hck; exact hck rfl
      · rfl
    rw [hmT]
    have hb0 := below1 w (.cells #[.slice to_ m c] 24)
    have k0 := Cl.new w 24 [.slice to_ m c]
    have d0 := k0.cell 0 rfl
    have HK := rcheck_any to_ m c F _ (ht.below hb0) (by omega)
    have hce : (chkE F m == 0) = false := by simpa using hck
    have hce2 : (chkE F m != 0) = true := by simpa using hck
    clear hck hmT
    generalize chkE F m = ce at *
    have hni : (n : Int) ≤ 24 := by omega
    go_enter Tryd.func13, Tryd.ntmps13
    go_wp2_with fail
    refine HK.mono ?_
    rintro e w1 ⟨rfl, b1⟩
    have HE := empty36_any n w1 hn
    have bw1 := hb0.trans (b1.mono hb0.size)
    clear HK k0 d0
    go_wp2_with fail
    refine HE.mono ?_
    rintro e w2 ⟨g, gc, rfl, hR, hb⟩
    have HR : Hid (RetR w (n + 1) (spB tNo) (.returned (.slice (some ⟨g, 0, none⟩) (n + 1) gc)) w2) := ⟨g, gc, rfl, (hR.lower bw1.size).congr (fun i j _ _ => spB_no i j), bw1.trans (hb.mono bw1.size)⟩
    clear HE hR
    go_wp2_with fail
    go_ret
    exact HR.out
set_option maxRecDepth 10000 in
set_option maxHeartbeats 2000000 in
theorem rmatch20_in (to_ : Option Addr) (m c : Nat) (F : Nat → Nd) (ao : Option Addr) (n cap : Nat) (mu : Bool) (i j : Nat) (f : Nat → Nat) (w : World) (ht : RdN w to_ m F) (hm : m ≤ 60) (hF : ∀ i, i < m → wfN (F i)) (hr : RdB w ao n f) (hn : n ≤ 24) (hij : i ≤ j) (hj : j ≤ n) :
    Calls Tryd.prog 20 #[.agg #[.slice to_ m c], .bool mu, .slice ao n cap, .int .i64 (i : Nat), .int .i64 (j : Nat)] w fun e w' => e = .returned (.bool (mTab f n mu F m i (j - i))) ∧ Below w.heap.size w w' := by
  have hb0 := below1 w (.cells #[.slice to_ m c] 24)
  have k0 := Cl.new w 24 [.slice to_ m c]
  have d0 := k0.cell 0 rfl
  have HS := spans13_any to_ m c F ao n cap mu f _ (ht.below hb0) hm hF (hr.below hb0) hn
  have hbit : spB (mTab f n mu F m) i j = mTab f n mu F m i (j - i) := by unfold spB; simp [hij]
  have h1 : ¬ (i : Int) < 0 := by omega
  have h2 : ¬ (j : Int) < (i : Int) := by omega
  have h3 : ¬ (n : Int) < (j : Int) := by omega
  have h4 : (i : Int) < ((n + 1 : Nat) : Int) := by omega
  have h5 : (j : Int) < ((n + 1 : Nat) : Int) := by omega
  have h6 : i < n + 1 := by omega
  have h7 : j < n + 1 := by omega
  clear ht hF hr k0
  go_enter Tryd.func20, Tryd.ntmps20
  go_wp2_with fail
  refine HS.mono ?_
  rintro e w1 ⟨g, gc, rfl, hR, hb⟩
  obtain ⟨b, _, _, _, d1, d2, _, _⟩ := hR.get h6
  have d3 := d2 j h7
  rw [hbit] at d3
  have hbw := hb0.trans (hb.mono hb0.size)
  obtain ⟨x, hx⟩ : ∃ x, mTab f n mu F m i (j - i) = x := ⟨_, rfl⟩
  rw [hx] at d3
  have HX : Hid (mTab f n mu F m i (j - i) = x) := hx
  clear HS hR d2 hbit hx
  generalize n + 1 = N at *
  go_wp2_with fail
  go_ret
  exact ⟨by rw [HX.out]; rfl, hbw⟩
set_option maxRecDepth 10000 in
set_option maxHeartbeats 2000000 in
theorem rmatch20_out (to_ : Option Addr) (m c : Nat) (ao : Option Addr) (n cap : Nat) (mu : Bool) (i j : Int) (w : World) (h : ¬ (0 ≤ i ∧ i ≤ j ∧ j ≤ n)) :
    Calls Tryd.prog 20 #[.agg #[.slice to_ m c], .bool mu, .slice ao n cap, .int .i64 i, .int .i64 j] w fun e w' => e = .returned (.bool false) ∧ Below w.heap.size w w' := by
  have hb0 := below1 w (.cells #[.slice to_ m c] 24)
  by_cases h1 : i < 0
  · go_enter Tryd.func20, Tryd.ntmps20
    go_wp2_with fail
    go_ret
    exact ⟨rfl, hb0⟩
  · by_cases h2 : j < i
    · go_enter Tryd.func20, Tryd.ntmps20
      go_wp2_with fail
      go_ret
      exact ⟨rfl, hb0⟩
    · have h3 : (n : Int) < j := by omega
      clear h
      go_enter Tryd.func20, Tryd.ntmps20
      go_wp2_with fail
      go_ret
      exact ⟨rfl, hb0⟩
set_option maxRecDepth 10000 in
set_option maxHeartbeats 2000000 in
theorem match_out (to_ : Option Addr) (m c : Nat) (ao : Option Addr) (n cap : Nat) (mu : Bool) (i j : Int) (w : World) (h : ¬ (0 ≤ i ∧ i ≤ j ∧ j ≤ n)) :
    Calls Tryd.prog 19 #[.agg #[.slice to_ m c], .bool mu, .slice ao n cap, .int .i64 i, .int .i64 j] w fun e w' => e = .returned (.bool false) ∧ Below w.heap.size w w' := by
  have hb0 := below1 w (.cells #[.slice to_ m c] 24)
  by_cases h1 : i < 0
  · go_enter Tryd.func19, Tryd.ntmps19
    go_wp2_with fail
    go_ret
    exact ⟨rfl, hb0⟩
  · by_cases h2 : j < i
    · go_enter Tryd.func19, Tryd.ntmps19
      go_wp2_with fail
      go_ret
      exact ⟨rfl, hb0⟩
    · have h3 : (n : Int) < j := by omega
      clear h
      go_enter Tryd.func19, Tryd.ntmps19
      go_wp2_with fail
      go_ret
      exact ⟨rfl, hb0⟩
set_option maxRecDepth 10000 in
theorem empty21_any (to_ : Option Addr) (m c : Nat) (F : Nat → Nd) (w : World) (ht : RdN w to_ m F) (hm : m ≤ 60) (hF : ∀ i, i < m → wfN (F i)) (hT : TabZ w) : Calls Tryd.prog 21 #[.agg #[.slice to_ m c]] w fun e w' => e = .returned (.bool (mTab (fun _ => 0) 0 false F m 0 0)) ∧ Below w.heap.size w w' := by
  have hb0 := below1 w (.cells #[.slice to_ m c] 24)
  have k0 := Cl.new w 24 [.slice to_ m c]
  have d0 := k0.cell 0 rfl
  have HM := match_in to_ m c F none 0 0 false 0 0 (fun _ => 0) _ (ht.below hb0) (by omega) hF ⟨fun i hi => by omega, fun h => by omega⟩ (by omega) (Nat.le_refl _) (Nat.le_refl _) (hT.below hb0)
  clear k0
  generalize mTab (fun _ => 0) 0 false F m 0 (0 - 0) = x at *
  go_enter Tryd.func21, Tryd.ntmps21
  go_wp2_with fail
  refine HM.mono ?_
  rintro e w1 ⟨rfl, b1⟩
  go_wp2_with fail
  go_ret
  exact ⟨rfl, hb0.trans (b1.mono hb0.size)⟩
theorem mTab_nul (F : Nat → Nd) (m : Nat) {t : Tre} (h : treeOf F m = some t) (ha : anc t (true, true) = true) : mTab (fun _ => 0) 0 false F m 0 0 = nul t := by
  unfold mTab
  rw [h]
  dsimp only
  rw [if_pos ha]
  exact nul_mean (fun _ => 0) false t (treeOf_some h).2.1
set_option maxRecDepth 10000 in
theorem empty22_any (to_ : Option Addr) (m c : Nat) (F : Nat → Nd) (w : World) (ht : RdN w to_ m F) (hm : m ≤ 60) : Calls Tryd.prog 22 #[.agg #[.slice to_ m c]] w fun e w' => e = .returned (.bool (mTab (fun _ => 0) 0 false F m 0 0)) ∧ Below w.heap.size w w' := by
  by_cases hck : chkE F m = 0
  · obtain ⟨t, htr, han, _⟩ := mTab_ok (f := fun _ => 0) (n := 0) (mu := false) hck
    rw [mTab_nul F m htr han]
    exact empty22_ok to_ m c F t w ht hm hck htr
  · have hmT : mTab (fun _ => 0) 0 false F m = tNo := by
      unfold mTab
      unfold chkE at hck
      split <;> rename_i h
      · rw [h] at hck; dsimp only at hck
        rw [if_neg]
        intro hc; rw [if_pos hc] at hck; exact hck rfl
      · rfl
    rw [hmT]
    have hb0 := below1 w (.cells #[.slice to_ m c] 24)
    have k0 := Cl.new w 24 [.slice to_ m c]
    have d0 := k0.cell 0 rfl
    have HK := rcheck_any to_ m c F _ (ht.below hb0) (by omega)
    have hce : (chkE F m == 0) = false := by simpa using hck
    have hce2 : (chkE F m != 0) = true := by simpa using hck
    clear hck hmT
    generalize chkE F m = ce at *
    go_enter Tryd.func22, Tryd.ntmps22
    go_wp2_with fail
    refine HK.mono ?_
    rintro e w1 ⟨rfl, b1⟩
    have bw1 := hb0.trans (b1.mono hb0.size)
    clear HK k0 d0
    go_wp2_with fail
    go_ret
    exact ⟨rfl, bw1⟩
end Go.Proofs.YtiiecppkabdkgaaDoor
