/- MeaningAlgebra: the walk. -/
import Derived.Test.YtiiecppkabdkgaaDoorLa
namespace Go.Proofs.YtiiecppkabdkgaaDoor
open Go.RowKit
/-- The boxes of three trees and a text, as the law lays them. -/
structure BxA (w : World) (ao bo co : Option Addr) (am bm cm ac bc cc : Nat) (xo : Option Addr) (n cap : Nat) (W : World) : Prop where
  a : Cl W w.heap.size 24 [.slice ao am ac]
  b : Cl W (w.heap.size + 1) 24 [.slice bo bm bc]
  c : Cl W (w.heap.size + 2) 24 [.slice co cm cc]
  x : Cl W (w.heap.size + 3) 25 [.slice xo n cap]
  bel : Below w.heap.size w W
theorem BxA.next {w : World} {ao bo co : Option Addr} {am bm cm ac bc cc : Nat} {xo : Option Addr} {n cap : Nat} {W W' : World} (h : BxA w ao bo co am bm cm ac bc cc xo n cap W) (hb : Below W.heap.size W W') : BxA w ao bo co am bm cm ac bc cc xo n cap W' :=
  ⟨h.a.below hb, h.b.below hb, h.c.below hb, h.x.below hb, h.bel.trans (hb.mono h.bel.size)⟩
theorem BxA.new (w : World) (ao bo co : Option Addr) (am bm cm ac bc cc : Nat) (xo : Option Addr) (n cap : Nat) : BxA w ao bo co am bm cm ac bc cc xo n cap ((((w.alloc (.cells #[.slice ao am ac] 24)).alloc (.cells #[.slice bo bm bc] 24)).alloc (.cells #[.slice co cm cc] 24)).alloc (.cells #[.slice xo n cap] 25)) := by
  refine ⟨(((Cl.new w 24 [.slice ao am ac]).alloc _).alloc _).alloc _, ?_, ?_, ?_, ?_⟩
  · have := ((Cl.new (w.alloc (.cells #[.slice ao am ac] 24)) 24 [.slice bo bm bc]).alloc (.cells #[.slice co cm cc] 24)).alloc (.cells #[.slice xo n cap] 25)
    simpa only [World.size_alloc] using this
  · have := (Cl.new ((w.alloc (.cells #[.slice ao am ac] 24)).alloc (.cells #[.slice bo bm bc] 24)) 24 [.slice co cm cc]).alloc (.cells #[.slice xo n cap] 25)
    simpa only [World.size_alloc] using this
  · have := Cl.new (((w.alloc (.cells #[.slice ao am ac] 24)).alloc (.cells #[.slice bo bm bc] 24)).alloc (.cells #[.slice co cm cc] 24)) 25 [.slice xo n cap]
    simpa only [World.size_alloc] using this
  · exact (below2 w _ _).trans ((below2 _ _ _).mono (below2 w _ _).size)
set_option maxRecDepth 10000 in
set_option maxHeartbeats 8000000 in
theorem algebra_any (ao bo co : Option Addr) (am bm cm ac bc cc : Nat) (FA FB FC : Nat → Nd) (xo : Option Addr) (n cap : Nat) (f : Nat → Nat) (w : World) (hA : RdN w ao am FA) (hB : RdN w bo bm FB) (hC : RdN w co cm FC) (wA : ∀ i, i < am → wfN (FA i)) (wB : ∀ i, i < bm → wfN (FB i)) (wC : ∀ i, i < cm → wfN (FC i)) (hac : am ≤ ac) (hbc : bm ≤ bc) (hcc : cm ≤ cc) (hr : RdB w xo n f) (hT : TabZ w) :
    Calls Tryd.prog 6 #[.agg #[.slice ao am ac], .agg #[.slice bo bm bc], .agg #[.slice co cm cc], .slice xo n cap] w (RetTrue w) := by
  have h0 := BxA.new w ao bo co am bm cm ac bc cc xo n cap
  have da := h0.a.cell 0 rfl
  have db := h0.b.cell 0 rfl
  have dc := h0.c.cell 0 rfl
  have dx := h0.x.cell 0 rfl
  go_enter Tryd.func6, Tryd.ntmps6
  go_wp2_with fail
  generalize ((((w.alloc (.cells #[.slice ao am ac] 24)).alloc (.cells #[.slice bo bm bc] 24)).alloc (.cells #[.slice co cm cc] 24)).alloc (.cells #[.slice xo n cap] 25)) = w0 at *
  have H0 := few_any ao am ac xo n cap w0
  by_cases q0 : am ≤ 60 ∧ n ≤ 24
  rotate_left
  · rw [show (decide (am ≤ 60) && decide (n ≤ 24)) = false by simpa using q0] at H0
    refine H0.mono ?_
    rintro e w1 ⟨rfl, b1⟩
    have hbf := h0.bel.trans (b1.mono h0.bel.size)
    clear H0 h0 da db dc dx q0
    go_wp2_with fail
    go_ret
    exact ⟨rfl, hbf⟩
  rw [decide_eq_true q0.1, decide_eq_true q0.2] at H0
  refine H0.mono ?_
  rintro e w1 ⟨rfl, b1⟩
  clear H0
  have h1 := h0.next b1
  clear b1 h0 da db dc dx
  have da := h1.a.cell 0 rfl
  have db := h1.b.cell 0 rfl
  have dc := h1.c.cell 0 rfl
  have dx := h1.x.cell 0 rfl
  go_wp2_with fail
  have H1 := few_any bo bm bc xo n cap w1
  by_cases q1 : bm ≤ 60 ∧ n ≤ 24
  rotate_left
  · rw [show (decide (bm ≤ 60) && decide (n ≤ 24)) = false by simpa using q1] at H1
    refine H1.mono ?_
    rintro e w2 ⟨rfl, b2⟩
    have hbf := h1.bel.trans (b2.mono h1.bel.size)
    clear H1 h1 da db dc dx q1
    go_wp2_with fail
    go_ret
    exact ⟨rfl, hbf⟩
  rw [decide_eq_true q1.1, decide_eq_true q1.2] at H1
  refine H1.mono ?_
  rintro e w2 ⟨rfl, b2⟩
  clear H1
  have h2 := h1.next b2
  clear b2 h1 da db dc dx
  have da := h2.a.cell 0 rfl
  have db := h2.b.cell 0 rfl
  have dc := h2.c.cell 0 rfl
  have dx := h2.x.cell 0 rfl
  go_wp2_with fail
  have H2 := few_any co cm cc xo n cap w2
  by_cases q2 : cm ≤ 60 ∧ n ≤ 24
  rotate_left
  · rw [show (decide (cm ≤ 60) && decide (n ≤ 24)) = false by simpa using q2] at H2
    refine H2.mono ?_
    rintro e w3 ⟨rfl, b3⟩
    have hbf := h2.bel.trans (b3.mono h2.bel.size)
    clear H2 h2 da db dc dx q2
    go_wp2_with fail
    go_ret
    exact ⟨rfl, hbf⟩
  rw [decide_eq_true q2.1, decide_eq_true q2.2] at H2
  refine H2.mono ?_
  rintro e w3 ⟨rfl, b3⟩
  clear H2
  have h3 := h2.next b3
  clear b3 h2 da db dc dx
  have da := h3.a.cell 0 rfl
  have db := h3.b.cell 0 rfl
  have dc := h3.c.cell 0 rfl
  have dx := h3.x.cell 0 rfl
  by_cases qs : am + bm + cm ≤ 40
  rotate_left
  · have s1 : ¬ (am : Int) + (bm : Int) + (cm : Int) ≤ 40 := by omega
    have s2 : (40 : Int) < (am : Int) + (bm : Int) + (cm : Int) := by omega
    have s3 : (am : Int) ≤ 60 := by omega
    have s4 : (bm : Int) ≤ 60 := by omega
    have s5 : (cm : Int) ≤ 60 := by omega
    have hbf := h3.bel
    clear h3 qs
    go_wp2_with fail
    go_ret
    exact ⟨rfl, hbf⟩
  have s1 : (am : Int) + (bm : Int) + (cm : Int) ≤ 40 := by omega
  have s2 : ¬ (40 : Int) < (am : Int) + (bm : Int) + (cm : Int) := by omega
  have s3 : (am : Int) ≤ 60 := by omega
  have s4 : (bm : Int) ≤ 60 := by omega
  have s5 : (cm : Int) ≤ 60 := by omega
  have s6 : decide ((40 : Int) < (am : Int) + (bm : Int) + (cm : Int)) = false := by simpa using s1
  go_wp2_with fail
  have H3 := bare_law_any ao am ac FA w3 (hA.below h3.bel) (by omega)
  cases q3 : bareF FA am with
  | false =>
    rw [q3] at H3
    refine H3.mono ?_
    rintro e w4 ⟨rfl, b4⟩
    have hbf := h3.bel.trans (b4.mono h3.bel.size)
    clear H3 h3 da db dc dx q3
    go_wp2_with fail
    go_ret
    exact ⟨rfl, hbf⟩
  | true =>
  rw [q3] at H3
  refine H3.mono ?_
  rintro e w4 ⟨rfl, b4⟩
  clear H3
  have h4 := h3.next b4
  clear b4 h3 da db dc dx
  have da := h4.a.cell 0 rfl
  have db := h4.b.cell 0 rfl
  have dc := h4.c.cell 0 rfl
  have dx := h4.x.cell 0 rfl
  go_wp2_with fail
  have H4 := bare_law_any bo bm bc FB w4 (hB.below h4.bel) (by omega)
  cases q4 : bareF FB bm with
  | false =>
    rw [q4] at H4
    refine H4.mono ?_
    rintro e w5 ⟨rfl, b5⟩
    have hbf := h4.bel.trans (b5.mono h4.bel.size)
    clear H4 h4 da db dc dx q4
    go_wp2_with fail
    go_ret
    exact ⟨rfl, hbf⟩
  | true =>
  rw [q4] at H4
  refine H4.mono ?_
  rintro e w5 ⟨rfl, b5⟩
  clear H4
  have h5 := h4.next b5
  clear b5 h4 da db dc dx
  have da := h5.a.cell 0 rfl
  have db := h5.b.cell 0 rfl
  have dc := h5.c.cell 0 rfl
  have dx := h5.x.cell 0 rfl
  go_wp2_with fail
  have H5 := bare_law_any co cm cc FC w5 (hC.below h5.bel) (by omega)
  cases q5 : bareF FC cm with
  | false =>
    rw [q5] at H5
    refine H5.mono ?_
    rintro e w6 ⟨rfl, b6⟩
    have hbf := h5.bel.trans (b6.mono h5.bel.size)
    clear H5 h5 da db dc dx q5
    go_wp2_with fail
    go_ret
    exact ⟨rfl, hbf⟩
  | true =>
  rw [q5] at H5
  refine H5.mono ?_
  rintro e w6 ⟨rfl, b6⟩
  clear H5
  have h6 := h5.next b6
  clear b6 h5 da db dc dx
  have da := h6.a.cell 0 rfl
  have db := h6.b.cell 0 rfl
  have dc := h6.c.cell 0 rfl
  have dx := h6.x.cell 0 rfl
  go_wp2_with fail
  have H6 := rcheck_any ao am ac FA w6 (hA.below h6.bel) (by omega)
  by_cases q6 : chkE FA am = 0
  rotate_left
  · have qe : (chkE FA am == 0) = false := by simpa using q6
    have qe2 : (chkE FA am != 0) = true := by simpa using q6
    clear q6
    generalize chkE FA am = ce at *
    refine H6.mono ?_
    rintro e w7 ⟨rfl, b7⟩
    have hbf := h6.bel.trans (b7.mono h6.bel.size)
    clear H6 h6 da db dc dx
    go_wp2_with fail
    go_ret
    exact ⟨rfl, hbf⟩
  rw [q6] at H6
  refine H6.mono ?_
  rintro e w7 ⟨rfl, b7⟩
  clear H6
  have h7 := h6.next b7
  clear b7 h6 da db dc dx
  have da := h7.a.cell 0 rfl
  have db := h7.b.cell 0 rfl
  have dc := h7.c.cell 0 rfl
  have dx := h7.x.cell 0 rfl
  go_wp2_with fail
  have H7 := rcheck_any bo bm bc FB w7 (hB.below h7.bel) (by omega)
  by_cases q7 : chkE FB bm = 0
  rotate_left
  · have qe : (chkE FB bm == 0) = false := by simpa using q7
    have qe2 : (chkE FB bm != 0) = true := by simpa using q7
    clear q7
    generalize chkE FB bm = ce at *
    refine H7.mono ?_
    rintro e w8 ⟨rfl, b8⟩
    have hbf := h7.bel.trans (b8.mono h7.bel.size)
    clear H7 h7 da db dc dx
    go_wp2_with fail
    go_ret
    exact ⟨rfl, hbf⟩
  rw [q7] at H7
  refine H7.mono ?_
  rintro e w8 ⟨rfl, b8⟩
  clear H7
  have h8 := h7.next b8
  clear b8 h7 da db dc dx
  have da := h8.a.cell 0 rfl
  have db := h8.b.cell 0 rfl
  have dc := h8.c.cell 0 rfl
  have dx := h8.x.cell 0 rfl
  go_wp2_with fail
  have H8 := rcheck_any co cm cc FC w8 (hC.below h8.bel) (by omega)
  by_cases q8 : chkE FC cm = 0
  rotate_left
  · have qe : (chkE FC cm == 0) = false := by simpa using q8
    have qe2 : (chkE FC cm != 0) = true := by simpa using q8
    clear q8
    generalize chkE FC cm = ce at *
    refine H8.mono ?_
    rintro e w9 ⟨rfl, b9⟩
    have hbf := h8.bel.trans (b9.mono h8.bel.size)
    clear H8 h8 da db dc dx
    go_wp2_with fail
    go_ret
    exact ⟨rfl, hbf⟩
  rw [q8] at H8
  refine H8.mono ?_
  rintro e w9 ⟨rfl, b9⟩
  clear H8
  have h9 := h8.next b9
  clear b9 h8 da db dc dx
  have da := h9.a.cell 0 rfl
  have db := h9.b.cell 0 rfl
  have dc := h9.c.cell 0 rfl
  have dx := h9.x.cell 0 rfl
  have hmf := mk_func
  go_wp2_with fail
  rename_i hK
  obtain ⟨ta, hta, _, _, _, oa, za, _⟩ := mTab_ok (f := f) (n := n) (mu := false) q6
  obtain ⟨tb, htb, _, _, _, ob, zb, _⟩ := mTab_ok (f := f) (n := n) (mu := false) q7
  obtain ⟨tc, htc, _, _, _, oc, zc, _⟩ := mTab_ok (f := f) (n := n) (mu := false) q8
  have hn : n ≤ 24 := q0.2
  have hfine := denA_fine oa ob oc (bare_noA hta q3) (bare_noA htb q4) (bare_noA htc q5) (wfT_of hta wA) (wfT_of htb wB) (wfT_of htc wC) (by omega)
  subst za zb zc
  have vA : TV w9 (.agg #[.slice ao ta.size ac]) ta := ⟨ao, ac, rfl, (hA.below h9.bel).congr (treeOf_some hta).2.2.2, hac⟩
  have vB : TV w9 (.agg #[.slice bo tb.size bc]) tb := ⟨bo, bc, rfl, (hB.below h9.bel).congr (treeOf_some htb).2.2.2, hbc⟩
  have vC : TV w9 (.agg #[.slice co tc.size cc]) tc := ⟨co, cc, rfl, (hC.below h9.bel).congr (treeOf_some htc).2.2.2, hcc⟩
  refine region_codes (K := lookA) (fv := fun t => Array.getD _ t undef) (by kernel_rfl) (owedA (hr.below h9.bel) hn (hT.below h9.bel) h9.x h9.a vA h9.b vB h9.c vC rfl rfl rfl rfl hfine) (fun c h => by simp [lookA] at h) (by decide) (by kernel_rfl) (by decide) (by kernel_rfl) (by kernel_rfl) (Below.refl _ _) ⟨rfl, rfl, fun t _ _ => rfl⟩ (by decide) (by decide) ?_
  intro a' w' hCw hFd hres
  refine hK a' w' ?_
  obtain ⟨tm, ds⟩ := a'
  obtain rfl : ds = [] := hFd.defers
  have h6' : tm.getD 8 undef = .bool true := hres
  refine wp_ret ?_
  exact bodyPost_ret (v := tm.getD 8 undef) (results_tmp (t := 8) rfl tm _ _) rfl ⟨by rw [h6'], h9.bel.trans (hCw.mono h9.bel.size)⟩
end Go.Proofs.YtiiecppkabdkgaaDoor
