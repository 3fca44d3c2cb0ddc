/- MeaningRepeats: the walk. -/
import Derived.Test.YtiiecppkabdkgaaDoorRv
import Derived.Deep.RegionWith
namespace Go.Proofs.YtiiecppkabdkgaaDoor
open Go.RowKit
theorem chk_rep {t : Tre} (ho : t.ok = true) (hs : t.size + 1 ≤ 2048) : chkE (nodes (.rep t 1 1 false)) (Tre.rep t 1 1 false).size = if anc t (false, false) = true then 0 else 51 := by
  unfold chkE
  rw [treeOf_nodes (.rep t 1 1 false) (nodes (.rep t 1 1 false)) rfl (by simp [Tre.ok, ho]; decide) hs (fun _ _ => rfl)]
  rfl
theorem TV.put {w : World} {v : Value} {t : Tre} {b : Nat} {ty : TypeId} {x : Option Addr} {l c : Nat} (h : TV w v t) (k : Cl w b ty [.slice x l c]) (u : Value) : TV (w.setCell ⟨b, 0, none⟩ u) v t := by
  obtain ⟨ao, cap, e, hr, hc⟩ := h
  exact ⟨ao, cap, e, hr.put k u, hc⟩
theorem TW.put {w : World} {v : Value} {t : Tre} {b : Nat} {ty : TypeId} {x : Option Addr} {l c : Nat} (h : TW w v t) (k : Cl w b ty [.slice x l c]) (u : Value) : TW (w.setCell ⟨b, 0, none⟩ u) v t := by
  obtain ⟨ao, n, cap, F, e, hr, h1, h2, h3⟩ := h
  exact ⟨ao, n, cap, F, e, hr.put k u, h1, h2, h3⟩
/-- A box that holds a tree. -/
def BoxT (W : World) (b : Nat) (t : Tre) : Prop := ∃ vo vn vc, Cl W b 24 [.slice vo vn vc] ∧ TV W (.agg #[.slice vo vn vc]) t
theorem BoxT.below {W W' : World} {b : Nat} {t : Tre} (h : BoxT W b t) (hb : Below W.heap.size W W') : BoxT W' b t := by
  obtain ⟨vo, vn, vc, k, tv⟩ := h
  exact ⟨vo, vn, vc, k.below hb, tv.below hb⟩
theorem BoxT.put {W : World} {b c : Nat} {t s : Tre} {v : Value} (h : BoxT W b t) (hv : TV W (.agg #[v]) s) : BoxT (W.setCell ⟨b, 0, none⟩ v) b s ∧ (c ≠ b → ∀ u, BoxT W c u → BoxT (W.setCell ⟨b, 0, none⟩ v) c u) := by
  obtain ⟨vo, vn, vc, k, _⟩ := h
  refine ⟨?_, fun hc u hu => ?_⟩
  · have hv' := hv.put k v
    obtain ⟨xo, xc, e, hr, hc⟩ := id hv
    have e' : v = .slice xo s.size xc := by simpa using e
    subst e'
    exact ⟨_, _, _, by simpa using k.set 0 (.slice xo s.size xc), hv'⟩
  · obtain ⟨uo, un, uc, ku, tu⟩ := hu
    exact ⟨uo, un, uc, ku.other (Ne.symm hc) _ _, tu.put k v⟩
/-- What the law's boxes hold. -/
structure RI (w : World) (ao : Option Addr) (am ac : Nat) (xo : Option Addr) (n cap mb : Nat) (t s : Tre) (W : World) : Prop where
  a : Cl W w.heap.size 24 [.slice ao am ac]
  x : Cl W (w.heap.size + 1) 25 [.slice xo n cap]
  tw : TW W (.agg #[.slice ao am ac]) t
  box : BoxT W mb s
  bel : Below w.heap.size w W
  lo : w.heap.size + 2 ≤ mb
theorem RI.next {w : World} {ao : Option Addr} {am ac : Nat} {xo : Option Addr} {n cap mb : Nat} {t s : Tre} {W W' : World} (h : RI w ao am ac xo n cap mb t s W) (hb : Below W.heap.size W W') : RI w ao am ac xo n cap mb t s W' :=
  ⟨h.a.below hb, h.x.below hb, h.tw.below hb, h.box.below hb, h.bel.trans (hb.mono h.bel.size), h.lo⟩
theorem RI.put {w : World} {ao : Option Addr} {am ac : Nat} {xo : Option Addr} {n cap mb : Nat} {t s s' : Tre} {W : World} {v : Value} (h : RI w ao am ac xo n cap mb t s W) (hv : TV W (.agg #[v]) s') : RI w ao am ac xo n cap mb t s' (W.setCell ⟨mb, 0, none⟩ v) := by
  have hlo := h.lo
  obtain ⟨vo, vn, vc, k, _⟩ := id h.box
  exact ⟨h.a.other (by omega) _ _, h.x.other (by omega) _ _, h.tw.put k v, (h.box.put (c := 0) hv).1, h.bel.setCell (p := ⟨mb, 0, none⟩) (by show w.heap.size ≤ mb; omega) _, hlo⟩
theorem RI.other {w : World} {ao : Option Addr} {am ac : Nat} {xo : Option Addr} {n cap mb ub : Nat} {t s s2 : Tre} {W : World} {v : Value} (h : RI w ao am ac xo n cap mb t s W) (hu : BoxT W ub s2) (hne : ub ≠ mb) (hub : w.heap.size + 2 ≤ ub) (s3 : Tre) (hv : TV W (.agg #[v]) s3) : RI w ao am ac xo n cap mb t s (W.setCell ⟨ub, 0, none⟩ v) := by
  obtain ⟨vo, vn, vc, k, _⟩ := id hu
  exact ⟨h.a.other (by omega) _ _, h.x.other (by omega) _ _, h.tw.put k v, (hu.put (c := mb) hv).2 (Ne.symm hne) _ h.box, h.bel.setCell (p := ⟨ub, 0, none⟩) (by show w.heap.size ≤ ub; omega) _, h.lo⟩
set_option maxRecDepth 10000 in
set_option maxHeartbeats 8000000 in
theorem repeats_any (ao : Option Addr) (am ac : Nat) (FA : Nat → Nd) (m8 n8 : Nat) (xo : Option Addr) (n cap : Nat) (f : Nat → Nat) (w : World) (hA : RdN w ao am FA) (wA : ∀ i, i < am → wfN (FA i)) (hac : am ≤ ac) (hr : RdB w xo n f) (hT : TabZ w) (hm8 : m8 < 256) (hn8 : n8 < 256) :
    Calls Tryd.prog 7 #[.agg #[.slice ao am ac], .int .u8 (m8 : Nat), .int .u8 (n8 : Nat), .slice xo n cap] w (RetTrue w) := by
  have hb0 := below2 w (.cells #[.slice ao am ac] 24) (.cells #[.slice xo n cap] 25)
  have k0 : Cl ((w.alloc (.cells #[.slice ao am ac] 24)).alloc (.cells #[.slice xo n cap] 25)) w.heap.size 24 [.slice ao am ac] := (Cl.new w 24 [.slice ao am ac]).alloc _
  have kx : Cl ((w.alloc (.cells #[.slice ao am ac] 24)).alloc (.cells #[.slice xo n cap] 25)) (w.heap.size + 1) 25 [.slice xo n cap] := by
    have := Cl.new (w.alloc (.cells #[.slice ao am ac] 24)) 25 [.slice xo n cap]
    simpa only [World.size_alloc] using this
  have da := k0.cell 0 rfl
  have dx := kx.cell 0 rfl
  go_enter Tryd.func7, Tryd.ntmps7
  go_wp2_with fail
  obtain ⟨l, hl, hl3⟩ : ∃ l : Nat, (m8 : Int) % 4 = (l : Int) ∧ l ≤ 3 := ⟨m8 % 4, by omega, by omega⟩
  obtain ⟨k, hk, hk3⟩ : ∃ k : Nat, (n8 : Int) % 4 = (k : Int) ∧ k ≤ 3 := ⟨n8 % 4, by omega, by omega⟩
  rw [hl, hk]
  clear hl hk hm8 hn8
  generalize (w.alloc (.cells #[.slice ao am ac] 24)).alloc (.cells #[.slice xo n cap] 25) = w0 at *
  have H0 := few_any ao am ac xo n cap w0
  by_cases q0 : am ≤ 60 ∧ n ≤ 24
  rotate_left
  · rw [show (decide (am ≤ 60) && decide (n ≤ 24)) = false by simpa using q0] at H0
    refine H0.mono ?_
    rintro e w1 ⟨rfl, b1⟩
    have hbf := hb0.trans (b1.mono hb0.size)
    clear H0 da dx q0
    go_wp2_with fail
    go_ret
    exact ⟨rfl, hbf⟩
  rw [decide_eq_true q0.1, decide_eq_true q0.2] at H0
  refine H0.mono ?_
  rintro e w1 ⟨rfl, b1⟩
  have k1 := k0.below b1
  have kx1 := kx.below b1
  have hb1 := hb0.trans (b1.mono hb0.size)
  clear H0 da dx k0 kx b1 hb0
  have da := k1.cell 0 rfl
  by_cases qs : am ≤ 12
  rotate_left
  · have s1 : (12 : Int) < (am : Int) := by omega
    go_wp2_with fail
    go_ret
    exact ⟨rfl, hb1⟩
  have s1 : ¬ (12 : Int) < (am : Int) := by omega
  have s2 : (am : Int) ≤ 12 := by omega
  obtain ⟨t, hst, hto, hts, htw⟩ : ∃ t, snd FA am = t ∧ t.ok = true ∧ t.size ≤ 12 ∧ wfT t := by
    refine ⟨_, rfl, (snd_ok FA am).1, ?_, ?_⟩
    · unfold snd
      cases htr : treeOf FA am with
      | none => decide
      | some t => have := (treeOf_some htr).1; simp; omega
    · unfold snd
      cases htr : treeOf FA am with
      | none => exact wfN_zero
      | some t => exact wfT_of htr wA
  have tW1 : TW w1 (.agg #[.slice ao am ac]) t := ⟨ao, am, ac, FA, rfl, hA.below hb1, hst, hac, by omega⟩
  have H2 := rep29W _ t 1 1 false w1 tW1
  go_wp2_with fail
  refine H2.mono ?_
  rintro e w2 ⟨v2, rfl, tv2, b2⟩
  obtain ⟨ro, rc, rfl, hr2, _⟩ := tv2
  have H3 := rcheck_any ro _ rc _ w2 hr2 (by simp only [Tre.size]; omega)
  rw [chk_rep hto (by omega)] at H3
  have k2 := k1.below b2
  have kx2 := kx1.below b2
  have hb2 := hb1.trans (b2.mono hb1.size)
  have tW2 := tW1.below b2
  clear H2 hr2 k1 kx1 b2 hb1 tW1 da
  generalize (Tre.rep t 1 1 false).size = rs at *
  go_wp2_with fail
  by_cases qa : anc t (false, false) = true
  rotate_left
  · rw [if_neg qa] at H3
    refine H3.mono ?_
    rintro e w3 ⟨rfl, b3⟩
    have hbf := hb2.trans (b3.mono hb2.size)
    clear H3 qa
    go_wp2_with fail
    go_ret
    exact ⟨rfl, hbf⟩
  rw [if_pos qa] at H3
  have hfine : Fine t 12 := ⟨hto, anc_noA t qa, htw, hts⟩
  refine H3.mono ?_
  rintro e w3 ⟨rfl, b3⟩
  have k3 := k2.below b3
  have kx3 := kx2.below b3
  have hb3 := hb2.trans (b3.mono hb2.size)
  have tW3 := tW2.below b3
  clear H3 k2 kx2 b3 hb2 tW2
  go_wp2_with fail
  refine (rempty_any w3).mono ?_
  intro e w4 h4
  obtain ⟨v4, rfl, tv4, b4⟩ := retT_V (t := emp) h4 rfl (fun _ _ => rfl)
  have k4 := k3.below b4
  have kx4 := kx3.below b4
  have hb4 := hb3.trans (b4.mono hb3.size)
  have tW4 := tW3.below b4
  clear h4 k3 kx3 b4 hb3 tW3
  obtain ⟨eo, ec, rfl, he4, hec⟩ := tv4
  go_wp2_with fail
  have hs4 : w.heap.size + 2 ≤ w4.heap.size := by have := kx4.lt; omega
  have R0 : RI w ao am ac xo n cap w4.heap.size t (manyT t 0) (w4.alloc (.cells #[.slice eo emp.size ec] 24)) := by
    have hb := below1 w4 (.cells #[.slice eo emp.size ec] 24)
    exact ⟨k4.below hb, kx4.below hb, tW4.below hb, ⟨eo, emp.size, ec, Cl.new w4 24 [.slice eo emp.size ec], eo, ec, rfl, he4.below hb, hec⟩, hb4.trans (hb.mono hb4.size), hs4⟩
  have hli3 : (l : Int) ≤ 3 := by omega
  have hki3 : (k : Int) ≤ 3 := by omega
  clear k4 kx4 tW4 he4 hb4 hs4
  generalize w4.heap.size = mb at *
  generalize w4.alloc (.cells #[.slice eo emp.size ec] 24) = w5 at *
  go_loopw [43] (fun v wr => ∃ i : Nat, i ≤ l ∧ v = .int .i64 (i : Nat) ∧ RI w ao am ac xo n cap mb t (manyT t i) wr) (fun v _ => l - (intOf v).toNat)
  case atStart => exact ⟨0, Nat.zero_le _, rfl, R0⟩
  case round =>
    obtain ⟨i, hi, rfl, hR⟩ := hrel
    clear R0
    by_cases hlt : i < l
    · have hii : (i : Int) < (l : Int) := by omega
      have da := hR.a.cell 0 rfl
      obtain ⟨vo, vn, vc, kb, tvb⟩ := id hR.box
      have db := kb.cell 0 rfl
      have fb := kb.frozen 0
      have hFm := hfine.many i
      have hsz : (manyT t i).size ≤ 2048 := by have := hFm.sz; omega
      have HC := cat27W _ _ _ _ wr (tvb.tw hFm.ok hsz) hR.tw
      clear tvb
      go_wp2_with fail
      refine HC.mono ?_
      rintro e w6 ⟨v6, rfl, tv6, b6⟩
      have hR6 := hR.next b6
      obtain ⟨zo, zc, rfl, hz⟩ := id tv6
      have hR7 := hR6.put (v := .slice zo (Tre.two 3 (manyT t i) t).size zc) tv6
      have db6 := (kb.below b6).cell 0 rfl
      have fb6 := (kb.below b6).frozen 0
      have HY : Hid _ := hR7
      clear HC hR hR6 tv6 hz b6 kb da db fb hR7
      generalize (Tre.two 3 (manyT t i) t).size = zs at *
      go_wp2_with fail
      go_roundw
      case rel => exact ⟨i + 1, by omega, by simp, HY.out⟩
      case measure => simp [intOf]; omega
    · have hii : ¬ (i : Int) < (l : Int) := by omega
      obtain rfl : i = l := by omega
      go_wp2_with fail
      refine (rempty_any wr).mono ?_
      intro e w6 h6
      obtain ⟨v6, rfl, tv6, b6⟩ := retT_V (t := emp) h6 rfl (fun _ _ => rfl)
      obtain ⟨eo6, ec6, rfl, he6, hec6⟩ := id tv6
      have hR6 := hR.next b6
      have hb7 := below1 w6 (.cells #[.slice eo6 emp.size ec6] 24)
      have hR7 := hR6.next hb7
      have U0 : BoxT (w6.alloc (.cells #[.slice eo6 emp.size ec6] 24)) w6.heap.size (upT t 0) := ⟨_, _, _, Cl.new w6 24 [.slice eo6 emp.size ec6], tv6.below hb7⟩
      have hmu : mb < w6.heap.size := by obtain ⟨_, _, _, kb, _⟩ := hR6.box; exact kb.lt
      have hul : w.heap.size + 2 ≤ w6.heap.size := by have := hR6.lo; omega
      clear h6 tv6 b6 he6 hec6 hR hR6 hb7
      go_wp2_with fail
      generalize w6.heap.size = ub at *
      generalize w6.alloc (.cells #[.slice eo6 emp.size ec6] 24) = w7 at *
      have hkw : IntKind.i64.wrap ((i : Int) + (k : Int) - (i : Int)) = (k : Int) := by rw [IntKind.wrap_i64]; omega
      go_loopw [53] (fun v wr => ∃ j : Nat, j ≤ k ∧ v = .int .i64 (j : Nat) ∧ RI w ao am ac xo n cap mb t (manyT t i) wr ∧ BoxT wr ub (upT t j)) (fun v _ => k - (intOf v).toNat)
      case atStart => exact ⟨0, Nat.zero_le _, rfl, hR7, U0⟩
      case round =>
        obtain ⟨j, hj, rfl, hR, hU⟩ := hrel
        clear hR7 U0
        by_cases hltj : j < k
        · have hjj : (j : Int) < (k : Int) := by omega
          have da := hR.a.cell 0 rfl
          obtain ⟨uo, un, uc, ku, tvu⟩ := id hU
          have du := ku.cell 0 rfl
          have hFu := hfine.up j
          have hszu : (upT t j).size ≤ 2048 := by have := hFu.sz; omega
          have hdr : Below wr.heap.size wr wr.drew := (Below.refl _ _).drew
          have HE : Hid (∀ wE, Below wr.heap.size wr wE → wE.cell? ⟨w.heap.size, 0, none⟩ = some (.slice ao am ac) ∧ wE.cell? ⟨ub, 0, none⟩ = some (.slice uo un uc) ∧ Calls Tryd.prog 27 #[.agg #[.slice ao am ac], .agg #[.slice uo un uc]] wE (RetV wE (.two 3 t (upT t j)))) := fun wE h => ⟨(hR.a.below h).cell 0 rfl, (ku.below h).cell 0 rfl, cat27W _ _ _ _ wE (hR.tw.below h) ((tvu.below h).tw hFu.ok hszu)⟩
          have HF : Hid (∀ vE vF wF, TV wF vE emp → TV wF vF (.two 3 t (upT t j)) → Calls Tryd.prog 26 #[vE, vF] wF (RetV wF (upT t (j + 1)))) := fun vE vF wF h1 h2 => by
            have hF3 := (hfine.two (.inl rfl) hFu : Fine (.two 3 t (upT t j)) _)
            exact alt26W _ _ _ _ wF (h1.tw emp_ok (by decide)) (h2.tw hF3.ok (by have := hF3.sz; omega))
          have HG : Hid (∀ v wG, Below wr.heap.size wr wG → TV wG (.agg #[v]) (upT t (j + 1)) → (∃ y, wG.cell? ⟨ub, 0, none⟩ = some y) ∧ wG.frozen? ⟨ub, 0, none⟩ = false ∧ ∃ j' : Nat, j' ≤ k ∧ Value.int .i64 ((j : Int) + 1) = .int .i64 (j' : Nat) ∧ RI w ao am ac xo n cap mb t (manyT t i) (wG.setCell ⟨ub, 0, none⟩ v) ∧ BoxT (wG.setCell ⟨ub, 0, none⟩ v) ub (upT t j')) := fun v wG h hv =>
            ⟨⟨_, (ku.below h).cell 0 rfl⟩, (ku.below h).frozen 0, j + 1, by omega, by simp, (hR.next h).other (hU.below h) (by omega) hul _ hv, ((hU.below h).put (c := 0) hv).1⟩
          clear hR hU tvu ku hFu
          go_wp2_with fail
          go_region_with (first
            | (go_at_call 28; refine (rempty_any _).mono ?_; intro e wE hE; obtain ⟨vE, rfl, tvE, bE⟩ := retT_V (t := emp) hE rfl (fun _ _ => rfl); obtain ⟨eo, ec, rfl, _⟩ := id tvE; have bE' := hdr.trans bE; obtain ⟨da', du', HC27⟩ := HE.out wE bE'; clear hE)
            | (go_at_call 27; refine HC27.mono ?_; rintro e wF ⟨vF, rfl, tvF, bF⟩; have tvE2 := tvE.below bF; have HC26 := HF.out _ _ wF tvE2 tvF; have bF' := bE'.trans (bF.mono bE'.size); obtain ⟨fo, fc, rfl, _⟩ := id tvF; clear HC27)
            | (go_at_call 26; refine HC26.mono ?_; rintro e wG ⟨vG, rfl, tvG, bG⟩; have bG' := bF'.trans (bG.mono bF'.size); obtain ⟨zo, zc, rfl, _⟩ := id tvG; obtain ⟨⟨y, dy⟩, fy, HY⟩ := HG.out _ wG bG' tvG; have HY' : Hid _ := HY; clear HC26 HY))
          all_goals
            clear HE HF HG tvG tvF
            generalize (upT t (j + 1)).size = zs at *
            go_wp2_with fail
            go_roundw
            case rel => exact HY'.out
            case measure => simp [intOf]; omega
        · have hjj : ¬ (j : Int) < (k : Int) := by omega
          obtain rfl : j = k := by omega
          have da := hR.a.cell 0 rfl
          have H9 := rep29W _ t 0 (-1) false wr hR.tw
          have hmf := mk_func
          go_wp2_with fail
          refine H9.mono ?_
          rintro e w9 ⟨v9, rfl, tv9, b9⟩
          obtain ⟨so, sc, rfl, _, _⟩ := id tv9
          have hR9 := hR.next b9
          have hU9 := hU.below b9
          have hb10 := below1 w9 (.cells #[.slice so (Tre.rep t 0 (-1) false).size sc] 24)
          have hR10 := hR9.next hb10
          have hU10 := hU9.below hb10
          have kS := Cl.new w9 24 [.slice so (Tre.rep t 0 (-1) false).size sc]
          have tv10 := tv9.below hb10
          clear H9 hR hU b9 hR9 hU9 hb10 tv9 da
          go_wp2_with fail
          rename_i hK
          obtain ⟨mo, mn, mc, kM, tvM⟩ := hR10.box
          obtain ⟨uo, un, uc, kU, tvU⟩ := hU10
          refine region_codes (K := lookR) (fv := fun t => Array.getD _ t undef) (by kernel_rfl) (owedR (l := i) (k := j) (hr.below hR10.bel) q0.2 (hT.below hR10.bel) hR10.x hR10.a hR10.tw kM tvM kU tvU kS tv10 rfl rfl (by simp) rfl rfl rfl rfl (denR_fine hfine hl3 hk3)) (fun c h => by simp [lookR] at h) (by decide) (by kernel_rfl) (by decide) (by kernel_rfl) (by kernel_rfl) (Below.refl _ _) ⟨rfl, rfl, fun t _ _ => rfl⟩ (by decide) (by decide) ?_
          intro a' w' hCw hFd hres
          refine hK a' w' ?_
          obtain ⟨tm, ds⟩ := a'
          obtain rfl : ds = [] := hFd.defers
          have h6' : tm.getD 8 undef = .bool true := hres
          refine wp_ret ?_
          exact bodyPost_ret (v := tm.getD 8 undef) (results_tmp (t := 8) rfl tm _ _) rfl ⟨by rw [h6'], hR10.bel.trans (hCw.mono hR10.bel.size)⟩
end Go.Proofs.YtiiecppkabdkgaaDoor
