/- Trees as the calls take them; repeats unrolled: walks and plain facts. -/
import Derived.Test.YtiiecppkabdkgaaDoorLa
namespace Go.Proofs.YtiiecppkabdkgaaDoor
open Go.RowKit
/-- A value that the calls take for a tree. -/
def TW (w : World) (v : Value) (t : Tre) : Prop := ∃ ao n cap F, v = .agg #[.slice ao n cap] ∧ RdN w ao n F ∧ snd F n = t ∧ n ≤ cap ∧ (n : Int) ≤ 9223372036854775807
theorem TW.below {w w' : World} {v : Value} {t : Tre} (h : TW w v t) (hb : Below w.heap.size w w') : TW w' v t := by
  obtain ⟨ao, n, cap, F, e, hr, h1, h2, h3⟩ := h
  exact ⟨ao, n, cap, F, e, hr.below hb, h1, h2, h3⟩
theorem TV.tw {w : World} {v : Value} {t : Tre} (h : TV w v t) (ho : t.ok = true) (hs : t.size ≤ 2048) : TW w v t := by
  obtain ⟨ao, cap, e, hr, hc⟩ := h
  exact ⟨ao, _, cap, nodes t, e, hr, snd_nodes t ho hs, hc, by omega⟩
set_option maxRecDepth 10000 in
set_option maxHeartbeats 2000000 in
theorem alt26W (x y : Value) (tx ty : Tre) (w : World) (hx : TW w x tx) (hy : TW w y ty) : Calls Tryd.prog 26 #[x, y] w (RetV w (.two 4 tx ty)) := by
  obtain ⟨xo, xn, xc, F, rfl, hX, rfl, hxc, hxn⟩ := hx
  obtain ⟨yo, yn, yc, G, rfl, hY, rfl, hyc, hyn⟩ := hy
  have hb0 : Below w.heap.size w (((w.alloc (.cells #[.slice xo xn xc] 24)).alloc (.cells #[.slice yo yn yc] 24)).alloc (.cells #[.slice none 0 0] 24)) := (below2 w _ _).trans ((below1 _ _).mono (below2 w _ _).size)
  have k0 : Cl (((w.alloc (.cells #[.slice xo xn xc] 24)).alloc (.cells #[.slice yo yn yc] 24)).alloc (.cells #[.slice none 0 0] 24)) w.heap.size 24 [.slice xo xn xc] := ((Cl.new w 24 [.slice xo xn xc]).alloc _).alloc _
  have k1 : Cl (((w.alloc (.cells #[.slice xo xn xc] 24)).alloc (.cells #[.slice yo yn yc] 24)).alloc (.cells #[.slice none 0 0] 24)) (w.heap.size + 1) 24 [.slice yo yn yc] := by
    have := (Cl.new (w.alloc (.cells #[.slice xo xn xc] 24)) 24 [.slice yo yn yc]).alloc (.cells #[.slice none 0 0] 24)
    simpa only [World.size_alloc] using this
  have k2 : Cl (((w.alloc (.cells #[.slice xo xn xc] 24)).alloc (.cells #[.slice yo yn yc] 24)).alloc (.cells #[.slice none 0 0] 24)) (w.heap.size + 2) 24 [.slice none 0 0] := by
    have := Cl.new ((w.alloc (.cells #[.slice xo xn xc] 24)).alloc (.cells #[.slice yo yn yc] 24)) 24 [.slice none 0 0]
    simpa only [World.size_alloc] using this
  have HJ := rjoin_yes 4 xo yo xn yn xc yc F G _ (by decide) (hX.below hb0) (hY.below hb0) hxn hyn hxc hyc
  have hs3 : (((w.alloc (.cells #[.slice xo xn xc] 24)).alloc (.cells #[.slice yo yn yc] 24)).alloc (.cells #[.slice none 0 0] 24)).heap.size = w.heap.size + 3 := by simp
  have d0 := k0.cell 0 rfl
  have d1 := k1.cell 0 rfl
  have HR : Hid (∀ ao c w2, OwN w2 (w.heap.size + 3) ao ((snd F xn).size + (snd G yn).size + 1) c (nodes (.two 4 (snd F xn) (snd G yn))) → Below (w.heap.size + 3) (((w.alloc (.cells #[.slice xo xn xc] 24)).alloc (.cells #[.slice yo yn yc] 24)).alloc (.cells #[.slice none 0 0] 24)) w2 → (∃ v, w2.cell? ⟨w.heap.size + 2, 0, none⟩ = some v) ∧ w2.frozen? ⟨w.heap.size + 2, 0, none⟩ = false ∧ (w2.setCell ⟨w.heap.size + 2, 0, none⟩ (.slice ao ((snd F xn).size + (snd G yn).size + 1) c)).cell? ⟨w.heap.size + 2, 0, none⟩ = some (.slice ao ((snd F xn).size + (snd G yn).size + 1) c) ∧ RetV w (.two 4 (snd F xn) (snd G yn)) (.returned (.agg #[.slice ao ((snd F xn).size + (snd G yn).size + 1) c])) (w2.setCell ⟨w.heap.size + 2, 0, none⟩ (.slice ao ((snd F xn).size + (snd G yn).size + 1) c))) := by
    intro ao c w2 ho hb
    have k2' := k2.belowB hb (by omega)
    have hsz := hb.size
    refine ⟨⟨_, k2'.cell 0 rfl⟩, k2'.frozen 0, (k2'.set 0 _).cell 0 rfl, _, rfl, ⟨ao, c, rfl, ?_, ownsRow_cap ho⟩, (hb0.trans (hb.mono (by omega))).setCell (p := ⟨w.heap.size + 2, 0, none⟩) (by simp) _⟩
    have ho2 : OwN (w2.setCell ⟨w.heap.size + 2, 0, none⟩ (.slice ao ((snd F xn).size + (snd G yn).size + 1) c)) (w.heap.size + 3) ao ((snd F xn).size + (snd G yn).size + 1) c (nodes (.two 4 (snd F xn) (snd G yn))) := ownsRow_at ho fun g' h1 h2 => by
      rw [Below.heap_setCell _ _ _ _ (by simp; omega)]
    exact ho2.rd
  unfold RetT at HJ
  rw [hs3] at HJ
  clear hX hY k0 k1 k2
  generalize (snd F xn).size + (snd G yn).size + 1 = nn at *
  generalize (Tre.two 4 (snd F xn) (snd G yn)) = tz at *
  go_enter Tryd.func26, Tryd.ntmps26
  go_wp2_with fail
  refine HJ.mono ?_
  rintro e w2 ⟨ao, c, rfl, ho, hb⟩
  obtain ⟨⟨v, dv⟩, fv, dd, HQ⟩ := HR.out ao c w2 ho hb
  have HQ' : Hid _ := HQ
  clear HR HJ ho HQ
  go_wp2_with fail
  exact bodyPost_ret (by simp [results, Tryd.results26, go_sem, dd]) rfl HQ'.out
set_option maxRecDepth 10000 in
set_option maxHeartbeats 2000000 in
theorem cat27W (x y : Value) (tx ty : Tre) (w : World) (hx : TW w x tx) (hy : TW w y ty) : Calls Tryd.prog 27 #[x, y] w (RetV w (.two 3 tx ty)) := by
  obtain ⟨xo, xn, xc, F, rfl, hX, rfl, hxc, hxn⟩ := hx
  obtain ⟨yo, yn, yc, G, rfl, hY, rfl, hyc, hyn⟩ := hy
  have hb0 : Below w.heap.size w (((w.alloc (.cells #[.slice xo xn xc] 24)).alloc (.cells #[.slice yo yn yc] 24)).alloc (.cells #[.slice none 0 0] 24)) := (below2 w _ _).trans ((below1 _ _).mono (below2 w _ _).size)
  have k0 : Cl (((w.alloc (.cells #[.slice xo xn xc] 24)).alloc (.cells #[.slice yo yn yc] 24)).alloc (.cells #[.slice none 0 0] 24)) w.heap.size 24 [.slice xo xn xc] := ((Cl.new w 24 [.slice xo xn xc]).alloc _).alloc _
  have k1 : Cl (((w.alloc (.cells #[.slice xo xn xc] 24)).alloc (.cells #[.slice yo yn yc] 24)).alloc (.cells #[.slice none 0 0] 24)) (w.heap.size + 1) 24 [.slice yo yn yc] := by
    have := (Cl.new (w.alloc (.cells #[.slice xo xn xc] 24)) 24 [.slice yo yn yc]).alloc (.cells #[.slice none 0 0] 24)
    simpa only [World.size_alloc] using this
  have k2 : Cl (((w.alloc (.cells #[.slice xo xn xc] 24)).alloc (.cells #[.slice yo yn yc] 24)).alloc (.cells #[.slice none 0 0] 24)) (w.heap.size + 2) 24 [.slice none 0 0] := by
    have := Cl.new ((w.alloc (.cells #[.slice xo xn xc] 24)).alloc (.cells #[.slice yo yn yc] 24)) 24 [.slice none 0 0]
    simpa only [World.size_alloc] using this
  have HJ := rjoin_yes 3 xo yo xn yn xc yc F G _ (by decide) (hX.below hb0) (hY.below hb0) hxn hyn hxc hyc
  have hs3 : (((w.alloc (.cells #[.slice xo xn xc] 24)).alloc (.cells #[.slice yo yn yc] 24)).alloc (.cells #[.slice none 0 0] 24)).heap.size = w.heap.size + 3 := by simp
  have d0 := k0.cell 0 rfl
  have d1 := k1.cell 0 rfl
  have HR : Hid (∀ ao c w2, OwN w2 (w.heap.size + 3) ao ((snd F xn).size + (snd G yn).size + 1) c (nodes (.two 3 (snd F xn) (snd G yn))) → Below (w.heap.size + 3) (((w.alloc (.cells #[.slice xo xn xc] 24)).alloc (.cells #[.slice yo yn yc] 24)).alloc (.cells #[.slice none 0 0] 24)) w2 → (∃ v, w2.cell? ⟨w.heap.size + 2, 0, none⟩ = some v) ∧ w2.frozen? ⟨w.heap.size + 2, 0, none⟩ = false ∧ (w2.setCell ⟨w.heap.size + 2, 0, none⟩ (.slice ao ((snd F xn).size + (snd G yn).size + 1) c)).cell? ⟨w.heap.size + 2, 0, none⟩ = some (.slice ao ((snd F xn).size + (snd G yn).size + 1) c) ∧ RetV w (.two 3 (snd F xn) (snd G yn)) (.returned (.agg #[.slice ao ((snd F xn).size + (snd G yn).size + 1) c])) (w2.setCell ⟨w.heap.size + 2, 0, none⟩ (.slice ao ((snd F xn).size + (snd G yn).size + 1) c))) := by
    intro ao c w2 ho hb
    have k2' := k2.belowB hb (by omega)
    have hsz := hb.size
    refine ⟨⟨_, k2'.cell 0 rfl⟩, k2'.frozen 0, (k2'.set 0 _).cell 0 rfl, _, rfl, ⟨ao, c, rfl, ?_, ownsRow_cap ho⟩, (hb0.trans (hb.mono (by omega))).setCell (p := ⟨w.heap.size + 2, 0, none⟩) (by simp) _⟩
    have ho2 : OwN (w2.setCell ⟨w.heap.size + 2, 0, none⟩ (.slice ao ((snd F xn).size + (snd G yn).size + 1) c)) (w.heap.size + 3) ao ((snd F xn).size + (snd G yn).size + 1) c (nodes (.two 3 (snd F xn) (snd G yn))) := ownsRow_at ho fun g' h1 h2 => by
      rw [Below.heap_setCell _ _ _ _ (by simp; omega)]
    exact ho2.rd
  unfold RetT at HJ
  rw [hs3] at HJ
  clear hX hY k0 k1 k2
  generalize (snd F xn).size + (snd G yn).size + 1 = nn at *
  generalize (Tre.two 3 (snd F xn) (snd G yn)) = tz at *
  go_enter Tryd.func27, Tryd.ntmps27
  go_wp2_with fail
  refine HJ.mono ?_
  rintro e w2 ⟨ao, c, rfl, ho, hb⟩
  obtain ⟨⟨v, dv⟩, fv, dd, HQ⟩ := HR.out ao c w2 ho hb
  have HQ' : Hid _ := HQ
  clear HR HJ ho HQ
  go_wp2_with fail
  exact bodyPost_ret (by simp [results, Tryd.results27, go_sem, dd]) rfl HQ'.out
theorem rep29W (x : Value) (tx : Tre) (l m : Int) (z : Bool) (w : World) (hx : TW w x tx) : Calls Tryd.prog 29 #[x, .int .i64 l, .int .i64 m, .bool z] w (RetV w (.rep tx l m z)) := by
  obtain ⟨xo, xn, xc, F, rfl, hX, rfl, hxc, hxn⟩ := hx
  exact (rrepeat_any xo xn xc F l m z w hX hxn hxc).mono fun e w' h => retT_V h rfl (fun _ _ => rfl)
/-- So many of a tree, one behind the other. -/
def manyT (t : Tre) : Nat → Tre
  | 0 => emp
  | k + 1 => .two 3 (manyT t k) t
/-- Up to so many. -/
def upT (t : Tre) : Nat → Tre
  | 0 => emp
  | k + 1 => .two 4 emp (.two 3 t (upT t k))
theorem many_mean (f : Nat → Nat) (n : Nat) (mu : Bool) (t : Tre) : ∀ k, mean f n mu (manyT t k) = tPow (mean f n mu t) k
  | 0 => mean_emp f n mu
  | k + 1 => by rw [manyT, mean_cat, many_mean f n mu t k, pow_succ_r]
theorem up_mean (f : Nat → Nat) (n : Nat) (mu : Bool) (t : Tre) (k : Nat) : mean f n mu (upT t k) = tPow (tAlt (mean f n mu t) tStay) k := by
  refine tab_ext fun i d => ?_
  rw [pow_up]
  induction k generalizing i d with
  | zero =>
    rw [upT, mean_emp]
    constructor
    · intro h; exact ⟨0, Nat.le_refl _, h⟩
    · rintro ⟨q, hq, h⟩
      obtain rfl : q = 0 := by omega
      exact h
  | succ k ih =>
    rw [upT, mean_alt, mean_emp, mean_cat, tAlt_iff, tCat_iff]
    constructor
    · rintro (h | ⟨a, b, rfl, h1, h2⟩)
      · exact ⟨0, by omega, h⟩
      · obtain ⟨q, hq, h3⟩ := (ih (i + a) b).1 h2
        exact ⟨q + 1, by omega, tCat_iff.2 ⟨a, b, rfl, h1, h3⟩⟩
    · rintro ⟨q, hq, h⟩
      cases q with
      | zero => exact .inl h
      | succ q =>
        obtain ⟨a, b, rfl, h1, h2⟩ := tCat_iff.1 h
        exact .inr ⟨a, b, rfl, h1, (ih (i + a) b).2 ⟨q, by omega, h2⟩⟩
theorem rep_mean (f : Nat → Nat) (n : Nat) (mu : Bool) (t : Tre) (l k : Nat) (z : Bool) : mean f n mu (.rep t (l : Int) ((l + k : Nat) : Int) z) = mean f n mu (.two 3 (manyT t l) (upT t k)) := by
  rw [mean_cat, many_mean, up_mean, mean]
  unfold tRep
  rw [if_neg (by omega), show ((l + k : Nat) : Int) - (l : Int) = (k : Int) by omega, Int.toNat_natCast, Int.toNat_natCast]
theorem star_mean (f : Nat → Nat) (n : Nat) (mu : Bool) (t : Tre) (z : Bool) : mean f n mu (.rep t 0 (-1) z) = mean f n mu (.two 4 emp (.two 3 t (.rep t 0 (-1) z))) := by
  have e : mean f n mu (.rep t 0 (-1) z) = tStar (mean f n mu t) := by
    rw [mean]
    unfold tRep
    rw [if_pos rfl]
    exact cat_stay _
  rw [mean_alt, mean_cat, mean_emp, e]
  exact star_eq _
theorem rep_star (f : Nat → Nat) (n : Nat) (mu : Bool) (t : Tre) (l : Nat) (z : Bool) : mean f n mu (.rep t (l : Int) (-1) z) = mean f n mu (.two 3 (manyT t l) (.rep t 0 (-1) z)) := by
  have e : mean f n mu (.rep t 0 (-1) z) = tStar (mean f n mu t) := by
    rw [mean]
    unfold tRep
    rw [if_pos rfl]
    exact cat_stay _
  rw [mean_cat, e, many_mean, mean]
  unfold tRep
  rw [if_pos rfl, Int.toNat_natCast]
theorem anc_noA : ∀ t : Tre, anc t (false, false) = true → noA t = true
  | .leaf q, h => by
    simp only [anc] at h
    simp only [noA]
    by_cases h6 : q.k = 6
    · simp [h6] at h
    · by_cases h7 : q.k = 7
      · simp [h7] at h
      · simp [h6, h7]
  | .two k x y, h => by
    simp only [anc, Bool.and_eq_true] at h
    simp only [noA, Bool.and_eq_true]
    have e1 : hdA k (false, false) = (false, false) := by unfold hdA; split <;> rfl
    have e2 : hdB k (false, false) = (false, false) := by unfold hdB; split <;> rfl
    rw [e1, e2] at h
    exact ⟨anc_noA x h.1, anc_noA y h.2⟩
  | .rep x l m z, h => by
    simp only [anc] at h
    simp only [noA]
    exact anc_noA x h
/-- A tree that may stand in the law's trees. -/
structure Fine (t : Tre) (k : Nat) : Prop where
  ok : t.ok = true
  na : noA t = true
  wf : wfT t
  sz : t.size ≤ k
theorem fine_emp : Fine emp 1 := ⟨emp_ok, by kernel_rfl, wfN_zero, Nat.le_refl _⟩
theorem Fine.two {x y : Tre} {a b : Nat} {k : Int} (hk : k = 3 ∨ k = 4) (hx : Fine x a) (hy : Fine y b) : Fine (.two k x y) (a + b + 1) :=
  ⟨by rcases hk with rfl | rfl <;> simp [Tre.ok, hx.ok, hy.ok], by simp [noA, hx.na, hy.na], ⟨hx.wf, hy.wf⟩, by have := hx.sz; have := hy.sz; simp only [Tre.size]; omega⟩
theorem Fine.rep {x : Tre} {a : Nat} {l m : Int} {z : Bool} (hx : Fine x a) (hm : Tre.mayR l m = true) : Fine (.rep x l m z) (a + 1) :=
  ⟨by simp [Tre.ok, hx.ok, hm], hx.na, hx.wf, by have := hx.sz; simp only [Tre.size]; omega⟩
theorem Fine.mono {x : Tre} {a b : Nat} (h : Fine x a) (hab : a ≤ b) : Fine x b := ⟨h.ok, h.na, h.wf, by have := h.sz; omega⟩
theorem Fine.many {t : Tre} {a : Nat} (h : Fine t a) : ∀ k, Fine (manyT t k) (1 + k * (a + 1))
  | 0 => fine_emp.mono (by omega)
  | k + 1 => ((h.many k).two (.inl rfl) h).mono (by rw [Nat.succ_mul]; omega)
theorem Fine.up {t : Tre} {a : Nat} (h : Fine t a) : ∀ k, Fine (upT t k) (1 + k * (a + 3))
  | 0 => fine_emp.mono (by omega)
  | k + 1 => (fine_emp.two (.inr rfl) (h.two (.inl rfl) (h.up k))).mono (by rw [Nat.succ_mul]; omega)
theorem Fine.tab {t : Tre} {k : Nat} (h : Fine t k) (hk : k ≤ 2048) (f : Nat → Nat) (n : Nat) (mu : Bool) : mTab f n mu (nodes t) t.size = mean f n mu t :=
  mTab_nodes rfl h.ok (by have := h.sz; omega) (noA_anc _ _ h.na)
end Go.Proofs.YtiiecppkabdkgaaDoor
