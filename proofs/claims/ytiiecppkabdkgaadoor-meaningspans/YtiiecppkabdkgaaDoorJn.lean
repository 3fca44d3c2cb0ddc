/- The laws' cat and alt; trees as values: the walks. -/
import Derived.Test.YtiiecppkabdkgaaDoorCs
namespace Go.Proofs.YtiiecppkabdkgaaDoor
open Go.RowKit
/-- A value that is a tree. -/
def TV (w : World) (v : Value) (t : Tre) : Prop := ∃ ao cap, v = .agg #[.slice ao t.size cap] ∧ RdN w ao t.size (nodes t) ∧ t.size ≤ cap
theorem TV.below {w w' : World} {v : Value} {t : Tre} (h : TV w v t) (hb : Below w.heap.size w w') : TV w' v t := by
  obtain ⟨ao, cap, e, hr, hc⟩ := h
  exact ⟨ao, cap, e, hr.below hb, hc⟩
def RetV (w : World) (t : Tre) (e : Ending) (w' : World) : Prop := ∃ v, e = .returned v ∧ TV w' v t ∧ Below w.heap.size w w'
theorem retT_V {w : World} {t : Tre} {k : Nat} {F : Nat → Nd} {e : Ending} {w' : World} (h : RetT w k F e w') (hk : k = t.size) (hF : ∀ i, i < k → F i = nodes t i) : RetV w t e w' := by
  obtain ⟨ao, cap, rfl, ho, hb⟩ := h
  subst hk
  exact ⟨_, rfl, ⟨ao, cap, rfl, ho.rd.congr hF, ownsRow_cap ho⟩, hb⟩
set_option maxRecDepth 10000 in
set_option maxHeartbeats 2000000 in
theorem alt26_any (x y : Value) (tx ty : Tre) (w : World) (hx : TV w x tx) (hy : TV w y ty) (ox : tx.ok = true) (oy : ty.ok = true) (sx : tx.size ≤ 2048) (sy : ty.size ≤ 2048) : Calls Tryd.prog 26 #[x, y] w (RetV w (.two 4 tx ty)) := by
  obtain ⟨xo, xc, rfl, hX, hxc⟩ := hx
  obtain ⟨yo, yc, rfl, hY, hyc⟩ := hy
  have hb0 : Below w.heap.size w (((w.alloc (.cells #[.slice xo tx.size xc] 24)).alloc (.cells #[.slice yo ty.size yc] 24)).alloc (.cells #[.slice none 0 0] 24)) := (below2 w _ _).trans ((below1 _ _).mono (below2 w _ _).size)
  have k0 : Cl (((w.alloc (.cells #[.slice xo tx.size xc] 24)).alloc (.cells #[.slice yo ty.size yc] 24)).alloc (.cells #[.slice none 0 0] 24)) w.heap.size 24 [.slice xo tx.size xc] := ((Cl.new w 24 [.slice xo tx.size xc]).alloc _).alloc _
  have k1 : Cl (((w.alloc (.cells #[.slice xo tx.size xc] 24)).alloc (.cells #[.slice yo ty.size yc] 24)).alloc (.cells #[.slice none 0 0] 24)) (w.heap.size + 1) 24 [.slice yo ty.size yc] := by
    have := (Cl.new (w.alloc (.cells #[.slice xo tx.size xc] 24)) 24 [.slice yo ty.size yc]).alloc (.cells #[.slice none 0 0] 24)
    simpa only [World.size_alloc] using this
  have k2 : Cl (((w.alloc (.cells #[.slice xo tx.size xc] 24)).alloc (.cells #[.slice yo ty.size yc] 24)).alloc (.cells #[.slice none 0 0] 24)) (w.heap.size + 2) 24 [.slice none 0 0] := by
    have := Cl.new ((w.alloc (.cells #[.slice xo tx.size xc] 24)).alloc (.cells #[.slice yo ty.size yc] 24)) 24 [.slice none 0 0]
    simpa only [World.size_alloc] using this
  have HJ := rjoin_yes 4 xo yo tx.size ty.size xc yc (nodes tx) (nodes ty) _ (by decide) (hX.below hb0) (hY.below hb0) (by omega) (by omega) hxc hyc
  rw [snd_nodes tx ox sx, snd_nodes ty oy sy] at HJ
  have hs3 : (((w.alloc (.cells #[.slice xo tx.size xc] 24)).alloc (.cells #[.slice yo ty.size yc] 24)).alloc (.cells #[.slice none 0 0] 24)).heap.size = w.heap.size + 3 := by simp
  have d0 := k0.cell 0 rfl
  have d1 := k1.cell 0 rfl
  have HR : Hid (∀ ao c w2, OwN w2 (w.heap.size + 3) ao (tx.size + ty.size + 1) c (nodes (.two 4 tx ty)) → Below (w.heap.size + 3) (((w.alloc (.cells #[.slice xo tx.size xc] 24)).alloc (.cells #[.slice yo ty.size yc] 24)).alloc (.cells #[.slice none 0 0] 24)) w2 → (∃ v, w2.cell? ⟨w.heap.size + 2, 0, none⟩ = some v) ∧ w2.frozen? ⟨w.heap.size + 2, 0, none⟩ = false ∧ (w2.setCell ⟨w.heap.size + 2, 0, none⟩ (.slice ao (tx.size + ty.size + 1) c)).cell? ⟨w.heap.size + 2, 0, none⟩ = some (.slice ao (tx.size + ty.size + 1) c) ∧ RetV w (.two 4 tx ty) (.returned (.agg #[.slice ao (tx.size + ty.size + 1) c])) (w2.setCell ⟨w.heap.size + 2, 0, none⟩ (.slice ao (tx.size + ty.size + 1) c))) := by
    intro ao c w2 ho hb
    have k2' := k2.belowB hb (by omega)
    have hsz := hb.size
    refine ⟨⟨_, k2'.cell 0 rfl⟩, k2'.frozen 0, (k2'.set 0 _).cell 0 rfl, _, rfl, ⟨ao, c, rfl, ?_, ownsRow_cap ho⟩, (hb0.trans (hb.mono (by omega))).setCell (p := ⟨w.heap.size + 2, 0, none⟩) (by simp) _⟩
    have ho2 : OwN (w2.setCell ⟨w.heap.size + 2, 0, none⟩ (.slice ao (tx.size + ty.size + 1) c)) (w.heap.size + 3) ao (tx.size + ty.size + 1) c (nodes (.two 4 tx ty)) := ownsRow_at ho fun g' h1 h2 => by
      rw [Below.heap_setCell _ _ _ _ (by simp; omega)]
    exact ho2.rd
  unfold RetT at HJ
  rw [hs3] at HJ
  clear hX hY k0 k1 k2
  generalize tx.size = n at *
  generalize ty.size = m at *
  go_enter Tryd.func26, Tryd.ntmps26
  go_wp2_with fail
  refine HJ.mono ?_
  rintro e w2 ⟨ao, c, rfl, ho, hb⟩
  obtain ⟨⟨v, dv⟩, fv, dd, HQ⟩ := HR.out ao c w2 ho hb
  have HQ' : Hid _ := HQ
  clear HR HJ ho HQ
  go_wp2_with fail
  exact bodyPost_ret (by simp [results, Tryd.results26, go_sem, dd]) rfl HQ'.out
set_option maxRecDepth 10000 in
set_option maxHeartbeats 2000000 in
theorem cat27_any (x y : Value) (tx ty : Tre) (w : World) (hx : TV w x tx) (hy : TV w y ty) (ox : tx.ok = true) (oy : ty.ok = true) (sx : tx.size ≤ 2048) (sy : ty.size ≤ 2048) : Calls Tryd.prog 27 #[x, y] w (RetV w (.two 3 tx ty)) := by
  obtain ⟨xo, xc, rfl, hX, hxc⟩ := hx
  obtain ⟨yo, yc, rfl, hY, hyc⟩ := hy
  have hb0 : Below w.heap.size w (((w.alloc (.cells #[.slice xo tx.size xc] 24)).alloc (.cells #[.slice yo ty.size yc] 24)).alloc (.cells #[.slice none 0 0] 24)) := (below2 w _ _).trans ((below1 _ _).mono (below2 w _ _).size)
  have k0 : Cl (((w.alloc (.cells #[.slice xo tx.size xc] 24)).alloc (.cells #[.slice yo ty.size yc] 24)).alloc (.cells #[.slice none 0 0] 24)) w.heap.size 24 [.slice xo tx.size xc] := ((Cl.new w 24 [.slice xo tx.size xc]).alloc _).alloc _
  have k1 : Cl (((w.alloc (.cells #[.slice xo tx.size xc] 24)).alloc (.cells #[.slice yo ty.size yc] 24)).alloc (.cells #[.slice none 0 0] 24)) (w.heap.size + 1) 24 [.slice yo ty.size yc] := by
    have := (Cl.new (w.alloc (.cells #[.slice xo tx.size xc] 24)) 24 [.slice yo ty.size yc]).alloc (.cells #[.slice none 0 0] 24)
    simpa only [World.size_alloc] using this
  have k2 : Cl (((w.alloc (.cells #[.slice xo tx.size xc] 24)).alloc (.cells #[.slice yo ty.size yc] 24)).alloc (.cells #[.slice none 0 0] 24)) (w.heap.size + 2) 24 [.slice none 0 0] := by
    have := Cl.new ((w.alloc (.cells #[.slice xo tx.size xc] 24)).alloc (.cells #[.slice yo ty.size yc] 24)) 24 [.slice none 0 0]
    simpa only [World.size_alloc] using this
  have HJ := rjoin_yes 3 xo yo tx.size ty.size xc yc (nodes tx) (nodes ty) _ (by decide) (hX.below hb0) (hY.below hb0) (by omega) (by omega) hxc hyc
  rw [snd_nodes tx ox sx, snd_nodes ty oy sy] at HJ
  have hs3 : (((w.alloc (.cells #[.slice xo tx.size xc] 24)).alloc (.cells #[.slice yo ty.size yc] 24)).alloc (.cells #[.slice none 0 0] 24)).heap.size = w.heap.size + 3 := by simp
  have d0 := k0.cell 0 rfl
  have d1 := k1.cell 0 rfl
  have HR : Hid (∀ ao c w2, OwN w2 (w.heap.size + 3) ao (tx.size + ty.size + 1) c (nodes (.two 3 tx ty)) → Below (w.heap.size + 3) (((w.alloc (.cells #[.slice xo tx.size xc] 24)).alloc (.cells #[.slice yo ty.size yc] 24)).alloc (.cells #[.slice none 0 0] 24)) w2 → (∃ v, w2.cell? ⟨w.heap.size + 2, 0, none⟩ = some v) ∧ w2.frozen? ⟨w.heap.size + 2, 0, none⟩ = false ∧ (w2.setCell ⟨w.heap.size + 2, 0, none⟩ (.slice ao (tx.size + ty.size + 1) c)).cell? ⟨w.heap.size + 2, 0, none⟩ = some (.slice ao (tx.size + ty.size + 1) c) ∧ RetV w (.two 3 tx ty) (.returned (.agg #[.slice ao (tx.size + ty.size + 1) c])) (w2.setCell ⟨w.heap.size + 2, 0, none⟩ (.slice ao (tx.size + ty.size + 1) c))) := by
    intro ao c w2 ho hb
    have k2' := k2.belowB hb (by omega)
    have hsz := hb.size
    refine ⟨⟨_, k2'.cell 0 rfl⟩, k2'.frozen 0, (k2'.set 0 _).cell 0 rfl, _, rfl, ⟨ao, c, rfl, ?_, ownsRow_cap ho⟩, (hb0.trans (hb.mono (by omega))).setCell (p := ⟨w.heap.size + 2, 0, none⟩) (by simp) _⟩
    have ho2 : OwN (w2.setCell ⟨w.heap.size + 2, 0, none⟩ (.slice ao (tx.size + ty.size + 1) c)) (w.heap.size + 3) ao (tx.size + ty.size + 1) c (nodes (.two 3 tx ty)) := ownsRow_at ho fun g' h1 h2 => by
      rw [Below.heap_setCell _ _ _ _ (by simp; omega)]
    exact ho2.rd
  unfold RetT at HJ
  rw [hs3] at HJ
  clear hX hY k0 k1 k2
  generalize tx.size = n at *
  generalize ty.size = m at *
  go_enter Tryd.func27, Tryd.ntmps27
  go_wp2_with fail
  refine HJ.mono ?_
  rintro e w2 ⟨ao, c, rfl, ho, hb⟩
  obtain ⟨⟨v, dv⟩, fv, dd, HQ⟩ := HR.out ao c w2 ho hb
  have HQ' : Hid _ := HQ
  clear HR HJ ho HQ
  go_wp2_with fail
  exact bodyPost_ret (by simp [results, Tryd.results27, go_sem, dd]) rfl HQ'.out
theorem noA_anc : ∀ (t : Tre) (h : Bool × Bool), noA t = true → anc t h = true
  | .leaf q, h, hn => by
    simp [noA] at hn
    simp [anc, hn]
  | .two k x y, h, hn => by
    simp [noA] at hn
    simp [anc, noA_anc x _ hn.1, noA_anc y _ hn.2]
  | .rep x l m z, h, hn => by
    simp only [anc]
    exact noA_anc x _ hn
theorem mean_emp (f : Nat → Nat) (n : Nat) (mu : Bool) : mean f n mu emp = tStay := by
  funext i d
  rfl
end Go.Proofs.YtiiecppkabdkgaaDoor
