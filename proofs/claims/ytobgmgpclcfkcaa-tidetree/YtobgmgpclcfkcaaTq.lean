/- Of, of the reference: the walk. -/
import Derived.Test.YtobgmgpclcfkcaaTp
namespace Go.Proofs.Ytobgmgpclcfkcaa
open Go.RowKit Go.Shelf
/-- The cells of nodes that stand. -/
theorem rd_news {W : World} {a : Addr} {n : Nat} {F : Nat → T.Nd} (hr : T.RdN W (some a) n F) : ∀ j u, (T.ndsL F n)[j]? = some u → W.cell? (a.add j) = some u := by
  intro j u hj
  have hjl := (List.getElem?_eq_some_iff.1 hj).1
  rw [T.ndsL_len] at hjl
  obtain ⟨b, off, e, hb, hc⟩ := hr.cells (by omega)
  obtain rfl := Option.some.inj e
  have hcj := hc j u hj
  by_cases h0 : j = 0
  · subst h0; simpa [Addr.add] using hcj
  · simpa [Addr.add, h0] using hcj
set_option maxRecDepth 100000 in
set_option maxHeartbeats 8000000 in
theorem rof_two (w : World) (bb off xc : Nat) (x0 : Int) (a b c d : Nat) (x5 x6 x7 x8 : Int) (x9 : Bool) (y0 y1 y2 y3 y4 y5 y6 y7 y8 : Int) (y9 : Bool) (h : Nd2 w bb off x0 a b c d x5 x6 x7 x8 x9 y0 y1 y2 y3 y4 y5 y6 y7 y8 y9) :
    Calls Try.prog 27 #[.agg #[.slice (some ⟨bb, off, none⟩) 2 xc]] w (RetOf w a b c d y7 (isTd x0 a b c d x5 x6 x7 x8 x9 y0 y1 y2 y3 y4 y5 y6 y7 y8 y9)) := by
  obtain ⟨R, hR⟩ : ∃ R, isTd x0 a b c d x5 x6 x7 x8 x9 y0 y1 y2 y3 y4 y5 y6 y7 y8 y9 = R := ⟨_, rfl⟩
  rw [hR]
  have HR : Hid (isTd x0 a b c d x5 x6 x7 x8 x9 y0 y1 y2 y3 y4 y5 y6 y7 y8 y9 = R) := hR
  clear hR
  have hB := T.below2 w (.cells #[.slice (some ⟨bb, off, none⟩) 2 xc] 47) (tdO 0 0 0 0 0)
  have r0 := TdAt.new (w.alloc (.cells #[.slice (some ⟨bb, off, none⟩) 2 xc] 47)) 0 0 0 0 0
  rw [World.size_alloc] at r0
  unfold tdO at hB r0
  have t0 := (Cl.new w 47 [.slice (some ⟨bb, off, none⟩) 2 xc]).alloc (tdO 0 0 0 0 0)
  unfold tdO at t0
  have c0 := t0.cell 0 rfl
  go_enter Try.func27, Try.ntmps27
  go_upto_region 3 with fail
  have h1 : Nd2 ((w.alloc (.cells #[.slice (some ⟨bb, off, none⟩) 2 xc] 47)).alloc (.cells #[.int .u64 0, .int .u64 0, .int .u64 0, .int .u64 0, .int .i64 0] 26)) bb off x0 a b c d x5 x6 x7 x8 x9 y0 y1 y2 y3 y4 y5 y6 y7 y8 y9 := h.below hB
  generalize (w.alloc (.cells #[.slice (some ⟨bb, off, none⟩) 2 xc] 47)).alloc (.cells #[.int .u64 0, .int .u64 0, .int .u64 0, .int .u64 0, .int .i64 0] 26) = W at *
  have HB := Hid.mk' hB
  have H1 := Hid.mk' h1
  have T0 := Hid.mk' t0
  have R0 := Hid.mk' r0
  have hw0 : w.heap.size + 2 ≤ W.heap.size := by have := r0.lt; omega
  clear hB t0 h r0
  go_cut [4] (fun p wx => p = .pointer (some ⟨W.heap.size, 0, none⟩) ∧ TdAt wx W.heap.size a b c d y7 ∧ Below W.heap.size W wx)
  case first =>
    obtain ⟨hlt, ⟨p0, p1, p2, p3, p4, p5, p6, p7, p8, p9⟩, q0, q1, q2, q3, q4, q5, q6, q7, q8, q9⟩ := h1
    clear p0 p5 p6 p7 p8 p9 q0 q1 q2 q3 q4 q5 q6 q8 q9
    have n1 := World.new_ne W _ p1
    have n2 := World.new_ne W _ p2
    have n3 := World.new_ne W _ p3
    have n4 := World.new_ne W _ p4
    have n7 := World.new_ne W _ q7
    have nc := World.new_ne W _ c0
    go_region_held3 (fun w' => w'.cell? ⟨w.heap.size, 0, none⟩ = some (.slice (some ⟨bb, off, none⟩) 2 xc) ∧ w'.cell? ⟨bb, off + 1, none⟩ = some (.int .u64 (a : Nat)) ∧ w'.cell? ⟨bb, off + 2, none⟩ = some (.int .u64 (b : Nat)) ∧ w'.cell? ⟨bb, off + 3, none⟩ = some (.int .u64 (c : Nat)) ∧ w'.cell? ⟨bb, off + 4, none⟩ = some (.int .u64 (d : Nat)) ∧ w'.cell? ⟨bb, off + 17, none⟩ = some (.int .i64 y7))
      (first | exact ⟨c0, p1, p2, p3, p4, q7⟩ | go_keep)
      (fail)
    all_goals go_wp2_with fail
    all_goals go_meet
    all_goals exact ⟨rfl, (TdAt.new W a b c d y7).below ((Below.refl _ _).drew), ((Below.refl _ _).alloc (Nat.le_refl _) (tdO a b c d y7)).drew⟩
  case rest =>
    obtain ⟨rfl, t1, hb⟩ := hcut
    clear c0 h1
    have hB1 := HB.out.trans (hb.mono HB.out.size)
    have h1 := H1.out.below hb
    have b1 := T0.out.below hb
    have r1 := R0.out.below hb
    clear H1 T0 R0 HB
    have c1 := b1.cell 0 rfl
    have hw1 : W.heap.size + 1 ≤ wc.heap.size := by have := t1.lt; omega
    obtain ⟨i0, hi, hz0, hz1, hz2⟩ := info_parts T.b_node
    obtain ⟨F, hF⟩ : ∃ F, F = two2 (ndX x0 a b c d x5 x6 x7 x8 x9) (ndY y0 y1 y2 y3 y4 y5 y6 y7 y8 y9) := ⟨_, rfl⟩
    have hnews : ∀ j u, (T.ndsL F 2)[j]? = some u → wc.cell? ((⟨bb, off, none⟩ : Addr).add j) = some u := by
      have hr := h1.rd
      rw [← hF] at hr
      exact rd_news hr
    clear h1
    have HO : Hid (∀ v' w2, w2.ownsRow wc.heap.size 70 10 v' 2 (T.ndsL F 2) → wc.grownBy w2 (Value.slice none 0 0).ownBlock → (v' ≠ .slice none 0 0) → ∃ g cap, v' = .slice (some ⟨g, 0, none⟩) 2 cap ∧ T.OwN w2 wc.heap.size (some ⟨g, 0, none⟩) 2 cap F ∧ Below wc.heap.size wc w2) := by
      intro v' w2 hown hgr hnil'
      refine (?_ : ∃ g cap, _ ∧ _ ∧ _)
      rcases hown.2 with ⟨h', _⟩ | ⟨g, cap, cur, h', _⟩
      · exact absurd h' hnil'
      · exact ⟨g, cap, h', by unfold T.OwN; rw [← h']; exact hown, (Below.refl _ _).grown hgr (Nat.le_refl _) (by intro k hk; simp [Value.ownBlock] at hk)⟩
    go_upto_region 5 with (at_builtin; refine wpList_append_own _ rfl _ _ 45 rfl wc.heap.size 70 i0 _ 10 80 Try.underlying45 hi hz0 hz1 hz2 rfl (by decide) _ _ _ rfl (World.ownsRow_nil _ _ _ _) ⟨bb, off, none⟩ 2 xc (T.ndsL F 2) rfl (by simp [T.ndsL_len]) hnews (T.ndsL_oneCell F 2) (by unfold maxLen; omega) (by omega) (by simp) ?_; intro v' w2 hown hgr hnil'; obtain ⟨g, cap, rfl, ho2, hb2⟩ := HO.out v' w2 (by simpa using hown) hgr (by simpa using hnil'); clear hown hgr hnil'; have b2 := b1.below hb2; have c2 := b2.cell 0 rfl; have z2 := b2.frozen 0; obtain ⟨g', hge, hgl, hgB, hgc, hgf⟩ := T.OwN.cells ho2 (by decide); have hgg : g = g' := congrArg Addr.block (Option.some.inj hge); subst hgg)
    clear HO c1 hnews hi hz0 hz1 hz2 c2 z2 hge hgc hgf hgl
    have hB2 := hB1.trans (hb2.mono hB1.size)
    have hsw : w.heap.size + 2 ≤ wc.heap.size := by omega
    have b3 := b2.set 0 (.slice (some ⟨g, 0, none⟩) 2 cap)
    have o3 : T.OwN (w2.setCell ⟨w.heap.size, 0, none⟩ (.slice (some ⟨g, 0, none⟩) 2 cap)) wc.heap.size (some ⟨g, 0, none⟩) 2 cap F := T.ownsRow_at ho2 fun k hk _ => Below.heap_setCell _ _ _ _ (by simp; omega)
    have t3 : TdAt (w2.setCell ⟨w.heap.size, 0, none⟩ (.slice (some ⟨g, 0, none⟩) 2 cap)) W.heap.size a b c d y7 := (t1.below hb2).other (k := w.heap.size) (by omega) 0 _
    have r3 : TdAt (w2.setCell ⟨w.heap.size, 0, none⟩ (.slice (some ⟨g, 0, none⟩) 2 cap)) (w.heap.size + 1) 0 0 0 0 0 := (r1.below hb2).other (k := w.heap.size) (by omega) 0 _
    have hB3 : Below w.heap.size w (w2.setCell ⟨w.heap.size, 0, none⟩ (.slice (some ⟨g, 0, none⟩) 2 cap)) := hB2.setCell (p := ⟨w.heap.size, 0, none⟩) (by simp) _
    simp only [List.set] at b3
    clear b2 ho2 t1 r1 b1 hB2 hb2 hb
    generalize w2.setCell ⟨w.heap.size, 0, none⟩ (.slice (some ⟨g, 0, none⟩) 2 cap) = w3 at *
    obtain ⟨g', hge, hgl, _, hgc, hgf⟩ := T.OwN.cells o3 (by decide)
    have hgg : g = g' := congrArg Addr.block (Option.some.inj hge)
    subst hgg
    have v0 := b3.cell 0 rfl
    have v19 := hgc 1 9 _ (by decide) (by decide) rfl
    have z19 := hgf 19
    go_upto_region 6 with fail
    have hF0 : F 0 = ndX x0 a b c d x5 x6 x7 x8 x9 := by rw [hF]; rfl
    have hF1 : F 1 = ndY y0 y1 y2 y3 y4 y5 y6 y7 y8 y9 := by rw [hF]; rfl
    have x4 := lazy_rd (y := false) hgl hgc hF0 hF1
    have b4 := b3.other (k := g) (by omega) 19 (.bool false)
    have t4 := t3.other (k := g) (by omega) 19 (.bool false)
    have r4 := r3.other (k := g) (by omega) 19 (.bool false)
    have hB4 : Below w.heap.size w (w3.setCell ⟨g, 19, none⟩ (.bool false)) := hB3.setCell (p := ⟨g, 19, none⟩) (by simp; omega) _
    clear hF hF0 hF1 hgc hgf b3 t3 r3 hB3 v0 v19 z19 hge o3 hgl
    generalize w3.setCell ⟨g, 19, none⟩ (.bool false) = w4 at *
    have HC0 := fun W (h : okT a b c d y7 = false) => rtree_no (a := a) (b := b) (c := c) (d := d) (lo := y7) W h
    have HC1 := fun W (h : okT a b c d y7 = true) => rtree_yes (a := a) (b := b) (c := c) (d := d) (lo := y7) W h
    unfold tdV at HC0 HC1
    obtain ⟨⟨l0, l1, l2, l3, l4⟩, _⟩ := t4.cells
    cases hok : okT a b c d y7 with
    | false =>
      have hRf : R = false := by rw [← HR.out]; unfold isTd; rw [hok]; rfl
      subst hRf
      clear HR HC1
      have hT := HC0 w4 hok
      go_wp2_with (go_at_call 25; refine hT.mono ?_; rintro e w5 ⟨rfl, hb5⟩; have r6 := (r4.below hb5).alloc (.cells #[.slice none 0 0] 47); have hB6 := (hB4.trans (hb5.mono hB4.size)).trans (((Below.refl _ _).alloc (Nat.le_refl _) (.cells #[.slice none 0 0] 47)).mono (hB4.trans (hb5.mono hB4.size)).size); obtain ⟨⟨g0, g1, g2, g3, g4⟩, f0, f1, f2, f3, f4⟩ := r6.cells)
      have z := ((((Cl.set r6 0 (.int .u64 0)).set 1 (.int .u64 0)).set 2 (.int .u64 0)).set 3 (.int .u64 0)).set 4 (.int .i64 0)
      have k0 := z.cell 0 rfl
      have k1 := z.cell 1 rfl
      have k2 := z.cell 2 rfl
      have k3 := z.cell 3 rfl
      have k4 := z.cell 4 rfl
      exact bodyPost_ret (v := .tuple #[tdV 0 0 0 0 0, .bool false]) (by simp [results, Try.results27, go_sem, k0, k1, k2, k3, k4, tdV]) rfl ⟨rfl, ((((hB6.setCell (p := ⟨w.heap.size + 1, 0, none⟩) (by simp) _).setCell (p := ⟨w.heap.size + 1, 1, none⟩) (by simp) _).setCell (p := ⟨w.heap.size + 1, 2, none⟩) (by simp) _).setCell (p := ⟨w.heap.size + 1, 3, none⟩) (by simp) _).setCell (p := ⟨w.heap.size + 1, 4, none⟩) (by simp) _⟩
    | true =>
      have hRt : R = ((ndX x0 a b c d x5 x6 x7 x8 x9).eq (tdN a b c d) && ({ ndY y0 y1 y2 y3 y4 y5 y6 y7 y8 y9 with z := false } : T.Nd).eq ⟨5, 0, 0, 0, 0, 0, 0, y7, -1, false⟩) := by rw [← HR.out]; unfold isTd; rw [hok]; simp [ndY, T.Nd.eq]
      have HR2 := Hid.mk' hRt
      clear HR HC0 hRt
      have hT := HC1 w4 hok
      go_upto_region 7 with (go_at_call 25; refine hT.mono ?_; rintro e w5 ⟨ta, tc, rfl, hown, hb5⟩)
      have hb6 := hb5.trans (((Below.refl _ _).alloc (Nat.le_refl _) (.cells #[.slice ta 2 tc] 47)).mono hb5.size)
      have ho6 : T.OwN _ _ _ _ _ _ := T.ownsRow_below hown ((Below.refl _ _).alloc (Nat.le_refl _) (.cells #[.slice ta 2 tc] 47))
      have o5x := T.OwN.rd ho6
      have o6x := x4.below hb6
      have HS := T.rsame_any (some ⟨g, 0, none⟩) ta 2 2 cap tc _ _ _ o6x o5x (by decide)
      rw [show (decide (2 = 2) && T.eqN (two2 (ndX x0 a b c d x5 x6 x7 x8 x9) { ndY y0 y1 y2 y3 y4 y5 y6 y7 y8 y9 with z := false }) (T.nodes (tdT a b c d y7)) 2) = R from by rw [HR2.out]; simp [T.eqN, two2, nodes_td0, nodes_td1]] at HS
      have e1 := (b4.below hb6).cell 0 rfl
      have e2 := (Cl.new w5 47 [.slice ta 2 tc]).cell 0 rfl
      have t6 := TdAt.below (show TdAt w4 W.heap.size a b c d y7 from t4) hb6
      have r6 := TdAt.below (show TdAt w4 (w.heap.size + 1) 0 0 0 0 0 from r4) hb6
      have hB6 := hB4.trans (hb6.mono hB4.size)
      have hsz6 := hB6.size
      have hb4 : w.heap.size + 2 ≤ w5.heap.size + 1 := by have := r6.lt; simp at this; omega
      clear x4 o5x o6x ho6 hown hb5 hb6 HR2 hT b4 t4 r4 l0 l1 l2 l3 l4 HC1 hok
      generalize w5.alloc (.cells #[.slice ta 2 tc] 47) = w6 at *
      obtain ⟨⟨l0, l1, l2, l3, l4⟩, _⟩ := t6.cells
      have R6 := Hid.mk' r6
      have T6 := Hid.mk' t6
      have HB6 := Hid.mk' hB6
      clear r6 t6 hB6
      cases R with
      | false =>
        go_wp2_with (go_at_call 28; refine HS.mono ?_; rintro e w7 ⟨rfl, hb7⟩; have r6 := R6.out.below hb7; have hB6 := HB6.out.trans (hb7.mono HB6.out.size); obtain ⟨⟨g0, g1, g2, g3, g4⟩, h0, h1, h2, h3, h4⟩ := r6.cells)
        have z := ((((Cl.set r6 0 (.int .u64 0)).set 1 (.int .u64 0)).set 2 (.int .u64 0)).set 3 (.int .u64 0)).set 4 (.int .i64 0)
        have k0 := z.cell 0 rfl
        have k1 := z.cell 1 rfl
        have k2 := z.cell 2 rfl
        have k3 := z.cell 3 rfl
        have k4 := z.cell 4 rfl
        exact bodyPost_ret (v := .tuple #[tdV 0 0 0 0 0, .bool false]) (by simp [results, Try.results27, go_sem, k0, k1, k2, k3, k4, tdV]) rfl ⟨rfl, ((((hB6.setCell (p := ⟨w.heap.size + 1, 0, none⟩) (by simp) _).setCell (p := ⟨w.heap.size + 1, 1, none⟩) (by simp) _).setCell (p := ⟨w.heap.size + 1, 2, none⟩) (by simp) _).setCell (p := ⟨w.heap.size + 1, 3, none⟩) (by simp) _).setCell (p := ⟨w.heap.size + 1, 4, none⟩) (by simp) _⟩
      | true =>
        go_wp2_with (go_at_call 28; refine HS.mono ?_; rintro e w7 ⟨rfl, hb7⟩; have r6 := R6.out.below hb7; have hB6 := HB6.out.trans (hb7.mono HB6.out.size); obtain ⟨⟨g0, g1, g2, g3, g4⟩, h0, h1, h2, h3, h4⟩ := r6.cells; obtain ⟨⟨m0, m1, m2, m3, m4⟩, _⟩ := (T6.out.below hb7).cells)
        have z := TdAt.put (a' := a) (b' := b) (c' := c) (d' := d) (lo' := y7) r6
        unfold putT at z
        obtain ⟨⟨k0, k1, k2, k3, k4⟩, _⟩ := z.cells
        exact bodyPost_ret (v := .tuple #[tdV a b c d y7, .bool true]) (by simp [results, Try.results27, go_sem, k0, k1, k2, k3, k4, tdV]) rfl ⟨rfl, ((((hB6.setCell (p := ⟨w.heap.size + 1, 0, none⟩) (by simp) _).setCell (p := ⟨w.heap.size + 1, 1, none⟩) (by simp) _).setCell (p := ⟨w.heap.size + 1, 2, none⟩) (by simp) _).setCell (p := ⟨w.heap.size + 1, 3, none⟩) (by simp) _).setCell (p := ⟨w.heap.size + 1, 4, none⟩) (by simp) _⟩
end Go.Proofs.Ytobgmgpclcfkcaa
