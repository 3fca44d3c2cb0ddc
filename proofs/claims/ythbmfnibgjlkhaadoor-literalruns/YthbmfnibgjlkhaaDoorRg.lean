/- The reference's Parts: the walk. -/
import Derived.Test.YthbmfnibgjlkhaaDoorRu
import Derived.Test.YthbmfnibgjlkhaaDoorGVrPp
namespace Go.Proofs.YthbmfnibgjlkhaaDoor
open Go.RowKit
theorem rows_apart {W : World} {B B' e e' s s' n n' : Nat} {v v' : Value} {xs xs' : List Value} (h : W.ownsRow B e s v n xs) (h' : W.ownsRow B' e' s' v' n' xs') (he : e ≠ e') : v.ownBlock = none ∨ v.ownBlock ≠ v'.ownBlock := by
  rcases h.2 with ⟨rfl, _⟩ | ⟨g, cap, cur, rfl, _, hc, _⟩
  · exact .inl rfl
  · right
    intro e1
    rcases h'.2 with ⟨rfl, _⟩ | ⟨g', cap', cur', rfl, _, hc', _⟩
    · simp [Value.ownBlock] at e1
    · have e2 : g = g' := by simpa [Value.ownBlock] using e1
      subst e2
      rw [hc] at hc'
      injection hc' with hc'
      injection hc' with _ hc'
      exact he hc'
/-- What stands at the head of the loop. -/
structure QI (t : Tre) (c : Int) (V : World) (st : List Nat) (i : Nat) (v v' : Value) (M : Nat → Value) (wr : World) : Prop where
  row : wr.ownsRow V.heap.size 3 1 v st.length (rowL st)
  out : wr.ownsRow V.heap.size 48 1 v' i (vals M i)
  trs : ∀ p u, p < i → (pt c t)[p]? = some u → ∃ g cap, M p = .slice (some ⟨g, 0, none⟩) u.size cap ∧ OwN wr V.heap.size (some ⟨g, 0, none⟩) u.size cap (nodes u)
  rem : (pp c t (t.size - 1)).drop i = remS c t st
  ile : i ≤ (pp c t (t.size - 1)).length
  wle : wgt t st ≤ t.size
  lt : ∀ q ∈ st, q < t.size
  bel : Below V.heap.size V wr
theorem QI.push {t : Tre} {c : Int} {V : World} {st : List Nat} {i q g cv : Nat} {v' vn : Value} {M : Nat → Value} {wr w2 : World} {x y : Tre} {o o' : Obj} (S : QI t c V (st ++ [q]) i (.slice (some ⟨g, 0, none⟩) (st.length + 1) cv) v' M wr) (hu : t.subs[q]? = some (.two c x y))
    (g1 : w2.ownsRow V.heap.size 3 1 vn (st.length + 2) (rowL st ++ [.int .i64 ((q - 1 : Nat) : Int), .int .i64 ((q - 1 - y.size : Nat) : Int)])) (g2 : ((wr.alloc o).alloc o').grownBy w2 (some g)) : QI t c V (st ++ [q - 1] ++ [q - 1 - y.size]) i vn v' M w2 ∧ wgt t (st ++ [q - 1] ++ [q - 1 - y.size]) + 1 = wgt t (st ++ [q]) := by
  obtain ⟨hr1, hr2⟩ := remS_two hu st
  obtain ⟨hxy, _, _⟩ := subs_two hu
  have hql := (List.getElem?_eq_some_iff.1 hu).1
  rw [Tre.subs_length] at hql
  have hOg : (Value.slice (some ⟨g, 0, none⟩) (st.length + 1) cv).ownBlock = some g := by simp [Value.ownBlock]
  have hb := below2 wr o o'
  have hs := S.bel.size
  refine ⟨⟨?_, ?_, fun p u hp h => ?_, by rw [hr1]; exact S.rem, S.ile, by have := S.wle; omega, fun q' hq' => ?_, ?_⟩, hr2⟩
  · have e1 : (st ++ [q - 1] ++ [q - 1 - y.size]).length = st.length + 2 := by simp
    have e2 : rowL (st ++ [q - 1] ++ [q - 1 - y.size]) = rowL st ++ [.int .i64 ((q - 1 : Nat) : Int), .int .i64 ((q - 1 - y.size : Nat) : Int)] := by rw [rowL_app, rowL_app]; simp
    rw [e1, e2]
    exact g1
  · refine (ownsRow_below S.out hb).kept g2 ?_
    rw [← hOg]
    exact rows_apart S.out S.row (by decide)
  · obtain ⟨g', cap, e, ho⟩ := S.trs p u hp h
    refine ⟨g', cap, e, (ownsRow_below ho hb).kept g2 ?_⟩
    rw [← hOg]
    exact rows_apart ho S.row (by decide)
  · simp only [List.mem_append, List.mem_singleton] at hq'
    rcases hq' with (h | rfl) | rfl
    · exact S.lt q' (by simp [h])
    · omega
    · omega
  · exact ((S.bel.alloc hs o).alloc (by simp; omega) o').grown g2 (by simp; omega) (fun k hk => ownsRow_own S.row k (by rw [hOg]; exact hk))
theorem QI.give {t : Tre} {c : Int} {V : World} {st : List Nat} {i q g cv a9 : Nat} {v' vn : Value} {M : Nat → Value} {wr w1 w2 : World} {u : Tre} {o o' : Obj} {cap : Nat} (S : QI t c V (st ++ [q]) i (.slice (some ⟨g, 0, none⟩) (st.length + 1) cv) v' M wr) (hu : t.subs[q]? = some u) (hne : ∀ x y, u ≠ .two c x y)
    (hb : Below wr.heap.size wr w1) (ho : OwN w1 wr.heap.size (some ⟨a9, 0, none⟩) u.size cap (nodes u)) (g1 : w2.ownsRow V.heap.size 48 1 vn (i + 1) (vals M i ++ [.slice (some ⟨a9, 0, none⟩) u.size cap])) (g2 : ((w1.alloc o).alloc o').grownBy w2 v'.ownBlock) : QI t c V st (i + 1) (.slice (some ⟨g, 0, none⟩) st.length cv) vn (updV M i (.slice (some ⟨a9, 0, none⟩) u.size cap)) w2 ∧ wgt t st + 1 ≤ wgt t (st ++ [q]) := by
  have hOg : (Value.slice (some ⟨g, 0, none⟩) (st.length + 1) cv).ownBlock = some g := by simp [Value.ownBlock]
  have hbb := below2 w1 o o'
  have hs := S.bel.size
  have hs1 := hb.size
  have hrem := S.rem
  rw [remS_app, tA_at hu, pp_one hne] at hrem
  have hpi : (pp c t (t.size - 1))[i]? = some q := by
    have := congrArg (fun l => l[0]?) hrem
    simpa using this
  have hil := (List.getElem?_eq_some_iff.1 hpi).1
  obtain ⟨u', hu1, hu2⟩ := pp_at c t t (t.size - 1) (Tre.subs_last t) i q hpi
  rw [hu] at hu2
  obtain rfl := Option.some.inj hu2
  have hrow := S.row
  rw [rowL_app, List.length_append, List.length_singleton] at hrow
  have hpop := row_pop hrow
  have hkeep : ∀ {B e s n : Nat} {v : Value} {xs : List Value}, wr.ownsRow B e s v n xs → e ≠ 48 → w2.ownsRow B e s v n xs := fun h he =>
    (ownsRow_below (ownsRow_below h hb) hbb).kept g2 (rows_apart h S.out he)
  have hvals : vals (updV M i (.slice (some ⟨a9, 0, none⟩) u.size cap)) (i + 1) = vals M i ++ [.slice (some ⟨a9, 0, none⟩) u.size cap] := by
    rw [vals_snoc, vals_congr (M' := M) (fun j hj => by simp [updV, show ¬ j = i by omega])]
    simp [updV]
  refine ⟨⟨hkeep hpop (by decide), by rw [hvals]; exact g1, fun p x hp h => ?_, ?_, hil, ?_, fun q' hq' => S.lt q' (by simp [hq']), ?_⟩, ?_⟩
  · by_cases hpe : p = i
    · subst hpe
      rw [hu1] at h
      obtain rfl := Option.some.inj h
      refine ⟨a9, cap, by simp [updV], ?_⟩
      exact ownsRow_base ((ownsRow_below ho hbb).kept g2 (rows_apart ho (ownsRow_below S.out hb) (by decide))) hs
    · obtain ⟨g', cap', e, ho'⟩ := S.trs p x (by omega) h
      exact ⟨g', cap', by simp [updV, hpe, e], hkeep ho' (by decide)⟩
  · have := congrArg (List.drop 1) hrem
    rw [List.drop_drop] at this
    simpa using this
  · have := S.wle
    rw [wgt_app] at this
    omega
  · exact (((S.bel.trans (hb.mono hs)).alloc (by omega) o).alloc (by simp; omega) o').grown g2 (by simp; omega) (ownsRow_own S.out)
  · rw [wgt_app]
    have := (tA t q).size_pos
    omega
theorem one_new24 (w3 : World) (y : Value) : ∀ j u, [y][j]? = some u → (w3.alloc (.cells #[y] 48)).cell? (Addr.add ⟨w3.heap.size, 0, none⟩ j) = some u := fun j u hj => by
  have hj0 : j = 0 := by
    have := (List.getElem?_eq_some_iff.1 hj).1
    simpa using this
  subst hj0
  simpa [Addr.add] using (Cl.new w3 48 [y]).cell 0 hj
set_option maxRecDepth 10000 in
set_option maxHeartbeats 8000000 in
theorem rparts_any (a : Option Addr) (n c : Nat) (F : Nat → Nd) (kd : Int) (w : World) (ha : RdN w a n F) (hn : (n : Int) ≤ 9223372036854775807) (hca : n ≤ c) : Calls Tryd.prog 30 #[.agg #[.slice a n c], .int .i64 kd] w (RetPs w (snd F n) kd) := by
  obtain ⟨ox, sx⟩ := snd_ok F n
  have px := (snd F n).size_pos
  obtain ⟨i0, hi, hz0, hz1, hz2⟩ := info_parts b_int
  obtain ⟨i1, hi1, hy0, hy1, hy2⟩ := info_parts b_tree
  have hW0 := below1 w (.cells #[.slice a n c] 48)
  have ka := Cl.new w 48 [.slice a n c]
  have HA := rmay_any a n c F _ (ha.below hW0) hn hca
  have d0 := ka.cell 0 rfl
  clear ha
  generalize hX : snd F n = t at *
  clear hX
  go_enter Tryd.func30, Tryd.ntmps30
  go_wp2_with fail
  refine HA.mono ?_
  rintro e w1 ⟨ta, c1, rfl, r1, cc1, _, b1⟩
  have ka1 := ka.below b1
  obtain ⟨d1, d2⟩ := ka1.one
  have k1 := ka1.set 0 (.slice (some ta) t.size c1)
  simp only [List.set_cons_zero] at k1
  have r2 := r1.put ka1 (.slice (some ta) t.size c1)
  have hBV : Below w.heap.size w (w1.setCell ⟨w.heap.size, 0, none⟩ (.slice (some ta) t.size c1)) := (hW0.trans (b1.mono (by simp))).setCell (p := ⟨w.heap.size, 0, none⟩) (Nat.le_refl _) _
  have d3 := k1.cell 0 rfl
  clear d0 r1 ka ka1 b1 HA hW0
  go_upto_region 2 with fail
  clear d1 d2
  generalize w1.setCell ⟨w.heap.size, 0, none⟩ (.slice (some ta) t.size c1) = V at *
  have hroot : tA t (t.size - 1) = t := tA_at (Tre.subs_last t)
  have S0 : QI t kd V [t.size - 1] 0 (.slice (some ⟨V.heap.size, 0, none⟩) 1 1) (.slice none 0 0) (fun _ => .slice none 0 0) (V.alloc (.cells #[.int .i64 ((t.size - 1 : Nat) : Int)] 3)) := by
    refine ⟨⟨rfl, .inr ⟨V.heap.size, 1, #[.int .i64 ((t.size - 1 : Nat) : Int)], rfl, Nat.le_refl _, heap_alloc_new V _, Nat.le_refl _, by decide, rfl, rfl⟩⟩, World.ownsRow_nil _ _ _ _, fun p u hp => by omega, by simp [remS, hroot], Nat.zero_le _, by simp [wgt, hroot], by simp; omega, below1 _ _⟩
  have hcast : ((t.size : Int) - 1) = ((t.size - 1 : Nat) : Int) := by omega
  go_wp2_with fail
  clear d3 hcast
  generalize V.alloc (.cells #[.int .i64 ((t.size - 1 : Nat) : Int)] 3) = W1 at *
  go_loopg [5, 6] (t.size + 1) (fun k v v' wr => ∃ st i M, wgt t st < k ∧ QI t kd V st i v v' M wr)
  case atStart => exact ⟨[t.size - 1], 0, _, by simp [wgt, hroot], S0⟩
  case round =>
    obtain ⟨st, i, M, hk, S⟩ := hrel
    clear S0
    have kb := k1.below S.bel
    have d0 := kb.cell 0 rfl
    have hsV := S.bel.size
    rcases List.eq_nil_or_concat st with rfl | ⟨st', q, rfl⟩
    · have hrow := S.row
      obtain ⟨ao, cv, rfl⟩ := ownsRow_slice hrow
      have hout := S.out
      obtain ⟨ao', cv', rfl⟩ := ownsRow_slice hout
      have hN : i = (pt kd t).length := by
        have h := S.rem
        have := congrArg List.length h
        rw [← pp_len kd t (t.size - 1)]
        simp [remS] at this
        have := S.ile
        omega
      have HR : Hid (RetPs w t kd (.returned (.slice ao' i cv')) wr) := by
        subst hN
        refine ⟨ao', cv', M, rfl, ownsRow_base S.out hBV.size, fun p u hp hu => ?_, hBV.trans (S.bel.mono hBV.size)⟩
        obtain ⟨g, cap, e, ho⟩ := S.trs p u hp hu
        obtain ⟨h1, h2⟩ := World.ownsRow.lt ho g (by simp [Value.ownBlock])
        exact ⟨g, cap, e, ho.rd, ownsRow_cap ho, fun h => h, Nat.le_trans hBV.size h1, h2⟩
      clear hrow S hout
      go_wp2_with fail
      go_ret
      exact HR.out
    · rw [List.concat_eq_append] at S hk
      have hrow := S.row
      rw [rowL_app, List.length_append, List.length_singleton] at hrow
      obtain ⟨ao, cv, rfl⟩ := ownsRow_slice hrow
      obtain ⟨g, rfl, hcell, hgl, hgB⟩ := row_top hrow
      have hpop := row_pop hrow
      have hcap := row_cap3 hrow
      have hout := S.out
      obtain ⟨ao', cv', rfl⟩ := ownsRow_slice hout
      have hq : q < t.size := S.lt q (by simp)
      obtain ⟨u, hu⟩ : ∃ u, t.subs[q]? = some u := ⟨_, List.getElem?_eq_getElem (by rw [Tre.subs_length]; exact hq)⟩
      have hnd : nodes t q = u.nd q := nodes_get hu
      have ou := subs_ok _ _ _ ox hu
      have hr := r2.below S.bel
      obtain ⟨bb, off, ea, hbb, hc⟩ := id (hr (by omega))
      obtain rfl := Option.some.inj ea
      obtain ⟨c0, c1', c2, c3, c4, c5, c6, c7, c8, c9⟩ := hc q hq
      have hw1 := wgt_len t (st' ++ [q])
      have hw2 := S.wle
      rw [List.length_append, List.length_singleton] at hw1
      rw [hnd] at c0 c1' c2 c3 c4 c5 c6 c7 c8 c9
      have hsl := slice_pop50 (some ⟨g, 0, none⟩) (st'.length + 1) cv st'.length (by omega)
      have hle1 : ((st'.length + 1 : Nat) : Int) > 0 := by omega
      have hle2 : (((st'.length + 1 : Nat) : Int) - 1) = (st'.length : Int) := by omega
      have hbN := below1 wr (.cells (ndL (u.nd q)).toArray 82)
      have kN := Cl.new wr 82 (ndL (u.nd q))
      by_cases hA : ∃ x y, u = .two kd x y
      · obtain ⟨x, y, rfl⟩ := hA
        obtain ⟨hxy, hy1', hx1⟩ := subs_two hu
        have px2 := x.size_pos
        have py2 := y.size_pos
        have hc34 : kd = 3 ∨ kd = 4 := by
          have := ou
          simp only [Tre.ok, Bool.and_eq_true, Bool.or_eq_true, beq_iff_eq] at this
          exact this.1.1
        have hndE : (Tre.two kd x y).nd (q : Int) = ⟨kd, 0, 0, 0, 0, ((q - 1 - y.size : Nat) : Int), ((q - 1 : Nat) : Int), 0, 0, false⟩ := by simp only [Tre.nd]; congr 1 <;> omega
        have HG : Hid (∀ (o o' : Obj) vn w2, w2.ownsRow V.heap.size 3 1 vn (st'.length + 2) (rowL st' ++ [.int .i64 ((q - 1 : Nat) : Int), .int .i64 ((q - 1 - y.size : Nat) : Int)]) → ((wr.alloc o).alloc o').grownBy w2 (Value.slice (some ⟨g, 0, none⟩) st'.length cv).ownBlock → QI t kd V (st' ++ [q - 1] ++ [q - 1 - y.size]) i vn (.slice ao' i cv') M w2 ∧ wgt t (st' ++ [q - 1] ++ [q - 1 - y.size]) + 1 = wgt t (st' ++ [q])) := fun o o' vn w2 h1 h2 => QI.push (by simpa using S) hu h1 (by simpa [Value.ownBlock] using h2)
        have HR : Hid (∀ (o o' : Obj), ((wr.alloc o).alloc o').ownsRow V.heap.size 3 1 (.slice (some ⟨g, 0, none⟩) st'.length cv) st'.length (rowL st') ∧ V.heap.size ≤ ((wr.alloc o).alloc o').heap.size) := fun o o' => ⟨ownsRow_below hpop (below2 wr o o'), by simp; omega⟩
        have HN : Hid (∀ (o : Obj) j u, [Value.int .i64 ((q - 1 : Nat) : Int), .int .i64 ((q - 1 - y.size : Nat) : Int)][j]? = some u → ((wr.alloc o).alloc (.cells #[.int .i64 ((q - 1 : Nat) : Int), .int .i64 ((q - 1 - y.size : Nat) : Int)] 3)).cell? (Addr.add ⟨wr.heap.size + 1, 0, none⟩ j) = some u) := fun o j u hj => by
          have k9 := Cl.new (wr.alloc o) 3 [.int .i64 ((q - 1 : Nat) : Int), .int .i64 ((q - 1 - y.size : Nat) : Int)]
          simp only [World.size_alloc] at k9
          have := k9.cell j hj
          have e : Addr.add ⟨wr.heap.size + 1, 0, none⟩ j = ⟨wr.heap.size + 1, j, none⟩ := by
            by_cases h0 : j = 0
            · subst h0; simp [Addr.add]
            · simp [Addr.add, h0]
          rw [e]; exact this
        rw [hndE] at c0 c1' c2 c3 c4 c5 c6 c7 c8 c9 kN
        unfold ndL at kN
        dsimp only at c0 c1' c2 c3 c4 c5 c6 c7 c8 c9 kN
        have hk2 : Hid _ := hk
        generalize hP1 : q - 1 - y.size = p1 at *
        generalize hP2 : q - 1 = p2 at *
        generalize hL : st'.length = ll at *
        clear S hrow hpop hout hr hc hu ou hnd hndE hbN hxy hy1' hx1 hP1 hP2 kb hk
        rcases hc34 with rfl | rfl
        all_goals
          go_wp2_with (at_builtin; refine wpList_append_own _ rfl _ _ 42 rfl V.heap.size 3 i0 _ 1 8 Tryd.underlying42 hi hz0 hz1 hz2 rfl (by decide) _ _ _ rfl (HR.out _ _).1 ⟨wr.heap.size + 1, 0, none⟩ 2 2 [.int .i64 (p2 : Nat), .int .i64 (p1 : Nat)] rfl rfl (HN.out _) (by simp [Value.oneCell']) (by unfold maxLen; omega) (by omega) (HR.out _ _).2 ?_; intro v' w2 hown hgr hnil'; have HY : Hid _ := HG.out _ _ v' w2 hown hgr; clear hown hgr hnil')
          go_roundg (wgt t (st' ++ [q]))
          case measure => exact hk2.out
          case rel => exact ⟨_, i, M, by have := HY.out.2; omega, HY.out.1⟩
      · have hne : ∀ x y, u ≠ .two kd x y := fun x y e => hA ⟨x, y, e⟩
        have hkq : ((u.nd (q : Int)).k == kd) = false ∨ (((u.nd (q : Int)).k == kd) = true ∧ (kd == 3) = false ∧ (kd == 4) = false) := by
          by_cases hk9 : (u.nd (q : Int)).k = kd
          · right
            refine ⟨by simpa using hk9, ?_⟩
            cases u with
            | leaf n =>
              have := lf_kind ou
              have hk9 : n.k = kd := hk9
              constructor <;> simp <;> omega
            | rep x l m z =>
              have hk9 : (5 : Int) = kd := hk9
              constructor <;> simp <;> omega
            | two k' x y => exact absurd (by have hk9 : k' = kd := hk9; rw [hk9]) (hne x y)
          · exact .inl (by simpa using hk9)
        have HS := rsub_any (some ⟨bb, off, none⟩) t.size c1 (nodes t) (q : Nat) _ (hr.below hbN) (by omega) cc1 (by omega)
        rw [snd_nodes t ox sx] at HS
        have HS2 : Hid (∀ e W, RetSb (wr.alloc (.cells (ndL (u.nd q)).toArray 82)) t (q : Nat) e W → ∃ a9 cap, e = .returned (.tuple #[.agg #[.slice (some ⟨a9, 0, none⟩) u.size cap], .bool true]) ∧ Below wr.heap.size wr W ∧ (W.alloc (.cells #[.slice (some ⟨a9, 0, none⟩) u.size cap] 48)).heap.size = W.heap.size + 1 ∧ V.heap.size ≤ W.heap.size ∧ W.ownsRow V.heap.size 48 1 (.slice ao' i cv') i (vals M i) ∧ (∀ (o o' : Obj) vn w2, w2.ownsRow V.heap.size 48 1 vn (i + 1) (vals M i ++ [.slice (some ⟨a9, 0, none⟩) u.size cap]) → ((W.alloc o).alloc o').grownBy w2 (Value.slice ao' i cv').ownBlock → ∃ M', QI t kd V st' (i + 1) (.slice (some ⟨g, 0, none⟩) st'.length cv) vn M' w2 ∧ wgt t st' + 1 ≤ wgt t (st' ++ [q]))) := by
          rintro e W ⟨_, h2, h3⟩
          obtain ⟨ao, cap, rfl, ho⟩ := h2 u (by omega) (by simpa using hu)
          obtain ⟨a9, rfl, _, _, _⟩ := ho.cells u.size_pos
          have hbW : Below wr.heap.size wr W := hbN.trans (h3.mono hbN.size)
          refine ⟨a9, cap, rfl, hbW, by simp, Nat.le_trans hsV hbW.size, ownsRow_below hout hbW, fun o o' vn w2 h4 h5 => ⟨_, QI.give (by simpa using S) hu hne hbW (ownsRow_base ho hbN.size) h4 h5⟩⟩
        have hk2 : Hid _ := hk
        have dN := (kb.below hbN).cell 0 rfl
        have hpt := pt_le kd t
        have hil : i < 2048 := by
          have h := S.rem
          rw [remS_app, tA_at hu, pp_one hne] at h
          have h := congrArg List.length h
          rw [List.length_drop, pp_len] at h
          simp at h
          omega
        generalize hL : st'.length = ll at *
        unfold ndL at kN HS HS2 hbN dN
        generalize u.nd (q : Int) = nq at *
        clear S hrow hpop hout hr hc hu ou hnd hA hne kb hk hbN
        rcases hkq with hkq | ⟨hkq, n3, n4⟩
        all_goals
          go_wp2_with fail
          refine HS.mono ?_
          intro e W hRS
          obtain ⟨a9, cap, rfl, hbW, _, hVW, hoW, HG⟩ := HS2.out e W hRS
          have HG' : Hid _ := HG
          have hn1 := one_new24 (W.alloc (.cells #[.slice (some ⟨a9, 0, none⟩) u.size cap] 48)) (.slice (some ⟨a9, 0, none⟩) u.size cap)
          simp only [World.size_alloc] at hn1
          have HN1 : Hid _ := hn1
          have ho2 := ownsRow_below hoW (below2 W (.cells #[.slice (some ⟨a9, 0, none⟩) u.size cap] 48) (.cells #[.slice (some ⟨a9, 0, none⟩) u.size cap] 48))
          clear HG hRS hn1 hoW hbW kN
          go_wp2_with (at_builtin; refine wpList_append_own _ rfl _ _ 62 rfl V.heap.size 48 i1 _ 1 24 Tryd.underlying62 hi1 hy0 hy1 hy2 rfl (by decide) _ _ _ rfl ho2 ⟨W.heap.size + 1, 0, none⟩ 1 1 [.slice (some ⟨a9, 0, none⟩) u.size cap] rfl rfl HN1.out (by simp [Value.oneCell']) (by unfold maxLen; omega) (by omega) (by simp; omega) ?_; intro v' w2 hown hgr hnil'; have HY : Hid _ := HG'.out _ _ v' w2 hown hgr; clear hown hgr hnil')
          go_roundg (wgt t (st' ++ [q]))
          case measure => exact hk2.out
          case rel =>
            obtain ⟨M', h1, h2⟩ := HY.out
            exact ⟨st', i + 1, M', by omega, h1⟩
end Go.Proofs.YthbmfnibgjlkhaaDoor
