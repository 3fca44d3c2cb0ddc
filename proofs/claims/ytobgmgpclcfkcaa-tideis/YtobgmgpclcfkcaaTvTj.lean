/- Ported: TvTj. -/
import Derived.Test.YtobgmgpclcfkcaaTvb
import Derived.Test.YtobgmgpclcfkcaaTvc
import Derived.Test.YtobgmgpclcfkcaaTvd
import Derived.Test.YtobgmgpclcfkcaaTve
import Derived.Test.YtobgmgpclcfkcaaTvTa
import Derived.Test.YtobgmgpclcfkcaaTvTd
import Derived.Test.YtobgmgpclcfkcaaTvTe
import Derived.Test.YtobgmgpclcfkcaaTvf
import Derived.Test.YtobgmgpclcfkcaaTvi
namespace Go.Proofs.Ytobgmgpclcfkcaa.T
open Go.RowKit
theorem b_tabl : (Try.prog.info? 72).map (fun i => (i.zero, i.size, i.bytes)) = some (some (.slice none 0 0), 1, 24) := by kernel_rfl
theorem new_tabl (w3 : World) (y : Value) : ∀ j u, [y][j]? = some u → (w3.alloc (.cells #[y] 72)).cell? (Addr.add ⟨w3.heap.size, 0, none⟩ j) = some u := fun j u hj => by
  have hj0 : j = 0 := by
    have := (List.getElem?_eq_some_iff.1 hj).1
    simpa using this
  subst hj0
  simpa [Addr.add] using (Cl.new w3 72 [y]).cell 0 hj
/-- What stands between the rounds. -/
structure SrI (w : World) (to_ : Option Addr) (m c : Nat) (N k : Nat) (T : Nat → Tab) (v : Value) (W : World) : Prop where
  box : Cl W w.heap.size 47 [.slice to_ m c]
  tabs : LT W (w.heap.size + 1) v N k T
  bel : Below w.heap.size w W
set_option maxRecDepth 10000 in
set_option maxHeartbeats 16000000 in
theorem spans13_ok (to_ : Option Addr) (m c : Nat) (F : Nat → Nd) (ao : Option Addr) (n cap : Nat) (mu : Bool) (f : Nat → Nat) (t : Tre) (w : World) (ht : RdN w to_ m F) (hm : m ≤ 60) (hF : ∀ i, i < m → wfN (F i)) (hr : RdB w ao n f) (hn : n ≤ 24) (hck : chkE F m = 0) (htr : treeOf F m = some t) :
    Calls Try.prog 29 #[.agg #[.slice to_ m c], .bool mu, .slice ao n cap] w (RetR w (n + 1) (spB (mean f n mu t))) := by
  obtain ⟨hsz, hok, _, hFn⟩ := treeOf_some htr
  obtain ⟨N, hNe⟩ : ∃ N, n + 1 = N := ⟨_, rfl⟩
  have hN : N ≤ 25 := by omega
  have hN1 : 1 ≤ N := by omega
  obtain ⟨i0, hi, hz0, hz1, hz2⟩ := info_parts b_tabl
  have hb0 := below1 w (.cells #[.slice to_ m c] 47)
  have k0 := Cl.new w 47 [.slice to_ m c]
  have d0 := k0.cell 0 rfl
  have HK := rcheck_any to_ m c F _ (ht.below hb0) (by omega)
  rw [hck] at HK
  have hm1 : 1 ≤ m := by have := t.size_pos; omega
  have hlast : t.subs[m - 1]? = some t := by rw [hsz]; exact Tre.subs_last t
  have hTl : tabAt f n mu t (m - 1) = mean f n mu t := tabAt_of hlast
  rw [hNe, ← hTl]
  have HZ0 : Hid (m = t.size) := hsz
  have HN0 : Hid (n + 1 = N) := hNe
  clear hTl hlast htr hck hsz hNe
  go_enter Try.func29, Try.ntmps29
  go_wp2_with fail
  refine HK.mono ?_
  rintro e w1 ⟨rfl, b1⟩
  have S0 : SrI w to_ m c N 0 (tabAt f n mu t) (.slice none 0 0) w1 := ⟨k0.below b1, ⟨fun _ => .slice none 0 0, World.ownsRow_nil _ _ _ _, fun i h => by omega⟩, hb0.trans (b1.mono hb0.size)⟩
  clear HK b1 k0 d0 hb0
  go_wp2_with fail
  go_loopw [7, 8] (fun v i wr => ∃ k : Nat, k ≤ m ∧ i = .int .i64 (k : Nat) ∧ SrI w to_ m c N k (tabAt f n mu t) v wr) (fun _ i _ => m - (intOf i).toNat)
  case atStart => exact ⟨0, Nat.zero_le _, rfl, S0⟩
  case round =>
    obtain ⟨k, hk, rfl, hS⟩ := hrel
    clear S0
    obtain ⟨lo, lc, rfl⟩ := hS.tabs.slice
    have da := hS.box.cell 0 rfl
    have hsw := hS.bel.size
    have hbx := hS.box.lt
    by_cases hlt : k < m
    · have hki : (k : Int) < (m : Int) := by omega
      obtain ⟨u, hu⟩ : ∃ u, t.subs[k]? = some u := ⟨_, List.getElem?_eq_getElem (by rw [Tre.subs_length]; have := HZ0.out; omega)⟩
      have hFk : F k = u.nd k := by rw [hFn k hlt, nodes_get hu]
      have huo := subs_ok t k u hok hu
      have hTk := tabAt_of (f := f) (n := n) (mu := mu) hu
      obtain ⟨M, hown, hM⟩ := id hS.tabs
      obtain ⟨bb, off, rfl, hbb, hcs⟩ := ht (by omega)
      obtain ⟨c0, c1, c2, c3, c4, c5, c6, c7, c8, c9⟩ := hcs k hlt
      rw [← hS.bel.cell (p := ⟨bb, _, none⟩) hbb] at c0 c1 c2 c3 c4 c5 c6 c7 c8 c9
      have kX := Cl.new wr 70 (ndL (F k))
      have hbX := below1 wr (.cells (ndL (F k)).toArray 70)
      have hkm : (k : Int) ≤ 60 := by omega
      have HP : Hid (∀ U g2 c2 w3 v' w4, Below wr.heap.size wr U → Below U.heap.size U w3 → RT w3 U.heap.size g2 N (spB (tabAt f n mu t k)) → w4.ownsRow (w.heap.size + 1) 72 1 v' (k + 1) (vals M k ++ [.slice (some ⟨g2, 0, none⟩) N c2]) → (w3.alloc (.cells #[.slice (some ⟨g2, 0, none⟩) N c2] 72)).grownBy w4 (Value.slice lo k lc).ownBlock → ∃ k' : Nat, k' ≤ m ∧ Value.int .i64 ((k : Int) + 1) = .int .i64 (k' : Nat) ∧ SrI w (some ⟨bb, off, none⟩) m c N k' (tabAt f n mu t) v' w4) := fun U g2 c2 w3 v' w4 hU h3 hR h4 h5 => by
        have hb3 := hU.trans (h3.mono hU.size)
        have hsU := hU.size
        have hbl : w.heap.size + 1 ≤ wr.heap.size := by omega
        have hbel := LT.bel hown hbl hb3 h5
        exact ⟨k + 1, by omega, by simp, hS.box.belowB hbel (by omega), LT.put hown hM hb3 (hR.lower (by omega)) h4 h5, hS.bel.trans (hbel.mono (by omega))⟩
      have HO : Hid (∀ w3 (y : Value), Below wr.heap.size wr w3 → (w3.alloc (.cells #[y] 72)).ownsRow (w.heap.size + 1) 72 1 (.slice lo k lc) k (vals M k)) := fun w3 y h => ownsRow_below (ownsRow_below hown h) (below1 _ _)
      have hgl : ∀ i, i < k → ∃ gg gc, (∀ W, Below wr.heap.size wr W → W.cell? ⟨(lo.getD ⟨0, 0, none⟩).block, i, none⟩ = some (.slice (some ⟨gg, 0, none⟩) N gc) ∧ RT W (w.heap.size + 1) gg N (spB (tabAt f n mu t i))) ∧ lo = some ⟨(lo.getD ⟨0, 0, none⟩).block, 0, none⟩ := fun i hi' => by
        obtain ⟨g0, e0, hl0, _, hc0, _⟩ := row_cell hown (by omega)
        subst e0
        obtain ⟨gg, gc, eM, hRg⟩ := hM i hi'
        refine ⟨gg, gc, fun W hW => ⟨?_, hRg.below hW⟩, rfl⟩
        have := hc0 i _ (vals_get M hi')
        rw [eM] at this
        show W.cell? ⟨g0, i, none⟩ = _
        rw [hW.cell (p := ⟨g0, i, none⟩) hl0]
        exact this
      have hrW := hr.below hS.bel
      rw [hTk] at HP
      have hwF := hF k hlt
      cases u with
      | leaf q =>
        have hqk := lf_kind huo
        simp only [Tre.nd] at hFk
        rw [hFk] at kX hbX hwF c0 c1 c2 c3 c4 c5 c6 c7 c8 c9
        have HC : Hid (∀ W, Below wr.heap.size wr W → Calls Try.prog 49 #[ndV q, .bool mu, .slice ao n cap] W (RetR W N (spB (mean f n mu (.leaf q))))) := fun W hW => by
          have := leaf40_any ao n cap mu f q W (hrW.below hW) hn hqk hwF
          rwa [HN0.out] at this
        have t3 : (q.k == 3) = false := by simp; omega
        have t4 : (q.k == 4) = false := by simp; omega
        have t5 : (q.k == 5) = false := by simp; omega
        have HC2 := HC.out _ hbX
        have HO' : Hid (∀ w3 (y : Value), Below (wr.alloc (.cells (ndL q).toArray 70)).heap.size (wr.alloc (.cells (ndL q).toArray 70)) w3 → (w3.alloc (.cells #[y] 72)).ownsRow (w.heap.size + 1) 72 1 (.slice lo k lc) k (vals M k)) := fun w3 y h => HO.out w3 y (hbX.trans (h.mono hbX.size))
        have HP' : Hid (∀ g2 c2 w3 v' w4, Below (wr.alloc (.cells (ndL q).toArray 70)).heap.size (wr.alloc (.cells (ndL q).toArray 70)) w3 → RT w3 (wr.alloc (.cells (ndL q).toArray 70)).heap.size g2 N (spB (mean f n mu (.leaf q))) → w4.ownsRow (w.heap.size + 1) 72 1 v' (k + 1) (vals M k ++ [.slice (some ⟨g2, 0, none⟩) N c2]) → (w3.alloc (.cells #[.slice (some ⟨g2, 0, none⟩) N c2] 72)).grownBy w4 (Value.slice lo k lc).ownBlock → ∃ k' : Nat, k' ≤ m ∧ Value.int .i64 ((k : Int) + 1) = .int .i64 (k' : Nat) ∧ SrI w (some ⟨bb, off, none⟩) m c N k' (tabAt f n mu t) v' w4) := fun g2 c2 w3 v' w4 h3 hR h4 h5 => HP.out _ g2 c2 w3 v' w4 hbX h3 hR h4 h5
        obtain ⟨⟨f0, f1, f2, f3, f4, f5, f6, f7, f8, f9⟩, _⟩ := kX.ten
        have hsV : w.heap.size + 1 ≤ (wr.alloc (.cells (ndL q).toArray 70)).heap.size := by have := hbX.size; omega
        clear HP HO HC hbX kX hS hown hM hgl hFk hrW hwF hcs hu huo hTk hFn hF ht hr hqk
        generalize mean f n mu (.leaf q) = Z at *
        unfold ndV at HC2
        unfold ndL at *
        go_wp2_with fail
        refine HC2.mono ?_
        rintro e w3 ⟨g3, c3', rfl, hr3, hb3⟩
        have ho3 := HO'.out w3 (.slice (some ⟨g3, 0, none⟩) N c3') hb3
        have hs3 := hb3.size
        clear HC2
        go_wp2_with (at_builtin; refine wpList_append_own _ rfl _ _ 74 rfl (w.heap.size + 1) 72 i0 (.slice none 0 0) 1 24 Try.underlying74 hi hz0 hz1 hz2 rfl (by decide) _ _ _ rfl ho3 ⟨w3.heap.size, 0, none⟩ 1 1 [.slice (some ⟨g3, 0, none⟩) N c3'] rfl rfl (new_tabl w3 _) (by simp [Value.oneCell']) (by unfold maxLen; omega) (by omega) (by simp; omega) ?_)
        intro v' w4 hown4 hgr4 _
        have HY : Hid _ := HP'.out g3 c3' w3 _ w4 hb3 hr3 hown4 hgr4
        obtain ⟨vo', vc', rfl⟩ := ownsRow_slice hown4
        clear hown4 hgr4 HP' HO' hr3
        go_wp2_with fail
        go_roundw
        case rel => exact HY.out
        case measure => simp [intOf]; omega
      | two kk x y =>
        obtain ⟨hxy, hy, hx⟩ := subs_two hu
        have hkk : kk = 3 ∨ kk = 4 := by simp [Tre.ok] at huo; omega
        have hxs := x.size_pos
        obtain ⟨ga, ca, hga, elo⟩ := hgl (k - 1 - y.size) (by omega)
        obtain ⟨gb, cb, hgb, _⟩ := hgl (k - 1) (by omega)
        rw [tabAt_of hx] at hga
        rw [tabAt_of hy] at hgb
        have eA : (k : Int) - 1 - (y.size : Int) = ((k - 1 - y.size : Nat) : Int) := by omega
        have eB : (k : Int) - 1 = ((k - 1 : Nat) : Int) := by omega
        have lA : ((k - 1 - y.size : Nat) : Int) < (k : Int) := by omega
        have lB : ((k - 1 : Nat) : Int) < (k : Int) := by omega
        simp only [Tre.nd] at hFk
        rw [eA, eB] at hFk
        rw [hFk] at kX hbX c0 c1 c2 c3 c4 c5 c6 c7 c8 c9
        generalize (lo.getD ⟨0, 0, none⟩).block = g0 at *
        subst elo
        have HG : Hid (∀ W, Below wr.heap.size wr W → W.cell? ⟨g0, k - 1 - y.size, none⟩ = some (.slice (some ⟨ga, 0, none⟩) N ca) ∧ W.cell? ⟨g0, k - 1, none⟩ = some (.slice (some ⟨gb, 0, none⟩) N cb)) := fun W hW => ⟨(hga W hW).1, (hgb W hW).1⟩
        rcases hkk with rfl | rfl
        · have HC : Hid (∀ W, Below wr.heap.size wr W → Calls Try.prog 46 #[.slice (some ⟨ga, 0, none⟩) N ca, .slice (some ⟨gb, 0, none⟩) N cb] W (RetR W N (spB (mean f n mu (.two 3 x y))))) := fun W hW => by
            have := then37_tab _ _ ga gb N ca cb _ _ W (hga W hW).2 (hgb W hW).2 hN hN1
            rw [mean_cat]; exact this
          clear hga hgb hS hown hM hgl hFk hrW hwF hcs hx hy hu huo hTk hFn hF ht hr
          generalize mean f n mu (.two 3 x y) = Z at *
          generalize k - 1 - y.size = kA at *
          generalize k - 1 = kB at *
          unfold ndL at *
          dsimp only at *
          go_wp2_with fail
          obtain ⟨⟨f0, f1, f2, f3, f4, f5, f6, f7, f8, f9⟩, _⟩ := kX.ten
          generalize hV : wr.alloc (.cells #[.int .i64 3, .int .u64 0, .int .u64 0, .int .u64 0, .int .u64 0, .int .i64 (kA : Int), .int .i64 (kB : Int), .int .i64 0, .int .i64 0, .bool false] 70) = V at *
          have hbU : Below wr.heap.size wr V.drew := hbX.drew
          obtain ⟨D1, D2⟩ := HG.out V.drew hbU
          have HC2 := HC.out V.drew hbU
          have HO' : Hid (∀ w3 (y : Value), Below V.drew.heap.size V.drew w3 → (w3.alloc (.cells #[y] 72)).ownsRow (w.heap.size + 1) 72 1 (.slice (some ⟨g0, 0, none⟩) k lc) k (vals M k)) := fun w3 y h => HO.out w3 y (hbU.trans (h.mono hbU.size))
          have HP' : Hid (∀ g2 c2 w3 v' w4, Below V.drew.heap.size V.drew w3 → RT w3 V.drew.heap.size g2 N (spB Z) → w4.ownsRow (w.heap.size + 1) 72 1 v' (k + 1) (vals M k ++ [.slice (some ⟨g2, 0, none⟩) N c2]) → (w3.alloc (.cells #[.slice (some ⟨g2, 0, none⟩) N c2] 72)).grownBy w4 (Value.slice (some ⟨g0, 0, none⟩) k lc).ownBlock → ∃ k' : Nat, k' ≤ m ∧ Value.int .i64 ((k : Int) + 1) = .int .i64 (k' : Nat) ∧ SrI w (some ⟨bb, off, none⟩) m c N k' (tabAt f n mu t) v' w4) := fun g2 c2 w3 v' w4 h3 hR h4 h5 => HP.out V.drew g2 c2 w3 v' w4 hbU h3 hR h4 h5
          have hsV : w.heap.size + 1 ≤ V.drew.heap.size := by have := hbU.size; omega
          clear HP HO HC HG hbX kX hV hbU
          go_region_law
            (first
              | (go_simp; go_at_call 46; refine HC2.mono ?_; rintro e w3 ⟨g3, c3', rfl, hr3, hb3⟩; have ho3 := HO'.out w3 (.slice (some ⟨g3, 0, none⟩) N c3') hb3)
              | (refine step_append_lies _ (by rfl) _ _ 74 (by rfl) (w.heap.size + 1) 72 i0 _ 1 24 Try.underlying74 hi hz0 hz1 hz2 (by rfl) (by decide) (.slice (some ⟨g0, 0, none⟩) k lc) k (vals M k) (by rfl) ho3 ⟨w3.heap.size, 0, none⟩ 1 1 [.slice (some ⟨g3, 0, none⟩) N c3'] (by rfl) (by rfl) (new_tabl w3 _) (by simp [Value.oneCell']) (by decide) (by unfold maxLen; omega) (by omega) (by have := hb3.size; simp; omega) _ rfl ?_; intro g9 c9' w4 hown4 hgr4 hat4 hlt4; have HY : Hid _ := HP'.out g3 c3' w3 _ w4 hb3 hr3 hown4 hgr4; clear hown4 hgr4 hat4 hlt4))
          all_goals
            go_wp2_with fail
            go_simp
            go_roundw
            case rel =>
              obtain ⟨k', a1, a2, a3⟩ := HY.out
              exact ⟨k', a1, by injection a2, a3⟩
            case measure => simp [intOf]; omega
        · have HC : Hid (∀ W, Below wr.heap.size wr W → Calls Try.prog 47 #[.slice (some ⟨ga, 0, none⟩) N ca, .slice (some ⟨gb, 0, none⟩) N cb] W (RetR W N (spB (mean f n mu (.two 4 x y))))) := fun W hW => by
            have := or38_tab _ _ ga gb N ca cb _ _ W (hga W hW).2 (hgb W hW).2 hN hN1
            rw [mean_alt]; exact this
          clear hga hgb hS hown hM hgl hFk hrW hwF hcs hx hy hu huo hTk hFn hF ht hr
          generalize mean f n mu (.two 4 x y) = Z at *
          generalize k - 1 - y.size = kA at *
          generalize k - 1 = kB at *
          unfold ndL at *
          dsimp only at *
          go_wp2_with fail
          obtain ⟨⟨f0, f1, f2, f3, f4, f5, f6, f7, f8, f9⟩, _⟩ := kX.ten
          generalize hV : wr.alloc (.cells #[.int .i64 4, .int .u64 0, .int .u64 0, .int .u64 0, .int .u64 0, .int .i64 (kA : Int), .int .i64 (kB : Int), .int .i64 0, .int .i64 0, .bool false] 70) = V at *
          have hbU : Below wr.heap.size wr V.drew := hbX.drew
          obtain ⟨D1, D2⟩ := HG.out V.drew hbU
          have HC2 := HC.out V.drew hbU
          have HO' : Hid (∀ w3 (y : Value), Below V.drew.heap.size V.drew w3 → (w3.alloc (.cells #[y] 72)).ownsRow (w.heap.size + 1) 72 1 (.slice (some ⟨g0, 0, none⟩) k lc) k (vals M k)) := fun w3 y h => HO.out w3 y (hbU.trans (h.mono hbU.size))
          have HP' : Hid (∀ g2 c2 w3 v' w4, Below V.drew.heap.size V.drew w3 → RT w3 V.drew.heap.size g2 N (spB Z) → w4.ownsRow (w.heap.size + 1) 72 1 v' (k + 1) (vals M k ++ [.slice (some ⟨g2, 0, none⟩) N c2]) → (w3.alloc (.cells #[.slice (some ⟨g2, 0, none⟩) N c2] 72)).grownBy w4 (Value.slice (some ⟨g0, 0, none⟩) k lc).ownBlock → ∃ k' : Nat, k' ≤ m ∧ Value.int .i64 ((k : Int) + 1) = .int .i64 (k' : Nat) ∧ SrI w (some ⟨bb, off, none⟩) m c N k' (tabAt f n mu t) v' w4) := fun g2 c2 w3 v' w4 h3 hR h4 h5 => HP.out V.drew g2 c2 w3 v' w4 hbU h3 hR h4 h5
          have hsV : w.heap.size + 1 ≤ V.drew.heap.size := by have := hbU.size; omega
          clear HP HO HC HG hbX kX hV hbU
          go_region_law
            (first
              | (go_simp; go_at_call 47; refine HC2.mono ?_; rintro e w3 ⟨g3, c3', rfl, hr3, hb3⟩; have ho3 := HO'.out w3 (.slice (some ⟨g3, 0, none⟩) N c3') hb3)
              | (refine step_append_lies _ (by rfl) _ _ 74 (by rfl) (w.heap.size + 1) 72 i0 _ 1 24 Try.underlying74 hi hz0 hz1 hz2 (by rfl) (by decide) (.slice (some ⟨g0, 0, none⟩) k lc) k (vals M k) (by rfl) ho3 ⟨w3.heap.size, 0, none⟩ 1 1 [.slice (some ⟨g3, 0, none⟩) N c3'] (by rfl) (by rfl) (new_tabl w3 _) (by simp [Value.oneCell']) (by decide) (by unfold maxLen; omega) (by omega) (by have := hb3.size; simp; omega) _ rfl ?_; intro g9 c9' w4 hown4 hgr4 hat4 hlt4; have HY : Hid _ := HP'.out g3 c3' w3 _ w4 hb3 hr3 hown4 hgr4; clear hown4 hgr4 hat4 hlt4))
          all_goals
            go_wp2_with fail
            go_simp
            go_roundw
            case rel =>
              obtain ⟨k', a1, a2, a3⟩ := HY.out
              exact ⟨k', a1, by injection a2, a3⟩
            case measure => simp [intOf]; omega
      | rep x l m' z =>
        obtain ⟨hxk, hx⟩ := subs_rep hu
        have hmay : Tre.mayR l m' = true := by simp [Tre.ok] at huo; exact huo.1
        have hxs := x.size_pos
        obtain ⟨ga, ca, hga, elo⟩ := hgl (k - 1) (by omega)
        rw [tabAt_of hx] at hga
        have eB : (k : Int) - 1 = ((k - 1 : Nat) : Int) := by omega
        have lB : ((k - 1 : Nat) : Int) < (k : Int) := by omega
        simp only [Tre.nd] at hFk
        rw [eB] at hFk
        rw [hFk] at kX hbX c0 c1 c2 c3 c4 c5 c6 c7 c8 c9
        generalize (lo.getD ⟨0, 0, none⟩).block = g0 at *
        subst elo
        have HG : Hid (∀ W, Below wr.heap.size wr W → W.cell? ⟨g0, k - 1, none⟩ = some (.slice (some ⟨ga, 0, none⟩) N ca)) := fun W hW => (hga W hW).1
        have HC : Hid (∀ W, Below wr.heap.size wr W → Calls Try.prog 48 #[.slice (some ⟨ga, 0, none⟩) N ca, .int .i64 l, .int .i64 m'] W (RetR W N (spB (mean f n mu (.rep x l m' z))))) := fun W hW => by
          have := repeat39_any _ ga N ca l m' _ W (hga W hW).2 hN hN1 hmay
          rw [mean]; exact this
        clear hga hS hown hM hgl hFk hrW hwF hcs hx hu huo hTk hFn hF ht hr
        generalize mean f n mu (.rep x l m' z) = Z at *
        generalize k - 1 = kB at *
        unfold ndL at *
        dsimp only at *
        go_wp2_with fail
        obtain ⟨⟨f0, f1, f2, f3, f4, f5, f6, f7, f8, f9⟩, _⟩ := kX.ten
        generalize hV : wr.alloc (.cells #[.int .i64 5, .int .u64 0, .int .u64 0, .int .u64 0, .int .u64 0, .int .i64 (kB : Int), .int .i64 0, .int .i64 l, .int .i64 m', .bool z] 70) = V at *
        have hbU : Below wr.heap.size wr V.drew := hbX.drew
        have D1 := HG.out V.drew hbU
        have HC2 := HC.out V.drew hbU
        have HO' : Hid (∀ w3 (y : Value), Below V.drew.heap.size V.drew w3 → (w3.alloc (.cells #[y] 72)).ownsRow (w.heap.size + 1) 72 1 (.slice (some ⟨g0, 0, none⟩) k lc) k (vals M k)) := fun w3 y h => HO.out w3 y (hbU.trans (h.mono hbU.size))
        have HP' : Hid (∀ g2 c2 w3 v' w4, Below V.drew.heap.size V.drew w3 → RT w3 V.drew.heap.size g2 N (spB Z) → w4.ownsRow (w.heap.size + 1) 72 1 v' (k + 1) (vals M k ++ [.slice (some ⟨g2, 0, none⟩) N c2]) → (w3.alloc (.cells #[.slice (some ⟨g2, 0, none⟩) N c2] 72)).grownBy w4 (Value.slice (some ⟨g0, 0, none⟩) k lc).ownBlock → ∃ k' : Nat, k' ≤ m ∧ Value.int .i64 ((k : Int) + 1) = .int .i64 (k' : Nat) ∧ SrI w (some ⟨bb, off, none⟩) m c N k' (tabAt f n mu t) v' w4) := fun g2 c2 w3 v' w4 h3 hR h4 h5 => HP.out V.drew g2 c2 w3 v' w4 hbU h3 hR h4 h5
        have hsV : w.heap.size + 1 ≤ V.drew.heap.size := by have := hbU.size; omega
        clear HP HO HC HG hbX kX hV hbU
        go_region_law
          (first
            | (go_simp; go_at_call 48; refine HC2.mono ?_; rintro e w3 ⟨g3, c3', rfl, hr3, hb3⟩; have ho3 := HO'.out w3 (.slice (some ⟨g3, 0, none⟩) N c3') hb3)
            | (refine step_append_lies _ (by rfl) _ _ 74 (by rfl) (w.heap.size + 1) 72 i0 _ 1 24 Try.underlying74 hi hz0 hz1 hz2 (by rfl) (by decide) (.slice (some ⟨g0, 0, none⟩) k lc) k (vals M k) (by rfl) ho3 ⟨w3.heap.size, 0, none⟩ 1 1 [.slice (some ⟨g3, 0, none⟩) N c3'] (by rfl) (by rfl) (new_tabl w3 _) (by simp [Value.oneCell']) (by decide) (by unfold maxLen; omega) (by omega) (by have := hb3.size; simp; omega) _ rfl ?_; intro g9 c9' w4 hown4 hgr4 hat4 hlt4; have HY : Hid _ := HP'.out g3 c3' w3 _ w4 hb3 hr3 hown4 hgr4; clear hown4 hgr4 hat4 hlt4))
        all_goals
          go_wp2_with fail
          go_simp
          go_roundw
          case rel =>
            obtain ⟨k', a1, a2, a3⟩ := HY.out
            exact ⟨k', a1, by injection a2, a3⟩
          case measure => simp [intOf]; omega
    · obtain rfl : k = m := by omega
      have hki : ¬ (k : Int) < (k : Int) := by omega
      obtain ⟨M, hown, hM⟩ := hS.tabs
      obtain ⟨g0, rfl, hl0, _, hc0, _⟩ := row_cell hown (by omega)
      obtain ⟨gg, gc, eM, hRg⟩ := hM (k - 1) (by omega)
      have dl := hc0 (k - 1) _ (vals_get M (by omega))
      rw [eM] at dl
      have HR : Hid (RetR w N (spB (tabAt f n mu t (k - 1))) (.returned (.slice (some ⟨gg, 0, none⟩) N gc)) wr) := ⟨gg, gc, rfl, hRg.lower (by omega), hS.bel⟩
      have hk1 : (k : Int) - 1 = ((k - 1 : Nat) : Int) := by omega
      have hkw : IntKind.i64.wrap ((k : Int) - 1) = ((k - 1 : Nat) : Int) := by rw [IntKind.wrap_i64]; omega
      have hk2 : ((k - 1 : Nat) : Int) < (k : Int) := by omega
      clear hS hown hM hc0 hRg hFn hF ht hr
      generalize tabAt f n mu t (k - 1) = Z at *
      generalize k - 1 = kk at *
      go_wp2_with fail
      go_ret
      exact HR.out
end Go.Proofs.Ytobgmgpclcfkcaa.T
