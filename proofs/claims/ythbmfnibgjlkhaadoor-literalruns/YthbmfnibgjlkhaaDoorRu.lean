/- The reference's Sub: the walk. -/
import Derived.Test.YthbmfnibgjlkhaaDoorGPlOwRj
import Derived.Test.YthbmfnibgjlkhaaDoorGCnMoSu
import Derived.Test.YthbmfnibgjlkhaaDoorMe
import Derived.Deep.DeepCutAuto
namespace Go.Proofs.YthbmfnibgjlkhaaDoor
open Go.RowKit
/-- The nodes that were copied so far, out of a tree. -/
def SbI (t : Tre) (fr : Nat) (V : World) (j : Nat) (v : Value) (wr : World) : Prop := wr.ownsRow V.heap.size 82 10 v j (ndsL (fun i => sh (-(fr : Int)) (nodes t (fr + i))) j) ∧ Below V.heap.size V wr
set_option maxRecDepth 10000 in
set_option maxHeartbeats 8000000 in
theorem rsub_any (a : Option Addr) (n c : Nat) (F : Nat → Nd) (x : Int) (w : World) (ha : RdN w a n F) (hn : (n : Int) ≤ 9223372036854775807) (hca : n ≤ c) (hx63 : x ≤ 9223372036854775807) : Calls Tryd.prog 59 #[.agg #[.slice a n c], .int .i64 x] w (RetSb w (snd F n) x) := by
  obtain ⟨ox, sx⟩ := snd_ok F n
  have px := (snd F n).size_pos
  obtain ⟨i0, hi, hz0, hz1, hz2⟩ := info_parts b_node
  have hW0 := below2 w (.cells #[.slice a n c] 48) (.cells #[.slice none 0 0] 48)
  have ka : Cl ((w.alloc (.cells #[.slice a n c] 48)).alloc (.cells #[.slice none 0 0] 48)) w.heap.size 48 [.slice a n c] := (Cl.new w 48 [.slice a n c]).alloc _
  have kr : Cl ((w.alloc (.cells #[.slice a n c] 48)).alloc (.cells #[.slice none 0 0] 48)) (w.heap.size + 1) 48 [.slice none 0 0] := by
    have := Cl.new (w.alloc (.cells #[.slice a n c] 48)) 48 [.slice none 0 0]
    simpa only [World.size_alloc] using this
  have HA := rmay_any a n c F _ (ha.below hW0) hn hca
  have d0 := ka.cell 0 rfl
  clear ha
  generalize hX : snd F n = t at *
  clear hX
  go_enter Tryd.func59, Tryd.ntmps59
  go_wp2_with fail
  refine HA.mono ?_
  rintro e w1 ⟨ta, c1, rfl, r1, cc1, _, b1⟩
  have ka1 := ka.below b1
  have kr1 := (kr.below b1).other (k := w.heap.size) (by omega) 0 (.slice (some ta) t.size c1)
  obtain ⟨d1, d2⟩ := ka1.one
  have k1 := ka1.set 0 (.slice (some ta) t.size c1)
  simp only [List.set_cons_zero] at k1
  have r2 := r1.put ka1 (.slice (some ta) t.size c1)
  have hBV : Below w.heap.size w (w1.setCell ⟨w.heap.size, 0, none⟩ (.slice (some ta) t.size c1)) := (hW0.trans (b1.mono (by simp; omega))).setCell (p := ⟨w.heap.size, 0, none⟩) (Nat.le_refl _) _
  have d3 := k1.cell 0 rfl
  clear d0 r1 ka ka1 b1 HA hW0 kr
  by_cases hx : x < 0 ∨ (t.size : Int) ≤ x
  · have HR : Hid (∀ W, Below w.heap.size w W → RetSb w t x (.returned (.tuple #[.agg #[.slice none 0 0], .bool false])) W) := fun W h => ⟨fun _ => rfl, fun u h0 hu => by
      have := (List.getElem?_eq_some_iff.1 hu).1
      rw [Tre.subs_length] at this
      omega, h⟩
    obtain ⟨d8, d9⟩ := kr1.one
    have dd := (kr1.set 0 (.slice none 0 0)).cell 0 rfl
    have hbf := hBV.setCell (p := ⟨w.heap.size + 1, 0, none⟩) (by simp) (.slice none 0 0)
    by_cases h0 : x < 0
    · clear hx
      go_wp2_with fail
      exact bodyPost_ret (by simp [results, Tryd.results59, go_sem, dd]) rfl (HR.out _ hbf)
    · have h1 : (t.size : Int) ≤ x := by omega
      have h2 : x ≥ (t.size : Int) := h1
      clear hx
      go_wp2_with fail
      exact bodyPost_ret (by simp [results, Tryd.results59, go_sem, dd]) rfl (HR.out _ hbf)
  · obtain ⟨k, rfl⟩ : ∃ k : Nat, x = (k : Int) := ⟨x.toNat, by omega⟩
    have hk : k < t.size := by omega
    have hki : (k : Int) < (t.size : Int) := by omega
    have h0 : ¬ (k : Int) < 0 := by omega
    have h2 : ¬ (k : Int) ≥ (t.size : Int) := by omega
    have hl : k < t.subs.length := by rw [Tre.subs_length]; exact hk
    have e := List.getElem?_eq_getElem hl
    obtain ⟨s1, _, _⟩ := subs_sub t k _ e
    obtain ⟨fr, hfr⟩ : ∃ fr, fr = k + 1 - (t.subs[k]).size := ⟨_, rfl⟩
    have hsz : szF t k = ((t.subs[k]).size : Nat) := by
      unfold szF
      rw [e]
      rfl
    have HS := sizes_any (some ta) t.size c1 (nodes t) _ r2 (by omega)
    have htr : treeOf (nodes t) t.size = some t := treeOf_nodes t (nodes t) rfl ox sx (fun _ _ => rfl)
    have HB := nodes_bound' ox sx
    have hres : ∀ i, i < (t.subs[k]).size → sh (-(fr : Int)) (nodes t (fr + i)) = nodes t.subs[k] i := fun i hi => by
      rw [nodes_sub ox e i hi, hfr]
    have HR : Hid (∀ W ao cap, OwN W w.heap.size ao (t.subs[k]).size cap (nodes t.subs[k]) → Below w.heap.size w W → RetSb w t (k : Int) (.returned (.tuple #[.agg #[.slice ao (t.subs[k]).size cap], .bool true])) W) := fun W ao cap h1 h2 => ⟨fun h => absurd h hx, fun u _ hu => by
      rw [Int.toNat_natCast, e] at hu
      obtain rfl := Option.some.inj hu
      exact ⟨ao, cap, rfl, h1⟩, h2⟩
    have hup := (t.subs[k]).size_pos
    have hfe : fr + (t.subs[k]).size = k + 1 := by omega
    clear hx e hfr
    generalize (t.subs[k]).size = us at *
    generalize nodes t.subs[k] = G at *
    generalize hWW : w1.setCell ⟨w.heap.size, 0, none⟩ (.slice (some ta) t.size c1) = V at *
    go_wp2_with fail
    clear d1 d2 hWW
    refine HS.mono ?_
    rintro e w2 ⟨⟨v2, rfl, hv⟩, b2⟩
    obtain ⟨ao2, cap2, rfl, o2⟩ := hv t htr
    obtain ⟨g2, rfl, hgl2, _, hcr2, _⟩ := row_cell o2 px
    have d5 := hcr2 k _ (ints_get _ hk)
    rw [hsz] at d5
    have k2 := k1.below b2
    have kr2 := kr1.below b2
    have r3 := r2.below b2
    have hB2 := hBV.trans (b2.mono hBV.size)
    clear hv o2 hcr2 HS r2 d3 k1 kr1 htr
    have hfi : (k : Int) + 1 - (us : Int) = (fr : Int) := by omega
    have hkk : (k : Int) ≤ 2048 := by omega
    have huu : (us : Int) ≤ 2048 := by omega
    go_wp2_with fail
    clear d5 b2 hfi
    go_loopw [9, 10] (fun v i wr => ∃ j : Nat, j ≤ us ∧ i = .int .i64 ((fr + j : Nat) : Int) ∧ SbI t fr w2 j v wr) (fun _ i _ => (k + 1) - (intOf i).toNat)
    case atStart => exact ⟨0, Nat.zero_le _, by simp, World.ownsRow_nil _ _ _ _, Below.refl _ _⟩
    case round =>
      obtain ⟨j, hj, rfl, hrow, hb⟩ := hrel
      obtain ⟨av, cv, rfl⟩ := ownsRow_slice hrow
      have kb := k2.below hb
      have d0 := kb.cell 0 rfl
      have hbs := hb.size
      by_cases hlt : j < us
      · have hji : ((fr + j : Nat) : Int) ≤ (k : Int) := by omega
        have hjt : ((fr + j : Nat) : Int) < (t.size : Int) := by omega
        have hji0 : ((fr + j : Nat) : Int) ≤ 2048 := by omega
        have hfr0 : (fr : Int) ≤ 2048 := by omega
        have hr := r3.below hb
        obtain ⟨bb, off, ea, hbb, hc⟩ := hr (by omega)
        obtain rfl := Option.some.inj ea
        obtain ⟨c0, c1', c2, c3, c4, c5, c6, c7, c8, c9⟩ := hc (fr + j) (by omega)
        obtain ⟨⟨a1, a2⟩, b1, b2⟩ := HB (fr + j) (by omega)
        have HG : Hid (∀ (o o' : Obj) v' w3, w3.ownsRow w2.heap.size 82 10 v' (j + 1) (ndsL (fun i => sh (-(fr : Int)) (nodes t (fr + i))) j ++ ndL (sh (-(fr : Int)) (nodes t (fr + j)))) → ((wr.alloc o).alloc o').grownBy w3 (Value.slice av j cv).ownBlock → ∃ j' : Nat, j' ≤ us ∧ Value.int .i64 (((fr + j : Nat) : Int) + 1) = .int .i64 ((fr + j' : Nat) : Int) ∧ SbI t fr w2 j' v' w3) := by
          intro o o' v' w3 h1 h2
          refine ⟨j + 1, hlt, by simp; omega, h1, ((hb.alloc hbs o).alloc (by simp; omega) o').grown h2 (by simp; omega) (ownsRow_own hrow)⟩
        have HR2 : Hid (∀ (o o' : Obj), ((wr.alloc o).alloc o').ownsRow w2.heap.size 82 10 (.slice av j cv) j (ndsL (fun i => sh (-(fr : Int)) (nodes t (fr + i))) j) ∧ w2.heap.size ≤ ((wr.alloc o).alloc o').heap.size) := fun o o' => ⟨ownsRow_below hrow (below2 wr o o'), by simp; omega⟩
        have kX := Cl.new wr 82 (ndL (nodes t (fr + j)))
        have d1 := (kb.alloc (.cells (ndL (nodes t (fr + j))).toArray 82)).cell 0 rfl
        clear hrow hr hc hb
        generalize fr + j = p at *
        generalize nodes t p = q at *
        obtain ⟨kk, x0, x1, x2, x3, a, b, l, m, z⟩ := q
        dsimp only at *
        by_cases e : kk = 3
        · subst e
          have hsh : sh (-(fr : Int)) ⟨3, x0, x1, x2, x3, a, b, l, m, z⟩ = ⟨3, x0, x1, x2, x3, (a - fr), (b - fr), l, m, z⟩ := by rw [sh34 (-(fr : Int)) (.inl rfl)]; rfl
          rw [hsh] at HG
          have HN : Hid (∀ j' u, (ndL ⟨3, x0, x1, x2, x3, (a - fr), (b - fr), l, m, z⟩)[j']? = some u → ((wr.alloc (.cells (ndL ⟨3, x0, x1, x2, x3, (a - fr), (b - fr), l, m, z⟩).toArray 82)).alloc (.cells (ndL ⟨3, x0, x1, x2, x3, (a - fr), (b - fr), l, m, z⟩).toArray 82)).cell? (Addr.add ⟨wr.heap.size + 1, 0, none⟩ j') = some u) := by
            have := new_cells (wr.alloc (.cells (ndL ⟨3, x0, x1, x2, x3, (a - fr), (b - fr), l, m, z⟩).toArray 82)) ⟨3, x0, x1, x2, x3, (a - fr), (b - fr), l, m, z⟩ _ (Below.refl _ _)
            simp only [World.size_alloc] at this
            exact this
          clear hsh
          unfold ndL at HN HG kX d1
          dsimp only at HN HG kX d1
          go_wp2_with (at_builtin; refine wpList_append_own _ rfl _ _ 46 rfl w2.heap.size 82 i0 _ 10 80 Tryd.underlying46 hi hz0 hz1 hz2 rfl (by decide) _ _ _ rfl (HR2.out _ _).1 ⟨wr.heap.size + 1, 0, none⟩ 1 1 [.int .i64 3, .int .u64 x0, .int .u64 x1, .int .u64 x2, .int .u64 x3, .int .i64 (a - fr), .int .i64 (b - fr), .int .i64 l, .int .i64 m, .bool z] rfl rfl HN.out (by simp [Value.oneCell']) (by unfold maxLen; omega) (by omega) (HR2.out _ _).2 ?_; intro v' w3 hown hgr hnil'; have HY : Hid _ := HG.out _ _ v' w3 hown hgr; clear hown hgr hnil')
          go_roundw
          case rel => exact HY.out
          case measure => simp [intOf]; omega
        have n3 : (kk == 3) = false := by simpa using e
        clear e
        by_cases e : kk = 4
        · subst e
          have hsh : sh (-(fr : Int)) ⟨4, x0, x1, x2, x3, a, b, l, m, z⟩ = ⟨4, x0, x1, x2, x3, (a - fr), (b - fr), l, m, z⟩ := by rw [sh34 (-(fr : Int)) (.inr rfl)]; rfl
          rw [hsh] at HG
          have HN : Hid (∀ j' u, (ndL ⟨4, x0, x1, x2, x3, (a - fr), (b - fr), l, m, z⟩)[j']? = some u → ((wr.alloc (.cells (ndL ⟨4, x0, x1, x2, x3, (a - fr), (b - fr), l, m, z⟩).toArray 82)).alloc (.cells (ndL ⟨4, x0, x1, x2, x3, (a - fr), (b - fr), l, m, z⟩).toArray 82)).cell? (Addr.add ⟨wr.heap.size + 1, 0, none⟩ j') = some u) := by
            have := new_cells (wr.alloc (.cells (ndL ⟨4, x0, x1, x2, x3, (a - fr), (b - fr), l, m, z⟩).toArray 82)) ⟨4, x0, x1, x2, x3, (a - fr), (b - fr), l, m, z⟩ _ (Below.refl _ _)
            simp only [World.size_alloc] at this
            exact this
          clear hsh
          unfold ndL at HN HG kX d1
          dsimp only at HN HG kX d1
          go_wp2_with (at_builtin; refine wpList_append_own _ rfl _ _ 46 rfl w2.heap.size 82 i0 _ 10 80 Tryd.underlying46 hi hz0 hz1 hz2 rfl (by decide) _ _ _ rfl (HR2.out _ _).1 ⟨wr.heap.size + 1, 0, none⟩ 1 1 [.int .i64 4, .int .u64 x0, .int .u64 x1, .int .u64 x2, .int .u64 x3, .int .i64 (a - fr), .int .i64 (b - fr), .int .i64 l, .int .i64 m, .bool z] rfl rfl HN.out (by simp [Value.oneCell']) (by unfold maxLen; omega) (by omega) (HR2.out _ _).2 ?_; intro v' w3 hown hgr hnil'; have HY : Hid _ := HG.out _ _ v' w3 hown hgr; clear hown hgr hnil')
          go_roundw
          case rel => exact HY.out
          case measure => simp [intOf]; omega
        have n4 : (kk == 4) = false := by simpa using e
        clear e
        by_cases e : kk = 5
        · subst e
          clear n3 n4
          have hsh : sh (-(fr : Int)) ⟨5, x0, x1, x2, x3, a, b, l, m, z⟩ = ⟨5, x0, x1, x2, x3, (a - fr), b, l, m, z⟩ := by rw [sh5 (-(fr : Int)) rfl]; rfl
          rw [hsh] at HG
          have HN : Hid (∀ j' u, (ndL ⟨5, x0, x1, x2, x3, (a - fr), b, l, m, z⟩)[j']? = some u → ((wr.alloc (.cells (ndL ⟨5, x0, x1, x2, x3, (a - fr), b, l, m, z⟩).toArray 82)).alloc (.cells (ndL ⟨5, x0, x1, x2, x3, (a - fr), b, l, m, z⟩).toArray 82)).cell? (Addr.add ⟨wr.heap.size + 1, 0, none⟩ j') = some u) := by
            have := new_cells (wr.alloc (.cells (ndL ⟨5, x0, x1, x2, x3, (a - fr), b, l, m, z⟩).toArray 82)) ⟨5, x0, x1, x2, x3, (a - fr), b, l, m, z⟩ _ (Below.refl _ _)
            simp only [World.size_alloc] at this
            exact this
          clear hsh
          unfold ndL at HN HG kX d1
          dsimp only at HN HG kX d1
          go_wp2_with (at_builtin; refine wpList_append_own _ rfl _ _ 46 rfl w2.heap.size 82 i0 _ 10 80 Tryd.underlying46 hi hz0 hz1 hz2 rfl (by decide) _ _ _ rfl (HR2.out _ _).1 ⟨wr.heap.size + 1, 0, none⟩ 1 1 [.int .i64 5, .int .u64 x0, .int .u64 x1, .int .u64 x2, .int .u64 x3, .int .i64 (a - fr), .int .i64 b, .int .i64 l, .int .i64 m, .bool z] rfl rfl HN.out (by simp [Value.oneCell']) (by unfold maxLen; omega) (by omega) (HR2.out _ _).2 ?_; intro v' w3 hown hgr hnil'; have HY : Hid _ := HG.out _ _ v' w3 hown hgr; clear hown hgr hnil')
          go_roundw
          case rel => exact HY.out
          case measure => simp [intOf]; omega
        have n5 : (kk == 5) = false := by simpa using e
        clear e
        have hsh : sh (-(fr : Int)) ⟨kk, x0, x1, x2, x3, a, b, l, m, z⟩ = ⟨kk, x0, x1, x2, x3, a, b, l, m, z⟩ := sh0 (-(fr : Int)) (by simp at n3 n4 n5; exact ⟨n3, n4, n5⟩)
        rw [hsh] at HG
        have HN : Hid (∀ j' u, (ndL ⟨kk, x0, x1, x2, x3, a, b, l, m, z⟩)[j']? = some u → ((wr.alloc (.cells (ndL ⟨kk, x0, x1, x2, x3, a, b, l, m, z⟩).toArray 82)).alloc (.cells (ndL ⟨kk, x0, x1, x2, x3, a, b, l, m, z⟩).toArray 82)).cell? (Addr.add ⟨wr.heap.size + 1, 0, none⟩ j') = some u) := by
          have := new_cells (wr.alloc (.cells (ndL ⟨kk, x0, x1, x2, x3, a, b, l, m, z⟩).toArray 82)) ⟨kk, x0, x1, x2, x3, a, b, l, m, z⟩ _ (Below.refl _ _)
          simp only [World.size_alloc] at this
          exact this
        clear hsh
        unfold ndL at HN HG kX d1
        dsimp only at HN HG kX d1
        obtain ⟨⟨f0, f1, f2, f3, f4, f5, f6, f7, f8, f9⟩, _⟩ := kX.ten
        go_wp2_with (at_builtin; refine wpList_append_own _ rfl _ _ 46 rfl w2.heap.size 82 i0 _ 10 80 Tryd.underlying46 hi hz0 hz1 hz2 rfl (by decide) _ _ _ rfl (HR2.out _ _).1 ⟨wr.heap.size + 1, 0, none⟩ 1 1 [.int .i64 kk, .int .u64 x0, .int .u64 x1, .int .u64 x2, .int .u64 x3, .int .i64 a, .int .i64 b, .int .i64 l, .int .i64 m, .bool z] rfl rfl HN.out (by simp [Value.oneCell']) (by unfold maxLen; omega) (by omega) (HR2.out _ _).2 ?_; intro v' w3 hown hgr hnil'; have HY : Hid _ := HG.out _ _ v' w3 hown hgr; clear hown hgr hnil')
        go_roundw
        case rel => exact HY.out
        case measure => simp [intOf]; omega
      · obtain rfl : j = us := by omega
        have hji : ¬ ((fr + j : Nat) : Int) ≤ (k : Int) := by omega
        have kr3 := kr2.below hb
        obtain ⟨d7, d8⟩ := kr3.one
        have dd := (kr3.set 0 (.slice av j cv)).cell 0 rfl
        have HF : Hid (RetSb w t (k : Int) (.returned (.tuple #[.agg #[.slice av j cv], .bool true])) (wr.setCell ⟨w.heap.size + 1, 0, none⟩ (.slice av j cv))) := by
          refine HR.out _ av cv ?_ ((hB2.trans (hb.mono hB2.size)).setCell (p := ⟨w.heap.size + 1, 0, none⟩) (by simp) _)
          unfold OwN
          rw [← ndsL_congr hres]
          refine ownsRow_base (ownsRow_at hrow fun g' h1 h2 => ?_) hB2.size
          have := kr2.lt
          rw [Below.heap_setCell _ _ _ _ (by simp; omega)]
        clear hrow HR
        go_wp2_with fail
        exact bodyPost_ret (by simp [results, Tryd.results59, go_sem, dd]) rfl HF.out
end Go.Proofs.YthbmfnibgjlkhaaDoor
