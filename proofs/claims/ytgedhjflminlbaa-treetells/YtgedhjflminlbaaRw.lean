/- The reference's Weight: the walk. -/
import Derived.Test.YtgedhjflminlbaaRt
import Derived.Test.YtgedhjflminlbaaPl
import Derived.Test.YtgedhjflminlbaaMe
import Derived.Test.YtgedhjflminlbaaVr
import Derived.Deep.DeepCutAuto
namespace Go.Proofs.Ytgedhjflminlbaa
open Go.RowKit
theorem wrapi64_in (n : Int) (h : -9223372036854775808 ≤ n) (h' : n ≤ 9223372036854775807) : IntKind.i64.wrap n = n := by
  simp [IntKind.wrap, IntKind.bits, IntKind.signed]; omega
set_option maxRecDepth 10000 in
set_option maxHeartbeats 8000000 in
theorem rweight_any (a : Option Addr) (n c : Nat) (F : Nat → Nd) (w : World) (ha : RdN w a n F) (hn : (n : Int) ≤ 9223372036854775807) (hca : n ≤ c) : Calls Try.prog 30 #[.agg #[.slice a n c]] w (RetI w (wt (snd F n))) := by
  obtain ⟨ox, sx⟩ := snd_ok F n
  have px := (snd F n).size_pos
  have hW0 := below1 w (.cells #[.slice a n c] 24)
  have ka := Cl.new w 24 [.slice a n c]
  have HA := rmay_any a n c F _ (ha.below hW0) hn hca
  have hlast : atP wt (snd F n) ((snd F n).size - 1) = wt (snd F n) := atP_get (Tre.subs_last _)
  have d0 := ka.cell 0 rfl
  clear ha
  generalize hX : snd F n = x at *
  clear hX
  obtain ⟨i0, hi, hz0, hz1, hz2⟩ := info_parts b_int
  go_enter Try.func30, Try.ntmps30
  go_wp2_with fail
  refine HA.mono ?_
  rintro e w1 ⟨ta, c1, rfl, r1, cc1, _, b1⟩
  have ka1 := ka.below b1
  obtain ⟨d1, d2⟩ := ka1.one
  have k1 := ka1.set 0 (.slice (some ta) x.size c1)
  simp only [List.set_cons_zero] at k1
  have r2 := r1.put ka1 (.slice (some ta) x.size c1)
  have hBV : Below w.heap.size w (w1.setCell ⟨w.heap.size, 0, none⟩ (.slice (some ta) x.size c1)) := (hW0.trans (b1.mono (by simp))).setCell (p := ⟨w.heap.size, 0, none⟩) (Nat.le_refl _) _
  clear d0 r1 ka ka1 b1 HA hW0
  go_wp2_with fail
  clear d1 d2
  generalize w1.setCell ⟨w.heap.size, 0, none⟩ (.slice (some ta) x.size c1) = V at *
  go_loopw [3, 4] (fun v i wr => ∃ k : Nat, k ≤ x.size ∧ i = .int .i64 (k : Nat) ∧ wr.ownsRow V.heap.size 3 1 v k (ints (atP wt x) k) ∧ Below V.heap.size V wr) (fun _ i _ => x.size - (intOf i).toNat)
  case atStart => exact ⟨0, Nat.zero_le _, rfl, by simpa [ints] using World.ownsRow_nil _ _ _ _, Below.refl _ _⟩
  case round =>
    obtain ⟨k, hk, rfl, hrow, hbel⟩ := hrel
    obtain ⟨av, cv, rfl⟩ := ownsRow_slice hrow
    have k1r := k1.below hbel
    have d0 := k1r.cell 0 rfl
    have hss := hbel.size
    by_cases hlt : k < x.size
    · have hki : (k : Int) < (x.size : Int) := by omega
      have rr := r2.below hbel
      obtain ⟨u, hu⟩ : ∃ u, x.subs[k]? = some u := ⟨_, List.getElem?_eq_getElem (by rw [Tre.subs_length]; exact hlt)⟩
      have hnd : nodes x k = u.nd k := nodes_get hu
      have ou := subs_ok _ _ _ ox hu
      obtain ⟨Y, hY⟩ : ∃ Y, wt u = Y := ⟨_, rfl⟩
      have hy : atP wt x k = Y := (atP_get hu).trans hY
      obtain ⟨bb, off, ea, hbb, hc⟩ := rr (by omega)
      obtain rfl := Option.some.inj ea
      obtain ⟨c0, c1', c2, c3, c4, c5, c6, c7, c8, c9⟩ := hc k hlt
      rw [hnd] at c0 c1' c2 c3 c4 c5 c6 c7 c8 c9
      have kN := Cl.new wr 29 (ndL (u.nd k))
      have rI := row_rdI hrow
      have HX : Hid (∀ (v' : Value) (W : World), W.ownsRow V.heap.size 3 1 v' (k + 1) (ints (atP wt x) k ++ [.int .i64 Y]) → Below V.heap.size V W → ∃ k' : Nat, k' ≤ x.size ∧ Value.int .i64 ((k : Int) + 1) = .int .i64 (k' : Nat) ∧ W.ownsRow V.heap.size 3 1 v' k' (ints (atP wt x) k') ∧ Below V.heap.size V W) := fun v' W h1 h2 => ⟨k + 1, hlt, by simp, by rw [ints_snoc, hy]; exact h1, h2⟩
      have HA2 : Hid (∀ w3, Below wr.heap.size wr w3 → (w3.alloc (.cells #[.int .i64 Y] 3)).ownsRow V.heap.size 3 1 (.slice av k cv) k (ints (atP wt x) k) ∧ Below V.heap.size V (w3.alloc (.cells #[.int .i64 Y] 3)) ∧ V.heap.size ≤ (w3.alloc (.cells #[.int .i64 Y] 3)).heap.size ∧ ∀ j y, [Value.int .i64 Y][j]? = some y → (w3.alloc (.cells #[.int .i64 Y] 3)).cell? (Addr.add ⟨w3.heap.size, 0, none⟩ j) = some y) := by
        intro w3 e1
        have hs3 := e1.size
        refine ⟨ownsRow_below (ownsRow_below hrow e1) (below1 _ _), (hbel.trans (e1.mono (by omega))).alloc (by omega) _, by simp; omega, fun j y hj => ?_⟩
        have hj0 : j = 0 := by
          have := (List.getElem?_eq_some_iff.1 hj).1
          simpa using this
        subst hj0
        simpa [Addr.add] using (Cl.new w3 3 [.int .i64 Y]).cell 0 hj
      have how := ownsRow_own hrow
      have hbN := below1 wr (.cells (ndL (u.nd k)).toArray 29)
      have g0 := HA2.out _ hbN
      have rI5 := rI.below hbN
      obtain ⟨q, hq⟩ : ∃ q, u.nd k = q := ⟨_, rfl⟩
      rw [hq] at c0 c1' c2 c3 c4 c5 c6 c7 c8 c9 kN hbN g0 rI5
      unfold ndL at kN hbN g0 rI5
      obtain ⟨f, _⟩ := kN.ten
      have f' : Hid _ := f
      have hXl : Hid _ := kN.lt
      clear hrow hbel rr hc kN rI hnd f k1r
      go_upto_region 8 with fail
      obtain ⟨f0, f1, f2, f3, f4, f5, f6, f7, f8, f9⟩ := f'.out
      clear f' d0 c0 c1' c2 c3 c4 c5 c6 c7 c8 c9
      generalize wr.alloc (.cells #[.int .i64 q.k, .int .u64 q.c0, .int .u64 q.c1, .int .u64 q.c2, .int .u64 q.c3, .int .i64 q.a, .int .i64 q.b, .int .i64 q.l, .int .i64 q.m, .bool q.z] 29) = W5 at *
      generalize wr.heap.size = X5 at *
      obtain ⟨g1, g2, g3, g4⟩ := g0
      have G4 : Hid _ := g4
      clear g4
      cases u with
      | leaf q' =>
        obtain rfl : q' = q := hq
        have hq7 := lf_kind ou
        have hw0 : q'.k = 2 ∨ (q'.k ≠ 2 ∧ q'.k ≠ 3 ∧ q'.k ≠ 4 ∧ q'.k ≠ 5) := by omega
        rcases hw0 with hq2 | ⟨h2, h3, h4, h5⟩
        · obtain rfl : Y = 1 := by rw [← hY]; simp [wt, hq2]
          rw [hq2] at f0
          clear hy ou hY HA2 hu
          go_wp2_with (at_builtin; refine wpList_append_own _ rfl _ _ 50 rfl V.heap.size 3 i0 _ 1 8 Try.underlying50 hi hz0 hz1 hz2 rfl (by decide) _ _ _ rfl g1 ⟨W5.heap.size, 0, none⟩ 1 1 [.int .i64 1] rfl rfl G4.out (by simp [Value.oneCell']) (by unfold maxLen; omega) (by omega) g3 ?_; intro v' w2 hown hgr hnil'; have HY : Hid _ := HX.out v' w2 hown (g2.grown hgr g3 how); clear hown hgr hnil')
          go_roundw
          case rel => exact HY.out
          case measure => simp [intOf]; omega
        · obtain rfl : Y = 0 := by rw [← hY]; simp [wt, h2]
          have e2 : (q'.k == 2) = false := by simpa using h2
          have e3 : (q'.k == 3) = false := by simpa using h3
          have e4 : (q'.k == 4) = false := by simpa using h4
          have e5 : (q'.k == 5) = false := by simpa using h5
          clear hy ou hY HA2 hu
          go_wp2_with (at_builtin; refine wpList_append_own _ rfl _ _ 50 rfl V.heap.size 3 i0 _ 1 8 Try.underlying50 hi hz0 hz1 hz2 rfl (by decide) _ _ _ rfl g1 ⟨W5.heap.size, 0, none⟩ 1 1 [.int .i64 0] rfl rfl G4.out (by simp [Value.oneCell']) (by unfold maxLen; omega) (by omega) g3 ?_; intro v' w2 hown hgr hnil'; have HY : Hid _ := HX.out v' w2 hown (g2.grown hgr g3 how); clear hown hgr hnil')
          go_roundw
          case rel => exact HY.out
          case measure => simp [intOf]; omega
      | two kd y z =>
        obtain rfl := hq
        have sy := y.size_pos
        have sz := z.size_pos
        obtain ⟨h1, h2, h3⟩ := subs_two hu
        simp [Tre.ok] at ou
        have gx := atP_get (f := wt) h3
        have gy := atP_get (f := wt) h2
        have wy := wt_in y ou.1.2
        have wz := wt_in z ou.2
        obtain ⟨b9, o9, rfl, hb9, hc9⟩ := rI5 (by omega)
        have d1 := hc9 (k - 1 - z.size) (by omega)
        have d2 := hc9 (k - 1) (by omega)
        rw [gx] at d1
        rw [gy] at d2
        have hwr : IntKind.i64.wrap (wt y + wt z) = wt y + wt z := wrapi64_in _ (by omega) (by omega)
        have HC : Hid (∀ W, Calls Try.prog 46 #[.int .i64 (IntKind.i64.wrap (wt y + wt z))] W fun e w' => e = .returned (.int .i64 Y) ∧ w' = W) := fun W => by
          have := cap_any (wt y + wt z) W
          rw [cap_pl wy wz, show pl (wt y) (wt z) = Y from hY] at this
          rw [hwr]
          exact this
        simp only [Tre.nd] at f0 f5 f6
        rw [show (k : Int) - 1 - z.size = ((k - 1 - z.size : Nat) : Int) by omega] at f5
        rw [show (k : Int) - 1 = ((k - 1 : Nat) : Int) by omega] at f6
        have hl1 : ((k - 1 - z.size : Nat) : Int) < (k : Int) := by omega
        have hl2 : ((k - 1 : Nat) : Int) < (k : Int) := by omega
        generalize k - 1 - z.size = p1 at *
        generalize k - 1 = p2 at *
        clear hY
        generalize wt y = A at *
        generalize wt z = B at *
        have hbD : Below X5 wr W5.drew := hbN.drew
        obtain ⟨g1, g2, g3, g4⟩ := HA2.out _ hbD
        have G4 : Hid _ := g4
        have hdr : Below W5.heap.size W5 W5.drew := (Below.refl _ _).drew
        have hS : (W5.drew.cell? ⟨X5, 5, none⟩ = some (.int .i64 (p1 : Nat)) ∧ W5.drew.cell? ⟨X5, 6, none⟩ = some (.int .i64 (p2 : Nat))) ∧ W5.drew.cell? ⟨b9, o9 + p1, none⟩ = some (.int .i64 A) ∧ W5.drew.cell? ⟨b9, o9 + p2, none⟩ = some (.int .i64 B) := by
          rw [hdr.cell (p := ⟨X5, _, none⟩) hXl.out, hdr.cell (p := ⟨X5, _, none⟩) hXl.out, hdr.cell (p := ⟨b9, _, none⟩) hb9, hdr.cell (p := ⟨b9, _, none⟩) hb9]
          exact ⟨⟨f5, f6⟩, d1, d2⟩
        rcases ou.1.1 with hk3 | hk3
        all_goals
          rw [hk3] at f0
          clear hy ou g4 HA2 hbD hdr hc9 hu h1 h2 h3 gx gy hwr wy wz
          go_upto_region 13 with fail
          go_region_held3 (fun w' => (w'.cell? ⟨X5, 5, none⟩ = some (.int .i64 (p1 : Nat)) ∧ w'.cell? ⟨X5, 6, none⟩ = some (.int .i64 (p2 : Nat))) ∧ w'.cell? ⟨b9, o9 + p1, none⟩ = some (.int .i64 A) ∧ w'.cell? ⟨b9, o9 + p2, none⟩ = some (.int .i64 B)) (exact hS)
            (first
              | (go_at_call 46; refine (HC.out _).mono ?_; rintro e w9 ⟨rfl, rfl⟩))
          go_wp2_with (at_builtin; refine wpList_append_own _ rfl _ _ 50 rfl V.heap.size 3 i0 _ 1 8 Try.underlying50 hi hz0 hz1 hz2 rfl (by decide) _ _ _ rfl g1 ⟨W5.drew.heap.size, 0, none⟩ 1 1 [.int .i64 Y] rfl rfl G4.out (by simp [Value.oneCell']) (by unfold maxLen; omega) (by omega) g3 ?_; intro v' w2 hown hgr hnil'; have HY : Hid _ := HX.out v' w2 hown (g2.grown hgr g3 how); clear hown hgr hnil')
          go_roundw
          case rel => exact HY.out
          case measure => simp [intOf]; omega
      | rep y l m zz =>
        obtain rfl := hq
        have sy := y.size_pos
        obtain ⟨h1, h2⟩ := subs_rep hu
        simp [Tre.ok] at ou
        have hm := mayR_in ou.1
        have gx := atP_get (f := wt) h2
        have wy := wt_in y ou.2
        obtain ⟨b9, o9, rfl, hb9, hc9⟩ := rI5 (by omega)
        have d1 := hc9 (k - 1) (by omega)
        rw [gx] at d1
        simp only [Tre.nd] at f0 f5 f7 f8
        rw [show (k : Int) - 1 = ((k - 1 : Nat) : Int) by omega] at f5
        have hl1 : ((k - 1 : Nat) : Int) < (k : Int) := by omega
        have hbd : ∀ N : Int, 0 ≤ N → N ≤ 1001 → 0 ≤ N * wt y ∧ N * wt y ≤ 1001 * 1073741824 := fun N h0 h1 => by
          have e1 : N * wt y ≤ 1001 * wt y := Int.mul_le_mul_of_nonneg_right h1 wy.1
          exact ⟨Int.mul_nonneg h0 wy.1, by omega⟩
        by_cases hm1 : m = -1
        · have hz := hbd (l + 1) (by omega) (by omega)
          have hin : -9223372036854775808 ≤ (l + 1) * wt y ∧ (l + 1) * wt y ≤ 9223372036854775807 := by omega
          have HC : Hid (∀ W, Calls Try.prog 46 #[.int .i64 ((l + 1) * wt y)] W fun e w' => e = .returned (.int .i64 Y) ∧ W = w') := fun W => by
            have := cap_any ((l + 1) * wt y) W
            rw [cap_tm (by omega) wy.1] at this
            rw [← hY, wt, if_pos hm1]
            exact this.mono fun e w' h => ⟨h.1, h.2.symm⟩
          rw [hm1] at f8
          have hl0 : 0 ≤ l := hm.1
          have hl9 : l ≤ 1000 := hm.2.1
          clear hy ou hY HA2 hu h1 h2 gx hm hbd hc9 hz hm1
          generalize k - 1 = p1 at *
          generalize wt y = A at *
          go_wp2_with (first | (go_at_call 46; refine (HC.out _).mono ?_; rintro e w9 ⟨rfl, rfl⟩) | (at_builtin; refine wpList_append_own _ rfl _ _ 50 rfl V.heap.size 3 i0 _ 1 8 Try.underlying50 hi hz0 hz1 hz2 rfl (by decide) _ _ _ rfl g1 ⟨W5.heap.size, 0, none⟩ 1 1 [.int .i64 Y] rfl rfl G4.out (by simp [Value.oneCell']) (by unfold maxLen; omega) (by omega) g3 ?_; intro v' w2 hown hgr hnil'; have HY : Hid _ := HX.out v' w2 hown (g2.grown hgr g3 how); clear hown hgr hnil'))
          go_roundw
          case rel => exact HY.out
          case measure => simp [intOf]; omega
        · have hz := hbd m (by omega) (by omega)
          have hin : -9223372036854775808 ≤ m * wt y ∧ m * wt y ≤ 9223372036854775807 := by omega
          have HC : Hid (∀ W, Calls Try.prog 46 #[.int .i64 (m * wt y)] W fun e w' => e = .returned (.int .i64 Y) ∧ W = w') := fun W => by
            have := cap_any (m * wt y) W
            rw [cap_tm (by omega) wy.1] at this
            rw [← hY, wt, if_neg hm1]
            exact this.mono fun e w' h => ⟨h.1, h.2.symm⟩
          have hm0 : ¬ m < 0 := by omega
          clear hy ou hY HA2 hu h1 h2 gx hm hbd hc9 hz hm1
          generalize k - 1 = p1 at *
          generalize wt y = A at *
          go_wp2_with (first | (go_at_call 46; refine (HC.out _).mono ?_; rintro e w9 ⟨rfl, rfl⟩) | (at_builtin; refine wpList_append_own _ rfl _ _ 50 rfl V.heap.size 3 i0 _ 1 8 Try.underlying50 hi hz0 hz1 hz2 rfl (by decide) _ _ _ rfl g1 ⟨W5.heap.size, 0, none⟩ 1 1 [.int .i64 Y] rfl rfl G4.out (by simp [Value.oneCell']) (by unfold maxLen; omega) (by omega) g3 ?_; intro v' w2 hown hgr hnil'; have HY : Hid _ := HX.out v' w2 hown (g2.grown hgr g3 how); clear hown hgr hnil'))
          go_roundw
          case rel => exact HY.out
          case measure => simp [intOf]; omega
    · obtain rfl : k = x.size := by omega
      have hki : ¬ (x.size : Int) < (x.size : Int) := by omega
      obtain ⟨g, rfl, hgl, _, hcr, _⟩ := row_cell hrow px
      have d1 := hcr (x.size - 1) _ (ints_get _ (by omega))
      rw [hlast] at d1
      have HR : Hid (RetI w (wt x) (.returned (.int .i64 (wt x))) wr) := ⟨rfl, hBV.trans (hbel.mono hBV.size)⟩
      have hk1 : ((x.size : Int) - 1).toNat = x.size - 1 := by omega
      have hk2 : (0 : Int) ≤ (x.size : Int) - 1 := by omega
      have hk3 : (x.size : Int) - 1 < (x.size : Int) := by omega
      clear hrow hbel hcr hlast
      go_wp2_with fail
      go_ret
      exact HR.out
end Go.Proofs.Ytgedhjflminlbaa
