/- parse: wrongAnchor: the walk. -/
import Derived.Test.YtlmmiicibjfcdaaGPqPvPtPxPyNeLpOx
import Derived.Test.YtlmmiicibjfcdaaTn
namespace Go.Proofs.Ytlmmiicibjfcdaa
open Go.RowKit
set_option maxRecDepth 10000 in
set_option maxHeartbeats 8000000 in
theorem wrong_any (ao : Option Addr) (n cap : Nat) (F : Nat → TkR) (fl : Fg) (w : World) (hr : RdK w ao n F) (hn : n ≤ 3000) (cl : Nat → Int) (hp : prsE (fun i => (F i).tp fl) n = .ok cl) (cb : Nat) (hcb : Cl w cb 3 (clC cl n)) : Calls Try.prog 23 #[.slice ao n cap, .slice (some ⟨cb, 0, none⟩) n n] w (RetI3 w (wrgA (fun i => (F i).tp fl) n cl)) := by
  obtain ⟨⟨sE, hsE⟩, hcl⟩ := prsE_cl hp
  have hR0 : RM w [(true, true)] (.slice (some ⟨w.heap.size, 0, none⟩) 1 1) (w.alloc (.cells #[.bool true, .bool true] 83)) := ⟨bel1 w _, World.ownsRow_lit w _ 1 (Nat.le_refl _) (by decide) rfl⟩
  clear hp
  go_enter Try.func23, Try.ntmps23
  go_wp2_with fail
  go_loopw [5, 14] (fun ov i wr => ∃ k rs, k ≤ n ∧ i = .int .i64 (k : Nat) ∧ Hid (runA (fun i => (F i).tp fl) n cl k = .ok rs) ∧ Hid (RM w rs ov wr)) (fun _ i _ => n - (intOf i).toNat)
  case atStart => exact ⟨0, _, Nat.zero_le _, rfl, (rfl : runA (fun i => (F i).tp fl) n cl 0 = .ok [(true, true)]), hR0⟩
  case round =>
    clear hR0
    obtain ⟨k, rs, hk, rfl, hA, hI⟩ := hrel
    by_cases hlt : k < n
    · obtain ⟨bb, off, rfl, hbb, hc⟩ := hr.at_ (by omega)
      have hki : (k : Int) < (n : Int) := by omega
      have hcs := hc k hlt
      obtain ⟨p, hpk⟩ := runP_le hsE k (by omega)
      have hln := runA_len hpk hA.out
      have hopl := (runP_op hpk).1
      obtain ⟨a, b, r, rfl⟩ : ∃ a b r, rs = (a, b) :: r := by
        cases rs with
        | nil => simp at hln
        | cons x r => exact ⟨x.1, x.2, r, rfl⟩
      obtain ⟨g, oc, rfl⟩ : ∃ g oc, u5 = .slice (some ⟨g, 0, none⟩) ((a, b) :: r).length oc := by
        rcases hI.out.row.2 with ⟨hv, h0⟩ | ⟨g, cp, cur, hv, _⟩
        · cases h0
        · exact ⟨g, cp, hv⟩
      have hcap : ((a, b) :: r).length ≤ oc := by
        rcases hI.out.row.2 with ⟨hv, _⟩ | ⟨g', cap', cur, hv, _, _, hn', _⟩
        · cases hv
        · cases hv; exact hn'
      have hst := runA_step hA.out
      have hI1 := hI.out.below (bel1 wr (.cells #[.int .i64 (F k).k, .int .u8 ((F k).b : Nat), .int .u64 ((F k).a0 : Nat), .int .u64 ((F k).a1 : Nat), .int .u64 ((F k).a2 : Nat), .int .u64 ((F k).a3 : Nat), .bool (F k).nt, .int .i64 (F k).l, .int .i64 (F k).m, .bool (F k).lz, .int .i64 (F k).t] 42))
      have hI2 := hI1.below (bel1 (wr.alloc (.cells #[.int .i64 (F k).k, .int .u8 ((F k).b : Nat), .int .u64 ((F k).a0 : Nat), .int .u64 ((F k).a1 : Nat), .int .u64 ((F k).a2 : Nat), .int .u64 ((F k).a3 : Nat), .bool (F k).nt, .int .i64 (F k).l, .int .i64 (F k).m, .bool (F k).lz, .int .i64 (F k).t] 42)) (.cells #[.bool a, .bool b] 83))
      have t0 : (wr.alloc (.cells #[.int .i64 (F k).k, .int .u8 ((F k).b : Nat), .int .u64 ((F k).a0 : Nat), .int .u64 ((F k).a1 : Nat), .int .u64 ((F k).a2 : Nat), .int .u64 ((F k).a3 : Nat), .bool (F k).nt, .int .i64 (F k).l, .int .i64 (F k).m, .bool (F k).lz, .int .i64 (F k).t] 42)).cell? ⟨g, r.length * 2, none⟩ = some (.bool a) := by
        rw [hI1.row.cellAt _ (by simp), rmC_cons, List.getElem?_append_right (by rw [rmC_len]; omega), rmC_len]
        simp [rmL]
      have t1 : (wr.alloc (.cells #[.int .i64 (F k).k, .int .u8 ((F k).b : Nat), .int .u64 ((F k).a0 : Nat), .int .u64 ((F k).a1 : Nat), .int .u64 ((F k).a2 : Nat), .int .u64 ((F k).a3 : Nat), .bool (F k).nt, .int .i64 (F k).l, .int .i64 (F k).m, .bool (F k).lz, .int .i64 (F k).t] 42)).cell? ⟨g, r.length * 2 + 1, none⟩ = some (.bool b) := by
        rw [hI1.row.cellAt _ (by simp; omega), rmC_cons, List.getElem?_append_right (by rw [rmC_len]; omega), rmC_len]
        simp [rmL]
      obtain ⟨c0, c1, c2, c3, c4, c5, c6, c7, c8, c9, c10⟩ := hcs
      rw [← hI.out.bel.cell (p := ⟨bb, off + k * 11, none⟩) hbb] at c0
      rw [← hI.out.bel.cell (p := ⟨bb, off + k * 11 + 1, none⟩) hbb] at c1
      rw [← hI.out.bel.cell (p := ⟨bb, off + k * 11 + 2, none⟩) hbb] at c2
      rw [← hI.out.bel.cell (p := ⟨bb, off + k * 11 + 3, none⟩) hbb] at c3
      rw [← hI.out.bel.cell (p := ⟨bb, off + k * 11 + 4, none⟩) hbb] at c4
      rw [← hI.out.bel.cell (p := ⟨bb, off + k * 11 + 5, none⟩) hbb] at c5
      rw [← hI.out.bel.cell (p := ⟨bb, off + k * 11 + 6, none⟩) hbb] at c6
      rw [← hI.out.bel.cell (p := ⟨bb, off + k * 11 + 7, none⟩) hbb] at c7
      rw [← hI.out.bel.cell (p := ⟨bb, off + k * 11 + 8, none⟩) hbb] at c8
      rw [← hI.out.bel.cell (p := ⟨bb, off + k * 11 + 9, none⟩) hbb] at c9
      rw [← hI.out.bel.cell (p := ⟨bb, off + k * 11 + 10, none⟩) hbb] at c10
      have hr2 := hr.below hI2.bel
      have hcc : ((wr.alloc (.cells #[.int .i64 (F k).k, .int .u8 ((F k).b : Nat), .int .u64 ((F k).a0 : Nat), .int .u64 ((F k).a1 : Nat), .int .u64 ((F k).a2 : Nat), .int .u64 ((F k).a3 : Nat), .bool (F k).nt, .int .i64 (F k).l, .int .i64 (F k).m, .bool (F k).lz, .int .i64 (F k).t] 42)).alloc (.cells #[.bool a, .bool b] 83)).cell? ⟨cb, k, none⟩ = some (.int .i64 (cl k)) := by
        rw [hI2.bel.cell (p := ⟨cb, k, none⟩) hcb.lt]
        exact hcb.cell k (by simp [clC, hlt])
      have kT : Cl ((wr.alloc (.cells #[.int .i64 (F k).k, .int .u8 ((F k).b : Nat), .int .u64 ((F k).a0 : Nat), .int .u64 ((F k).a1 : Nat), .int .u64 ((F k).a2 : Nat), .int .u64 ((F k).a3 : Nat), .bool (F k).nt, .int .i64 (F k).l, .int .i64 (F k).m, .bool (F k).lz, .int .i64 (F k).t] 42)).alloc (.cells #[.bool a, .bool b] 83)) wr.heap.size 42 [.int .i64 (F k).k, .int .u8 ((F k).b : Nat), .int .u64 ((F k).a0 : Nat), .int .u64 ((F k).a1 : Nat), .int .u64 ((F k).a2 : Nat), .int .u64 ((F k).a3 : Nat), .bool (F k).nt, .int .i64 (F k).l, .int .i64 (F k).m, .bool (F k).lz, .int .i64 (F k).t] := (Cl.new wr 42 [.int .i64 (F k).k, .int .u8 ((F k).b : Nat), .int .u64 ((F k).a0 : Nat), .int .u64 ((F k).a1 : Nat), .int .u64 ((F k).a2 : Nat), .int .u64 ((F k).a3 : Nat), .bool (F k).nt, .int .i64 (F k).l, .int .i64 (F k).m, .bool (F k).lz, .int .i64 (F k).t]).alloc _
      have kH : Cl ((wr.alloc (.cells #[.int .i64 (F k).k, .int .u8 ((F k).b : Nat), .int .u64 ((F k).a0 : Nat), .int .u64 ((F k).a1 : Nat), .int .u64 ((F k).a2 : Nat), .int .u64 ((F k).a3 : Nat), .bool (F k).nt, .int .i64 (F k).l, .int .i64 (F k).m, .bool (F k).lz, .int .i64 (F k).t] 42)).alloc (.cells #[.bool a, .bool b] 83)) (wr.heap.size + 1) 83 [.bool a, .bool b] := by
        have := Cl.new (wr.alloc (.cells #[.int .i64 (F k).k, .int .u8 ((F k).b : Nat), .int .u64 ((F k).a0 : Nat), .int .u64 ((F k).a1 : Nat), .int .u64 ((F k).a2 : Nat), .int .u64 ((F k).a3 : Nat), .bool (F k).nt, .int .i64 (F k).l, .int .i64 (F k).m, .bool (F k).lz, .int .i64 (F k).t] 42)) 83 [.bool a, .bool b]
        rw [World.size_alloc] at this
        exact this
      have HB2 : Hid (Below w.heap.size w ((wr.alloc (.cells #[.int .i64 (F k).k, .int .u8 ((F k).b : Nat), .int .u64 ((F k).a0 : Nat), .int .u64 ((F k).a1 : Nat), .int .u64 ((F k).a2 : Nat), .int .u64 ((F k).a3 : Nat), .bool (F k).nt, .int .i64 (F k).l, .int .i64 (F k).m, .bool (F k).lz, .int .i64 (F k).t] 42)).alloc (.cells #[.bool a, .bool b] 83))) := hI2.bel
      have hF46 := isFirst_any (some ⟨bb, off, none⟩) n cap F fl ((wr.alloc (.cells #[.int .i64 (F k).k, .int .u8 ((F k).b : Nat), .int .u64 ((F k).a0 : Nat), .int .u64 ((F k).a1 : Nat), .int .u64 ((F k).a2 : Nat), .int .u64 ((F k).a3 : Nat), .bool (F k).nt, .int .i64 (F k).l, .int .i64 (F k).m, .bool (F k).lz, .int .i64 (F k).t] 42)).alloc (.cells #[.bool a, .bool b] 83)) hr2 hlt hn
      have hF48 := isLast_any (some ⟨bb, off, none⟩) n cap F fl ((wr.alloc (.cells #[.int .i64 (F k).k, .int .u8 ((F k).b : Nat), .int .u64 ((F k).a0 : Nat), .int .u64 ((F k).a1 : Nat), .int .u64 ((F k).a2 : Nat), .int .u64 ((F k).a3 : Nat), .bool (F k).nt, .int .i64 (F k).l, .int .i64 (F k).m, .bool (F k).lz, .int .i64 (F k).t] 42)).alloc (.cells #[.bool a, .bool b] 83)) hr2 hlt hn
      obtain ⟨L, hL⟩ : ∃ L, ((a, b) :: r).length = L := ⟨_, rfl⟩
      obtain ⟨q, hq⟩ : ∃ q, r.length = q := ⟨_, rfl⟩
      have hLq : L = q + 1 := by rw [← hL, ← hq]; rfl
      have hLn : L ≤ 3001 := by rw [← hL]; omega
      rw [hL] at hcap
      rw [hq] at t0 t1
      have wq : IntKind.i64.wrap ((L : Int) - 1) = (q : Nat) := by rw [IntKind.wrap_i64]; omega
      have hql : (q : Int) < (L : Int) := by omega
      have hsl := fun W => slice_rm (some ⟨g, 0, none⟩) L oc q (by omega) W
      have HIp : Hid (RM w r (.slice (some ⟨g, 0, none⟩) q oc) ((wr.alloc (.cells #[.int .i64 (F k).k, .int .u8 ((F k).b : Nat), .int .u64 ((F k).a0 : Nat), .int .u64 ((F k).a1 : Nat), .int .u64 ((F k).a2 : Nat), .int .u64 ((F k).a3 : Nat), .bool (F k).nt, .int .i64 (F k).l, .int .i64 (F k).m, .bool (F k).lz, .int .i64 (F k).t] 42)).alloc (.cells #[.bool a, .bool b] 83))) := ⟨hI2.bel, by
        have hrw := hI2.row
        rw [rmC_cons] at hrw
        rw [← hq]
        exact ownsRow_pop (rmC_len r) hrw⟩
      have HI2 : Hid (RM w ((a, b) :: r) (.slice (some ⟨g, 0, none⟩) L oc) ((wr.alloc (.cells #[.int .i64 (F k).k, .int .u8 ((F k).b : Nat), .int .u64 ((F k).a0 : Nat), .int .u64 ((F k).a1 : Nat), .int .u64 ((F k).a2 : Nat), .int .u64 ((F k).a3 : Nat), .bool (F k).nt, .int .i64 (F k).l, .int .i64 (F k).m, .bool (F k).lz, .int .i64 (F k).t] 42)).alloc (.cells #[.bool a, .bool b] 83))) := by rw [← hL]; exact hI2
      rw [hL]
      clear hLq hq
      unfold stepA at hst
      have hXk : ((fun i => (F i).tp fl) k).k = (F k).k := rfl
      have hXt : ((fun i => (F i).tp fl) k).t = (F k).t := rfl
      simp only [List.headD_cons, List.tail_cons, hXk, hXt] at hst
      have k0 := kT.cell 0 rfl
      have k10 := kT.cell 10 rfl
      have m0 := kH.cell 0 rfl
      have m1 := kH.cell 1 rfl
      cases k5 : ((F k).k == 5) with
      | true =>
        have k4 : ((F k).k == 4) = false := by simp at k5 ⊢; omega
        rw [if_neg (by simpa using k4), if_pos (by simpa using k5)] at hst
        have HS : Hid (runA (fun i => (F i).tp fl) n cl (k + 1) = .ok r) := hst
        clear hst hI hI1 hI2 hr2 hcc hF46 hF48 kT kH hr hc hA hpk hsE hcl hcb HI2
        generalize F k = x at *
        go_wp2_with fail
        go_roundw
        case rel => exact ⟨k + 1, _, by omega, by go_num, HS, HIp⟩
        case measure => simp [intOf]; omega
      | false =>
      cases k4 : ((F k).k == 4) with
      | true =>
        obtain ⟨c, hc1, hc2⟩ := hcl k hlt (by show (F k).k = 4; simpa using k4)
        rw [if_pos (by simpa using k4), hc1, Int.toNat_natCast] at hst
        rw [hc1] at hcc
        have hci : (c : Int) < (n : Int) := by omega
        obtain ⟨i0, hi0, hz0, hz1, hz2⟩ := info_parts b_room
        clear hF46 hF48 hI hI1 kT hA hpk hsE hcl hcb HIp hc1
        go_upto_region 8 with fail
        clear c0 c1 c2 c3 c4 c5 c6 c7 c8 c9 c10 t0 t1
        generalize (wr.alloc (.cells #[.int .i64 (F k).k, .int .u8 ((F k).b : Nat), .int .u64 ((F k).a0 : Nat), .int .u64 ((F k).a1 : Nat), .int .u64 ((F k).a2 : Nat), .int .u64 ((F k).a3 : Nat), .bool (F k).nt, .int .i64 (F k).l, .int .i64 (F k).m, .bool (F k).lz, .int .i64 (F k).t] 42)).alloc (.cells #[.bool a, .bool b] 83) = V at *
        have hF46 : ∀ u : World, Calls Try.prog 46 #[.slice (some ⟨bb, off, none⟩) n cap, .int .i64 (k : Nat)] (near V u) fun e w' => e = .returned (.bool (fstA (fun i => (F i).tp fl) k)) ∧ ∃ u' : World, w' = near V u' := fun u => (isFirst_any (some ⟨bb, off, none⟩) n cap F fl (near V u) (hr2.below (near_below V u)) hlt hn).mono fun _ _ h => ⟨h.1, u, h.2.symm⟩
        have hF47 : ∀ u : World, Calls Try.prog 47 #[.slice (some ⟨bb, off, none⟩) n cap, .int .i64 (c : Nat)] (near V u) fun e w' => e = .returned (.bool (repA (fun i => (F i).tp fl) n c)) ∧ ∃ u' : World, w' = near V u' := fun u => (hasRepeat_any (some ⟨bb, off, none⟩) n cap F fl (near V u) (hr2.below (near_below V u)) hc2 hn).mono fun _ _ h => ⟨h.1, u, h.2.symm⟩
        have hF48 : ∀ u : World, Calls Try.prog 48 #[.slice (some ⟨bb, off, none⟩) n cap, .int .i64 (c : Nat)] (near V u) fun e w' => e = .returned (.bool (lstA (fun i => (F i).tp fl) n c)) ∧ ∃ u' : World, w' = near V u' := fun u => (isLast_any (some ⟨bb, off, none⟩) n cap F fl (near V u) (hr2.below (near_below V u)) hc2 hn).mono fun _ _ h => ⟨h.1, u, h.2.symm⟩
        generalize fstA (fun i => (F i).tp fl) k = f1 at *
        generalize repA (fun i => (F i).tp fl) n c = f2 at *
        generalize lstA (fun i => (F i).tp fl) n c = f3 at *
        have p0 := Near.cell (W := V) m0 kH.lt
        have p1 := Near.cell (W := V) m1 kH.lt
        have HX : Hid (∀ (u : World) x y g2 c2 w2, w2.ownsRow w.heap.size 83 2 (.slice (some ⟨g2, 0, none⟩) (L + 1) c2) (L + 1) (rmC ((a, b) :: r) ++ rmL (x, y)) → ((near V u).alloc (.cells #[.bool x, .bool y] 83)).grownBy w2 (Value.slice (some ⟨g, 0, none⟩) L oc).ownBlock → Hid (RM w ((x, y) :: (a, b) :: r) (.slice (some ⟨g2, 0, none⟩) (L + 1) c2) w2)) := fun u x y g2 c2 w2 ho hg => by
          have hv := (HI2.out.below (near_below V u)).below (bel1 (near V u) (.cells #[.bool x, .bool y] 83))
          exact ⟨hv.bel.grown hg hv.bel.size fun q hq => (own_block hv.row hq).1, by
            rw [rmC_cons]
            show w2.ownsRow _ _ _ _ (((a, b) :: r).length + 1) _
            rw [hL]
            exact ho⟩
        have HRW : Hid (∀ (u : World) x y, ((near V u).alloc (.cells #[.bool x, .bool y] 83)).ownsRow w.heap.size 83 2 (.slice (some ⟨g, 0, none⟩) L oc) L (rmC ((a, b) :: r)) ∧ w.heap.size ≤ ((near V u).alloc (.cells #[.bool x, .bool y] 83)).heap.size ∧ (∀ j v, (rmL (x, y))[j]? = some v → ((near V u).alloc (.cells #[.bool x, .bool y] 83)).cell? (Addr.add ⟨(near V u).heap.size, 0, none⟩ j) = some v) ∧ ∀ v ∈ rmL (x, y), v.oneCell' = true) := fun u x y => by
          have hv := (HI2.out.below (near_below V u)).below (bel1 (near V u) (.cells #[.bool x, .bool y] 83))
          refine ⟨?_, hv.bel.size, new_cells (near V u) 83 [.bool x, .bool y], fun v hu => ?_⟩
          · have := hv.row
            rw [hL] at this
            exact this
          · simp only [rmL, List.mem_cons, List.not_mem_nil, or_false] at hu
            rcases hu with rfl | rfl <;> rfl
        clear hI2 hr2 kH HB2 HI2 hr hc hL hsl m0 m1
        generalize F k = x at *
        have HRA : Hid (runA (fun i => (F i).tp fl) n cl (k + 1) = .ok ((a && f1 && !f2, b && f3) :: (a, b) :: r)) := hst
        clear hst
        go_wp2_with fail
        cases a with
        | false =>
          cases b with
          | false =>
            refine wp_region_quiet_tail1 (v0 := .slice (some ⟨g, 0, none⟩) L oc) 22 (fun w' => ∃ u : World, w' = near V u) (by kernel_rfl) (by kernel_rfl) (Or.inl ⟨by rfl, fun w => by go_simp⟩) (fun _ _ _ h => h) (Near.start _) ?_
            simp only [List.take_succ_cons, List.take_zero, List.drop_succ_cons, List.drop_zero, Nat.reduceSub, Act.put, List.setIfInBounds_toArray, List.set_cons_succ, List.set_cons_zero]
            repeat (go_big_quiet_step (first | (go_at_call 46; exact hF46 _) | (go_at_call 47; exact hF47 _) | (go_at_call 48; exact hF48 _)))
            refine wpQuiet_nil ?_
            rintro _ ⟨u, rfl⟩
            obtain ⟨q1, q2, q3, q4⟩ := HRW.out u false false
            have HXu := HX.out u false false
            clear HRW HX hF46 hF47 hF48 p0 p1
            generalize near V u = N at *
            go_wp2_with (at_builtin; refine wpList_append_lies _ rfl _ _ 84 rfl w.heap.size 83 i0 _ 2 2 Try.underlying84 hi0 hz0 hz1 hz2 rfl (by decide) _ _ _ rfl q1 ⟨N.heap.size, 0, none⟩ 1 1 (rmL (false, false)) rfl rfl q3 q4 (by decide) (by unfold maxLen; omega) (by omega) q2 _ rfl ?_; intro g9 c9 w4 hown hgr _ _; have HY := HXu g9 c9 w4 hown hgr; clear hown hgr HXu)
            go_roundw
            case rel => exact ⟨k + 1, _, by omega, by go_num, HRA, HY⟩
            case measure => simp [intOf]; omega
          | true =>
            cases f3 with
            | false =>
              refine wp_region_quiet_tail1 (v0 := .slice (some ⟨g, 0, none⟩) L oc) 22 (fun w' => ∃ u : World, w' = near V u) (by kernel_rfl) (by kernel_rfl) (Or.inl ⟨by rfl, fun w => by go_simp⟩) (fun _ _ _ h => h) (Near.start _) ?_
              simp only [List.take_succ_cons, List.take_zero, List.drop_succ_cons, List.drop_zero, Nat.reduceSub, Act.put, List.setIfInBounds_toArray, List.set_cons_succ, List.set_cons_zero]
              repeat (go_big_quiet_step (first | (go_at_call 46; exact hF46 _) | (go_at_call 47; exact hF47 _) | (go_at_call 48; exact hF48 _)))
              refine wpQuiet_nil ?_
              rintro _ ⟨u, rfl⟩
              obtain ⟨q1, q2, q3, q4⟩ := HRW.out u false false
              have HXu := HX.out u false false
              clear HRW HX hF46 hF47 hF48 p0 p1
              generalize near V u = N at *
              go_wp2_with (at_builtin; refine wpList_append_lies _ rfl _ _ 84 rfl w.heap.size 83 i0 _ 2 2 Try.underlying84 hi0 hz0 hz1 hz2 rfl (by decide) _ _ _ rfl q1 ⟨N.heap.size, 0, none⟩ 1 1 (rmL (false, false)) rfl rfl q3 q4 (by decide) (by unfold maxLen; omega) (by omega) q2 _ rfl ?_; intro g9 c9 w4 hown hgr _ _; have HY := HXu g9 c9 w4 hown hgr; clear hown hgr HXu)
              go_roundw
              case rel => exact ⟨k + 1, _, by omega, by go_num, HRA, HY⟩
              case measure => simp [intOf]; omega
            | true =>
              refine wp_region_quiet_tail1 (v0 := .slice (some ⟨g, 0, none⟩) L oc) 22 (fun w' => ∃ u : World, w' = near V u) (by kernel_rfl) (by kernel_rfl) (Or.inl ⟨by rfl, fun w => by go_simp⟩) (fun _ _ _ h => h) (Near.start _) ?_
              simp only [List.take_succ_cons, List.take_zero, List.drop_succ_cons, List.drop_zero, Nat.reduceSub, Act.put, List.setIfInBounds_toArray, List.set_cons_succ, List.set_cons_zero]
              repeat (go_big_quiet_step (first | (go_at_call 46; exact hF46 _) | (go_at_call 47; exact hF47 _) | (go_at_call 48; exact hF48 _)))
              refine wpQuiet_nil ?_
              rintro _ ⟨u, rfl⟩
              obtain ⟨q1, q2, q3, q4⟩ := HRW.out u false true
              have HXu := HX.out u false true
              clear HRW HX hF46 hF47 hF48 p0 p1
              generalize near V u = N at *
              go_wp2_with (at_builtin; refine wpList_append_lies _ rfl _ _ 84 rfl w.heap.size 83 i0 _ 2 2 Try.underlying84 hi0 hz0 hz1 hz2 rfl (by decide) _ _ _ rfl q1 ⟨N.heap.size, 0, none⟩ 1 1 (rmL (false, true)) rfl rfl q3 q4 (by decide) (by unfold maxLen; omega) (by omega) q2 _ rfl ?_; intro g9 c9 w4 hown hgr _ _; have HY := HXu g9 c9 w4 hown hgr; clear hown hgr HXu)
              go_roundw
              case rel => exact ⟨k + 1, _, by omega, by go_num, HRA, HY⟩
              case measure => simp [intOf]; omega
        | true =>
          cases f1 with
          | false =>
            cases b with
            | false =>
              refine wp_region_quiet_tail1 (v0 := .slice (some ⟨g, 0, none⟩) L oc) 22 (fun w' => ∃ u : World, w' = near V u) (by kernel_rfl) (by kernel_rfl) (Or.inl ⟨by rfl, fun w => by go_simp⟩) (fun _ _ _ h => h) (Near.start _) ?_
              simp only [List.take_succ_cons, List.take_zero, List.drop_succ_cons, List.drop_zero, Nat.reduceSub, Act.put, List.setIfInBounds_toArray, List.set_cons_succ, List.set_cons_zero]
              repeat (go_big_quiet_step (first | (go_at_call 46; exact hF46 _) | (go_at_call 47; exact hF47 _) | (go_at_call 48; exact hF48 _)))
              refine wpQuiet_nil ?_
              rintro _ ⟨u, rfl⟩
              obtain ⟨q1, q2, q3, q4⟩ := HRW.out u false false
              have HXu := HX.out u false false
              clear HRW HX hF46 hF47 hF48 p0 p1
              generalize near V u = N at *
              go_wp2_with (at_builtin; refine wpList_append_lies _ rfl _ _ 84 rfl w.heap.size 83 i0 _ 2 2 Try.underlying84 hi0 hz0 hz1 hz2 rfl (by decide) _ _ _ rfl q1 ⟨N.heap.size, 0, none⟩ 1 1 (rmL (false, false)) rfl rfl q3 q4 (by decide) (by unfold maxLen; omega) (by omega) q2 _ rfl ?_; intro g9 c9 w4 hown hgr _ _; have HY := HXu g9 c9 w4 hown hgr; clear hown hgr HXu)
              go_roundw
              case rel => exact ⟨k + 1, _, by omega, by go_num, HRA, HY⟩
              case measure => simp [intOf]; omega
            | true =>
              cases f3 with
              | false =>
                refine wp_region_quiet_tail1 (v0 := .slice (some ⟨g, 0, none⟩) L oc) 22 (fun w' => ∃ u : World, w' = near V u) (by kernel_rfl) (by kernel_rfl) (Or.inl ⟨by rfl, fun w => by go_simp⟩) (fun _ _ _ h => h) (Near.start _) ?_
                simp only [List.take_succ_cons, List.take_zero, List.drop_succ_cons, List.drop_zero, Nat.reduceSub, Act.put, List.setIfInBounds_toArray, List.set_cons_succ, List.set_cons_zero]
                repeat (go_big_quiet_step (first | (go_at_call 46; exact hF46 _) | (go_at_call 47; exact hF47 _) | (go_at_call 48; exact hF48 _)))
                refine wpQuiet_nil ?_
                rintro _ ⟨u, rfl⟩
                obtain ⟨q1, q2, q3, q4⟩ := HRW.out u false false
                have HXu := HX.out u false false
                clear HRW HX hF46 hF47 hF48 p0 p1
                generalize near V u = N at *
                go_wp2_with (at_builtin; refine wpList_append_lies _ rfl _ _ 84 rfl w.heap.size 83 i0 _ 2 2 Try.underlying84 hi0 hz0 hz1 hz2 rfl (by decide) _ _ _ rfl q1 ⟨N.heap.size, 0, none⟩ 1 1 (rmL (false, false)) rfl rfl q3 q4 (by decide) (by unfold maxLen; omega) (by omega) q2 _ rfl ?_; intro g9 c9 w4 hown hgr _ _; have HY := HXu g9 c9 w4 hown hgr; clear hown hgr HXu)
                go_roundw
                case rel => exact ⟨k + 1, _, by omega, by go_num, HRA, HY⟩
                case measure => simp [intOf]; omega
              | true =>
                refine wp_region_quiet_tail1 (v0 := .slice (some ⟨g, 0, none⟩) L oc) 22 (fun w' => ∃ u : World, w' = near V u) (by kernel_rfl) (by kernel_rfl) (Or.inl ⟨by rfl, fun w => by go_simp⟩) (fun _ _ _ h => h) (Near.start _) ?_
                simp only [List.take_succ_cons, List.take_zero, List.drop_succ_cons, List.drop_zero, Nat.reduceSub, Act.put, List.setIfInBounds_toArray, List.set_cons_succ, List.set_cons_zero]
                repeat (go_big_quiet_step (first | (go_at_call 46; exact hF46 _) | (go_at_call 47; exact hF47 _) | (go_at_call 48; exact hF48 _)))
                refine wpQuiet_nil ?_
                rintro _ ⟨u, rfl⟩
                obtain ⟨q1, q2, q3, q4⟩ := HRW.out u false true
                have HXu := HX.out u false true
                clear HRW HX hF46 hF47 hF48 p0 p1
                generalize near V u = N at *
                go_wp2_with (at_builtin; refine wpList_append_lies _ rfl _ _ 84 rfl w.heap.size 83 i0 _ 2 2 Try.underlying84 hi0 hz0 hz1 hz2 rfl (by decide) _ _ _ rfl q1 ⟨N.heap.size, 0, none⟩ 1 1 (rmL (false, true)) rfl rfl q3 q4 (by decide) (by unfold maxLen; omega) (by omega) q2 _ rfl ?_; intro g9 c9 w4 hown hgr _ _; have HY := HXu g9 c9 w4 hown hgr; clear hown hgr HXu)
                go_roundw
                case rel => exact ⟨k + 1, _, by omega, by go_num, HRA, HY⟩
                case measure => simp [intOf]; omega
          | true =>
            cases f2 with
            | false =>
              cases b with
              | false =>
                refine wp_region_quiet_tail1 (v0 := .slice (some ⟨g, 0, none⟩) L oc) 22 (fun w' => ∃ u : World, w' = near V u) (by kernel_rfl) (by kernel_rfl) (Or.inl ⟨by rfl, fun w => by go_simp⟩) (fun _ _ _ h => h) (Near.start _) ?_
                simp only [List.take_succ_cons, List.take_zero, List.drop_succ_cons, List.drop_zero, Nat.reduceSub, Act.put, List.setIfInBounds_toArray, List.set_cons_succ, List.set_cons_zero]
                repeat (go_big_quiet_step (first | (go_at_call 46; exact hF46 _) | (go_at_call 47; exact hF47 _) | (go_at_call 48; exact hF48 _)))
                refine wpQuiet_nil ?_
                rintro _ ⟨u, rfl⟩
                obtain ⟨q1, q2, q3, q4⟩ := HRW.out u true false
                have HXu := HX.out u true false
                clear HRW HX hF46 hF47 hF48 p0 p1
                generalize near V u = N at *
                go_wp2_with (at_builtin; refine wpList_append_lies _ rfl _ _ 84 rfl w.heap.size 83 i0 _ 2 2 Try.underlying84 hi0 hz0 hz1 hz2 rfl (by decide) _ _ _ rfl q1 ⟨N.heap.size, 0, none⟩ 1 1 (rmL (true, false)) rfl rfl q3 q4 (by decide) (by unfold maxLen; omega) (by omega) q2 _ rfl ?_; intro g9 c9 w4 hown hgr _ _; have HY := HXu g9 c9 w4 hown hgr; clear hown hgr HXu)
                go_roundw
                case rel => exact ⟨k + 1, _, by omega, by go_num, HRA, HY⟩
                case measure => simp [intOf]; omega
              | true =>
                cases f3 with
                | false =>
                  refine wp_region_quiet_tail1 (v0 := .slice (some ⟨g, 0, none⟩) L oc) 22 (fun w' => ∃ u : World, w' = near V u) (by kernel_rfl) (by kernel_rfl) (Or.inl ⟨by rfl, fun w => by go_simp⟩) (fun _ _ _ h => h) (Near.start _) ?_
                  simp only [List.take_succ_cons, List.take_zero, List.drop_succ_cons, List.drop_zero, Nat.reduceSub, Act.put, List.setIfInBounds_toArray, List.set_cons_succ, List.set_cons_zero]
                  repeat (go_big_quiet_step (first | (go_at_call 46; exact hF46 _) | (go_at_call 47; exact hF47 _) | (go_at_call 48; exact hF48 _)))
                  refine wpQuiet_nil ?_
                  rintro _ ⟨u, rfl⟩
                  obtain ⟨q1, q2, q3, q4⟩ := HRW.out u true false
                  have HXu := HX.out u true false
                  clear HRW HX hF46 hF47 hF48 p0 p1
                  generalize near V u = N at *
                  go_wp2_with (at_builtin; refine wpList_append_lies _ rfl _ _ 84 rfl w.heap.size 83 i0 _ 2 2 Try.underlying84 hi0 hz0 hz1 hz2 rfl (by decide) _ _ _ rfl q1 ⟨N.heap.size, 0, none⟩ 1 1 (rmL (true, false)) rfl rfl q3 q4 (by decide) (by unfold maxLen; omega) (by omega) q2 _ rfl ?_; intro g9 c9 w4 hown hgr _ _; have HY := HXu g9 c9 w4 hown hgr; clear hown hgr HXu)
                  go_roundw
                  case rel => exact ⟨k + 1, _, by omega, by go_num, HRA, HY⟩
                  case measure => simp [intOf]; omega
                | true =>
                  refine wp_region_quiet_tail1 (v0 := .slice (some ⟨g, 0, none⟩) L oc) 22 (fun w' => ∃ u : World, w' = near V u) (by kernel_rfl) (by kernel_rfl) (Or.inl ⟨by rfl, fun w => by go_simp⟩) (fun _ _ _ h => h) (Near.start _) ?_
                  simp only [List.take_succ_cons, List.take_zero, List.drop_succ_cons, List.drop_zero, Nat.reduceSub, Act.put, List.setIfInBounds_toArray, List.set_cons_succ, List.set_cons_zero]
                  repeat (go_big_quiet_step (first | (go_at_call 46; exact hF46 _) | (go_at_call 47; exact hF47 _) | (go_at_call 48; exact hF48 _)))
                  refine wpQuiet_nil ?_
                  rintro _ ⟨u, rfl⟩
                  obtain ⟨q1, q2, q3, q4⟩ := HRW.out u true true
                  have HXu := HX.out u true true
                  clear HRW HX hF46 hF47 hF48 p0 p1
                  generalize near V u = N at *
                  go_wp2_with (at_builtin; refine wpList_append_lies _ rfl _ _ 84 rfl w.heap.size 83 i0 _ 2 2 Try.underlying84 hi0 hz0 hz1 hz2 rfl (by decide) _ _ _ rfl q1 ⟨N.heap.size, 0, none⟩ 1 1 (rmL (true, true)) rfl rfl q3 q4 (by decide) (by unfold maxLen; omega) (by omega) q2 _ rfl ?_; intro g9 c9 w4 hown hgr _ _; have HY := HXu g9 c9 w4 hown hgr; clear hown hgr HXu)
                  go_roundw
                  case rel => exact ⟨k + 1, _, by omega, by go_num, HRA, HY⟩
                  case measure => simp [intOf]; omega
            | true =>
              cases b with
              | false =>
                refine wp_region_quiet_tail1 (v0 := .slice (some ⟨g, 0, none⟩) L oc) 22 (fun w' => ∃ u : World, w' = near V u) (by kernel_rfl) (by kernel_rfl) (Or.inl ⟨by rfl, fun w => by go_simp⟩) (fun _ _ _ h => h) (Near.start _) ?_
                simp only [List.take_succ_cons, List.take_zero, List.drop_succ_cons, List.drop_zero, Nat.reduceSub, Act.put, List.setIfInBounds_toArray, List.set_cons_succ, List.set_cons_zero]
                repeat (go_big_quiet_step (first | (go_at_call 46; exact hF46 _) | (go_at_call 47; exact hF47 _) | (go_at_call 48; exact hF48 _)))
                refine wpQuiet_nil ?_
                rintro _ ⟨u, rfl⟩
                obtain ⟨q1, q2, q3, q4⟩ := HRW.out u false false
                have HXu := HX.out u false false
                clear HRW HX hF46 hF47 hF48 p0 p1
                generalize near V u = N at *
                go_wp2_with (at_builtin; refine wpList_append_lies _ rfl _ _ 84 rfl w.heap.size 83 i0 _ 2 2 Try.underlying84 hi0 hz0 hz1 hz2 rfl (by decide) _ _ _ rfl q1 ⟨N.heap.size, 0, none⟩ 1 1 (rmL (false, false)) rfl rfl q3 q4 (by decide) (by unfold maxLen; omega) (by omega) q2 _ rfl ?_; intro g9 c9 w4 hown hgr _ _; have HY := HXu g9 c9 w4 hown hgr; clear hown hgr HXu)
                go_roundw
                case rel => exact ⟨k + 1, _, by omega, by go_num, HRA, HY⟩
                case measure => simp [intOf]; omega
              | true =>
                cases f3 with
                | false =>
                  refine wp_region_quiet_tail1 (v0 := .slice (some ⟨g, 0, none⟩) L oc) 22 (fun w' => ∃ u : World, w' = near V u) (by kernel_rfl) (by kernel_rfl) (Or.inl ⟨by rfl, fun w => by go_simp⟩) (fun _ _ _ h => h) (Near.start _) ?_
                  simp only [List.take_succ_cons, List.take_zero, List.drop_succ_cons, List.drop_zero, Nat.reduceSub, Act.put, List.setIfInBounds_toArray, List.set_cons_succ, List.set_cons_zero]
                  repeat (go_big_quiet_step (first | (go_at_call 46; exact hF46 _) | (go_at_call 47; exact hF47 _) | (go_at_call 48; exact hF48 _)))
                  refine wpQuiet_nil ?_
                  rintro _ ⟨u, rfl⟩
                  obtain ⟨q1, q2, q3, q4⟩ := HRW.out u false false
                  have HXu := HX.out u false false
                  clear HRW HX hF46 hF47 hF48 p0 p1
                  generalize near V u = N at *
                  go_wp2_with (at_builtin; refine wpList_append_lies _ rfl _ _ 84 rfl w.heap.size 83 i0 _ 2 2 Try.underlying84 hi0 hz0 hz1 hz2 rfl (by decide) _ _ _ rfl q1 ⟨N.heap.size, 0, none⟩ 1 1 (rmL (false, false)) rfl rfl q3 q4 (by decide) (by unfold maxLen; omega) (by omega) q2 _ rfl ?_; intro g9 c9 w4 hown hgr _ _; have HY := HXu g9 c9 w4 hown hgr; clear hown hgr HXu)
                  go_roundw
                  case rel => exact ⟨k + 1, _, by omega, by go_num, HRA, HY⟩
                  case measure => simp [intOf]; omega
                | true =>
                  refine wp_region_quiet_tail1 (v0 := .slice (some ⟨g, 0, none⟩) L oc) 22 (fun w' => ∃ u : World, w' = near V u) (by kernel_rfl) (by kernel_rfl) (Or.inl ⟨by rfl, fun w => by go_simp⟩) (fun _ _ _ h => h) (Near.start _) ?_
                  simp only [List.take_succ_cons, List.take_zero, List.drop_succ_cons, List.drop_zero, Nat.reduceSub, Act.put, List.setIfInBounds_toArray, List.set_cons_succ, List.set_cons_zero]
                  repeat (go_big_quiet_step (first | (go_at_call 46; exact hF46 _) | (go_at_call 47; exact hF47 _) | (go_at_call 48; exact hF48 _)))
                  refine wpQuiet_nil ?_
                  rintro _ ⟨u, rfl⟩
                  obtain ⟨q1, q2, q3, q4⟩ := HRW.out u false true
                  have HXu := HX.out u false true
                  clear HRW HX hF46 hF47 hF48 p0 p1
                  generalize near V u = N at *
                  go_wp2_with (at_builtin; refine wpList_append_lies _ rfl _ _ 84 rfl w.heap.size 83 i0 _ 2 2 Try.underlying84 hi0 hz0 hz1 hz2 rfl (by decide) _ _ _ rfl q1 ⟨N.heap.size, 0, none⟩ 1 1 (rmL (false, true)) rfl rfl q3 q4 (by decide) (by unfold maxLen; omega) (by omega) q2 _ rfl ?_; intro g9 c9 w4 hown hgr _ _; have HY := HXu g9 c9 w4 hown hgr; clear hown hgr HXu)
                  go_roundw
                  case rel => exact ⟨k + 1, _, by omega, by go_num, HRA, HY⟩
                  case measure => simp [intOf]; omega
      | false =>
      rw [if_neg (by simpa using k4), if_neg (by simpa using k5)] at hst
      cases k8 : ((F k).k == 8) with
      | true =>
        rw [if_pos (by simpa using k8)] at hst
        have HE : (a && fstA (fun i => (F i).tp fl) k) = false → Hid (∀ W3, Below w.heap.size w W3 → RetI3 w (wrgA (fun i => (F i).tp fl) n cl) (.returned (.int .i64 (F k).t)) W3) := fun h W3 hb => by
          rw [if_neg (by rw [h]; decide)] at hst
          rw [wrg_err hst (by omega)]
          exact ⟨rfl, hb⟩
        have HS : (a && fstA (fun i => (F i).tp fl) k) = true → Hid (runA (fun i => (F i).tp fl) n cl (k + 1) = .ok ((a, b) :: r)) := fun h => by
          rw [if_pos h] at hst
          exact hst
        clear hst hI hI1 hI2 hr2 hcc hF48 kT kH hr hc hA hpk hsE hcl hcb HIp
        generalize fstA (fun i => (F i).tp fl) k = f1 at *
        generalize F k = x at *
        cases a with
        | false =>
          have HR := HE rfl
          clear HE HS
          go_wp2_with fail
          go_ret
          exact HR.out _ HB2.out
        | true =>
          cases f1 with
          | false =>
            have HR := HE rfl
            clear HE HS
            go_wp2_with fail
            refine hF46.mono ?_
            rintro e w3 ⟨rfl, rfl⟩
            go_wp2_with fail
            go_ret
            exact HR.out _ HB2.out
          | true =>
            have HS2 := HS rfl
            clear HE HS
            go_wp2_with fail
            refine hF46.mono ?_
            rintro e w3 ⟨rfl, rfl⟩
            go_wp2_with fail
            go_roundw
            case rel => exact ⟨k + 1, _, by omega, by go_num, HS2, HI2⟩
            case measure => simp [intOf]; omega
      | false =>
      rw [if_neg (by simpa using k8)] at hst
      cases k9 : ((F k).k == 9) with
      | true =>
        rw [if_pos (by simpa using k9)] at hst
        have HE : (b && lstA (fun i => (F i).tp fl) n k) = false → Hid (∀ W3, Below w.heap.size w W3 → RetI3 w (wrgA (fun i => (F i).tp fl) n cl) (.returned (.int .i64 (F k).t)) W3) := fun h W3 hb => by
          rw [if_neg (by rw [h]; decide)] at hst
          rw [wrg_err hst (by omega)]
          exact ⟨rfl, hb⟩
        have HS : (b && lstA (fun i => (F i).tp fl) n k) = true → Hid (runA (fun i => (F i).tp fl) n cl (k + 1) = .ok ((a, b) :: r)) := fun h => by
          rw [if_pos h] at hst
          exact hst
        clear hst hI hI1 hI2 hr2 hcc hF46 kT kH hr hc hA hpk hsE hcl hcb HIp
        generalize lstA (fun i => (F i).tp fl) n k = f1 at *
        generalize F k = x at *
        cases b with
        | false =>
          have HR := HE rfl
          clear HE HS
          go_wp2_with fail
          go_ret
          exact HR.out _ HB2.out
        | true =>
          cases f1 with
          | false =>
            have HR := HE rfl
            clear HE HS
            go_wp2_with fail
            refine hF48.mono ?_
            rintro e w3 ⟨rfl, rfl⟩
            go_wp2_with fail
            go_ret
            exact HR.out _ HB2.out
          | true =>
            have HS2 := HS rfl
            clear HE HS
            go_wp2_with fail
            refine hF48.mono ?_
            rintro e w3 ⟨rfl, rfl⟩
            go_wp2_with fail
            go_roundw
            case rel => exact ⟨k + 1, _, by omega, by go_num, HS2, HI2⟩
            case measure => simp [intOf]; omega
      | false =>
        rw [if_neg (by simpa using k9)] at hst
        have HS : Hid (runA (fun i => (F i).tp fl) n cl (k + 1) = .ok ((a, b) :: r)) := hst
        clear hst hI hI1 hI2 hr2 hcc hF46 hF48 kT kH hr hc hA hpk hsE hcl hcb HIp
        generalize F k = x at *
        go_wp2_with fail
        go_roundw
        case rel => exact ⟨k + 1, _, by omega, by go_num, HS, HI2⟩
        case measure => simp [intOf]; omega
    · obtain rfl : k = n := by omega
      have hki : ¬ (k : Int) < (k : Int) := by omega
      have hE : wrgA (fun i => (F i).tp fl) k cl = -1 := by unfold wrgA; rw [hA.out]
      have HR : Hid (RetI3 w (wrgA (fun i => (F i).tp fl) k cl) (.returned (.int .i64 (-1))) wr) := by rw [hE]; exact ⟨rfl, hI.out.bel⟩
      clear hr hI hA hsE hcl hcb hE
      go_wp2_with fail
      go_ret
      exact HR.out
end Go.Proofs.Ytlmmiicibjfcdaa
