/- Spans: the walk. -/
import Derived.Test.YtiiecppkabdkgabDoorSn
namespace Go.Proofs.YtiiecppkabdkgabDoor
open Go.RowKit Go.Shelf
attribute [local go_sem] Oper.semAt_some
set_option maxRecDepth 100000 in
set_option maxHeartbeats 4000000 in
theorem spans12_any (to_ : Option Addr) (m c : Nat) (F : Nat → Nd) (ao : Option Addr) (n cap : Nat) (mu : Bool) (f : Nat → Nat) (w : World) (ht : RdN w to_ m F) (hm : (m : Int) ≤ 9223372036854775807) (hF : ∀ i, i < m → wfN (F i)) (hr : RdB w ao n f) (hn : n ≤ 24) (hT : TabZ w) :
    Calls Tryd.prog 7 #[.agg #[.slice to_ m c], .bool mu, .slice ao n cap] w (RetB w (n + 1) (mTab f n mu F m)) := by
  obtain ⟨N, hNe⟩ : ∃ N, n + 1 = N := ⟨_, rfl⟩
  have hN : N ≤ 25 := by omega
  have hNi : (N : Int) ≤ 25 := by omega
  have hni2 : (n : Int) ≤ 24 := by omega
  have hpos := hT.lt
  have hmk : ∀ W, (Instr.makeSlice 31 (.int .i64 ((n : Int) + 1)) (.int .i64 ((n : Int) + 1))).run Tryd.prog W = .ok (.slice (some ⟨W.heap.size, 0, none⟩) N N) (W.alloc (.cells (vals (fun _ => .slice none 0 0) N).toArray 33)) := fun W => by
    have := make_any (P := Tryd.prog) N hN Tryd.underlying31 b_brow (by omega) rfl W
    rwa [show (N : Int) = (n : Int) + 1 by omega] at this
  have hmk2 : ∀ W, (Instr.makeSlice 33 (.int .i64 ((n : Int) + 1)) (.int .i64 ((n : Int) + 1))).run Tryd.prog W = .ok (.slice (some ⟨W.heap.size, 0, none⟩) N N) (W.alloc (.cells (bools (fun _ => false) N).toArray 4)) := fun W => by
    have := make_any (P := Tryd.prog) N hN Tryd.underlying33 b_bool (by omega) rfl W
    rwa [show (N : Int) = (n : Int) + 1 by omega] at this
  have hb0 := below2 w (.cells #[.slice to_ m c] 24) (.cells (vals (fun _ => .slice none 0 0) N).toArray 33)
  have kt : Cl ((w.alloc (.cells #[.slice to_ m c] 24)).alloc (.cells (vals (fun _ => .slice none 0 0) N).toArray 33)) w.heap.size 24 [.slice to_ m c] := (Cl.new w 24 [.slice to_ m c]).alloc _
  have k1 : Cl ((w.alloc (.cells #[.slice to_ m c] 24)).alloc (.cells (vals (fun _ => .slice none 0 0) N).toArray 33)) (w.heap.size + 1) 33 (vals (fun _ => .slice none 0 0) N) := by
    have := Cl.new (w.alloc (.cells #[.slice to_ m c] 24)) 33 (vals (fun _ => .slice none 0 0) N)
    simpa only [World.size_alloc] using this
  have HM : Hid (∀ W, Below w.heap.size w W → Calls Tryd.prog 15 #[.agg #[.slice to_ m c], pgV ao n cap mu 0 n] W (RetTab W N (mTab f n mu F m))) := fun W hW => by
    have := meant_any to_ m c F ao n cap mu 0 n f N W (ht.below hW) hm hF (hr.below hW) hn (Nat.le_refl _) (Nat.zero_le _) (by omega) (hT.below hW)
    have e : tSh 0 (mTab f n mu F m) = mTab f n mu F m := by funext i d; simp [tSh]
    rwa [e] at this
  rw [hNe]
  generalize mTab f n mu F m = T at *
  unfold pgV at HM
  have hT0 := hT.below hb0
  have hsz2 : ((w.alloc (.cells #[.slice to_ m c] 24)).alloc (.cells (vals (fun _ => .slice none 0 0) N).toArray 33)).heap.size = w.heap.size + 2 := by simp
  clear hF hr ht hm hT hNe
  refine (callsIn_wide (n := 5)).1 ?_
  refine callsIn_of_wp_marks Tryd.func7 rfl trivial ?_ rfl
  simp only [Tryd.ntmps7, List.size_toArray, List.length_cons, List.length_nil, Nat.reduceAdd, Nat.reduceSub, Array.replicate_succ, Array.replicate_zero, List.push_toArray, List.append_toArray, List.nil_append, List.cons_append]
  have hbb : Below w.heap.size w (((w.alloc (.cells #[.slice to_ m c] 24)).alloc (.cells (vals (fun _ => .slice none 0 0) N).toArray 33)).alloc (.cells #[.slice (some ⟨w.heap.size + 1, 0, none⟩) N N] 31)) := hb0.trans ((below1 _ _).mono hb0.size)
  have hbl := below1 ((w.alloc (.cells #[.slice to_ m c] 24)).alloc (.cells (vals (fun _ => .slice none 0 0) N).toArray 33)) (.cells #[.slice (some ⟨w.heap.size + 1, 0, none⟩) N N] 31)
  have dt := (kt.below hbl).cell 0 rfl
  have HM3 := HM.out _ hbb
  clear HM
  gi_wp2_with fail
  refine ⟨trivial, ?_⟩
  refine (callsIn_wide.2 HM3).mono ?_
  rintro e w5 ⟨tt, rfl, htab5, hb5⟩
  have I5 : SpI w N (w.heap.size + 2) (w.heap.size + 1) tt 0 T [] w5 := by
    have kn : Cl (((w.alloc (.cells #[.slice to_ m c] 24)).alloc (.cells (vals (fun _ => .slice none 0 0) N).toArray 33)).alloc (.cells #[.slice (some ⟨w.heap.size + 1, 0, none⟩) N N] 31)) (w.heap.size + 2) 31 [.slice (some ⟨w.heap.size + 1, 0, none⟩) N N] := by
      have := Cl.new ((w.alloc (.cells #[.slice to_ m c] 24)).alloc (.cells (vals (fun _ => .slice none 0 0) N).toArray 33)) 31 [.slice (some ⟨w.heap.size + 1, 0, none⟩) N N]
      rwa [hsz2] at this
    exact ⟨Nat.zero_le _, kn.below hb5, ⟨_, (k1.below hbl).below hb5, fun i h => by omega⟩, htab5, (hT0.below hbl).below hb5, hbb.trans (hb5.mono hbb.size), by omega, ⟨List.nodup_nil, fun r h => by cases h⟩, fun k h => by cases h⟩
  clear HM3 hbb hbl htab5 hb5 hb0 kt k1 hT0 dt hsz2 hmk
  have HQ : Hid (∀ ms W W', SpI w N (w.heap.size + 2) (w.heap.size + 1) tt N T ms W → Alike ms W W' → RetB w N T (.returned (.slice (some ⟨w.heap.size + 1, 0, none⟩) N N)) W') := fun ms W W' hI hA =>
    ⟨w.heap.size + 1, rfl, hI.row.alike hI.mks hA, hA.below hI.bel hI.mlo, hI.tbl⟩
  generalize w.heap.size + 2 = lb at *
  generalize w.heap.size + 1 = tb at *
  gi_wp2_with fail
  refine wpIn_loop_ghost_k (fun k a W => ∃ r ms, k = N - r ∧ SpI w N lb tb tt r T ms W ∧ ∃ tm, Fr12 mu (.slice ao n cap) w.heap.size lb tt N (r : Int) tm ∧ a = ⟨tm, ms.map mkD⟩) N ⟨0, [], by simp, I5, _, Fr12.of _ rfl, rfl⟩ ?_
  rintro k a W ⟨r, ms, rfl, hI, tm, ⟨u, rfl⟩, rfl⟩ J K hJ hK
  clear I5
  by_cases hlt : r < N
  · have hri : (r : Int) < (N : Int) := by omega
    have hr25 : (r : Int) ≤ 25 := by omega
    obtain ⟨rao, rl, rcap, dr, hrv, httl⟩ := hI.tab.get hlt
    have hb1 := below1 W (.cells #[.int .i64 (r : Nat)] 3)
    have hI1 := hI.below hb1
    have hrv1 := hrv.below hb1
    have KR := Cl.new W 3 [.int .i64 (r : Nat)]
    have htib : tb < W.heap.size := hI.row.lt
    unfold fr12
    gi_wp2_with fail
    clear dr hrv hI
    generalize W.alloc (.cells #[.int .i64 (r : Nat)] 3) = W1 at *
    gi_cut [33] from 28 (fun v wx => ∃ rb, v = .slice (some ⟨rb, 0, none⟩) N N ∧ SpN w N lb tb tt r rb T ms wx ∧ Cl wx W.heap.size 3 [.int .i64 (r : Nat)] ∧ RowV wx (.slice rao rl rcap) (wrd N T r) ∧ W.heap.size < rb)
    case first =>
      rename_i J' K' hJ' hK'
      have d1 := hI1.box.cell 0 rfl
      have d2 := KR.cell 0 rfl
      have d3 : ∀ o, (W1.alloc o).cell? ⟨lb, 0, none⟩ = some (.slice (some ⟨tb, 0, none⟩) N N) := fun o => (hI1.box.alloc o).cell 0 rfl
      have d4 : ∀ o, (W1.alloc o).cell? ⟨W.heap.size, 0, none⟩ = some (.int .i64 (r : Nat)) := fun o => (KR.alloc o).cell 0 rfl
      refine wpIn_wide.2 ?_
      refine Code.wp_mono (Q := Exit.then K' (fun _ _ _ => False)) (fun e a w h => by cases e <;> first | exact h | exact False.elim h) ?_
      obtain ⟨M, hM, _⟩ := id hI1.row
      have d5 : ∀ o, (W1.alloc o).cell? ⟨tb, r, none⟩ = some (M r) := fun o => (hM.alloc o).cell r (vals_get M hlt)
      have d6 : ∀ o, (W1.alloc o).frozen? ⟨tb, r, none⟩ = false := fun o => (hM.alloc o).frozen r
      have d7 : ∀ o, (W1.drew.alloc o).cell? ⟨tb, r, none⟩ = some (M r) := fun o => (hM.drew.alloc o).cell r (vals_get M hlt)
      have d8 : ∀ o, (W1.drew.alloc o).frozen? ⟨tb, r, none⟩ = false := fun o => (hM.drew.alloc o).frozen r
      have hwp : IntKind.i64.wrap ((n : Int) + 1) = (n : Int) + 1 := by rw [IntKind.wrap_i64]; omega
      have HC : Hid (∃ rb, Value.slice (some ⟨W1.heap.size, 0, none⟩) N N = .slice (some ⟨rb, 0, none⟩) N N ∧ SpN w N lb tb tt r rb T ms ((W1.alloc (.cells (bools (fun _ => false) N).toArray 4)).setCell ⟨tb, r, none⟩ (.slice (some ⟨W1.heap.size, 0, none⟩) N N)).drew ∧ Cl ((W1.alloc (.cells (bools (fun _ => false) N).toArray 4)).setCell ⟨tb, r, none⟩ (.slice (some ⟨W1.heap.size, 0, none⟩) N N)).drew W.heap.size 3 [.int .i64 (r : Nat)] ∧ RowV ((W1.alloc (.cells (bools (fun _ => false) N).toArray 4)).setCell ⟨tb, r, none⟩ (.slice (some ⟨W1.heap.size, 0, none⟩) N N)).drew (.slice rao rl rcap) (wrd N T r) ∧ W.heap.size < rb) := by
        have hS : SpN w N lb tb tt r W1.heap.size T ms ((W1.alloc (.cells (bools (fun _ => false) N).toArray 4)).setCell ⟨tb, r, none⟩ (.slice (some ⟨W1.heap.size, 0, none⟩) N N)) := SpN.of hlt hI1 hpos rfl rfl
        have hd : ∀ X : World, Below X.heap.size X X.drew := fun X => (Below.refl _ _).drew
        have hM2 := hM.alloc (.cells (bools (fun _ => false) N).toArray 4)
        refine ⟨_, rfl, ⟨hS.in_.below (hd _), hS.put, hS.new.drew, hS.off, hS.lo⟩, ((KR.alloc _).other (by omega) _ _).drew, ?_, KR.lt⟩
        exact ((hrv1.below (below1 W1 _)).at_ fun b cur fz hc => Below.heap_setCell _ _ _ _ (hM2.ne hc (by decide))).below (hd _)
      clear hK hJ HQ
      go_region_law (fail)
      all_goals
        exact hK' _ _ (hJ' _ _ ⟨_, _, _, _, _, _, _, _, _, _, _, _, _, _, _, _, _, _, _, _, HC.out, rfl⟩)
    case rest =>
      obtain ⟨rb, rfl, hS, KR2, hrv2, hib⟩ := hcut
      clear KR hrv1 hI1 hb1
      gi_wp2_with (refine ⟨trivial, ?_⟩; gi_at_call 16; refine (callsIn_wide.2 (widths_mk _ _ _ _)).mono ?_; rintro e w2 ⟨rfl, rfl⟩)
      have hbR := below1 wc (.cells #[.slice rao rl rcap] 52)
      have KX := Cl.new wc 52 [.slice rao rl rcap]
      have hSV : SpN w N lb tb tt r rb T ms (wc.alloc (.cells #[.slice rao rl rcap] 52)) := by
        obtain ⟨M, hM, _⟩ := id hS.in_.row
        refine ⟨hS.in_.below hbR, ?_, hS.new.below hbR, fun M' hM' => hS.off M' ?_, hS.lo⟩
        · rw [hbR.cell (p := ⟨tb, r, none⟩) hM.lt]; exact hS.put
        · have hl := hM.lt
          unfold Cl at hM' ⊢; rw [← hbR.block tb hl]; exact hM'
      have KRV := KR2.below hbR
      have hrV := hrv2.below hbR
      clear hS KR2 hrv2 hbR HQ
      generalize hxb : wc.heap.size = xb at *
      clear hxb
      generalize hVe : wc.alloc (.cells #[.slice rao rl rcap] 52) = V at *
      clear hVe
      have hrbl := hSV.new.lt
      have hseq := widths_seq V.heap.size xb (fun j => j = 0) rao rl rcap (wrd N T r) V hrV KX hSV.in_.tz rfl rfl
      have hVpos := hSV.in_.tz.lt
      have S0 : SqI V N rb r (come (wrd N T r).testBit 64) 0 V := ⟨by rw [List.take_zero, bools_congr (q := fun _ => false) (fun i _ => by simp [spP])]; exact hSV.new, But1.refl _ _⟩
      generalize W.heap.size = ib at *
      refine wpIn_rangeFunc_steps (n := 5) rfl (by decide) (gf := 28) (lb := #[.pointer (some ⟨xb, 0, none⟩)]) rfl trivial (enters_of Tryd.func28 (by kernel_rfl) rfl) (fun j => j = 0) (fun j hj => by omega) hseq (fun _ => rfl)
        (fun i A => SqI V N rb r (come (wrd N T r).testBit 64) i A) (fun i A B h ht => h.turn hrbl ht) S0
        (fun i a' A => Fs12 mu (.slice ao n cap) w.heap.size lb tt N ib (r : Int) (((come (wrd N T r).testBit 64).getD i 0 : Nat) : Int) a'.tmps ∧ a'.defers = []) (fun i a' A B h _ => h) ?assign ?body ?done
      case assign =>
        rintro i A K hi hC hsz hK
        have HK : Hid (∀ tm, Fs12 mu (.slice ao n cap) w.heap.size lb tt N ib (r : Int) (((come (wrd N T r).testBit 64).getD i 0 : Nat) : Int) tm → K ⟨tm, []⟩ A) := fun tm h => hK _ _ (KeepT.refl _ _ _) hC ⟨h, rfl⟩
        clear hK hC S0 KX KRV hseq hrV hSV
        generalize (come (wrd N T r).testBit 64).getD i 0 = d at *
        gi_wp2
        exact HK.out _ (Fs12.of _ rfl)
      case body =>
        rintro i a' A hi hC ⟨⟨u, hfr⟩, hdf⟩ hsz
        obtain ⟨tm, dfs⟩ := a'
        dsimp only at hfr hdf
        subst hfr hdf
        obtain ⟨d, hd⟩ : ∃ d, (come (wrd N T r).testBit 64)[i]? = some d := ⟨_, List.getElem?_eq_getElem hi⟩
        have hgd : (come (wrd N T r).testBit 64).getD i 0 = d := by simp [List.getD, hd]
        obtain ⟨hd64, hdb⟩ := come_lt hd
        rw [wrd_bit hN, Bool.and_eq_true, decide_eq_true_eq] at hdb
        have hkd := hdb.1
        have kB := hSV.in_.box.but hC.but (hSV.new.ne hSV.in_.box (by decide))
        have kR := KRV.but hC.but (by omega)
        obtain ⟨M, hM, _⟩ := id hSV.in_.row
        have kM := hM.but hC.but (hSV.new.ne hM (by decide))
        have hput : A.cell? ⟨tb, r, none⟩ = some (.slice (some ⟨rb, 0, none⟩) N N) := by
          have e1 := hM.cell r (vals_get M hlt)
          rw [hSV.put] at e1
          rw [kM.cell r (vals_get M hlt), e1]
        rw [hgd]
        have n1 := Near.cell (kB.cell 0 rfl) kB.lt
        have n2 := Near.cell (kR.cell 0 rfl) kR.lt
        have n3 := Near.cell hput kM.lt
        have hsum : (r : Int) + (d : Int) < (N : Int) := by omega
        have hdi : (d : Int) ≤ 25 := by omega
        have hsk : ((r : Int) + (d : Int)).toNat = r + d := by omega
        have hKp : ∀ (u : World) i v, KeepT V.heap.size (fun j => j = 0) A ((near A u).setCell ⟨rb, i, none⟩ v) := fun u i v => ⟨by simpa using (near_below A u).size, fun j hj => (set_heap _ _ _ _ (by dsimp only; have := hSV.lo; omega)).trans ((near_below A u).block j (by omega))⟩
        have HS : Hid (∀ u : World, (∃ x, (near A u).cell? ⟨rb, r + d, none⟩ = some x) ∧ (near A u).frozen? ⟨rb, r + d, none⟩ = false ∧ stepPost V.heap.size (fun j => j = 0) (fun i A => SqI V N rb r (come (wrd N T r).testBit 64) i A) i A .normal ⟨#[], []⟩ ((near A u).setCell ⟨rb, r + d, none⟩ (.bool true))) := fun u => by
          have hn : SqI V N rb r (come (wrd N T r).testBit 64) i (near A u) := ⟨hC.row.below (near_below A u), hC.but.trans (But1.of_below (near_below A u))⟩
          exact ⟨⟨_, hn.row.cell (r + d) (bools_get _ hkd)⟩, hn.row.frozen (r + d), hKp _ _ _, hn.step hd⟩
        clear S0 KX KRV hseq hrV hSV hC kB kR hKp hd hdb hgd hM kM hput
        unfold fs12
        gi_wp2_with fail
        refine round_quiet_tail 8 (fun w' => ∃ u : World, w' = near A u) (by kernel_rfl) (by kernel_rfl) (by kernel_rfl) (fun ⟨_, _, h⟩ => h) (Near.start _) ?_
        simp only [List.take_succ_cons, List.take_zero, List.drop_succ_cons, List.drop_zero]
        repeat (go_big_quiet_step (fail))
        refine wpQuiet_nil ?_
        rintro _ ⟨u', rfl⟩
        obtain ⟨⟨x, dx⟩, fx, HS2⟩ := HS.out u'
        have HS' : Hid _ := HS2
        clear HS2 HS
        go_wp2_with fail
        exact HS'.out
      case done =>
        rintro A hC hD
        have hnx := SpI.next hN hlt hSV hC hD hpos
        have HK : Hid (∀ tm, Fr12 mu (.slice ao n cap) w.heap.size lb tt N ((r : Int) + 1) tm → K ⟨tm, mkD V.heap.size :: ms.map mkD⟩ A) := fun tm h => hK _ _ (Handed.intro (N - (r + 1)) (by omega) (hJ _ _ _ ⟨r + 1, V.heap.size :: ms, rfl, hnx, tm, by simpa using h, rfl⟩))
        clear hK hJ hnx hC hD S0 KX KRV hseq hrV hSV
        gi_wp2_with fail
        exact HK.out _ (Fr12.of _ rfl)
  · have hri : ¬ (r : Int) < (N : Int) := by omega
    obtain rfl : r = N := by have := hI.le; omega
    have db := hI.box.cell 0 rfl
    have HQ2 : Hid (∀ W', Alike ms W W' → RetB w r T (.returned (.slice (some ⟨tb, 0, none⟩) r r)) W') := fun W' h => HQ.out ms W W' hI h
    have hmk := hI.mks
    clear HQ hI hK hJ
    unfold fr12
    gi_wp2_with fail
    refine leaves_marks ms W hmk fun W' hW' => ?_
    refine ⟨_, results_tmp rfl _ _ _, ?_⟩
    exact HQ2.out W' hW'
end Go.Proofs.YtiiecppkabdkgabDoor
