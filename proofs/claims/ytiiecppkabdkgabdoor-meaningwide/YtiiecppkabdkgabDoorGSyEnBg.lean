/- Starts: the walk. Ends: the walk. begun: the walk. -/
import Derived.Test.YtiiecppkabdkgabDoorGSxMx
import Derived.Test.YtiiecppkabdkgabDoorGMhLgRq
import Derived.Lib.SlBytesConst
namespace Go.Proofs.YtiiecppkabdkgabDoor
open Go.RowKit Go.Shelf
attribute [local go_sem] Oper.semAt_some
def fr17 (mu : Bool) (wv : Value) (h0 lb tt N : Nat) (r : Int) (u : Nat → Value) : Array Value := #[u 0, .bool mu, wv, .pointer (some ⟨h0, 0, none⟩), u 4, u 5, u 6, .pointer (some ⟨lb, 0, none⟩), u 8, u 9, u 10, u 11, u 12, u 13, u 14, u 15, u 16, u 17, u 18, u 19, u 20, u 21, .slice (some ⟨tt, 0, none⟩) N N, .int .i64 (N : Nat), .int .i64 r, u 25, u 26, u 27, u 28, u 29, u 30, u 31, u 32, u 33, u 34, u 35, u 36, u 37, u 38, u 39, u 40, u 41, u 42, u 43, u 44, u 45, u 46, u 47, u 48, u 49, u 50]
def Fr17 (mu : Bool) (wv : Value) (h0 lb tt N : Nat) (r : Int) (tm : Array Value) : Prop := ∃ u, tm = fr17 mu wv h0 lb tt N r u
theorem Fr17.of {mu : Bool} {wv : Value} {h0 lb tt N : Nat} {r : Int} (tm : Array Value) (h : tm = fr17 mu wv h0 lb tt N r (nth tm.toList)) : Fr17 mu wv h0 lb tt N r tm := ⟨_, h⟩
def fs17 (mu : Bool) (wv : Value) (h0 lb tt N ib : Nat) (r d : Int) (u : Nat → Value) : Array Value := #[u 0, .bool mu, wv, .pointer (some ⟨h0, 0, none⟩), u 4, u 5, u 6, .pointer (some ⟨lb, 0, none⟩), .pointer (some ⟨ib, 0, none⟩), u 9, .int .i64 d, u 11, u 12, u 13, u 14, u 15, u 16, u 17, u 18, u 19, u 20, u 21, .slice (some ⟨tt, 0, none⟩) N N, .int .i64 (N : Nat), .int .i64 r, u 25, u 26, u 27, u 28, u 29, u 30, u 31, u 32, u 33, u 34, u 35, u 36, u 37, u 38, u 39, u 40, u 41, u 42, u 43, u 44, u 45, u 46, u 47, u 48, u 49, u 50]
def Fs17 (mu : Bool) (wv : Value) (h0 lb tt N ib : Nat) (r d : Int) (tm : Array Value) : Prop := ∃ u, tm = fs17 mu wv h0 lb tt N ib r d u
theorem Fs17.of {mu : Bool} {wv : Value} {h0 lb tt N ib : Nat} {r d : Int} (tm : Array Value) (h : tm = fs17 mu wv h0 lb tt N ib r d (nth tm.toList)) : Fs17 mu wv h0 lb tt N ib r d tm := ⟨_, h⟩
/-- What stands between the rounds of the outer loop. -/
structure StI (w : World) (N lb tb tt r : Nat) (T : Tab) (ms : List Nat) (W : World) : Prop where
  le : r ≤ N
  box : Cl W lb 38 [.slice (some ⟨tb, 0, none⟩) N N]
  row : Cl W tb 3 (ints (stK T r) N)
  tab : Rows W tt N 0 (wrd N T)
  tz : TabZ W
  bel : Below w.heap.size w W
  tbl : w.heap.size ≤ tb
  mks : Marks W ms
  mlo : ∀ k ∈ ms, w.heap.size ≤ k
/-- What stands between the rounds of the inner one. -/
structure SjI (V : World) (N tb r : Nat) (T : Tab) (l : List Nat) (i : Nat) (A : World) : Prop where
  row : Cl A tb 3 (ints (stP T r (l.take i)) N)
  but : But1 tb V A
theorem SjI.turn {V : World} {N tb r : Nat} {T : Tab} {l : List Nat} {i : Nat} {A B : World} (h : SjI V N tb r T l i A) (hV : tb < V.heap.size) (ht : Turn V.heap.size A B) : SjI V N tb r T l i B :=
  ⟨by unfold Cl; rw [ht.block tb h.row.lt (.inl hV)]; exact h.row, h.but.turn ht⟩
/-- What a call answers that makes a row of numbers. -/
def RetIr (w : World) (k : Nat) (g : Nat → Int) (e : Ending) (w' : World) : Prop := ∃ tb, e = .returned (.slice (some ⟨tb, 0, none⟩) k k) ∧ Cl w' tb 3 (ints g k) ∧ Below w.heap.size w w' ∧ w.heap.size ≤ tb
theorem StI.next {w V A : World} {N lb tb tt r : Nat} {T : Tab} {ms : List Nat} (hN : N ≤ 25) (hr : r < N) (hV : StI w N lb tb tt r T ms V) (hA : SjI V N tb r T (come (wrd N T r).testBit 64) (come (wrd N T r).testBit 64).length A) (hD : A.heap[V.heap.size]? = some (.deferred (some []))) (h0 : 0 < w.heap.size) : StI w N lb tb tt (r + 1) T (V.heap.size :: ms) A := by
  have hb := hA.but
  have hrow := hA.row
  rw [List.take_of_length_le (Nat.le_refl _), ints_congr (fun j hj => stP_all hN T r hj)] at hrow
  have hne : lb ≠ tb := hV.row.ne hV.box (by decide)
  refine ⟨hr, hV.box.but hb hne, hrow, hV.tab.but hb hV.row (by decide) (by decide), hV.tz.but hb (by have := hV.tbl; omega), hb.below hV.tbl hV.bel (Nat.le_refl _), hV.tbl, (hV.mks.but hb hV.row).cons hD (fun k hk => hV.mks.lt k hk), fun k hk => ?_⟩
  rcases List.mem_cons.1 hk with rfl | hk
  · exact hV.bel.size
  · exact hV.mlo k hk
theorem StI.below {w V A : World} {N lb tb tt r : Nat} {T : Tab} {ms : List Nat} (hV : StI w N lb tb tt r T ms V) (hb : Below V.heap.size V A) : StI w N lb tb tt r T ms A :=
  ⟨hV.le, hV.box.below hb, hV.row.below hb, hV.tab.below hb, hV.tz.below hb, hV.bel.trans (hb.mono hV.bel.size), hV.tbl, ⟨hV.mks.nodup, fun k hk => by rw [hb.block k (hV.mks.lt k hk)]; exact hV.mks.at_ k hk⟩, hV.mlo⟩
/-- A round's body. -/
theorem SjI.step {V A A' : World} {N tb r i d : Nat} {T : Tab} {l : List Nat} (h : SjI V N tb r T l i A) (hd : l[i]? = some d) (hs : A' = if 0 < d ∧ stP T r (l.take i) (r + d) = -1 then A.setCell ⟨tb, r + d, none⟩ (.int .i64 (r : Int)) else A) : SjI V N tb r T l (i + 1) A' := by
  subst hs
  split
  · rename_i hc
    refine ⟨?_, h.but.set _ _⟩
    rw [take_snoc hd, stP_yes hc.1 hc.2, ← ints_set]
    exact h.row.set _ _
  · rename_i hc
    refine ⟨?_, h.but⟩
    rw [take_snoc hd, stP_no (by omega)]
    exact h.row

set_option maxRecDepth 100000 in
set_option maxHeartbeats 4000000 in
theorem starts17_any (to_ : Option Addr) (m c : Nat) (F : Nat → Nd) (ao : Option Addr) (n cap : Nat) (mu : Bool) (f : Nat → Nat) (w : World) (ht : RdN w to_ m F) (hm : (m : Int) ≤ 9223372036854775807) (hF : ∀ i, i < m → wfN (F i)) (hr : RdB w ao n f) (hn : n ≤ 24) (hT : TabZ w) :
    Calls Tryd.prog 22 #[.agg #[.slice to_ m c], .bool mu, .slice ao n cap] w (RetIr w (n + 1) (stT (mTab f n mu F m))) := by
  have hb0 := below2 w (.cells #[.slice to_ m c] 24) (.cells #[.int .i64 (-1)] 3)
  have kt : Cl ((w.alloc (.cells #[.slice to_ m c] 24)).alloc (.cells #[.int .i64 (-1)] 3)) w.heap.size 24 [.slice to_ m c] := (Cl.new w 24 [.slice to_ m c]).alloc _
  have k1 : Cl ((w.alloc (.cells #[.slice to_ m c] 24)).alloc (.cells #[.int .i64 (-1)] 3)) (w.heap.size + 1) 3 [.int .i64 (-1)] := by
    have := Cl.new (w.alloc (.cells #[.slice to_ m c] 24)) 3 [.int .i64 (-1)]
    simpa only [World.size_alloc] using this
  have HR := repI_any (w.heap.size + 1) (n + 1) _ (by omega) (by omega) k1.lt (k1.cell 0 rfl)
  rw [show ((n + 1 : Nat) : Int) = (n : Int) + 1 by omega] at HR
  have hni2 : (n : Int) ≤ 24 := by omega
  have hpos := hT.lt
  obtain ⟨N, hNe⟩ : ∃ N, n + 1 = N := ⟨_, rfl⟩
  have hN : N ≤ 25 := by omega
  have hNi : (N : Int) ≤ 25 := by omega
  have HM : Hid (∀ W, Below w.heap.size w W → Calls Tryd.prog 15 #[.agg #[.slice to_ m c], pgV ao n cap mu 0 n] W (RetTab W N (mTab f n mu F m))) := fun W hW => by
    have := meant_any to_ m c F ao n cap mu 0 n f N W (ht.below hW) hm hF (hr.below hW) hn (Nat.le_refl _) (Nat.zero_le _) (by omega) (hT.below hW)
    have e : tSh 0 (mTab f n mu F m) = mTab f n mu F m := by funext i d; simp [tSh]
    rwa [e] at this
  rw [hNe] at HR ⊢
  generalize mTab f n mu F m = T at *
  unfold pgV at HM
  have hT0 := hT.below hb0
  clear hF hr ht hm hT
  refine (callsIn_wide (n := 5)).1 ?_
  refine callsIn_of_wp_marks Tryd.func22 rfl trivial ?_ rfl
  simp only [Tryd.ntmps22, List.size_toArray, List.length_cons, List.length_nil, Nat.reduceAdd, Nat.reduceSub, Array.replicate_succ, Array.replicate_zero, List.push_toArray, List.append_toArray, List.nil_append, List.cons_append]
  gi_wp2_with fail
  refine ⟨trivial, ?_⟩
  refine (callsIn_wide.2 HR).mono ?_
  rintro e w3 ⟨tb, rfl, hrow3, hb3, htb⟩
  clear HR
  have hb03 := hb0.trans (hb3.mono hb0.size)
  have hk3 := kt.below hb3
  have d3 := hk3.cell 0 rfl
  have hd3 : ∀ o, (w3.alloc o).cell? ⟨w.heap.size, 0, none⟩ = some (.slice to_ m c) := fun o => (hk3.alloc o).cell 0 rfl
  gi_wp2_with fail
  refine ⟨trivial, ?_⟩
  have hbb : Below w.heap.size w (w3.alloc (.cells #[.slice (some ⟨tb, 0, none⟩) N N] 38)) := hb03.trans ((below1 w3 _).mono hb03.size)
  have hbl := below1 w3 (.cells #[.slice (some ⟨tb, 0, none⟩) N N] 38)
  refine (callsIn_wide.2 (HM.out _ hbb)).mono ?_
  rintro e w5 ⟨tt, rfl, htab5, hb5⟩
  have hs3 := hb3.size
  simp only [World.size_alloc] at hs3 htb hb5
  have I5 : StI w N w3.heap.size tb tt 0 T [] w5 := by
    have hb5' : Below (w3.alloc (.cells #[.slice (some ⟨tb, 0, none⟩) N N] 38)).heap.size (w3.alloc (.cells #[.slice (some ⟨tb, 0, none⟩) N N] 38)) w5 := by simpa using hb5
    refine ⟨Nat.zero_le _, (Cl.new w3 38 [.slice (some ⟨tb, 0, none⟩) N N]).below hb5', ?_, htab5, ((hT0.below hb3).below hbl).below hb5', hbb.trans (hb5'.mono hbb.size), by omega, ⟨List.nodup_nil, fun r h => by cases h⟩, fun k h => by cases h⟩
    have := (hrow3.below hbl).below hb5'
    rwa [ints_congr (fun j _ => (stK_zero T j).symm)] at this
  clear HM hrow3 hb3 hb03 hk3 d3 hd3 hbb hbl htab5 hb5 hb0 kt k1 hT0
  have HQ : Hid (∀ ms W W', StI w N w3.heap.size tb tt N T ms W → Alike ms W W' → RetIr w N (stT T) (.returned (.slice (some ⟨tb, 0, none⟩) N N)) W') := fun ms W W' hI hA => by
    refine ⟨tb, rfl, ?_, hA.below hI.bel hI.mlo, hI.tbl⟩
    have := hI.row.alike hI.mks hA
    rwa [ints_congr (fun j hj => stK_big T (Nat.le_of_lt hj))] at this
  generalize w3.heap.size = lb at *
  clear htb hs3
  gi_wp2_with fail
  refine wpIn_loop_ghost_k (fun k a W => ∃ r ms, k = N - r ∧ StI w N lb tb tt r T ms W ∧ ∃ tm, Fr17 mu (.slice ao n cap) w.heap.size lb tt N (r : Int) tm ∧ a = ⟨tm, ms.map mkD⟩) N ⟨0, [], by simp, I5, _, Fr17.of _ rfl, rfl⟩ ?_
  rintro k a W ⟨r, ms, rfl, hI, tm, ⟨u, rfl⟩, rfl⟩ J K hJ hK
  clear I5
  by_cases hlt : r < N
  · have hri : (r : Int) < (N : Int) := by omega
    have hr25 : (r : Int) ≤ 25 := by omega
    obtain ⟨rao, rl, rcap, dr, hrv, httl⟩ := hI.tab.get hlt
    have hbR := below2 W (.cells #[.int .i64 (r : Nat)] 3) (.cells #[.slice rao rl rcap] 52)
    unfold fr17
    gi_wp2_with (refine ⟨trivial, ?_⟩; gi_at_call 16; refine (callsIn_wide.2 (widths_mk _ _ _ _)).mono ?_; rintro e w2 ⟨rfl, rfl⟩)
    have hIV := hI.below hbR
    have KX : Cl ((W.alloc (.cells #[.int .i64 (r : Nat)] 3)).alloc (.cells #[.slice rao rl rcap] 52)) (W.heap.size + 1) 52 [.slice rao rl rcap] := by
      have := Cl.new (W.alloc (.cells #[.int .i64 (r : Nat)] 3)) 52 [.slice rao rl rcap]
      simpa only [World.size_alloc] using this
    have KR := (Cl.new W 3 [.int .i64 (r : Nat)]).alloc (.cells #[.slice rao rl rcap] 52)
    have hrV := hrv.below hbR
    have htib : tb < W.heap.size := hI.row.lt
    clear hI dr hrv hbR HQ
    generalize W.heap.size = ib at *
    generalize hVe : (W.alloc (.cells #[.int .i64 (r : Nat)] 3)).alloc (.cells #[.slice rao rl rcap] 52) = V at *
    clear hVe
    have htbl := hIV.row.lt
    have hseq := widths_seq V.heap.size (ib + 1) (fun j => j = 0) rao rl rcap (wrd N T r) V hrV KX hIV.tz rfl rfl
    have hVpos := hIV.tz.lt
    have S0 : SjI V N tb r T (come (wrd N T r).testBit 64) 0 V := ⟨by rw [List.take_zero, stP_nil]; exact hIV.row, But1.refl _ _⟩
    refine wpIn_rangeFunc_steps (n := 5) rfl (by decide) (gf := 28) (lb := #[.pointer (some ⟨ib + 1, 0, none⟩)]) rfl trivial (enters_of Tryd.func28 (by kernel_rfl) rfl) (fun j => j = 0) (fun j hj => by omega) hseq (fun _ => rfl)
      (fun i A => SjI V N tb r T (come (wrd N T r).testBit 64) i A) (fun i A B h ht => h.turn htbl ht) S0
      (fun i a' A => Fs17 mu (.slice ao n cap) w.heap.size lb tt N ib (r : Int) (((come (wrd N T r).testBit 64).getD i 0 : Nat) : Int) a'.tmps ∧ a'.defers = []) (fun i a' A B h _ => h) ?assign ?body ?done
    case assign =>
      rintro i A K hi hC hsz hK
      have HK : Hid (∀ tm, Fs17 mu (.slice ao n cap) w.heap.size lb tt N ib (r : Int) (((come (wrd N T r).testBit 64).getD i 0 : Nat) : Int) tm → K ⟨tm, []⟩ A) := fun tm h => hK _ _ (KeepT.refl _ _ _) hC ⟨h, rfl⟩
      clear hK hC S0 KX KR hseq hrV hIV
      generalize (come (wrd N T r).testBit 64).getD i 0 = d at *
      gi_wp2
      exact HK.out _ (Fs17.of _ rfl)
    case body =>
      rintro i a' A hi hC ⟨⟨u, hfr⟩, hdf⟩ hsz
      obtain ⟨tm, dfs⟩ := a'
      dsimp only at hfr hdf
      subst hfr hdf
      obtain ⟨d, hd⟩ : ∃ d, (come (wrd N T r).testBit 64)[i]? = some d := ⟨_, List.getElem?_eq_getElem hi⟩
      have hgd : (come (wrd N T r).testBit 64).getD i 0 = d := by simp [List.getD, hd]
      obtain ⟨hd64, hdb⟩ := come_lt hd
      rw [wrd_bit hN, Bool.and_eq_true, decide_eq_true_eq] at hdb
      have hkd := hdb.1
      have kB := hIV.box.but hC.but (hIV.row.ne hIV.box (by decide))
      have kR := KR.but hC.but (by omega)
      rw [hgd]
      have d1 := kB.cell 0 rfl
      have d2 := kR.cell 0 rfl
      have d3 := hC.row.cell (r + d) (ints_get _ hkd)
      have fz := hC.row.frozen (r + d)
      have hKp : ∀ i v, KeepT V.heap.size (fun j => j = 0) A (A.setCell ⟨tb, i, none⟩ v) := fun i v => ⟨by simp, fun j hj => set_heap _ _ _ _ (by dsimp only; have := hIV.tbl; omega)⟩
      have HS : Hid (∀ A', (A' = if 0 < d ∧ stP T r ((come (wrd N T r).testBit 64).take i) (r + d) = -1 then A.setCell ⟨tb, r + d, none⟩ (.int .i64 (r : Int)) else A) → stepPost V.heap.size (fun j => j = 0) (fun i A => SjI V N tb r T (come (wrd N T r).testBit 64) i A) i A .normal ⟨#[], []⟩ A') := fun A' hA' => by
        refine ⟨?_, hC.step hd hA'⟩
        subst hA'
        split
        · exact hKp _ _
        · exact KeepT.refl _ _ _
      have hsum : (r : Int) + (d : Int) < (N : Int) := by omega
      have hdi : (d : Int) ≤ 25 := by omega
      have hsk : ((r : Int) + (d : Int)).toNat = r + d := by omega
      generalize hx : stP T r ((come (wrd N T r).testBit 64).take i) (r + d) = x at *
      clear S0 KX KR hseq hrV hIV hC kB kR hKp hx hd hdb hgd
      unfold fs17
      by_cases h0 : d = 0
      · have HS' : Hid _ := HS.out A (by rw [if_neg (by omega)])
        clear HS d1 d2 d3
        have h0i : ¬ (0 : Int) < (d : Int) := by omega
        gi_wp2_with fail
        exact HS'.out
      · have h0i : (0 : Int) < (d : Int) := by omega
        by_cases hx : x = -1
        · have HS' : Hid _ := HS.out _ (by rw [if_pos ⟨by omega, hx⟩])
          have hxe : (x == -1) = true := by simpa using hx
          clear HS hx
          gi_wp2_with fail
          exact HS'.out
        · have HS' : Hid _ := HS.out A (by rw [if_neg (fun h => hx h.2)])
          have hxe : (x == -1) = false := by simpa using hx
          clear HS hx
          gi_wp2_with fail
          exact HS'.out
    case done =>
      rintro A hC hD
      have hnx := hIV.next hN hlt hC hD hpos
      have HK : Hid (∀ tm, Fr17 mu (.slice ao n cap) w.heap.size lb tt N ((r : Int) + 1) tm → K ⟨tm, mkD V.heap.size :: ms.map mkD⟩ A) := fun tm h => hK _ _ (Handed.intro (N - (r + 1)) (by omega) (hJ _ _ _ ⟨r + 1, V.heap.size :: ms, rfl, hnx, tm, by simpa using h, rfl⟩))
      clear hK hJ hnx hC hD S0 KX KR hseq hrV hIV
      gi_wp2_with fail
      exact HK.out _ (Fr17.of _ rfl)
  · have hri : ¬ (r : Int) < (N : Int) := by omega
    obtain rfl : r = N := by have := hI.le; omega
    have db := hI.box.cell 0 rfl
    have HQ2 : Hid (∀ W', Alike ms W W' → RetIr w r (stT T) (.returned (.slice (some ⟨tb, 0, none⟩) r r)) W') := fun W' h => HQ.out ms W W' hI h
    have hmk := hI.mks
    clear HQ hI hK hJ
    unfold fr17
    gi_wp2_with fail
    refine leaves_marks ms W hmk fun W' hW' => ?_
    refine ⟨_, results_tmp rfl _ _ _, ?_⟩
    exact HQ2.out W' hW'
end Go.Proofs.YtiiecppkabdkgabDoor
namespace Go.Proofs.YtiiecppkabdkgabDoor
open Go.RowKit
/-- The places at which something ends. -/
def enL (g : Nat → Int) (k : Nat) : List Int := ((List.range k).filter fun j => !(g j == -1)).map fun j => ((j : Nat) : Int)
theorem enL_yes {g : Nat → Int} {k : Nat} (h : (g k == -1) = false) : enL g (k + 1) = enL g k ++ [(k : Int)] := by
  unfold enL; rw [List.range_succ, List.filter_append]; simp [h]
theorem enL_no {g : Nat → Int} {k : Nat} (h : (g k == -1) = true) : enL g (k + 1) = enL g k := by
  unfold enL; rw [List.range_succ, List.filter_append]; simp [h]
theorem enL_len (g : Nat → Int) (k : Nat) : (enL g k).length ≤ k := by
  unfold enL; rw [List.length_map]
  exact Nat.le_trans (List.length_filter_le _ _) (by simp)
theorem enL_congr {g h : Nat → Int} : ∀ {k : Nat}, (∀ j, j < k → g j = h j) → enL g k = enL h k
  | 0, _ => rfl
  | k + 1, e => by
    have ih := enL_congr (k := k) fun j hj => e j (by omega)
    cases hc : (g k == -1) with
    | true => rw [enL_no hc, enL_no (by rw [← e k (by omega)]; exact hc), ih]
    | false => rw [enL_yes hc, enL_yes (by rw [← e k (by omega)]; exact hc), ih]
def intsL (l : List Int) : List Value := l.map fun x => Value.int .i64 x
/-- What a call answers that makes a list of numbers. -/
def RetL (w : World) (l : List Int) (e : Ending) (w' : World) : Prop := ∃ ao cap, e = .returned (.slice ao l.length cap) ∧ w'.ownsRow w.heap.size 3 1 (.slice ao l.length cap) l.length (intsL l) ∧ Below w.heap.size w w'
theorem rdI_row {W : World} {B cap : Nat} {ao : Option Addr} {l : List Int} (h : W.ownsRow B 3 1 (.slice ao l.length cap) l.length (intsL l)) : RdI W ao l.length (fun i => l.getD i 0) := fun hn => by
  obtain ⟨g, rfl, hgl, hgB, hc, _⟩ := row_cell h hn
  refine ⟨g, 0, rfl, hgl, fun i hi => ?_⟩
  rw [Nat.zero_add]
  refine hc i _ ?_
  simp [intsL, List.getD, hi]
structure EnI (w : World) (tb N : Nat) (g : Nat → Int) (k : Nat) (v : Value) (wr : World) : Prop where
  row : Cl wr tb 3 (ints g N)
  own : wr.ownsRow (tb + 1) 3 1 v (enL g k).length (intsL (enL g k))
  bel : Below w.heap.size w wr
  tbl : w.heap.size ≤ tb
set_option maxRecDepth 10000 in
set_option maxHeartbeats 2000000 in
theorem ends15_any (to_ : Option Addr) (m c : Nat) (F : Nat → Nd) (ao : Option Addr) (n cap : Nat) (mu : Bool) (f : Nat → Nat) (w : World) (ht : RdN w to_ m F) (hm : (m : Int) ≤ 9223372036854775807) (hF : ∀ i, i < m → wfN (F i)) (hr : RdB w ao n f) (hn : n ≤ 24) (hT : TabZ w) :
    Calls Tryd.prog 21 #[.agg #[.slice to_ m c], .bool mu, .slice ao n cap] w (RetL w (enL (stT (mTab f n mu F m)) (n + 1))) := by
  obtain ⟨i0, hi, hz0, hz1, hz2⟩ := info_parts b_int
  have hb0 := below1 w (.cells #[.slice to_ m c] 24)
  have k0 := Cl.new w 24 [.slice to_ m c]
  have HS := starts17_any to_ m c F ao n cap mu f _ (ht.below hb0) hm hF (hr.below hb0) hn (hT.below hb0)
  have c0 := k0.cell 0 rfl
  obtain ⟨N, hNe⟩ : ∃ N, n + 1 = N := ⟨_, rfl⟩
  have hN : N ≤ 25 := by omega
  rw [hNe] at HS ⊢
  generalize stT (mTab f n mu F m) = g at *
  clear ht hF hr hT k0 hNe hn
  go_enter Tryd.func21, Tryd.ntmps21
  go_wp2_with fail
  refine HS.mono ?_
  rintro e w2 ⟨tb, rfl, hrow, hb2, htb⟩
  simp only [World.size_alloc] at htb
  have E0 : EnI w tb N g 0 (.slice none 0 0) w2 := ⟨hrow, World.ownsRow_nil _ _ _ _, hb0.trans (hb2.mono hb0.size), by omega⟩
  clear HS hb2 hb0 c0 hrow
  go_wp2_with fail
  go_loopw [7, 15] (fun v i wr => ∃ k : Nat, k ≤ N ∧ i = .int .i64 k ∧ EnI w tb N g k v wr) (fun _ i _ => N - (intOf i).toNat)
  case atStart => exact ⟨0, Nat.zero_le _, rfl, E0⟩
  case round =>
    obtain ⟨k, hk, rfl, hR⟩ := hrel
    clear E0
    by_cases hlt : k < N
    · have hki : (k : Int) < (N : Int) := by omega
      have d0 := hR.row.cell k (ints_get g hlt)
      cases hpk : (g k == -1) with
      | true =>
        have HP : Hid (enL g (k + 1) = enL g k) := enL_no hpk
        generalize g k = x at *
        go_wp2_with fail
        go_roundw
        case rel => exact ⟨k + 1, by omega, by go_num, hR.row, by rw [HP.out]; exact hR.own, hR.bel, hR.tbl⟩
        case measure => simp [intOf]; omega
      | false =>
        have HP : Hid (enL g (k + 1) = enL g k ++ [(k : Int)]) := enL_yes hpk
        have hle2 := enL_len g k
        have hz := hR.row.lt
        have hown := hR.own
        generalize g k = x at *
        go_wp2_with (at_builtin; refine wpList_append_own _ rfl _ _ 38 rfl (tb + 1) 3 i0 (.int .i64 0) 1 8 Tryd.underlying38 hi hz0 hz1 hz2 rfl (by decide) _ _ _ rfl (hown.alloc _) ⟨wr.heap.size, 0, none⟩ 1 1 [.int .i64 (k : Nat)] rfl rfl (cell_one_new _ _ _) (by simp [Value.oneCell']) (by unfold maxLen; omega) (by omega) (by simp; omega) ?_)
        intro v' w3 hown' hgrow _
        have hbw : Below (tb + 1) _ w3 := (Below.refl _ _).grown hgrow (by simp; omega) (fun j e => (hown.lt j e).1)
        have R : EnI w tb N g (k + 1) v' w3 :=
          ⟨(hR.row.alloc _).belowB hbw (by omega), by rw [HP.out]; simpa [intsL] using hown', (hR.bel.alloc (by have := hR.bel.size; omega) _).trans (hbw.mono (by have := hR.tbl; omega)), hR.tbl⟩
        clear hown' hgrow hown hR hbw
        go_wp2_with fail
        go_roundw
        case rel => exact ⟨k + 1, by omega, by go_num, R⟩
        case measure => simp [intOf]; omega
    · obtain rfl : k = N := by omega
      have hki : ¬ (k : Int) < (k : Int) := by omega
      obtain ⟨ao, cap, rfl⟩ := ownsRow_slice hR.own
      have HH : Hid (RetL w (enL g k) (.returned (.slice ao (enL g k).length cap)) wr) := ⟨ao, cap, rfl, ownsRow_base hR.own (by have := hR.tbl; omega), hR.bel⟩
      clear hR
      go_wp2_with fail
      go_ret
      exact HH.out
end Go.Proofs.YtiiecppkabdkgabDoor
namespace Go.Proofs.YtiiecppkabdkgabDoor
open Go.RowKit
/-- The tree of a+, and the text baaa. -/
def tA : Tre := .rep (.leaf (leafN ndA)) 1 (-1) false
def fB : Nat → Nat := fun i => if i = 0 then 98 else 97
theorem snd_A : snd (fun _ => leafN ndA) 1 = .leaf (leafN ndA) := by kernel_rfl
theorem tab_A : mTab fB 4 false (nodes tA) 2 = mean fB 4 false tA := by kernel_rfl
theorem bg_ends : enL (stT (mean fB 4 false tA)) 5 = [2, 3, 4] := by kernel_rfl
theorem bg_starts : ints (stT (mean fB 4 false tA)) 5 = [.int .i64 (-1), .int .i64 (-1), .int .i64 1, .int .i64 1, .int .i64 1] := by kernel_rfl
theorem bg_st : ∀ i, i < 5 → stT (mean fB 4 false tA) i = [-1, -1, 1, 1, 1].getD i 0 := fun i hi => by
  have h4 : i = 0 ∨ i = 1 ∨ i = 2 ∨ i = 3 ∨ i = 4 := by omega
  rcases h4 with rfl | rfl | rfl | rfl | rfl
  all_goals decide
theorem bg_yes : mean fB 4 false tA 1 2 = true := by kernel_rfl
theorem bg_no : mean fB 4 false tA 0 3 = false := by kernel_rfl
theorem eqI_self (n : Nat) (f g : Nat → Int) (h : ∀ i, i < n → f i = g i) : eqI n n f g = true := by
  simp only [eqI, decide_true, Bool.true_and, List.all_eq_true, List.mem_range, beq_iff_eq]
  exact h
/-- A slice of numbers that has just been built. -/
theorem rdI_new (w : World) (l : List Int) : RdI (w.alloc (.cells (intsL l).toArray 3)) (some ⟨w.heap.size, 0, none⟩) l.length (fun i => l.getD i 0) := fun _ =>
  ⟨w.heap.size, 0, rfl, by simp, fun i hi => by rw [Nat.zero_add]; exact (Cl.new w 3 (intsL l)).cell i (by simp [intsL, List.getD, hi])⟩
def begI (w : World) (e : Ending) (w' : World) : Prop := e = .returned (.bool true) ∧ Below w.heap.size w w'
set_option maxRecDepth 10000 in
set_option maxHeartbeats 4000000 in
theorem begun_any (w : World) (hT : TabZ w) : Calls Tryd.prog 9 #[] w (begI w) := by
  go_enter Tryd.func9, Tryd.ntmps9
  go_wp2_with fail
  refine (lf_any w).mono ?_
  rintro e w1 ⟨a1, c1, rfl, o1, b1⟩
  go_wp2_with fail
  have hcap1 := ownsRow_cap o1
  refine (rrepeat_any a1 1 c1 (fun _ => leafN ndA) 1 (-1) false w1 o1.rd (by decide) hcap1).mono ?_
  rw [snd_A]
  rintro e w2 ⟨a2, c2, rfl, o2, b2⟩
  have hr2 : RdN w2 a2 2 (nodes tA) := o2.rd
  have bw2 := b1.trans (b2.mono b1.size)
  have hT2 := hT.below bw2
  clear o1 o2 b1 b2 hcap1 hT
  rw [show (Tre.leaf (leafN ndA)).size + 1 = 2 from rfl]
  have hb3 := below2 w2 (.cells #[.slice a2 2 c2] 24) (.cells #[.int .u8 98, .int .u8 97, .int .u8 97, .int .u8 97] 5 (4, 5))
  have k3 : Cl ((w2.alloc (.cells #[.slice a2 2 c2] 24)).alloc (.cells #[.int .u8 98, .int .u8 97, .int .u8 97, .int .u8 97] 5 (4, 5))) w2.heap.size 24 [.slice a2 2 c2] := (Cl.new w2 24 [.slice a2 2 c2]).alloc _
  have hrB : RdB ((w2.alloc (.cells #[.slice a2 2 c2] 24)).alloc (.cells #[.int .u8 98, .int .u8 97, .int .u8 97, .int .u8 97] 5 (4, 5))) (some ⟨w2.heap.size + 1, 0, none⟩) 4 fB := by
    refine ⟨fun i _ => by unfold fB; split <;> omega, fun _ => ⟨_, 0, rfl, by simp, fun i hi => ?_⟩⟩
    have hh := heap_alloc_new (w2.alloc (.cells #[.slice a2 2 c2] 24)) (.cells #[.int .u8 98, .int .u8 97, .int .u8 97, .int .u8 97] 5 (4, 5))
    simp only [World.size_alloc] at hh
    rw [Nat.zero_add, cell_of_row _ (w2.heap.size + 1) i #[.int .u8 98, .int .u8 97, .int .u8 97, .int .u8 97] 5 (4, 5) hh]
    have h4 : i = 0 ∨ i = 1 ∨ i = 2 ∨ i = 3 := by omega
    rcases h4 with rfl | rfl | rfl | rfl
    all_goals rfl
  have hr3 := hr2.below hb3
  have hT3 := hT2.below hb3
  have bw3 := bw2.trans (hb3.mono bw2.size)
  have hF : ∀ i, i < 2 → wfN (nodes tA i) := by
    intro i hi
    have h4 : i = 0 ∨ i = 1 := by omega
    rcases h4 with rfl | rfl
    · exact ⟨⟨by decide, by decide⟩, ⟨by decide, by decide⟩, ⟨by decide, by decide⟩, by decide, by decide⟩
    · exact ⟨⟨by decide, by decide⟩, ⟨by decide, by decide⟩, ⟨by decide, by decide⟩, by decide, by decide⟩
  have d3 := k3.cell 0 rfl
  have hcv := Lib.run_convert_bytes_const (P := Tryd.prog) (w2.alloc (.cells #[.slice a2 2 c2] 24)) 25 5 #[.int .u8 98, .int .u8 97, .int .u8 97, .int .u8 97] 4 4 Tryd.underlying25 Tryd.underlying5
  simp only [World.size_alloc, List.size_toArray, List.length_cons, List.length_nil, Nat.reduceAdd] at hcv
  clear hr2 hT2 hb3 bw2
  go_wp2_with fail
  generalize (w2.alloc (.cells #[.slice a2 2 c2] 24)).alloc (.cells #[.int .u8 98, .int .u8 97, .int .u8 97, .int .u8 97] 5 (4, 5)) = w3 at *
  generalize w2.heap.size + 1 = bb at *
  generalize w2.heap.size = tb at *
  refine (ends15_any a2 2 c2 (nodes tA) (some ⟨bb, 0, none⟩) 4 4 false fB w3 hr3 (by decide) hF hrB (by decide) hT3).mono ?_
  rw [tab_A, bg_ends]
  rintro e w4 ⟨a4, c4, rfl, o4, b4⟩
  have k4 := k3.below b4
  have hr4 := hr3.below b4
  have hB4 := hrB.below b4
  have hT4 := hT3.below b4
  have bw4 := bw3.trans (b4.mono bw3.size)
  have hI4 := rdI_row o4
  clear o4 b4 hr3 hrB hT3 bw3 k3 d3
  go_wp2_with fail
  have hb5 := below1 w4 (.cells #[.int .i64 2, .int .i64 3, .int .i64 4] 3)
  refine (equalI_any a4 (some ⟨w4.heap.size, 0, none⟩) 3 3 c4 3 (fun i => [2, 3, 4].getD i 0) (fun i => [2, 3, 4].getD i 0) _ (by decide) (hI4.below hb5) (rdI_new w4 [2, 3, 4])).mono ?_
  rw [eqI_self 3 _ _ (fun _ _ => rfl)]
  rintro e w5 ⟨rfl, b5⟩
  have bq5 := hb5.trans (b5.mono hb5.size)
  have k5 := k4.below bq5
  have hr5 := hr4.below bq5
  have hB5 := hB4.below bq5
  have hT5 := hT4.below bq5
  have bw5 := bw4.trans (bq5.mono bw4.size)
  have d5 := k5.cell 0 rfl
  clear hI4 hb5 b5 bq5 k4 hr4 hB4 hT4 bw4
  go_wp2_with fail
  refine (starts17_any a2 2 c2 (nodes tA) (some ⟨bb, 0, none⟩) 4 4 false fB w5 hr5 (by decide) hF hB5 (by decide) hT5).mono ?_
  rw [tab_A]
  rintro e w6 ⟨t6, rfl, o6, b6, _⟩
  have k6 := k5.below b6
  have hr6 := hr5.below b6
  have hB6 := hB5.below b6
  have hT6 := hT5.below b6
  have bw6 := bw5.trans (b6.mono bw5.size)
  clear b6 hr5 hB5 hT5 bw5 k5 d5
  go_wp2_with fail
  have hb7 := below1 w6 (.cells #[.int .i64 (-1), .int .i64 (-1), .int .i64 1, .int .i64 1, .int .i64 1] 3)
  refine (equalI_any (some ⟨t6, 0, none⟩) (some ⟨w6.heap.size, 0, none⟩) 5 5 5 5 (stT (mean fB 4 false tA)) (fun i => [-1, -1, 1, 1, 1].getD i 0) _ (by decide) ((rdI_of o6 (Nat.le_refl _)).below hb7) (rdI_new w6 [-1, -1, 1, 1, 1])).mono ?_
  rw [eqI_self 5 _ _ bg_st]
  rintro e w7 ⟨rfl, b7⟩
  have bq7 := hb7.trans (b7.mono hb7.size)
  have k7 := k6.below bq7
  have hr7 := hr6.below bq7
  have hB7 := hB6.below bq7
  have hT7 := hT6.below bq7
  have bw7 := bw6.trans (bq7.mono bw6.size)
  have d7 := k7.cell 0 rfl
  clear hb7 b7 bq7 k6 hr6 hB6 hT6 bw6 o6
  go_wp2_with fail
  have HM8 := match_in a2 2 c2 (nodes tA) (some ⟨bb, 0, none⟩) 4 4 false 1 3 fB w7 hr7 (by decide) hF hB7 (by decide) (by decide) (by decide) hT7
  rw [tab_A, bg_yes] at HM8
  refine HM8.mono ?_
  rintro e w8 ⟨rfl, b8⟩
  have k8 := k7.below b8
  have hr8 := hr7.below b8
  have hB8 := hB7.below b8
  have hT8 := hT7.below b8
  have bw8 := bw7.trans (b8.mono bw7.size)
  have d8 := k8.cell 0 rfl
  clear b8 hr7 hB7 hT7 bw7 k7 d7 HM8
  go_wp2_with fail
  have HM9 := match_in a2 2 c2 (nodes tA) (some ⟨bb, 0, none⟩) 4 4 false 0 3 fB w8 hr8 (by decide) hF hB8 (by decide) (by decide) (by decide) hT8
  rw [tab_A, bg_no] at HM9
  refine HM9.mono ?_
  rintro e w9 ⟨rfl, b9⟩
  have bw9 := bw8.trans (b9.mono bw8.size)
  clear HM9 hr8 hB8 hT8
  go_wp2_with fail
  go_ret
  exact ⟨rfl, bw9⟩
end Go.Proofs.YtiiecppkabdkgabDoor
