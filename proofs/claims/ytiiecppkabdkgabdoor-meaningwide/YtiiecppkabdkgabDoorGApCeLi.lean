/- anchorsMay: the walk. Check: the walk. one, live: the walks. -/
import Derived.Test.YtiiecppkabdkgabDoorAo
import Derived.Test.YtiiecppkabdkgabDoorGAnAqMiMj
import Derived.Test.YtiiecppkabdkgabDoorGTailScWaWoWmWwMwMe
namespace Go.Proofs.YtiiecppkabdkgabDoor
open Go.RowKit
def RetBo (w : World) (b : Bool) (e : Ending) (w' : World) : Prop := e = .returned (.bool b) ∧ Below w.heap.size w w'
/-- What holds where the label is met. -/
structure AmI (w : World) (t : Tre) (k : Nat) (W : World) : Prop where
  lt : k < t.size
  ways : Cl W w.heap.size 86 (bws (stW t k) t.size)
  bel : Below w.heap.size w W
  met : ∀ p u, k < p → t.subs[p]? = some u → okA u (wy t (true, true) p) = true
def AmJ (w : World) (ao : Option Addr) (cap : Nat) (t : Tre) (l m : Nat) (a : Act) (W : World) : Prop :=
  l = 0 ∧ ∃ k tm, m = k + 1 ∧ Fr52 ao t.size cap w.heap.size (k : Int) tm ∧ a = ⟨tm, []⟩ ∧ AmI w t k W
theorem am_pass (w : World) (bb off cap : Nat) (t : Tre) (ho : t.ok = true) (hs : t.size ≤ 2048) (hr : RdN w (some ⟨bb, off, none⟩) t.size (nodes t)) (k : Nat) (u : Nat → Value) (W : World) (hI : AmI w t k W) :
    Code.wp Tryd.prog (labelIn Tryd.f36 0) (jumps (fun l' a' w' => ∃ m', m' < k + 1 ∧ AmJ w (some ⟨bb, off, none⟩) cap t l' m' a' w') (bodyPost Tryd.prog Tryd.f36 (RetBo w (anc t (true, true))))) ⟨fr52 (some ⟨bb, off, none⟩) t.size cap w.heap.size (k : Int) u, []⟩ W := by
  obtain ⟨hk, hL, hb, hmet⟩ := hI
  obtain ⟨bb', off', ea, hbb0, hc⟩ := hr (by omega)
  obtain ⟨rfl, rfl⟩ : bb = bb' ∧ off = off' := by simpa using ea
  have hbb : bb < W.heap.size := Nat.lt_of_lt_of_le hbb0 hb.size
  obtain ⟨c0, c1, c2, c3, c4, c5, c6, c7, c8, c9⟩ := hc k hk
  rw [← hb.cell (p := ⟨bb, _, none⟩) hbb0] at c0 c1 c2 c3 c4 c5 c6 c7 c8 c9
  have v0 := hL.cell (k * 2) (bws_get0 _ hk)
  have v1 := hL.cell (k * 2 + 1) (bws_get1 _ hk)
  rw [stW_self t k hk] at v0 v1
  have hl : k < t.subs.length := by rw [Tre.subs_length]; exact hk
  have e := List.getElem?_eq_getElem hl
  rw [nodes_get e] at c0 c1 c2 c3 c4 c5 c6 c7 c8 c9
  have hok := subs_ok t k _ ho e
  -- what comes behind
  have hfalse : okA t.subs[k] (wy t (true, true) k) = false → ∀ W', Below W.heap.size W W' → RetBo w (anc t (true, true)) (.returned (.bool false)) W' := by
    intro hf W' hW'
    have : anc t (true, true) = false := by
      cases h : anc t (true, true) with
      | false => rfl
      | true => rw [(anc_iff t _).1 h k _ e] at hf; cases hf
    rw [this]
    exact ⟨rfl, hb.trans (hW'.mono hb.size)⟩
  have htrue : okA t.subs[k] (wy t (true, true) k) = true → ∀ p v, k - 1 < p → t.subs[p]? = some v → okA v (wy t (true, true) p) = true := by
    intro hf p v hp hv
    by_cases hpk : p = k
    · subst hpk
      rw [e] at hv
      obtain rfl := Option.some.inj hv
      exact hf
    · exact hmet p v (by omega) hv
  have hend : ¬ 0 < k → okA t.subs[k] (wy t (true, true) k) = true → ∀ W', Below W.heap.size W W' → RetBo w (anc t (true, true)) (.returned (.bool true)) W' := by
    intro h0 hf W' hW'
    have : anc t (true, true) = true := (anc_iff t _).2 fun p v hv => by
      by_cases hpk : p = k
      · subst hpk
        rw [e] at hv
        obtain rfl := Option.some.inj hv
        exact hf
      · exact hmet p v (by omega) hv
    rw [this]
    exact ⟨rfl, hb.trans (hW'.mono hb.size)⟩
  have hnext : 0 < k → okA t.subs[k] (wy t (true, true) k) = true → ∀ (L : List Value), L = bws (stW t (k - 1)) t.size → ∀ tm W', Fr52 (some ⟨bb, off, none⟩) t.size cap w.heap.size ((k : Int) - 1) tm → Cl W' w.heap.size 86 L → Below w.heap.size W W' → ∃ m', m' < k + 1 ∧ AmJ w (some ⟨bb, off, none⟩) cap t 0 m' ⟨tm, []⟩ W' := by
    intro h0 hf L hLL tm W' hF hC hB
    subst hLL
    refine ⟨k, by omega, rfl, k - 1, tm, by omega, ?_, rfl, by omega, hC, hb.trans hB, htrue hf⟩
    rw [show ((k - 1 : Nat) : Int) = (k : Int) - 1 by omega]
    exact hF
  have hn : (t.size : Int) ≤ 2048 := by omega
  have hbW := hb.size
  cases hu : t.subs[k] with
  | leaf n =>
    rw [hu] at c0 c1 c2 c3 c4 c5 c6 c7 c8 c9 hok hfalse hend hnext e
    simp only [Tre.nd] at c0 c1 c2 c3 c4 c5 c6 c7 c8 c9
    have hkk := lf_kind hok
    have hst : 0 < k → bws (stW t k) t.size = bws (stW t (k - 1)) t.size := fun h0 => bws_congr fun q hq => stW_leaf e h0 q hq
    by_cases k6 : n.k = 6
    · rw [k6] at c0
      cases hh : (wy t (true, true) k).1 with
      | false =>
        rw [hh] at v0
        exact am_hatf bb off t.size cap _ k u n _ _ hbb hL hk c0 c1 c2 c3 c4 c5 c6 c7 c8 c9 v0 v1 (hfalse (by simp [okA, k6, hh]))
      | true =>
        rw [hh] at v0
        have hq : okA (.leaf n) (wy t (true, true) k) = true := by simp [okA, k6, hh]
        by_cases h0 : 0 < k
        · exact am_hatn bb off t.size cap _ k u n _ _ hbb hL hk hn h0 c0 c1 c2 c3 c4 c5 c6 c7 c8 c9 v0 v1 (fun tm W' hF hC hB => hnext h0 hq _ (hst h0) tm W' hF hC (hB.mono hbW))
        · exact am_hat0 bb off t.size cap _ k u n _ _ hbb hL hk h0 c0 c1 c2 c3 c4 c5 c6 c7 c8 c9 v0 v1 (hend h0 hq)
    · by_cases k7 : n.k = 7
      · rw [k7] at c0
        cases hh : (wy t (true, true) k).2 with
        | false =>
          rw [hh] at v1
          exact am_dolf bb off t.size cap _ k u n _ _ hbb hL hk c0 c1 c2 c3 c4 c5 c6 c7 c8 c9 v0 v1 (hfalse (by simp [okA, k7, hh]))
        | true =>
          rw [hh] at v1
          have hq : okA (.leaf n) (wy t (true, true) k) = true := by simp [okA, k7, hh]
          by_cases h0 : 0 < k
          · exact am_doln bb off t.size cap _ k u n _ _ hbb hL hk hn h0 c0 c1 c2 c3 c4 c5 c6 c7 c8 c9 v0 v1 (fun tm W' hF hC hB => hnext h0 hq _ (hst h0) tm W' hF hC (hB.mono hbW))
          · exact am_dol0 bb off t.size cap _ k u n _ _ hbb hL hk h0 c0 c1 c2 c3 c4 c5 c6 c7 c8 c9 v0 v1 (hend h0 hq)
      · have hq : okA (.leaf n) (wy t (true, true) k) = true := by simp [okA, k6, k7]
        by_cases h0 : 0 < k
        · exact am_othern bb off t.size cap _ k u n _ _ (by omega) _ hbb hL hk hn h0 c0 c1 c2 c3 c4 c5 c6 c7 c8 c9 v0 v1 (fun tm W' hF hC hB => hnext h0 hq _ (hst h0) tm W' hF hC (hB.mono hbW))
        · exact am_other0 bb off t.size cap _ k u n _ _ (by omega) _ hbb hL hk h0 c0 c1 c2 c3 c4 c5 c6 c7 c8 c9 v0 v1 (hend h0 hq)
  | two kk x y =>
    rw [hu] at c0 c1 c2 c3 c4 c5 c6 c7 c8 c9 hok hnext e
    have sx := x.size_pos
    have sy := y.size_pos
    obtain ⟨h1, _, _⟩ := subs_two e
    obtain ⟨z1, z2⟩ := stW_unset e
    have h0 : 0 < k := by omega
    have hst := fun q hq => stW_two e q hq
    simp only [Tre.nd] at c0 c1 c2 c3 c4 c5 c6 c7 c8 c9
    rw [show (k : Int) - 1 - y.size = ((k - 1 - y.size : Nat) : Int) by omega] at c5
    rw [show (k : Int) - 1 = ((k - 1 : Nat) : Int) by omega] at c6
    simp [Tre.ok] at hok
    rcases hok.1.1 with rfl | rfl
    · refine am_cat bb off t.size cap _ k (k - 1 - y.size) (k - 1) u ⟨3, 0, 0, 0, 0, 0, 0, 0, 0, false⟩ _ _ _ hbb hL hk hn h0 (by omega) (by omega) (by omega) c0 c1 c2 c3 c4 c5 c6 c7 c8 c9 v0 v1 (fun tm W' hF hC hB => hnext h0 rfl _ (bws_congr fun q hq => ?_) tm W' hF hC hB)
      rw [hst q hq, z1, z2]
      simp only [updB, hdA, hdB]
      split
      · rename_i e1; subst e1; rfl
      · split <;> rfl
    · refine am_alt bb off t.size cap _ k (k - 1 - y.size) (k - 1) u ⟨4, 0, 0, 0, 0, 0, 0, 0, 0, false⟩ _ _ _ hbb hL hk hn h0 (by omega) (by omega) (by omega) c0 c1 c2 c3 c4 c5 c6 c7 c8 c9 v0 v1 (fun tm W' hF hC hB => hnext h0 rfl _ (bws_congr fun q hq => ?_) tm W' hF hC hB)
      rw [hst q hq]
      simp only [updB, hdA, hdB]
      split
      · rfl
      · split <;> rfl
  | rep x l m z =>
    rw [hu] at c0 c1 c2 c3 c4 c5 c6 c7 c8 c9 hok hnext hend e
    have sx := x.size_pos
    obtain ⟨h1, _⟩ := subs_rep e
    have h0 : 0 < k := by omega
    simp only [Tre.nd] at c0 c1 c2 c3 c4 c5 c6 c7 c8 c9
    exact am_othern bb off t.size cap _ k u ⟨5, 0, 0, 0, 0, (k : Int) - 1, 0, l, m, z⟩ _ _ (by simp) _ hbb hL hk hn h0 c0 c1 c2 c3 c4 c5 c6 c7 c8 c9 v0 v1 (fun tm W' hF hC hB => hnext h0 rfl _ (bws_congr fun q hq => stW_rep e h0 q hq) tm W' hF hC (hB.mono hbW))
theorem b_way : (Tryd.prog.info? 86).map (fun i => (i.zero, i.size, i.bytes)) = some (some (.agg #[.bool false, .bool false]), 2, 2) := by kernel_rfl
theorem make_ways (n : Nat) (hn : n ≤ 2048) (w : World) : (Instr.makeSlice 84 (.int .i64 (n : Nat)) (.int .i64 (n : Nat))).run Tryd.prog w = .ok (.slice (some ⟨w.heap.size, 0, none⟩) n n) (w.alloc (.cells (bws (fun _ => (false, false)) n).toArray 86)) := by
  obtain ⟨i, hi, hz, hs, hb⟩ := info_parts b_way
  have := run_make (P := Tryd.prog) w 84 86 i _ Tryd.underlying84 hi hz .i64 .i64 (n : Int) (n : Int) (by omega) (by omega) (by rw [hb]; omega) (by omega)
  rw [this, hs]
  have e : madeCells #[Value.bool false, Value.bool false] (n * 2) = (bws (fun _ => (false, false)) n).toArray := by
    apply Array.ext_getElem?
    intro q
    by_cases hq : q < n * 2
    · have hd : q = q / 2 * 2 + q % 2 := by omega
      have hm : (madeCells #[Value.bool false, Value.bool false] (n * 2))[q]? = some (.bool false) := by
        have hs : q < (madeCells #[Value.bool false, Value.bool false] (n * 2)).size := by rw [size_madeCells]; exact hq
        rw [Array.getElem?_eq_getElem hs]
        simp only [madeCells, Array.getElem_map, Array.getElem_range]
        rcases Nat.mod_two_eq_zero_or_one q with h | h <;> simp [h]
      rw [hm, List.getElem?_toArray, hd]
      rcases Nat.mod_two_eq_zero_or_one q with h | h
      · rw [h, Nat.add_zero, bws_get0 _ (by omega)]
      · rw [h, bws_get1 _ (by omega)]
    · rw [Array.getElem?_eq_none (by rw [size_madeCells]; omega), Array.getElem?_eq_none (by simp [bws_length]; omega)]
  simp [Value.cells, e]
theorem am_labels (w : World) (bb off cap : Nat) (t : Tre) (ho : t.ok = true) (hs : t.size ≤ 2048) (hr : RdN w (some ⟨bb, off, none⟩) t.size (nodes t)) (l m : Nat) (a : Act) (W : World) (hJ : AmJ w (some ⟨bb, off, none⟩) cap t l m a W) :
    ∃ rest, findLabel (scopeIn Tryd.f36) l = some rest ∧ rest.wp Tryd.prog (jumps (fun l' a' w' => ∃ m', m' < m ∧ AmJ w (some ⟨bb, off, none⟩) cap t l' m' a' w') (bodyPost Tryd.prog Tryd.f36 (RetBo w (anc t (true, true))))) a W := by
  obtain ⟨rfl, k, tm, rfl, ⟨u, rfl⟩, rfl, hI⟩ := hJ
  exact ⟨_, am_label, wp_skip_seq (am_pass w bb off cap t ho hs hr k u W hI)⟩
set_option maxRecDepth 20000 in
set_option maxHeartbeats 4000000 in
theorem anchors_any (w : World) (bb off cap : Nat) (t : Tre) (ho : t.ok = true) (hs : t.size ≤ 2048) (hr : RdN w (some ⟨bb, off, none⟩) t.size (nodes t)) : Calls Tryd.prog 36 #[.slice (some ⟨bb, off, none⟩) t.size cap] w (RetBo w (anc t (true, true))) := by
  have hp := t.size_pos
  have hmk := make_ways t.size hs
  have HL : Hid (∀ l m a W, AmJ w (some ⟨bb, off, none⟩) cap t l m a W → _) := fun l m a W hJ => am_labels w bb off cap t ho hs hr l m a W hJ
  have k0 := Cl.new w 86 (bws (fun _ => (false, false)) t.size)
  have kM := Cl.new w 86 (((bws (fun _ => (false, false)) t.size).set ((t.size - 1) * 2) (.bool true)).set ((t.size - 1) * 2 + 1) (.bool true))
  have hst : ((bws (fun _ => (false, false)) t.size).set ((t.size - 1) * 2) (.bool true)).set ((t.size - 1) * 2 + 1) (.bool true) = bws (stW t (t.size - 1)) t.size := by
    rw [bws_set0 _ _ _ _ (by omega), bws_set1 _ _ _ _ (by omega), updB_two, updB_at]
    exact bws_congr fun q hq => by rw [stW_start t q hq]; rfl
  have z0 := k0.cell ((t.size - 1) * 2) (bws_get0 _ (by omega))
  have z1 := k0.cell ((t.size - 1) * 2 + 1) (bws_get1 _ (by omega))
  have k1 := Cl.new w 86 ((bws (fun _ => (false, false)) t.size).set ((t.size - 1) * 2) (.bool true))
  have z2 := k1.cell ((t.size - 1) * 2 + 1) (v := .bool false) (by rw [List.getElem?_set_ne (by omega)]; exact bws_get1 _ (by omega))
  have f0 := k0.frozen ((t.size - 1) * 2)
  have f1 := k0.frozen ((t.size - 1) * 2 + 1)
  have f2 := k1.frozen ((t.size - 1) * 2 + 1)
  have HI : Hid (AmI w t (t.size - 1) (w.alloc (.cells (((bws (fun _ => (false, false)) t.size).set ((t.size - 1) * 2) (.bool true)).set ((t.size - 1) * 2 + 1) (.bool true)).toArray 86))) := ⟨by omega, by rw [← hst]; exact kM, below1 _ _, fun p v hp hv => by
    have := (List.getElem?_eq_some_iff.1 hv).1
    rw [Tre.subs_length] at this
    omega⟩
  have HP : Hid (∀ (W : World) (tm : Array Value), Fr52 (some ⟨bb, off, none⟩) t.size cap w.heap.size ((t.size : Int) - 1) tm → AmI w t (t.size - 1) W → Code.wp Tryd.prog (labelIn Tryd.f36 0) (jumps (fun l' a' w' => ∃ m', m' < t.size - 1 + 1 ∧ AmJ w (some ⟨bb, off, none⟩) cap t l' m' a' w') (bodyPost Tryd.prog Tryd.f36 (RetBo w (anc t (true, true))))) ⟨tm, []⟩ W) := by
    intro W tm ⟨u, hu⟩ hI
    rw [hu, show (t.size : Int) - 1 = ((t.size - 1 : Nat) : Int) by omega]
    exact am_pass w bb off cap t ho hs hr _ u W hI
  have h1 : ((t.size : Int) - 1).toNat = t.size - 1 := by omega
  have h2 : (0 : Int) ≤ (t.size : Int) - 1 := by omega
  have h3 : (t.size : Int) - 1 < (t.size : Int) := by omega
  have h4 : (t.size : Int) ≤ 2048 := by omega
  clear hr kM hst
  go_enter Tryd.func36, Tryd.ntmps36
  go_wp2_with fail
  refine wp_scope_labels (AmJ w (some ⟨bb, off, none⟩) cap t) ?_ (fun l m a W hJ => HL.out l m a W hJ)
  go_wp2_with fail
  go_step3
  rename_i K hK
  refine hK _ _ ?_
  clear hK
  refine Code.wp_mono (jumps_mono (fun l a w hq => ?_)) (HP.out _ _ (Fr52.of _ rfl) HI.out)
  obtain ⟨m, _, hm⟩ := hq
  exact ⟨m, hm⟩
end Go.Proofs.YtiiecppkabdkgabDoor
namespace Go.Proofs.YtiiecppkabdkgabDoor
open Go.RowKit
/-- What Check answers. -/
def chkE (F : Nat → Nd) (n : Nat) : Int := match treeOf F n with
  | none => 50
  | some t => if anc t (true, true) = true then 0 else 51
set_option maxRecDepth 10000 in
set_option maxHeartbeats 1000000 in
theorem check_any (a : Option Addr) (n c : Nat) (F : Nat → Nd) (w : World) (ha : RdN w a n F) (hn : (n : Int) ≤ 9223372036854775807) : Calls Tryd.prog 25 #[.agg #[.slice a n c]] w (RetI w (chkE F n)) := by
  have hW0 := below1 w (.cells #[.slice a n c] 24)
  have k0 := Cl.new w 24 [.slice a n c]
  have HS := starts_any a n c F _ (ha.below hW0) hn
  unfold RetSts at HS
  cases ht : treeOf F n with
  | none =>
    have e : chkE F n = 50 := by simp [chkE, ht]
    rw [e]
    rw [ht] at HS
    clear ha ht e
    go_enter Tryd.func25, Tryd.ntmps25
    go_wp2_with (go_at_call 35; refine HS.mono ?_; rintro e w1 ⟨⟨v, rfl, _⟩, hb⟩)
    go_ret
    exact ⟨rfl, hW0.trans (hb.mono (by simp))⟩
  | some t =>
    obtain ⟨e1, e2, e3, e4⟩ := treeOf_some ht
    have hp := t.size_pos
    obtain ⟨bb, off, rfl, hbb, _⟩ := ha (by omega)
    subst e1
    have hr' : RdN w (some ⟨bb, off, none⟩) t.size (nodes t) := ha.congr e4
    have HA : Hid (∀ W, Below w.heap.size w W → Calls Tryd.prog 36 #[.slice (some ⟨bb, off, none⟩) t.size c] W (RetBo W (anc t (true, true)))) := fun W hW => anchors_any W bb off c t e2 e3 (hr'.below hW)
    rw [ht] at HS
    have e : chkE F t.size = if anc t (true, true) = true then 0 else 51 := by simp [chkE, ht]
    rw [e]
    clear ha ht e hr' e2 e3 e4
    cases hq : anc t (true, true) with
    | true =>
      rw [hq] at HA
      rw [if_pos rfl]
      generalize t.size = m at *
      go_enter Tryd.func25, Tryd.ntmps25
      go_wp2_with (first | (go_at_call 35; refine HS.mono ?_; rintro e w1 ⟨⟨v, rfl, _⟩, hb⟩; have d1 := (k0.below hb).cell 0 rfl) | (go_at_call 36; refine (HA.out _ (hW0.trans (hb.mono (by simp)))).mono ?_; rintro e w2 ⟨rfl, hb2⟩))
      go_ret
      exact ⟨rfl, (hW0.trans (hb.mono (by simp))).trans (hb2.mono (Nat.le_trans (by simp) hb.size))⟩
    | false =>
      rw [hq] at HA
      rw [if_neg (by simp)]
      generalize t.size = m at *
      go_enter Tryd.func25, Tryd.ntmps25
      go_wp2_with (first | (go_at_call 35; refine HS.mono ?_; rintro e w1 ⟨⟨v, rfl, _⟩, hb⟩; have d1 := (k0.below hb).cell 0 rfl) | (go_at_call 36; refine (HA.out _ (hW0.trans (hb.mono (by simp)))).mono ?_; rintro e w2 ⟨rfl, hb2⟩))
      go_ret
      exact ⟨rfl, (hW0.trans (hb.mono (by simp))).trans (hb2.mono (Nat.le_trans (by simp) hb.size))⟩
end Go.Proofs.YtiiecppkabdkgabDoor
namespace Go.Proofs.YtiiecppkabdkgabDoor
open Go.RowKit
def byteN (x : Int) : Nd := ⟨2, 0, x, 0, 0, 0, 0, 0, 0, false⟩
theorem leafN_byte (x : Int) : leafN (byteN x) = byteN x := by simp [leafN, byteN]
theorem byte_ok (x : Int) : (Tre.leaf (byteN x)).ok = true := by simp [Tre.ok, Tre.lf, byteN, Nd.eq]
theorem snd_byte (x : Int) : snd (fun _ => byteN x) 1 = .leaf (byteN x) := by
  have := treeOf_nodes (.leaf (byteN x)) (n := 1) (fun _ => byteN x) rfl (byte_ok x) (by simp [Tre.size]) (fun p hp => by
    have : p = 0 := by omega
    subst this; rfl)
  simp [snd, this]
theorem snd_nodes (t : Tre) (ho : t.ok = true) (hs : t.size ≤ 2048) : snd (nodes t) t.size = t := by
  have := treeOf_nodes t (n := t.size) (nodes t) rfl ho hs (fun p _ => rfl)
  simp [snd, this]
/-- ab|c. -/
def abT : Tre := .two 3 (.leaf (byteN 8589934592)) (.leaf (byteN 17179869184))
def abcT : Tre := .two 4 abT (.leaf (byteN 34359738368))
theorem ab_ok : abT.ok = true := by simp [abT, Tre.ok, Tre.lf, byteN, Nd.eq]
theorem abc_ok : abcT.ok = true := by simp [abcT, abT, Tre.ok, Tre.lf, byteN, Nd.eq]
theorem abc_wl : wl abcT = 1 := by simp [abcT, abT, wl, byteN, pl]; decide
theorem abc_wg : wg abcT = 2 := by simp [abcT, abT, wg, byteN, pl, gr]; decide
theorem abc_wt : wt abcT = 3 := by simp [abcT, abT, wt, byteN, pl]; decide
theorem abc_chk : chkE (nodes abcT) 5 = 0 := by
  have := treeOf_nodes abcT (n := 5) (nodes abcT) rfl abc_ok (by decide) (fun p _ => rfl)
  rw [chkE, this]
  simp [abcT, abT, anc, byteN]
end Go.Proofs.YtiiecppkabdkgabDoor
