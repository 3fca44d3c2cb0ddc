/- parse: two patterns beside each other are read so. ParseBeside: bar: the walk, given what the reference's Lex says. -/
import Derived.Test.YtlmmiicibjfcdaaQ24
namespace Go.Proofs.Ytlmmiicibjfcdaa
open Go.RowKit
/-- The tokens of a text, as the parser sees them. -/
def tpW (fl : Fg) (l : List TokS) (i : Nat) : Tp := (nS l i).r.tp fl
theorem sgn_ok6 (fl : Fg) (k a b : Nat) (h : k = 6) : ((TokS.sgn k 0 a b).r.tp fl).ok = true := by
  have h1 : (TokS.sgn k 0 a b).may = true := chk_sgn (.inr ⟨rfl, by omega⟩)
  exact h1
theorem nS_mem {l : List TokS} {i : Nat} (h : i < l.length) : l[i]? = some (nS l i) := by
  rw [nS_get (List.getElem?_eq_getElem h), List.getElem?_eq_getElem h]
/-- No bar outside of groups. -/
def noBar (fl : Fg) (l : List TokS) : Prop := ∀ i p, i < l.length → runP (tpW fl l) i = .ok p → (tpW fl l i).k = 6 → p.op ≠ []
theorem bar_ok {z p q : Nat → Nat} {n k : Nat} {fl : Fg} {la lb : List Nd} (hp : ∀ i, i < n → z i = p i) (hb : z n = 124) (hq : ∀ i, i < k → z (n + 1 + i) = q i) (he : z (n + 1 + k) ≠ 63) (hN : n + 1 + k ≤ 1024) (oa : OkP p n fl la) (ob : OkP q k fl lb) (hno : noBar fl (wl q k 1100 0)) (hz : (treT (tpW fl (wl p n 1100 0)) (wl p n 1100 0).length).size + (treT (tpW fl (wl q k 1100 0)) (wl q k 1100 0).length).size + 1 ≤ 2048) :
    OkP z (n + 1 + k) fl (ndF (Tre.two 4 (treT (tpW fl (wl p n 1100 0)) (wl p n 1100 0).length) (treT (tpW fl (wl q k 1100 0)) (wl q k 1100 0).length)).subs) := by
  have hw := bar_words hp hb hq hN oa.2.1 ob.2.1 _ rfl he
  have hlen : ((wl p n 1100 0).map (TokS.fwd 0) ++ TokS.sgn 6 0 n (n + 1) :: (wl q k 1100 0).map (TokS.fwd (n + 1))).length = (wl p n 1100 0).length + 1 + (wl q k 1100 0).length := by simp; omega
  refine ⟨hN, ?_, ?_⟩
  · rw [hw]
    intro s hs
    rcases List.mem_append.1 hs with hs | hs
    · obtain ⟨s', hs', rfl⟩ := List.mem_map.1 hs
      rw [fwd_er]; exact oa.2.1 s' hs'
    · rcases List.mem_cons.1 hs with rfl | hs
      · rfl
      · obtain ⟨s', hs', rfl⟩ := List.mem_map.1 hs
        rw [fwd_er]; exact ob.2.1 s' hs'
  · rw [hw, hlen]
    refine toks_bar (X := tpW fl (wl p n 1100 0)) (Y := tpW fl (wl q k 1100 0)) ⟨fun i hi => ?_, ?_, ⟨fun i hi => ?_⟩, hno⟩ oa.2.2 ob.2.2 (fun i _ => Int.natCast_nonneg _) (fun i _ => Int.natCast_nonneg _) hz
    · rw [nS_get (i := i) (s := (nS (wl p n 1100 0) i).fwd 0) (by rw [List.getElem?_append_left (by simpa using hi), List.getElem?_map, nS_mem hi]; rfl)]
      exact fwd_r 0 _ fl (oa.2.1 _ (List.mem_of_getElem? (nS_mem hi)))
    · rw [nS_get (s := TokS.sgn 6 0 n (n + 1)) (by rw [List.getElem?_append_right (by simp)]; simp)]
      exact ⟨rfl, sgn_ok6 fl 6 n (n + 1) rfl⟩
    · rw [nS_get (i := (wl p n 1100 0).length + 1 + i) (s := (nS (wl q k 1100 0) i).fwd (n + 1)) (by
        rw [List.getElem?_append_right (by simp; omega), List.length_map, show (wl p n 1100 0).length + 1 + i - (wl p n 1100 0).length = i + 1 by omega, List.getElem?_cons_succ, List.getElem?_map, nS_mem hi]; rfl)]
      exact fwd_r (n + 1) _ fl (ob.2.1 _ (List.mem_of_getElem? (nS_mem hi)))
/-- One behind the other. -/
theorem pair_ok {z p q : Nat → Nat} {n k : Nat} {fl : Fg} {la lb : List Nd} (h0 : z 0 = 40) (h1 : z 1 = 63) (h2 : z 2 = 58) (hp : ∀ i, i < n → z (3 + i) = p i) (hc : z (3 + n) = 41) (g0 : z (4 + n) = 40) (g1 : z (5 + n) = 63) (g2 : z (6 + n) = 58) (hq : ∀ i, i < k → z (7 + n + i) = q i) (gc : z (7 + n + k) = 41) (hN : 8 + n + k ≤ 1024) (oa : OkP p n fl la) (ob : OkP q k fl lb) (hz : (treT (tpW fl (wl p n 1100 0)) (wl p n 1100 0).length).size + (treT (tpW fl (wl q k 1100 0)) (wl q k 1100 0).length).size + 1 ≤ 2048) :
    (∀ s, s ∈ wl z (8 + n + k) 1100 0 → s.er = 0) ∧ (toksS (fun i => (nS (wl z (8 + n + k) 1100 0) i).r.tp fl) (wl z (8 + n + k) 1100 0).length = .ok (ndF (Tre.two 3 (treT (tpW fl (wl p n 1100 0)) (wl p n 1100 0).length) (treT (tpW fl (wl q k 1100 0)) (wl q k 1100 0).length)).subs) ∨ ∃ at_, toksS (fun i => (nS (wl z (8 + n + k) 1100 0) i).r.tp fl) (wl z (8 + n + k) 1100 0).length = .error (at_, 51)) := by
  have hw := pair_words h0 h1 h2 hp hc g0 g1 g2 hq gc hN oa.2.1 ob.2.1
  obtain ⟨LX, hX⟩ : ∃ LX, wl p n 1100 0 = LX := ⟨_, rfl⟩
  obtain ⟨LY, hY⟩ : ∃ LY, wl q k 1100 0 = LY := ⟨_, rfl⟩
  have ga : ∀ s, s ∈ LX → s.er = 0 := by rw [← hX]; exact oa.2.1
  have gb : ∀ s, s ∈ LY → s.er = 0 := by rw [← hY]; exact ob.2.1
  have ta : toksS (tpW fl LX) LX.length = .ok la := by rw [← hX]; exact oa.2.2
  have tb : toksS (tpW fl LY) LY.length = .ok lb := by rw [← hY]; exact ob.2.2
  rw [hX, hY] at hw hz
  rw [hX, hY, hw]
  have hlen : (TokS.sgn 4 0 0 3 :: (LX.map (TokS.fwd 3) ++ TokS.sgn 5 0 (3 + n) (4 + n) :: TokS.sgn 4 0 (4 + n) (7 + n) :: (LY.map (TokS.fwd (7 + n)) ++ [TokS.sgn 5 0 (7 + n + k) (8 + n + k)]))).length = 4 + LX.length + LY.length := by simp; omega
  rw [hlen]
  refine ⟨fun s hs => ?_, ?_⟩
  · simp only [List.mem_cons, List.mem_append, List.mem_map, List.not_mem_nil, or_false] at hs
    rcases hs with rfl | ⟨s', hs', rfl⟩ | rfl | rfl | ⟨s', hs', rfl⟩ | rfl
    · rfl
    · rw [fwd_er]; exact ga s' hs'
    · rfl
    · rfl
    · rw [fwd_er]; exact gb s' hs'
    · rfl
  · refine toks_pair (X := tpW fl LX) (Y := tpW fl LY) ⟨?_, ⟨fun i hi => ?_⟩, ?_, ?_, ⟨fun i hi => ?_⟩, ?_⟩ ta tb hz
    · rw [nS_get (s := TokS.sgn 4 0 0 3) rfl]; exact ⟨rfl, sgn_ok fl 4 0 3 (.inl rfl)⟩
    · rw [nS_get (i := 1 + i) (s := (nS LX i).fwd 3) (by
        rw [Nat.add_comm 1 i, List.getElem?_cons_succ, List.getElem?_append_left (by simpa using hi), List.getElem?_map, nS_mem hi]; rfl)]
      exact fwd_r 3 _ fl (ga _ (List.mem_of_getElem? (nS_mem hi)))
    · rw [nS_get (i := 1 + LX.length) (s := TokS.sgn 5 0 (3 + n) (4 + n)) (by
        rw [Nat.add_comm 1, List.getElem?_cons_succ, List.getElem?_append_right (by simp)]; simp)]
      exact ⟨rfl, sgn_ok fl 5 _ _ (.inr rfl)⟩
    · rw [nS_get (i := 2 + LX.length) (s := TokS.sgn 4 0 (4 + n) (7 + n)) (by
        rw [show 2 + LX.length = (LX.length + 1) + 1 by omega, List.getElem?_cons_succ, List.getElem?_append_right (by simp)]; simp)]
      exact ⟨rfl, sgn_ok fl 4 _ _ (.inl rfl)⟩
    · rw [nS_get (i := 3 + LX.length + i) (s := (nS LY i).fwd (7 + n)) (by
        rw [show 3 + LX.length + i = (LX.length + (i + 2)) + 1 by omega, List.getElem?_cons_succ, List.getElem?_append_right (by simp), List.length_map, Nat.add_sub_cancel_left, List.getElem?_cons_succ, List.getElem?_cons_succ, List.getElem?_append_left (by simpa using hi), List.getElem?_map, nS_mem hi]; rfl)]
      exact fwd_r (7 + n) _ fl (gb _ (List.mem_of_getElem? (nS_mem hi)))
    · rw [nS_get (i := 3 + LX.length + LY.length) (s := TokS.sgn 5 0 (7 + n + k) (8 + n + k)) (by
        rw [show 3 + LX.length + LY.length = (LX.length + (LY.length + 2)) + 1 by omega, List.getElem?_cons_succ, List.getElem?_append_right (by simp), List.length_map, Nat.add_sub_cancel_left, List.getElem?_cons_succ, List.getElem?_cons_succ, List.getElem?_append_right (by simp)]; simp)]
      exact ⟨rfl, sgn_ok fl 5 _ _ (.inr rfl)⟩
end Go.Proofs.Ytlmmiicibjfcdaa
namespace Go.Proofs.Ytlmmiicibjfcdaa
open Go.RowKit
/-- What bar answers. -/
def RetBar (w : World) (fl : Fg) (l : List TokS) (e : Ending) (w' : World) : Prop := ∃ B : Bool, e = .returned (.bool B) ∧ (B = false → noBar fl l) ∧ Below w.heap.size w w'
/-- So far there is no bar outside of groups; so deep it is. -/
structure BarI (w : World) (fl : Fg) (l : List TokS) (k : Nat) (d : Int) (W : World) : Prop where
  bel : Below w.heap.size w W
  deep : ∀ p, runP (tpW fl l) k = .ok p → d = p.op.length
  no : ∀ i p, i < k → runP (tpW fl l) i = .ok p → (tpW fl l i).k = 6 → p.op ≠ []
theorem deep_step {X : Nat → Tp} {i : Nat} {p q : Ps} (hp : runP X i = .ok p) (hq : runP X (i + 1) = .ok q) : (q.op.length : Int) = p.op.length + (if (X i).k = 4 then 1 else if (X i).k = 5 then -1 else 0) := by
  obtain ⟨p', hp', hs⟩ := runP_prev hq
  rw [hp] at hp'
  cases hp'
  unfold stepP at hs
  split at hs
  · cases hs
  split at hs
  · rename_i h; cases hs; rw [if_pos h]; simp
  rename_i h4
  rw [if_neg h4]
  split at hs
  · rename_i h; cases hs; rw [if_neg (by omega)]; simp
  split at hs
  · rename_i h5
    rw [if_pos h5]
    split at hs
    · cases hs
    · rename_i o r ho; cases hs; rw [ho]; simp; omega
  rename_i h5
  rw [if_neg h5]
  split at hs
  · split at hs
    · cases hs; simp
    · cases hs
  split at hs
  · cases hs; simp
  · cases hs; simp
set_option maxRecDepth 10000 in
set_option maxHeartbeats 4000000 in
theorem bar_any (ao : Option Addr) (n cap : Nat) (z : Nat → Nat) (fl : Fg) (lb : List Nd) (w : World) (hr : Rd w ao n z) (hok : OkP z n fl lb) (HLX : Calls Try.prog 38 #[.slice ao n cap] w (RetLx w z n)) : Calls Try.prog 19 #[.slice ao n cap] w (RetBar w fl (wl z n 1100 0)) := by
  have hsm := hr.small
  obtain ⟨cl, hpr, _⟩ := toksS_parts hok.2.2
  obtain ⟨ah, hrun⟩ := prsE_run hpr
  have hrun' : runP (tpW fl (wl z n 1100 0)) (wl z n 1100 0).length = .ok ⟨[], ah, cl⟩ := hrun
  have hlen := wl_len (z := z) (n := n) 1100 0
  have hn := hok.1
  go_enter Try.func19, Try.ntmps19
  go_wp2_with fail
  refine HLX.mono ?_
  clear HLX
  rintro e W1 (⟨lo, lc, hg, rfl, hrow, hb1⟩ | ⟨s, hs, hne, _⟩)
  · have hmem : ∀ i, i < (wl z n 1100 0).length → nS (wl z n 1100 0) i ∈ wl z n 1100 0 := fun i hi => by simp [nS, List.getD, hi]
    have hrk : RdK W1 lo (wl z n 1100 0).length (fun i => (nS (wl z n 1100 0) i).r) := rdk_row (T := nS (wl z n 1100 0)) (cap := lc) (base := w.heap.size) (by rw [nS_map]; exact hrow) fun i hi => (wl_chk hsm 1100 0 _ (hmem i hi) (hg _ (hmem i hi))).2
    clear hmem hrow hg hpr hrun hok hr hsm
    generalize wl z n 1100 0 = l at *
    generalize hm : l.length = m at *
    go_wp2_with fail
    go_loopw [6, 17] (fun d i wr => ∃ (k : Nat) (dd : Int), k ≤ m ∧ i = .int .i64 (k : Nat) ∧ d = .int .i64 dd ∧ Hid (BarI w fl l k dd wr) ∧ Hid (Below W1.heap.size W1 wr)) (fun _ i _ => m - (intOf i).toNat)
    case atStart => exact ⟨0, 0, Nat.zero_le _, rfl, rfl, ⟨hb1, fun p hp => by cases hp; rfl, fun i p hi => by omega⟩, Below.refl _ _⟩
    case round =>
      obtain ⟨k, dd, hk, rfl, rfl, hI, hbW⟩ := hrel
      by_cases hlt : k < m
      · have hki : (k : Int) < (m : Int) := by omega
        obtain ⟨bb, off, rfl, hbb, hc⟩ := hrk.at_ (by omega)
        have hcs := hc k hlt
        obtain ⟨p, hpk⟩ := runP_le hrun' k (by omega)
        obtain ⟨p2, hpk2⟩ := runP_le hrun' (k + 1) (by omega)
        have hd := hI.out.deep p hpk
        have hst := deep_step hpk hpk2
        have hXk : (tpW fl l k).k = (nS l k).k := rfl
        rw [hXk] at hst
        have hdl := (runP_op hpk).1
        have HN : Hid (∀ W d', Below w.heap.size w W → d' = (p2.op.length : Int) → ((nS l k).k = 6 → p.op ≠ []) → BarI w fl l (k + 1) d' W) := fun W d' hW hd' h6 => ⟨hW, fun q hq => by rw [hpk2] at hq; cases hq; exact hd', fun i q hi hq h => by
          by_cases e : i = k
          · subst e
            rw [hpk] at hq; cases hq
            exact h6 h
          · exact hI.out.no i q (by omega) hq h⟩
        obtain ⟨c0, c1, c2, c3, c4, c5, c6, c7, c8, c9, c10⟩ := hcs
        rw [← hbW.out.cell (p := ⟨bb, off + k * 11, none⟩) hbb] at c0
        rw [← hbW.out.cell (p := ⟨bb, off + k * 11 + 1, none⟩) hbb] at c1
        rw [← hbW.out.cell (p := ⟨bb, off + k * 11 + 2, none⟩) hbb] at c2
        rw [← hbW.out.cell (p := ⟨bb, off + k * 11 + 3, none⟩) hbb] at c3
        rw [← hbW.out.cell (p := ⟨bb, off + k * 11 + 4, none⟩) hbb] at c4
        rw [← hbW.out.cell (p := ⟨bb, off + k * 11 + 5, none⟩) hbb] at c5
        rw [← hbW.out.cell (p := ⟨bb, off + k * 11 + 6, none⟩) hbb] at c6
        rw [← hbW.out.cell (p := ⟨bb, off + k * 11 + 7, none⟩) hbb] at c7
        rw [← hbW.out.cell (p := ⟨bb, off + k * 11 + 8, none⟩) hbb] at c8
        rw [← hbW.out.cell (p := ⟨bb, off + k * 11 + 9, none⟩) hbb] at c9
        rw [← hbW.out.cell (p := ⟨bb, off + k * 11 + 10, none⟩) hbb] at c10
        have hxk : (nS l k).r.k = (nS l k).k := rfl
        have HBI := hI.out.bel
        rw [← hxk] at hst HN
        clear hc hrk hrun' hI hxk hXk
        generalize (nS l k).r = x at *
        have hb2 := bel1 wr (.cells #[.int .i64 x.k, .int .u8 (x.b : Nat), .int .u64 (x.a0 : Nat), .int .u64 (x.a1 : Nat), .int .u64 (x.a2 : Nat), .int .u64 (x.a3 : Nat), .bool x.nt, .int .i64 x.l, .int .i64 x.m, .bool x.lz, .int .i64 x.t] 42)
        have kT := Cl.new wr 42 [.int .i64 x.k, .int .u8 (x.b : Nat), .int .u64 (x.a0 : Nat), .int .u64 (x.a1 : Nat), .int .u64 (x.a2 : Nat), .int .u64 (x.a3 : Nat), .bool x.nt, .int .i64 x.l, .int .i64 x.m, .bool x.lz, .int .i64 x.t]
        have k0 := kT.cell 0 rfl
        have HB2 : Hid (Below w.heap.size w (wr.alloc (.cells #[.int .i64 x.k, .int .u8 (x.b : Nat), .int .u64 (x.a0 : Nat), .int .u64 (x.a1 : Nat), .int .u64 (x.a2 : Nat), .int .u64 (x.a3 : Nat), .bool x.nt, .int .i64 x.l, .int .i64 x.m, .bool x.lz, .int .i64 x.t] 42))) := HBI.trans (hb2.mono HBI.size)
        have HW2 : Hid (Below W1.heap.size W1 (wr.alloc (.cells #[.int .i64 x.k, .int .u8 (x.b : Nat), .int .u64 (x.a0 : Nat), .int .u64 (x.a1 : Nat), .int .u64 (x.a2 : Nat), .int .u64 (x.a3 : Nat), .bool x.nt, .int .i64 x.l, .int .i64 x.m, .bool x.lz, .int .i64 x.t] 42))) := hbW.out.trans (hb2.mono hbW.out.size)
        obtain ⟨po, hpo⟩ : ∃ po, p.op.length = po := ⟨_, rfl⟩
        obtain ⟨qo, hqo⟩ : ∃ qo, p2.op.length = qo := ⟨_, rfl⟩
        rw [hpo] at hd hst hdl
        rw [hqo] at hst HN
        have hp0 : po ≠ 0 → p.op ≠ [] := fun h e => h (by rw [← hpo, e]; rfl)
        clear hb2 kT HBI hbW hpk hpk2 hpo hqo
        subst hd
        cases k4 : (x.k == 4) with
        | true =>
          have k4' : x.k = 4 := by simpa using k4
          rw [if_pos k4'] at hst
          have hw4 : IntKind.i64.wrap ((po : Int) + 1) = (qo : Int) := by rw [IntKind.wrap_i64]; omega
          have HY : Hid (BarI w fl l (k + 1) (qo : Int) (wr.alloc (.cells #[.int .i64 x.k, .int .u8 (x.b : Nat), .int .u64 (x.a0 : Nat), .int .u64 (x.a1 : Nat), .int .u64 (x.a2 : Nat), .int .u64 (x.a3 : Nat), .bool x.nt, .int .i64 x.l, .int .i64 x.m, .bool x.lz, .int .i64 x.t] 42))) := HN.out _ _ HB2.out rfl (fun h => by omega)
          clear HN hst hp0 k4' HB2
          go_wp2_with fail
          go_roundw
          case rel => exact ⟨k + 1, _, by omega, by go_num, rfl, HY, HW2⟩
          case measure => simp [intOf]; omega
        | false =>
        have k4' : x.k ≠ 4 := by simpa using k4
        rw [if_neg k4'] at hst
        cases k5 : (x.k == 5) with
        | true =>
          have k5' : x.k = 5 := by simpa using k5
          rw [if_pos k5'] at hst
          have hw4 : IntKind.i64.wrap ((po : Int) - 1) = (qo : Int) := by rw [IntKind.wrap_i64]; omega
          have HY : Hid (BarI w fl l (k + 1) (qo : Int) (wr.alloc (.cells #[.int .i64 x.k, .int .u8 (x.b : Nat), .int .u64 (x.a0 : Nat), .int .u64 (x.a1 : Nat), .int .u64 (x.a2 : Nat), .int .u64 (x.a3 : Nat), .bool x.nt, .int .i64 x.l, .int .i64 x.m, .bool x.lz, .int .i64 x.t] 42))) := HN.out _ _ HB2.out rfl (fun h => by omega)
          clear HN hst hp0 k4' k5' HB2
          go_wp2_with fail
          go_roundw
          case rel => exact ⟨k + 1, _, by omega, by go_num, rfl, HY, HW2⟩
          case measure => simp [intOf]; omega
        | false =>
        have k5' : x.k ≠ 5 := by simpa using k5
        rw [if_neg k5'] at hst
        have hqp : (po : Int) = (qo : Int) := by omega
        cases k6 : (x.k == 6) with
        | true =>
          cases hz : ((po : Int) == 0) with
          | true =>
            have HR : Hid (RetBar w fl l (.returned (.bool true)) (wr.alloc (.cells #[.int .i64 x.k, .int .u8 (x.b : Nat), .int .u64 (x.a0 : Nat), .int .u64 (x.a1 : Nat), .int .u64 (x.a2 : Nat), .int .u64 (x.a3 : Nat), .bool x.nt, .int .i64 x.l, .int .i64 x.m, .bool x.lz, .int .i64 x.t] 42))) := ⟨true, rfl, fun h => (by cases h), HB2.out⟩
            clear HN hst hp0 k4' k5' HB2 HW2 hqp
            go_wp2_with fail
            go_ret
            exact HR.out
          | false =>
            have hz' : po ≠ 0 := by simpa using hz
            have HY : Hid (BarI w fl l (k + 1) (po : Int) (wr.alloc (.cells #[.int .i64 x.k, .int .u8 (x.b : Nat), .int .u64 (x.a0 : Nat), .int .u64 (x.a1 : Nat), .int .u64 (x.a2 : Nat), .int .u64 (x.a3 : Nat), .bool x.nt, .int .i64 x.l, .int .i64 x.m, .bool x.lz, .int .i64 x.t] 42))) := HN.out _ _ HB2.out hqp (fun _ => hp0 hz')
            clear HN hst hp0 k4' k5' HB2 hqp hz'
            go_wp2_with fail
            go_roundw
            case rel => exact ⟨k + 1, _, by omega, by go_num, rfl, HY, HW2⟩
            case measure => simp [intOf]; omega
        | false =>
          have k6' : x.k ≠ 6 := by simpa using k6
          have HY : Hid (BarI w fl l (k + 1) (po : Int) (wr.alloc (.cells #[.int .i64 x.k, .int .u8 (x.b : Nat), .int .u64 (x.a0 : Nat), .int .u64 (x.a1 : Nat), .int .u64 (x.a2 : Nat), .int .u64 (x.a3 : Nat), .bool x.nt, .int .i64 x.l, .int .i64 x.m, .bool x.lz, .int .i64 x.t] 42))) := HN.out _ _ HB2.out hqp (fun h => absurd h k6')
          clear HN hst hp0 k4' k5' k6' HB2 hqp
          go_wp2_with fail
          go_roundw
          case rel => exact ⟨k + 1, _, by omega, by go_num, rfl, HY, HW2⟩
          case measure => simp [intOf]; omega
      · obtain rfl : k = m := by omega
        have hki : ¬ (k : Int) < (k : Int) := by omega
        have HR : Hid (RetBar w fl l (.returned (.bool false)) wr) := ⟨false, rfl, fun _ i p hi => hI.out.no i p (by omega), hI.out.bel⟩
        clear hI hrk hrun'
        go_wp2_with fail
        go_ret
        exact HR.out
  · exact absurd (hok.2.1 s hs) hne
end Go.Proofs.Ytlmmiicibjfcdaa
