/- ParseGroups: the walk. -/
import Derived.Test.YtlmmiicibjfcdaaGGhGr
import Derived.Test.YtlmmiicibjfcdaaGLhLiLjLk
import Derived.Test.YtlmmiicibjfcdaaZcc
import Derived.ArgAppend
import Derived.Deep.AppendLies
namespace Go.Proofs.Ytlmmiicibjfcdaa
open Go.RowKit
theorem cvA (w : World) : (convert 48 48 (.slice (some ⟨w.heap.size, 0, none⟩) 3 3)).run Try.prog (w.alloc (.cells #[.int .u8 40, .int .u8 63, .int .u8 58] 5)) = .ok (.slice (some ⟨w.heap.size, 0, none⟩) 3 3) (w.alloc (.cells #[.int .u8 40, .int .u8 63, .int .u8 58] 5 (3, 4))) := Lib.run_convert_bytes_const w 48 5 #[.int .u8 40, .int .u8 63, .int .u8 58] 3 3 Try.underlying48 Try.underlying5
theorem new_cellsF (w : World) : ∀ j u, [Value.int .u8 40, .int .u8 63, .int .u8 58][j]? = some u → (w.alloc (.cells #[.int .u8 40, .int .u8 63, .int .u8 58] 5 (3, 4))).cell? (Addr.add ⟨w.heap.size, 0, none⟩ j) = some u := by
  intro j u hj
  have hb : (w.alloc (.cells #[.int .u8 40, .int .u8 63, .int .u8 58] 5 (3, 4))).heap[w.heap.size]? = some (.cells #[.int .u8 40, .int .u8 63, .int .u8 58] 5 (3, 4)) := by
    show (w.heap.push _)[w.heap.size]? = _
    simp
  rw [Addr.add_lit]
  simp only [World.cell?, hb]
  simpa using hj
theorem bel1F (w : World) : Below w.heap.size w (w.alloc (.cells #[.int .u8 40, .int .u8 63, .int .u8 58] 5 (3, 4))) := bel1 w _
theorem ex_move {o : Oper} {a : Act} {w : World} {t : Nat} {v : Value} (h : o.op = .move (.tmp t)) (ht : a.eval (.tmp t) = v) : (execOp a.eval o).run Try.prog w = .ok (.value v) w := by rw [BigFrame.run_move _ h w, ht]
theorem ex_assign {o : Oper} {a : Act} {w : World} {t : Nat} {v : Value} (h : o.op = .assign (.tmp t)) (ht : a.eval (.tmp t) = v) : (execOp a.eval o).run Try.prog w = .ok (.value v) w := by rw [BigFrame.run_assign _ h w, ht]
theorem wpList_append_nil0 {w : World} {ops : Array Oper} {rest : List Oper} {o : Oper} {a : Act} {Q : Exit → Act → World → Prop}
    (hg : o.guard = none) (s x : Operand) (t : TypeId) (hop : o.op = Op.call { callee := Callee.builtin Builtin.append, args := #[s, x], argTypes := #[t, t] })
    (e : TypeId) (i : TypeInfo) (ht : Try.prog.underlying t = some (.slice e)) (hi : Try.prog.info? e = some i) (b xo : Option Addr) (n cap c : Nat) (hs : a.eval s = .slice b n cap) (hx : a.eval x = .slice xo 0 c) (hle : n ≤ cap)
    (hK : wpList Try.prog ops Q rest (a.put o.dst (.slice b n cap)) w) : wpList Try.prog ops Q (o :: rest) a w := by
  refine wpList_plain hg fun K hK' => ?_
  have hrun := run_append_nil0 w t o.type e i ht hi b xo n cap c hle
  unfold Oper.wp
  simp [execOp, hop, resolve, invoke, builtin, hs, hx, hrun, Result.andThen]
  exact hK' _ _ hK
theorem own_some {W : World} {base e size k : Nat} {v : Value} {xs : List Value} (h : W.ownsRow base e size v k xs) (hk : 0 < k) : ∃ g c, v = .slice (some ⟨g, 0, none⟩) k c := by
  rcases h.2 with ⟨_, h0⟩ | ⟨g, cp, cur, hv, _⟩
  · omega
  · exact ⟨g, cp, hv⟩
theorem rd_own {W : World} {base g c m : Nat} {y : Nat → Nat} (hs : ∀ i, i < m → y i < 256) (h : W.ownsRow base 5 1 (.slice (some ⟨g, 0, none⟩) m c) m (byL y m)) : Rd W (some ⟨g, 0, none⟩) m y := by
  refine ⟨hs, fun hm => ?_⟩
  obtain ⟨g', e, hg, _, hc⟩ := row_cell h hm
  cases e
  exact ⟨g, 0, rfl, hg, fun i hi => by rw [Nat.zero_add]; exact hc i _ (byL_get y hi)⟩
theorem eqN_self (F : Nat → Nd) (n : Nat) : (decide (n = n) && T.eqN F F n) = true := by
  have h : ∀ k, T.eqN F F k = true := by
    intro k
    induction k with
    | zero => rfl
    | succ k ih => rw [T.eqN, ih, nd_same]; rfl
  rw [h, decide_eq_true rfl]; rfl
/-- The bytes of a pattern in a group. -/
def inA (z : Nat → Nat) (i : Nat) : Nat := if i = 0 then 40 else if i = 1 then 63 else if i = 2 then 58 else z (i - 3)
theorem inA_small {z : Nat → Nat} {n : Nat} (hz : z n = 41) (hs : ∀ i, i < n → z i < 256) : ∀ i, i < 3 + (n + 1) → inA z i < 256 := by
  intro i hi
  unfold inA
  split
  · omega
  split
  · omega
  split
  · omega
  · by_cases e : i - 3 < n
    · exact hs _ e
    · rw [show i - 3 = n by omega, hz]; omega
theorem inB_small {z : Nat → Nat} {n : Nat} (hz : z n = 41) (hs : ∀ i, i < n → z i < 256) : ∀ i, i < 1 + (n + 1) → inB z i < 256 := by
  intro i hi
  unfold inB
  split
  · omega
  · by_cases e : i - 1 < n
    · exact hs _ e
    · rw [show i - 1 = n by omega, hz]; omega
theorem grpA {z : Nat → Nat} {n : Nat} {fl : Fg} {l : List Nd} (hz : z n = 41) (hn : n ≤ 1020) (h : OkP z n fl l) : OkP (inA z) (3 + (n + 1)) fl l := by
  refine grp_ok (a := 3) hz ?_ (by omega) (by omega) ?_ h
  · funext i
    unfold inA
    rw [if_neg (by omega), if_neg (by omega), if_neg (by omega)]
    congr 1; omega
  · have e0 : inA z 0 = 40 := rfl
    have e1 : inA z 1 = 63 := rfl
    have e2 : inA z 2 = 58 := rfl
    unfold wrd wrdS
    rw [e0, if_neg (by decide), if_neg (by decide), if_pos (by decide)]
    unfold opnS
    rw [if_neg (by unfold hasP; simp [e1]; omega), if_pos (by unfold hasP; simp [e2]; omega)]
theorem grpB {z : Nat → Nat} {n : Nat} {fl : Fg} {l : List Nd} (hz : z n = 41) (hn : n ≤ 1020) (h : OkP z n fl l) : OkP (inB z) (1 + (n + 1)) fl l := by
  refine grp_ok (a := 1) hz ?_ (by omega) (by omega) ?_ h
  · funext i
    unfold inB
    rw [if_neg (by omega)]
    congr 1; omega
  · have h63 : z 0 ≠ 63 := by
      by_cases h0 : n = 0
      · subst h0; omega
      · exact okp_head (by omega) h
    have e0 : inB z 0 = 40 := rfl
    have e1 : inB z 1 = z 0 := rfl
    unfold wrd wrdS
    rw [e0, if_neg (by decide), if_neg (by decide), if_pos (by decide)]
    unfold opnS
    rw [if_pos (by unfold hasP; simp [e1, h63])]
/-- What is appended: the first cells, the pattern's, a last one. -/
theorem byA (z : Nat → Nat) (n : Nat) (hz : z n = 41) : [Value.int .u8 40, .int .u8 63, .int .u8 58] ++ byL z n ++ [Value.int .u8 41] = byL (inA z) (3 + (n + 1)) := by
  apply List.ext_getElem?
  intro i
  have hl : ([Value.int .u8 40, .int .u8 63, .int .u8 58] ++ byL z n ++ [Value.int .u8 41]).length = 3 + (n + 1) := by simp [byL_len]; omega
  by_cases hi : i < 3 + (n + 1)
  · rw [byL_get _ hi]
    by_cases h3 : i < 3
    · rw [List.append_assoc, List.getElem?_append_left (by simpa using h3)]
      match i, h3 with
      | 0, _ => rfl
      | 1, _ => rfl
      | 2, _ => rfl
    · have e : inA z i = z (i - 3) := by unfold inA; rw [if_neg (by omega), if_neg (by omega), if_neg (by omega)]
      rw [e]
      by_cases hl2 : i < 3 + n
      · rw [List.getElem?_append_left (by simp [byL_len]; omega), List.getElem?_append_right (by simp; omega)]
        exact byL_get z (by simp; omega)
      · obtain rfl : i = 3 + n := by omega
        rw [List.getElem?_append_right (by simp [byL_len]; omega)]
        simp [byL_len, hz, show 3 + n - (n + 1 + 1 + 1) = 0 by omega]
  · rw [List.getElem?_eq_none (by omega), List.getElem?_eq_none (by rw [byL_len]; omega)]
set_option maxRecDepth 10000 in
set_option maxHeartbeats 8000000 in
theorem groups_z (ao : Option Addr) (n cap : Nat) (z : Nat → Nat) (hz : z n = 41) (fl : Fg) (w : World) (hr : Rd w ao n z) : Calls Try.prog 6 #[.slice ao n cap, fgV fl] w fun e w' => e = .returned (.bool true) ∧ Below w.heap.size w w' := by
  have hB := bel1 w (.cells #[.bool fl.c, .bool fl.d, .bool fl.m, .bool fl.o, .bool fl.l] 23)
  have kF := Cl.new w 23 [.bool fl.c, .bool fl.d, .bool fl.m, .bool fl.o, .bool fl.l]
  have HL := parse_any ao n cap z fl (w.alloc (.cells #[.bool fl.c, .bool fl.d, .bool fl.m, .bool fl.o, .bool fl.l] 23)) (hr.below hB)
  have hrV := hr.below hB
  have hfg : fgV fl = .agg #[.bool fl.c, .bool fl.d, .bool fl.m, .bool fl.o, .bool fl.l] := rfl
  have hsm := hr.small
  rw [hfg] at *
  clear hfg
  go_enter Try.func6, Try.ntmps6
  go_wp2_with fail
  refine HL.mono ?_
  clear HL hr
  generalize w.alloc (.cells #[.bool fl.c, .bool fl.d, .bool fl.m, .bool fl.o, .bool fl.l] 23) = V at *
  rintro e W1 (⟨⟨pa, pe, hne, rfl, hb1⟩, _⟩ | ⟨l, no, nc, hok, rfl, hrow, hb1⟩)
  · have hbA := bel1 W1 (.cells #[.slice none 0 0] 28)
    have hB1 := hB.trans (hb1.mono hB.size)
    have hB2 := hB1.trans (hbA.mono hB1.size)
    have HG := fun W => begun_any W
    have hc1 : (pe != 0) = true := by simpa using hne
    clear hb1 hbA hB hB1 hne hz hrV hsm kF
    go_wp2_with fail
    refine (HG _).mono ?_
    rintro e W5 ⟨rfl, hb5⟩
    have HB := hB2.trans (hb5.mono hB2.size)
    clear hb5 hB2
    go_wp2_with fail
    refine (HG _).mono ?_
    rintro e W6 ⟨rfl, hb6⟩
    have HB6 := HB.trans (hb6.mono HB.size)
    clear hb6 HB
    go_wp2_with fail
    go_ret
    exact ⟨rfl, HB6⟩
  · have hbA := bel1 W1 (.cells #[.slice no l.length nc] 28)
    have kA := Cl.new W1 28 [.slice no l.length nc]
    have hB1 := hB.trans (hb1.mono hB.size)
    have hB2 := hB1.trans (hbA.mono hB1.size)
    have HG := fun W => begun_any W
    have hrd := (rdn_row hrow).below hbA
    have hrP := (hrV.below hb1).below hbA
    have kF2 := (kF.below hb1).below hbA
    clear hb1 hbA hB hB1 hrow kF hrV
    go_wp2_with fail
    refine (HG _).mono ?_
    rintro e W5 ⟨rfl, hb5⟩
    have kA5 := kA.below hb5
    have kF5 := kF2.below hb5
    have hrd5 := hrd.below hb5
    have hrP5 := hrP.below hb5
    have HB := hB2.trans (hb5.mono hB2.size)
    clear hb5 hB2 kA kF2 hrd hrP
    generalize W1.heap.size = A at *
    by_cases hn : n ≤ 1020
    · have hn1 : ¬ ((n : Int) > 1020) := by omega
      have hok1 := grpA hz hn hok
      have hok2 := grpB hz hn hok
      have c1 := cvA W5
      obtain ⟨i0, hi, hz0, hz1, hz2⟩ := info_parts b_u8
      have hbC := bel1F W5
      have hlz := byL_len z n
      have hbyA := byA z n hz
      have hsmA : ∀ i, i < 3 + (n + 1) → inA z i < 256 := inA_small hz hsm
      have hl2 : l.length ≤ 2048 := (okp_chk hsm hok).2
      clear hok
      generalize hnn : l.length = nn at *
      go_upto_region 4 with fail
      go_cut [8] (fun v wx => ∃ g c, v = .slice (some ⟨g, 0, none⟩) (3 + (n + 1)) c ∧ Hid (Rd wx (some ⟨g, 0, none⟩) (3 + (n + 1)) (inA z)) ∧ Hid (Below W5.heap.size W5 wx))
      case first =>
        have HZ : Hid (∀ g c w4, w4.ownsRow W5.heap.size 5 1 (.slice (some ⟨g, 0, none⟩) (3 + (n + 1)) c) (3 + (n + 1)) (byL (inA z) (3 + (n + 1))) → Rd w4 (some ⟨g, 0, none⟩) (3 + (n + 1)) (inA z)) := fun g c w4 ho => rd_own hsmA ho
        by_cases h0 : n = 0
        · subst h0
          have hold : ∀ b, (some (⟨W5.heap.size, 0, none⟩ : Addr)) = some b → ∀ j u, [Value.int .u8 40, .int .u8 63, .int .u8 58][j]? = some u → ((W5.alloc (.cells #[.int .u8 40, .int .u8 63, .int .u8 58] 5 (3, 4))).alloc (.cells #[.int .u8 41] 5)).cell? (b.add j) = some u := by
            intro b hb j u hj
            cases hb
            have := new_cellsF W5 j u hj
            rw [Addr.add_lit] at this ⊢
            rw [(bel1 (W5.alloc (.cells #[.int .u8 40, .int .u8 63, .int .u8 58] 5 (3, 4))) (.cells #[.int .u8 41] 5)).cell (p := ⟨W5.heap.size, 0 + j, none⟩) (by simp)]
            exact this
          have hnw := new_cells (W5.alloc (.cells #[.int .u8 40, .int .u8 63, .int .u8 58] 5 (3, 4))) 5 [.int .u8 41]
          have HA : Hid (∀ v' w', w'.ownsRow ((W5.alloc (.cells #[.int .u8 40, .int .u8 63, .int .u8 58] 5 (3, 4))).alloc (.cells #[.int .u8 41] 5)).heap.size 5 1 v' (3 + 1) ([Value.int .u8 40, .int .u8 63, .int .u8 58] ++ [Value.int .u8 41]) → ((W5.alloc (.cells #[.int .u8 40, .int .u8 63, .int .u8 58] 5 (3, 4))).alloc (.cells #[.int .u8 41] 5)).grownBy w' none → ∃ g c, v' = .slice (some ⟨g, 0, none⟩) (3 + (0 + 1)) c ∧ Hid (Rd w' (some ⟨g, 0, none⟩) (3 + (0 + 1)) (inA z)) ∧ Hid (Below W5.heap.size W5 w')) := by
            intro v' w' ho hg
            have hbA := bel1 (W5.alloc (.cells #[.int .u8 40, .int .u8 63, .int .u8 58] 5 (3, 4))) (.cells #[.int .u8 41] 5)
            have hb2 := hbC.trans (hbA.mono hbC.size)
            have hb3 := hb2.grown hg hb2.size (fun q hq => by cases hq)
            obtain ⟨g, c, rfl⟩ := own_some ho (by omega)
            exact ⟨g, c, rfl, HZ.out g c w' (by have h2 := ownsRow_base ho hb2.size; rw [← hbyA]; simpa [byL] using h2), hb3⟩
          clear HZ hbyA hsmA hz HB hrd5 hok1 hok2 kA5 kF5 hrP5 hbC
          have mk1 : Hid True := trivial
          go_wp2_with (first | (at_builtin; clear mk1; refine wpList_append_nil0 rfl _ _ 48 rfl 5 i0 Try.underlying48 hi (some ⟨W5.heap.size, 0, none⟩) ao 3 3 cap rfl rfl (by omega) ?_) | (at_builtin; refine wpList_append_grows _ rfl _ _ 48 rfl 5 i0 _ 1 1 Try.underlying48 hi hz0 hz1 hz2 rfl (by decide) (some ⟨W5.heap.size, 0, none⟩) 3 3 [Value.int .u8 40, .int .u8 63, .int .u8 58] rfl (by simp) rfl hold ⟨W5.heap.size + 1, 0, none⟩ 1 1 [Value.int .u8 41] rfl rfl (by simpa only [World.size_alloc] using hnw) (by simp [Value.oneCell']) (by omega) (by unfold maxLen; omega) (by omega) ?_; intro v1 w1 ho1 hg1; have HY := HA.out v1 w1 ho1 hg1; clear ho1 hg1 HA))
          go_meet
          exact HY
        · obtain ⟨pb, po, rfl, hpb, hpc⟩ := hrP5.at_ (by omega)
          have hold : ∀ b, (some (⟨W5.heap.size, 0, none⟩ : Addr)) = some b → ∀ j u, [Value.int .u8 40, .int .u8 63, .int .u8 58][j]? = some u → (W5.alloc (.cells #[.int .u8 40, .int .u8 63, .int .u8 58] 5 (3, 4))).cell? (b.add j) = some u := by
            intro b hb j u hj
            cases hb
            exact new_cellsF W5 j u hj
          have hnews : ∀ j u, (byL z n)[j]? = some u → (W5.alloc (.cells #[.int .u8 40, .int .u8 63, .int .u8 58] 5 (3, 4))).cell? (Addr.add ⟨pb, po, none⟩ j) = some u := by
            intro j u hj
            have hjn := (List.getElem?_eq_some_iff.1 hj).1
            rw [byL_len] at hjn
            rw [byL_get z hjn] at hj
            cases hj
            rw [Addr.add_lit, hbC.cell (p := ⟨pb, po + j, none⟩) hpb]
            exact hpc j hjn
          have h1c := byL_one z n
          have HA : Hid (∀ v' w', w'.ownsRow (W5.alloc (.cells #[.int .u8 40, .int .u8 63, .int .u8 58] 5 (3, 4))).heap.size 5 1 v' (3 + n) ([Value.int .u8 40, .int .u8 63, .int .u8 58] ++ byL z n) → (W5.alloc (.cells #[.int .u8 40, .int .u8 63, .int .u8 58] 5 (3, 4))).grownBy w' none → ∃ av cv, v' = .slice av (3 + n) cv ∧ Hid (Below W5.heap.size W5 w') ∧ (w'.alloc (.cells #[.int .u8 41] 5)).ownsRow W5.heap.size 5 1 (.slice av (3 + n) cv) (3 + n) ([Value.int .u8 40, .int .u8 63, .int .u8 58] ++ byL z n) ∧ W5.heap.size ≤ (w'.alloc (.cells #[.int .u8 41] 5)).heap.size) := by
            intro v' w' ho hg
            have hb3 := hbC.grown hg hbC.size (fun q hq => by cases hq)
            obtain ⟨av, cv, rfl⟩ := ownsRow_slice ho
            have hbA := bel1 w' (.cells #[.int .u8 41] 5)
            have h2 := ownsRow_base ho hbC.size
            exact ⟨av, cv, rfl, hb3, own_at h2 fun _ hg => hbA.block _ (own_block h2 hg).2.1, Nat.le_trans hb3.size hbA.size⟩
          have HC : Hid (∀ av cv w1 g9 c9 w4, Hid (Below W5.heap.size W5 w1) → (w1.alloc (.cells #[.int .u8 41] 5)).ownsRow W5.heap.size 5 1 (.slice av (3 + n) cv) (3 + n) ([Value.int .u8 40, .int .u8 63, .int .u8 58] ++ byL z n) → w4.ownsRow W5.heap.size 5 1 (.slice (some ⟨g9, 0, none⟩) (3 + n + 1) c9) (3 + n + 1) ([Value.int .u8 40, .int .u8 63, .int .u8 58] ++ byL z n ++ [Value.int .u8 41]) → (w1.alloc (.cells #[.int .u8 41] 5)).grownBy w4 (Value.slice av (3 + n) cv).ownBlock → ∃ g c, Value.slice (some ⟨g9, 0, none⟩) (3 + n + 1) c9 = .slice (some ⟨g, 0, none⟩) (3 + (n + 1)) c ∧ Hid (Rd w4 (some ⟨g, 0, none⟩) (3 + (n + 1)) (inA z)) ∧ Hid (Below W5.heap.size W5 w4)) := by
            intro av cv w1 g9 c9 w4 hb1 hr1 ho hg
            have hbA := bel1 w1 (.cells #[.int .u8 41] 5)
            have hb2 := hb1.out.trans (hbA.mono hb1.out.size)
            have hb4 := hb2.grown hg hb2.size (fun q hq => (own_block hr1 hq).1)
            rw [hbyA, show 3 + n + 1 = 3 + (n + 1) by omega] at ho
            exact ⟨g9, c9, by rw [show 3 + n + 1 = 3 + (n + 1) by omega], HZ.out g9 c9 w4 ho, hb4⟩
          clear HZ hbyA hsmA hz HB hrd5 hok1 hok2 kA5 kF5 hrP5 hbC hpc
          have mk1 : Hid True := trivial
          go_wp2_with (first
            | (at_builtin; clear mk1; refine wpList_append_grows _ rfl _ _ 48 rfl 5 i0 _ 1 1 Try.underlying48 hi hz0 hz1 hz2 rfl (by decide) (some ⟨W5.heap.size, 0, none⟩) 3 3 [Value.int .u8 40, .int .u8 63, .int .u8 58] rfl (by simp) rfl hold ⟨pb, po, none⟩ n cap (byL z n) rfl (by rw [hlz]; omega) hnews h1c (by omega) (by unfold maxLen; omega) (by omega) ?_; intro v1 w1 ho1 hg1; obtain ⟨av, cv, rfl, hb6, hrw6, hsz6⟩ := HA.out v1 w1 ho1 hg1; clear ho1 hg1 HA)
            | (at_builtin; refine wpList_append_lies _ rfl _ _ 48 rfl W5.heap.size 5 i0 _ 1 1 Try.underlying48 hi hz0 hz1 hz2 rfl (by decide) _ _ _ rfl hrw6 ⟨w1.heap.size, 0, none⟩ 1 1 [Value.int .u8 41] rfl rfl (new_cells w1 5 [.int .u8 41]) (by simp [Value.oneCell']) (by decide) (by unfold maxLen; omega) (by omega) hsz6 _ rfl ?_; intro g9 c9 w4 hown hgr _ _; have HY := HC.out av cv w1 g9 c9 w4 hb6 hrw6 hown hgr; clear hown hgr HC))
          go_meet
          exact HY
      case rest =>
        obtain ⟨g, c, rfl, hrA, hbQ⟩ := hcut
        have HP2 := parse_any (some ⟨g, 0, none⟩) (3 + (n + 1)) c (inA z) fl wc hrA.out
        have kA6 := kA5.below hbQ.out
        have kF6 := kF5.below hbQ.out
        have hrd6 := hrd5.below hbQ.out
        have hrP6 := hrP5.below hbQ.out
        have HB6 := HB.trans (hbQ.out.mono HB.size)
        have hfg : fgV fl = .agg #[.bool fl.c, .bool fl.d, .bool fl.m, .bool fl.o, .bool fl.l] := rfl
        rw [hfg] at HP2
        obtain ⟨f0, f1, f2, f3, f4⟩ : wc.cell? ⟨w.heap.size, 0, none⟩ = some (.bool fl.c) ∧ wc.cell? ⟨w.heap.size, 1, none⟩ = some (.bool fl.d) ∧ wc.cell? ⟨w.heap.size, 2, none⟩ = some (.bool fl.m) ∧ wc.cell? ⟨w.heap.size, 3, none⟩ = some (.bool fl.o) ∧ wc.cell? ⟨w.heap.size, 4, none⟩ = some (.bool fl.l) := ⟨kF6.cell 0 rfl, kF6.cell 1 rfl, kF6.cell 2 rfl, kF6.cell 3 rfl, kF6.cell 4 rfl⟩
        clear hrA hbQ kA5 kF5 hrd5 hrP5 HB hbC hbyA hsmA c1 hlz hfg
        go_wp2_with fail
        refine HP2.mono ?_
        clear HP2
        rintro e W7 (⟨_, hno⟩ | ⟨l2, no2, nc2, hok3, rfl, hrow2, hb7⟩)
        · exact absurd hok1 (hno l)
        obtain rfl : l = l2 := by
          have := hok1.2.2.symm.trans hok3.2.2
          exact Except.ok.inj this
        have hbA7 := bel1 W7 (.cells #[.slice no2 l.length nc2] 28)
        have kB8 := Cl.new W7 28 [.slice no2 l.length nc2]
        have kA8 := (kA6.below hb7).below hbA7
        have kF8 := (kF6.below hb7).below hbA7
        have hrd8 := (hrd6.below hb7).below hbA7
        have hrP8 := (hrP6.below hb7).below hbA7
        have hrd28 := (rdn_row hrow2).below hbA7
        have HB8 := (HB6.trans (hb7.mono HB6.size))
        have HB9 := HB8.trans (hbA7.mono HB8.size)
        clear hok1 hok3 hrow2 hb7 hbA7 kA6 kF6 hrd6 hrP6 HB6 HB8 f0 f1 f2 f3 f4
        rw [hnn] at kA8 kF8 hrd8 hrP8 hrd28 kB8 HB9 ⊢
        go_upto_region 6 with fail
        generalize W7.heap.size = BB at *
        generalize W7.alloc (.cells #[.slice no2 nn nc2] 28) = U at *
        go_cut [12, 14] (fun v e wx => ∃ b no3 nc3, v = .pointer (some ⟨b, 0, none⟩) ∧ e = .int .i64 0 ∧ Hid (Cl wx b 28 [.slice no3 nn nc3]) ∧ Hid (T.RdN wx no3 nn (fun i => l.getD i ndE0)) ∧ Hid (Below U.heap.size U wx))
        case first =>
          rename_i JJ KK hJ hK
          have HRP := hrP8
          have HKF := kF8
          have hnn2 := hnn
          refine wp_region_ghost (by kernel_rfl) (C := fun w' => Below U.heap.size U w') (V := V6 U.heap.size n cap ao z fl l nn) (F := fun a => ∃ u : Nat → Value, a = { tmps := #[Value.slice ao n cap, Value.agg #[Value.bool fl.c, Value.bool fl.d, Value.bool fl.m, Value.bool fl.o, Value.bool fl.l], undef, Value.pointer (some { block := w.heap.size, off := 0 }), Value.bool false, Value.pointer (some { block := A, off := 0 }), Value.int IntKind.i64 ↑n, Value.int IntKind.i64 0, Value.slice (some { block := g, off := 0 }) (3 + (n + 1)) c, Value.pointer (some { block := BB, off := 0 }), Value.int IntKind.i64 (3 + (↑n + 1)), Value.int IntKind.i64 0, u 12, u 13, u 14, u15, u16, u17, u18, u19, u20, u21, u22, u23, u24, u25, u26, u27, u28, u29, u30, u31, u32, u33, u34, u35, u36, u37, u38, u39, Value.tuple #[Value.agg #[Value.slice no2 nn nc2], Value.int IntKind.i64 (3 + (↑n + 1)), Value.int IntKind.i64 0], Value.slice (some { block := g, off := 0 }) (3 + (n + 1)) c, Value.agg #[Value.bool fl.c, Value.bool fl.d, Value.bool fl.m, Value.bool fl.o, Value.bool fl.l], Value.tuple #[Value.agg #[Value.slice no2 nn nc2], Value.int IntKind.i64 (3 + (↑n + 1)), Value.int IntKind.i64 0], Value.agg #[Value.slice no2 nn nc2], Value.int IntKind.i64 (3 + (↑n + 1)), Value.int IntKind.i64 0, u 47, u 48, u 49, u 50, u 51, u 52, u 53, u 54, u 55, u 56, u 57, u 58, u59, u60, u61, u62, u63, u64, u65, u66, u67, u68, u69, u70, u71, u72, u73, u74], defers := [] }) (G := G6 U.heap.size n l nn) ⟨?_, ?_, ?_, ?_, ?_, ?_, ?_⟩ ((Below.refl _ _).drew) ⟨fun k => (#[Value.slice ao n cap, Value.agg #[Value.bool fl.c, Value.bool fl.d, Value.bool fl.m, Value.bool fl.o, Value.bool fl.l], undef, Value.pointer (some { block := w.heap.size, off := 0 }), Value.bool false, Value.pointer (some { block := A, off := 0 }), Value.int IntKind.i64 ↑n, Value.int IntKind.i64 0, Value.slice (some { block := g, off := 0 }) (3 + (n + 1)) c, Value.pointer (some { block := BB, off := 0 }), Value.int IntKind.i64 (3 + (↑n + 1)), Value.int IntKind.i64 0, undef, undef, undef, u15, u16, u17, u18, u19, u20, u21, u22, u23, u24, u25, u26, u27, u28, u29, u30, u31, u32, u33, u34, u35, u36, u37, u38, u39, Value.tuple #[Value.agg #[Value.slice no2 nn nc2], Value.int IntKind.i64 (3 + (↑n + 1)), Value.int IntKind.i64 0], Value.slice (some { block := g, off := 0 }) (3 + (n + 1)) c, Value.agg #[Value.bool fl.c, Value.bool fl.d, Value.bool fl.m, Value.bool fl.o, Value.bool fl.l], Value.tuple #[Value.agg #[Value.slice no2 nn nc2], Value.int IntKind.i64 (3 + (↑n + 1)), Value.int IntKind.i64 0], Value.agg #[Value.slice no2 nn nc2], Value.int IntKind.i64 (3 + (↑n + 1)), Value.int IntKind.i64 0, u47, u48, u49, u50, u51, u52, u53, u54, u55, u56, u57, u58, u59, u60, u61, u62, u63, u64, u65, u66, u67, u68, u69, u70, u71, u72, u73, u74] : Array Value).getD k undef, rfl⟩
          · exact fun j g0 w1 w2 h1 h2 => V6.keep hz j g0 w1 w2 h1 h2
          · intro j o g1 g2 w1 ho h0 h1 h2
            refine V6.same j g1 g2 w1 h0 (fun hj => ?_) h2
            subst hj
            obtain rfl := Option.some.inj (show some _ = some o from ho)
            exact h1 ⟨12, .data⟩ (by simp) rfl
          · intro i o d v a ho hd ⟨u, ha⟩
            subst ha
            match i, ho with
            | 0, ho =>
              obtain rfl := Option.some.inj (show some _ = some o from ho)
              cases hd
              exact ⟨⟨fun k => if k = 48 then v else u k, rfl⟩, show 48 < 75 by decide⟩
            | 1, ho =>
              obtain rfl := Option.some.inj (show some _ = some o from ho)
              cases hd
              exact ⟨⟨fun k => if k = 49 then v else u k, rfl⟩, show 49 < 75 by decide⟩
            | 2, ho =>
              obtain rfl := Option.some.inj (show some _ = some o from ho)
              cases hd
              exact ⟨⟨fun k => if k = 50 then v else u k, rfl⟩, show 50 < 75 by decide⟩
            | 3, ho =>
              obtain rfl := Option.some.inj (show some _ = some o from ho)
              cases hd
              exact ⟨⟨fun k => if k = 51 then v else u k, rfl⟩, show 51 < 75 by decide⟩
            | 4, ho =>
              obtain rfl := Option.some.inj (show some _ = some o from ho)
              cases hd
              exact ⟨⟨fun k => if k = 52 then v else u k, rfl⟩, show 52 < 75 by decide⟩
            | 5, ho =>
              obtain rfl := Option.some.inj (show some _ = some o from ho)
              cases hd
              exact ⟨⟨fun k => if k = 53 then v else u k, rfl⟩, show 53 < 75 by decide⟩
            | 6, ho =>
              obtain rfl := Option.some.inj (show some _ = some o from ho)
              cases hd
              exact ⟨⟨fun k => if k = 54 then v else u k, rfl⟩, show 54 < 75 by decide⟩
            | 7, ho =>
              obtain rfl := Option.some.inj (show some _ = some o from ho)
              cases hd
              exact ⟨⟨fun k => if k = 55 then v else u k, rfl⟩, show 55 < 75 by decide⟩
            | 8, ho =>
              obtain rfl := Option.some.inj (show some _ = some o from ho)
              cases hd
              exact ⟨⟨fun k => if k = 47 then v else u k, rfl⟩, show 47 < 75 by decide⟩
            | 9, ho =>
              obtain rfl := Option.some.inj (show some _ = some o from ho)
              cases hd
              exact ⟨⟨fun k => if k = 56 then v else u k, rfl⟩, show 56 < 75 by decide⟩
            | 10, ho =>
              obtain rfl := Option.some.inj (show some _ = some o from ho)
              cases hd
              exact ⟨⟨fun k => if k = 57 then v else u k, rfl⟩, show 57 < 75 by decide⟩
            | 11, ho =>
              obtain rfl := Option.some.inj (show some _ = some o from ho)
              cases hd
              exact ⟨⟨fun k => if k = 58 then v else u k, rfl⟩, show 58 < 75 by decide⟩
            | 12, ho =>
              obtain rfl := Option.some.inj (show some _ = some o from ho)
              cases hd
              exact ⟨⟨fun k => if k = 12 then v else u k, rfl⟩, show 12 < 75 by decide⟩
            | 13, ho =>
              obtain rfl := Option.some.inj (show some _ = some o from ho)
              cases hd
            | 14, ho =>
              obtain rfl := Option.some.inj (show some _ = some o from ho)
              cases hd
              exact ⟨⟨fun k => if k = 13 then v else u k, rfl⟩, show 13 < 75 by decide⟩
            | 15, ho =>
              obtain rfl := Option.some.inj (show some _ = some o from ho)
              cases hd
              exact ⟨⟨fun k => if k = 14 then v else u k, rfl⟩, show 14 < 75 by decide⟩
            | _ + 16, ho => cases ho
          · exact apart_of (by decide +kernel)
          · exact back_of (by decide +kernel)
          · intro i o ho a w1 g1 hC ⟨u, ha⟩ hdep
            subst ha
            have hBs := hC.size
            match i, ho with
            | 0, ho =>
              have ho0 := ho
              obtain rfl := Option.some.inj (show some _ = some o from ho)
              exact op_value ho0 rfl (ex_build 40 rfl) ⟨_, rfl, fun g2 hg _ => ⟨w1.heap.size, (0, 0), hg, hBs, Cl.new w1 5 [.int .u8 40]⟩, hC.trans ((bel1 w1 _).mono hBs), G6.of_below (bel1 w1 _)⟩
            | 1, ho =>
              have ho0 := ho
              obtain rfl := Option.some.inj (show some _ = some o from ho)
              obtain ⟨⟨b1, fz1, e1, hb1⟩, hs1⟩ := hdep ⟨0, .data⟩ (by simp) rfl
              have s1 : u 48 = g1 0 := hs1 _ 48 rfl rfl
              obtain ⟨w2, fz2, hrun, hz1, hz2, hz3, hz4, hz5, hz6⟩ := cv_any w1 b1 _ fz1 1 1 hb1.2
              exact op_value ho0 rfl (ex_conv rfl (s1.trans e1) hrun) ⟨_, rfl, fun g2 hg _ => ⟨b1, fz2, hg, hb1.1, hz5⟩, ⟨hz2.trans hC.os, hz3.trans hC.tape, hz4.trans hC.output, by rw [hz1]; exact hC.size, fun k hk => (hz6 k (by have := hb1.1; omega)).trans (hC.block k hk)⟩, G6.mark hb1.2 hz5 hz6⟩
            | 2, ho =>
              have ho0 := ho
              obtain rfl := Option.some.inj (show some _ = some o from ho)
              exact op_value ho0 rfl (ex_move (t := 0) (v := .slice ao n cap) rfl rfl) ⟨_, rfl, fun g2 hg _ => hg, hC, G6.refl w1⟩
            | 3, ho =>
              have ho0 := ho
              obtain rfl := Option.some.inj (show some _ = some o from ho)
              obtain ⟨h1, hs1⟩ := hdep ⟨1, .data⟩ (by simp) rfl
              obtain ⟨h2, hs2⟩ := hdep ⟨2, .data⟩ (by simp) rfl
              have s1 : u 49 = g1 1 := hs1 _ 49 rfl rfl
              have s2 : u 50 = g1 2 := hs2 _ 50 rfl rfl
              obtain ⟨v, w2, hrun, hbel, hv⟩ := app1 48 h1 h2 (HRP.below hC) hn hBs
              exact op_value ho0 rfl (ex_append rfl s1 s2 hrun) ⟨_, rfl, fun g2 hg _ => hv g2 hg, hC.trans (hbel.mono hBs), G6.of_below hbel⟩
            | 4, ho =>
              have ho0 := ho
              obtain rfl := Option.some.inj (show some _ = some o from ho)
              exact op_value ho0 rfl (ex_build 41 rfl) ⟨_, rfl, fun g2 hg _ => ⟨w1.heap.size, (0, 0), hg, hBs, Cl.new w1 5 [.int .u8 41]⟩, hC.trans ((bel1 w1 _).mono hBs), G6.of_below (bel1 w1 _)⟩
            | 5, ho =>
              have ho0 := ho
              obtain rfl := Option.some.inj (show some _ = some o from ho)
              obtain ⟨h1, hs1⟩ := hdep ⟨3, .data⟩ (by simp) rfl
              obtain ⟨h2, hs2⟩ := hdep ⟨4, .data⟩ (by simp) rfl
              have s1 : u 51 = g1 3 := hs1 _ 51 rfl rfl
              have s2 : u 52 = g1 4 := hs2 _ 52 rfl rfl
              obtain ⟨v, w2, hrun, hbel, hG, hv⟩ := app2 48 hz h1 h2 hn hBs
              exact op_value ho0 rfl (ex_append rfl s1 s2 hrun) ⟨_, rfl, fun g2 hg _ => hv g2 hg, hbel U hC, hG⟩
            | 6, ho =>
              have ho0 := ho
              obtain rfl := Option.some.inj (show some _ = some o from ho)
              exact op_value ho0 rfl (ex_load23 rfl rfl (HKF.below hC)) ⟨_, rfl, fun g2 hg _ => hg, hC, G6.refl w1⟩
            | 7, ho =>
              have ho0 := ho
              obtain rfl := Option.some.inj (show some _ = some o from ho)
              obtain ⟨⟨b5, cp5, cs5, fz5, e5, hb5, hx5⟩, hs1⟩ := hdep ⟨5, .data⟩ (by simp) rfl
              obtain ⟨e6, hs2⟩ := hdep ⟨6, .data⟩ (by simp) rfl
              have s1 : u 53 = g1 5 := hs1 _ 53 rfl rfl
              have s2 : u 54 = g1 6 := hs2 _ 54 rfl rfl
              have hrd : Rd w1 (some ⟨b5, 0, none⟩) (1 + (n + 1)) (inB z) := ⟨inB_small hz hsm, fun _ => ⟨b5, 0, rfl, (Array.getElem?_eq_some_iff.1 hb5.2).1, fun i hi => by rw [by_cell hb5.2, Nat.zero_add]; exact hx5 i hi⟩⟩
              have HC := parse_any (some ⟨b5, 0, none⟩) (1 + (n + 1)) cp5 (inB z) fl w1 hrd
              refine op_call (R := fun v w2 => (∃ (no3 : Option Addr) (nc3 : Nat), v = .tuple #[.agg #[.slice no3 nn nc3], .int .i64 ((1 + (n + 1) : Nat) : Int), .int .i64 0] ∧ w2.ownsRow U.heap.size 44 10 (.slice no3 nn nc3) nn (ndsL l)) ∧ Below w1.heap.size w1 w2) ho0 rfl (ex_call17 rfl rfl (s1.trans e5) (s2.trans e6)) (HC.mono ?_) (fun v w2 h => ⟨v, rfl, fun g2 hg _ => ?_, hC.trans (h.2.mono hBs), G6.of_below h.2⟩)
              · rintro e w2 (⟨_, hno⟩ | ⟨l3, no3, nc3, hok3, rfl, hrow3, hb3⟩)
                · exact absurd hok2 (hno l)
                · obtain rfl : l = l3 := Except.ok.inj (hok2.2.2.symm.trans hok3.2.2)
                  rw [hnn2] at hrow3
                  exact ⟨_, rfl, ⟨no3, nc3, by rw [hnn2], ownsRow_base hrow3 hBs⟩, hb3⟩
              · obtain ⟨⟨no3, nc3, e, hr⟩, _⟩ := h
                exact ⟨no3, nc3, hg.trans e, hr⟩
            | 8, ho =>
              have ho0 := ho
              obtain rfl := Option.some.inj (show some _ = some o from ho)
              obtain ⟨⟨no3, nc3, e7, hr7⟩, hs1⟩ := hdep ⟨7, .data⟩ (by simp) rfl
              have s1 : u 55 = g1 7 := hs1 _ 55 rfl rfl
              exact op_value ho0 rfl (ex_move (t := 55) rfl (s1.trans e7)) ⟨_, rfl, fun g2 hg _ => ⟨no3, nc3, hg, hr7⟩, hC, G6.refl w1⟩
            | 9, ho =>
              have ho0 := ho
              obtain rfl := Option.some.inj (show some _ = some o from ho)
              obtain ⟨⟨no3, nc3, e8, hr8⟩, hs1⟩ := hdep ⟨8, .data⟩ (by simp) rfl
              have s1 : u 47 = g1 8 := hs1 _ 47 rfl rfl
              exact op_value ho0 rfl (ex_extract rfl (s1.trans e8) rfl) ⟨_, rfl, fun g2 hg _ => ⟨no3, nc3, hg, hr8⟩, hC, G6.refl w1⟩
            | 10, ho =>
              have ho0 := ho
              obtain rfl := Option.some.inj (show some _ = some o from ho)
              obtain ⟨⟨no3, nc3, e8, hr8⟩, hs1⟩ := hdep ⟨8, .data⟩ (by simp) rfl
              have s1 : u 47 = g1 8 := hs1 _ 47 rfl rfl
              exact op_value ho0 rfl (ex_extract rfl (s1.trans e8) rfl) ⟨_, rfl, fun g2 hg _ => trivial, hC, G6.refl w1⟩
            | 11, ho =>
              have ho0 := ho
              obtain rfl := Option.some.inj (show some _ = some o from ho)
              obtain ⟨⟨no3, nc3, e8, hr8⟩, hs1⟩ := hdep ⟨8, .data⟩ (by simp) rfl
              have s1 : u 47 = g1 8 := hs1 _ 47 rfl rfl
              exact op_value ho0 rfl (ex_extract rfl (s1.trans e8) rfl) ⟨_, rfl, fun g2 hg _ => hg, hC, G6.refl w1⟩
            | 12, ho =>
              have ho0 := ho
              obtain rfl := Option.some.inj (show some _ = some o from ho)
              exact op_value ho0 rfl (ex_alloc rfl) ⟨_, rfl, fun g2 hg _ => ⟨w1.heap.size, _, hg, hBs, Cl.new w1 28 [.slice none 0 0]⟩, hC.trans ((bel1 w1 _).mono hBs), G6.of_below (bel1 w1 _)⟩
            | 13, ho =>
              have ho0 := ho
              obtain rfl := Option.some.inj (show some _ = some o from ho)
              obtain ⟨⟨b12, c12, e12, hb12, hh12⟩, hs1⟩ := hdep ⟨12, .data⟩ (by simp) rfl
              obtain ⟨⟨no3, nc3, e9, hr9⟩, hs2⟩ := hdep ⟨9, .data⟩ (by simp) rfl
              have s1 : u 12 = g1 12 := hs1 _ 12 rfl rfl
              have s2 : u 56 = g1 9 := hs2 _ 56 rfl rfl
              obtain ⟨hG, hh, hr⟩ := G6.store (n := n) (l := l) hh12 hr9
              exact op_skip ho0 rfl (ex_store rfl (s1.trans e12) (s2.trans e9) hh12) ⟨_, rfl, fun g2 _ hg2 => ⟨b12, no3, nc3, (hg2 ⟨12, .data⟩ (by simp) rfl).trans e12, hb12, hh, hr⟩, hC.setCell (p := ⟨b12, 0, none⟩) hb12 _, hG⟩
            | 14, ho =>
              have ho0 := ho
              obtain rfl := Option.some.inj (show some _ = some o from ho)
              exact op_value ho0 rfl (BigFrame.run_assign _ rfl w1) ⟨_, rfl, fun g2 hg _ => trivial, hC, G6.refl w1⟩
            | 15, ho =>
              have ho0 := ho
              obtain rfl := Option.some.inj (show some _ = some o from ho)
              obtain ⟨e11, hs1⟩ := hdep ⟨11, .data⟩ (by simp) rfl
              have s1 : u 58 = g1 11 := hs1 _ 58 rfl rfl
              exact op_value ho0 rfl (ex_assign (t := 58) rfl (s1.trans e11)) ⟨_, rfl, fun g2 hg _ => hg, hC, G6.refl w1⟩
            | _ + 16, ho => cases ho
          · intro a w1 g1 hC ⟨u, ha⟩ hsl hvl
            subst ha
            have s12 : u 12 = g1 12 := hsl 12 _ 12 rfl rfl
            have s14 : u 14 = g1 15 := hsl 15 _ 14 rfl rfl
            obtain ⟨b12, no3, nc3, e12, _, hh, hr⟩ := hvl 13 _ rfl
            have e15 : g1 15 = .int .i64 0 := hvl 15 _ rfl
            have t12 := s12.trans e12
            have t14 := s14.trans e15
            have HY : Hid (Cl w1 b12 28 [.slice no3 nn nc3]) := hh
            have HZ : Hid (T.RdN w1 no3 nn (fun i => l.getD i ndE0)) := by
              have h0 : w1.ownsRow U.heap.size 44 10 (.slice no3 l.length nc3) l.length (ndsL l) := by rw [hnn2]; exact hr
              have h1 := rdn_row h0
              rw [hnn2] at h1
              exact h1
            have HX : Hid (Below U.heap.size U w1) := hC
            clear hsl hvl hh hr s12 s14 e12 e15
            dsimp only
            rw [t12, t14]
            refine hK _ _ (Met.intro (hJ _ _ ?_))
            (repeat apply Exists.intro)
            refine ⟨?rel, rfl⟩
            exact ⟨b12, no3, nc3, rfl, rfl, HY, HZ, HX⟩
        case rest =>
          obtain ⟨b, no3, nc3, rfl, rfl, hC9, hR9, hb9⟩ := hcut
          have kA9 := kA8.below hb9.out
          have kB9 := kB8.below hb9.out
          have rA := hrd8.below hb9.out
          have rB := hrd28.below hb9.out
          have HBx := HB9.trans (hb9.out.mono HB9.size)
          have a1 := kA9.cell 0 rfl
          have b1 := kB9.cell 0 rfl
          have d1 := hC9.out.cell 0 rfl
          have hnl : (nn : Int) ≤ 9223372036854775807 := by omega
          have S1 := T.rsame_any no no2 nn nn nc nc2 (fun i => l.getD i ndE0) (fun i => l.getD i ndE0) wc rA rB hnl
          rw [eqN_self] at S1
          have S2 : ∀ W, Below wc.heap.size wc W → Calls Try.prog 12 #[.agg #[.slice no nn nc], .agg #[.slice no3 nn nc3]] W (T.RetSm W true) := fun W h => by
            have := T.rsame_any no no3 nn nn nc nc3 (fun i => l.getD i ndE0) (fun i => l.getD i ndE0) W (rA.below h) (hR9.out.below h) hnl
            rw [eqN_self] at this
            exact this
          have hC0 := hC9.out
          clear hrd8 hrd28 rA rB kA8 kB8 hb9 hR9 hC9 HB9
          go_wp2_with fail
          refine S1.mono ?_
          clear S1
          rintro e W10 ⟨rfl, hb10⟩
          have a2 := (kA9.below hb10).cell 0 rfl
          have d2 := (hC0.below hb10).cell 0 rfl
          have S3 := S2 W10 hb10
          have HBy := HBx.trans (hb10.mono HBx.size)
          clear S2 hb10 HBx a1 b1 d1 kA9 kB9 hC0
          go_wp2_with fail
          refine S3.mono ?_
          clear S3
          rintro e W11 ⟨rfl, hb11⟩
          have HBz := HBy.trans (hb11.mono HBy.size)
          clear hb11 HBy
          go_wp2_with fail
          go_ret
          exact ⟨by simp, HBz⟩
    · have hn1 : ((n : Int) > 1020) := by omega
      clear hok hrd5 hrP5 hsm hz kA5 kF5
      generalize l.length = nn at *
      go_wp2_with fail
      refine (HG _).mono ?_
      rintro e W6 ⟨rfl, hb6⟩
      have HB6 := HB.trans (hb6.mono HB.size)
      clear hb6 HB
      go_wp2_with fail
      go_ret
      exact ⟨rfl, HB6⟩
/-- ParseGroups, whatever the pattern. -/
theorem groups_walk (ao : Option Addr) (n cap : Nat) (z : Nat → Nat) (fl : Fg) (w : World) (hr : Rd w ao n z) : Calls Try.prog 6 #[.slice ao n cap, fgV fl] w fun e w' => e = .returned (.bool true) ∧ Below w.heap.size w w' := by
  refine groups_z ao n cap (fun i => if i < n then z i else 41) (by simp) fl w ⟨fun i hi => ?_, fun h0 => ?_⟩
  · rw [if_pos hi]
    exact hr.small i hi
  · obtain ⟨b, off, e, hb, hc⟩ := hr.at_ h0
    exact ⟨b, off, e, hb, fun i hi => by
      rw [if_pos hi]
      exact hc i hi⟩
end Go.Proofs.Ytlmmiicibjfcdaa
