/- The reference's Runs: the walk. -/
import Derived.Test.YthbmfnibgjlkhaaDoorRw
import Derived.Test.YthbmfnibgjlkhaaDoorRs
import Derived.Test.YthbmfnibgjlkhaaDoorLe
import Derived.Test.YthbmfnibgjlkhaaDoorRg
import Derived.Test.YthbmfnibgjlkhaaDoorGLhLjLk
import Derived.Deep.DeepCutAuto
import Derived.Deep.RegionHeld3
import Derived.Deep.RegionLaw
import Derived.Deep.AppendLies
namespace Go.Proofs.YthbmfnibgjlkhaaDoor
open Go.RowKit Go.Shelf K
theorem b_run : (Tryd.prog.info? 55).map (fun i => (i.zero, i.size, i.bytes)) = some (some (.agg #[.int .i64 0, .slice none 0 0]), 2, 32) := by kernel_rfl
/-- What the reference's Runs answers. -/
def RetRR (w : World) (rs : List (Nat × List (Nat × Bool))) (e : Ending) (w' : World) : Prop := ∃ v M, e = .returned v ∧ RW w.heap.size rs w' v M ∧ Below w.heap.size w w'
theorem cls_zero {q : Nd} (h : q.c0 = 0 ∧ q.c1 = 0 ∧ q.c2 = 0 ∧ q.c3 = 0) (x : Nat) : clsP q x = false := by
  obtain ⟨h0, h1, h2, h3⟩ := h
  simp [clsP, h0, h1, h2, h3]
/-- A part that has a letter is a class. -/
theorem kind2 {u : Tre} (ho : u.ok = true) {y : Nat × Bool} (hl : ltT u = some y) : (nodes u (u.size - 1)).k = 2 := by
  rw [nodes_get (Tre.subs_last u)]
  unfold ltT at hl
  rw [nodes_get (Tre.subs_last u)] at hl
  cases u with
  | leaf q =>
    simp only [Tre.nd] at hl ⊢
    by_cases hk : q.k = 2
    · exact hk
    · exfalso
      simp only [Tre.ok, Tre.lf, Bool.or_eq_true, Bool.and_eq_true, beq_iff_eq] at ho
      rcases ho with ⟨h, _⟩ | ⟨_, h⟩
      · exact hk h
      · have := Nd.eq_iff.1 h
        rw [ltF_no fun x _ => cls_zero (by rw [this]; exact ⟨rfl, rfl, rfl, rfl⟩) x] at hl
        cases hl
  | two k x y =>
    rw [ltF_no fun x _ => cls_zero ⟨rfl, rfl, rfl, rfl⟩ x] at hl
    cases hl
  | rep x l m z =>
    rw [ltF_no fun x _ => cls_zero ⟨rfl, rfl, rfl, rfl⟩ x] at hl
    cases hl
theorem parts_ok {x : Tre} (c : Int) (ox : x.ok = true) (i : Nat) (u : Tre) (hu : (pt c x)[i]? = some u) : u.ok = true := by
  have hi := (List.getElem?_eq_some_iff.1 hu).1
  rw [← pp_len c x (x.size - 1)] at hi
  obtain ⟨v, hv, hs⟩ := pp_at c x x (x.size - 1) (Tre.subs_last x) i _ (List.getElem?_eq_getElem hi)
  rw [hu] at hv
  obtain rfl := Option.some.inj hv
  exact subs_ok x _ _ ox hs
/-- All runs ahead of part i, the open one too. -/
def allY (p : Nat → Option (Nat × Bool)) (i : Nat) : List (Nat × List (Nat × Bool)) := stY p i ++ opnY p i
theorem allY_none {p : Nat → Option (Nat × Bool)} {i : Nat} (h : p i = none) : allY p (i + 1) = allY p i := by
  unfold allY
  rw [stY_none h, show opnY p (i + 1) = [] from by rw [opnY, if_pos (curY_none h)], List.append_nil]
theorem allY_first {p : Nat → Option (Nat × Bool)} {i : Nat} {y : Nat × Bool} (h : p i = some y) (hc : curY p i = []) : allY p (i + 1) = allY p i ++ [(i, [] ++ [y])] := by
  unfold allY
  rw [stY_some h, opnY, opnY, curY_some h, hc, if_neg (by simp), if_pos rfl]
  simp
theorem allY_next {p : Nat → Option (Nat × Bool)} {i : Nat} {y : Nat × Bool} (h : p i = some y) (hc : curY p i ≠ []) : allY p i = stY p i ++ [(i - (curY p i).length, curY p i)] ∧ allY p (i + 1) = stY p i ++ [(i - (curY p i).length, curY p i ++ [y])] := by
  unfold allY
  have := curY_len p i
  rw [stY_some h, opnY, opnY, curY_some h, if_neg hc, if_neg (by simp)]
  refine ⟨rfl, ?_⟩
  rw [List.length_append, List.length_singleton, show i + 1 - ((curY p i).length + 1) = i - (curY p i).length by omega]
theorem allY_len (p : Nat → Option (Nat × Bool)) : ∀ i, (allY p i).length ≤ i
  | 0 => by simp [allY, stY, opnY, curY]
  | i + 1 => by
    have := allY_len p i
    cases h : p i with
    | none => rw [allY_none h]; omega
    | some y =>
      by_cases hc : curY p i = []
      · rw [allY_first h hc]; simp; omega
      · obtain ⟨e1, e2⟩ := allY_next h hc
        rw [e1] at this
        rw [e2]
        simp at this ⊢
        omega
set_option maxRecDepth 10000 in
set_option maxHeartbeats 4000000 in
theorem rruns_any (a : Option Addr) (n c : Nat) (F : Nat → Nd) (w : World) (ha : RdN w a n F) (hn : (n : Int) ≤ 9223372036854775807) (hca : n ≤ c) (hwf : ∀ k, k < n → wfN (F k)) : Calls Tryd.prog 23 #[.agg #[.slice a n c]] w (RetRR w (rsF F n)) := by
  have hW0 := below1 w (.cells #[.slice a n c] 48)
  have k0 := Cl.new w 48 [.slice a n c]
  have HI := ris_plain a n c F _ (ha.below hW0) hn
  unfold rsF
  cases hb : isB F n with
  | false =>
    rw [if_neg (by simp)]
    rw [hb] at HI
    have HR : Hid (∀ W, Below w.heap.size w W → RetRR w [] (.returned (.slice none 0 0)) W) := fun W hW => ⟨.slice none 0 0, fun _ => .slice none 0 0, rfl, ⟨World.ownsRow_nil _ _ _ _, fun k r hr => by simp at hr, fun k j g _ hj => by simp at hj⟩, hW⟩
    clear ha hwf hb
    go_enter Tryd.func23, Tryd.ntmps23
    go_wp2_with (go_at_call 27; refine HI.mono ?_; rintro e w1 ⟨rfl, hb1⟩)
    go_ret
    exact HR.out _ (hW0.trans (hb1.mono (by simp)))
  | true =>
    rw [if_pos rfl]
    rw [hb] at HI
    obtain ⟨t, ht⟩ : ∃ t, treeOf F n = some t := by
      have : (treeOf F n).isSome = true := by
        unfold isB at hb
        simp only [Bool.and_eq_true] at hb
        exact hb.1
      exact Option.isSome_iff_exists.1 this
    have hsn : snd F n = t := by simp [snd, ht]
    obtain ⟨e1, e2, e3, e4⟩ := treeOf_some ht
    have hwp := parts_wf (x := t) 3 fun k hk => by rw [← e4 k (by omega)]; exact hwf k (by omega)
    have hpl := pt_le 3 t
    have HP : Hid (∀ W, Below w.heap.size w W → Calls Tryd.prog 30 #[.agg #[.slice a n c], .int .i64 3] W (RetPs W t 3)) := fun W hW => by
      have := rparts_any a n c F 3 W (ha.below hW) hn hca
      rwa [hsn] at this
    rw [hsn]
    have HE1 : Hid (t.size ≤ 2048) := by show t.size ≤ 2048; omega
    clear ha hwf hb ht hsn e4 e1 e3
    go_enter Tryd.func23, Tryd.ntmps23
    go_upto_region 6 with (first | (go_at_call 30; refine (HP.out _ (hW0.trans (hb1.mono (by simp)))).mono ?_; rintro e V ⟨ao, cap, M0, rfl, hrow, htrs, hB⟩) | (go_at_call 27; refine HI.mono ?_; rintro e w1 ⟨rfl, hb1⟩; have d1 := (k0.below hb1).cell 0 rfl))
    have hBV := (hW0.trans (hb1.mono (by simp))).trans (hB.mono (by have := hb1.size; simp at this; omega))
    clear k0 hW0 hb1 HI HP d1 hB
    go_wp2_with fail
    have hN2 : (pt 3 t).length ≤ 2048 := Nat.le_trans hpl HE1.out
    clear hpl
    have R0 : RW V.heap.size (allY (ptL t) 0) V (.slice none 0 0) (fun _ => .slice none 0 0) := ⟨World.ownsRow_nil _ _ _ _, fun k r hr => by simp [allY, stY, opnY, curY] at hr, fun k j g _ hj => by simp [allY, stY, opnY, curY] at hj⟩
    go_loopw [4, 5, 6] (fun v on i wr => ∃ (j : Nat) (M : Nat → Value) (ob : Bool), j ≤ (pt 3 t).length ∧ i = .int .i64 (j : Nat) ∧ on = .bool ob ∧ Hid (ob = decide (curY (ptL t) j ≠ [])) ∧ Below V.heap.size V wr ∧ RW V.heap.size (allY (ptL t) j) wr v M) (fun _ _ i _ => (pt 3 t).length - (intOf i).toNat)
    case atStart => exact ⟨0, _, false, by omega, rfl, rfl, by show false = _; simp [curY], Below.refl _ _, R0⟩
    case round =>
      obtain ⟨j, M, ob, hj, rfl, rfl, hob, hbr, hRW⟩ := hrel
      by_cases hlt : j < (pt 3 t).length
      · have hji : (j : Int) < ((pt 3 t).length : Int) := by omega
        obtain ⟨u, hu⟩ : ∃ u, (pt 3 t)[j]? = some u := ⟨_, List.getElem?_eq_getElem hlt⟩
        obtain ⟨g, cp, eM, hru, hcu, _, _, hgl⟩ := htrs j u hlt hu
        have hpu := u.size_pos
        obtain ⟨gr, rfl, hgrl, _, hcell, _⟩ := row_cell hrow (by omega)
        have dp := hcell j _ (vals_get M0 hlt)
        rw [eM, ← hbr.cell (p := ⟨gr, j, none⟩) hgrl] at dp
        obtain ⟨bb, off, eg, hbb, hcs⟩ := hru.below hbr hpu
        obtain ⟨rfl, rfl⟩ : g = bb ∧ 0 = off := by simpa using eg
        obtain ⟨q0, q1, q2, q3, q4, q5, q6, q7, q8, q9⟩ := hcs (u.size - 1) (by omega)
        simp only [Nat.zero_add] at q0 q1 q2 q3 q4 q5 q6 q7 q8 q9
        have hwN := hwp j u hu
        have hp0 : ptL t j = ltT u := by simp [ptL, hu]
        have hk2 : ∀ y, ltT u = some y → (nodes u (u.size - 1)).k = 2 := fun y hy => kind2 (parts_ok 3 e2 j u hu) hy
        have HL : Hid (∀ W, Calls Tryd.prog 9 #[.agg #[.int .u64 (nodes u (u.size - 1)).c0, .int .u64 (nodes u (u.size - 1)).c1, .int .u64 (nodes u (u.size - 1)).c2, .int .u64 (nodes u (u.size - 1)).c3]] W (fun e w' => e = .returned (ltV (ltT u)) ∧ Below W.heap.size W w')) := fun W => by
          have := (rletter_any (c4_cls hwN) W).mono fun e w' h => RetLt.is h
          obtain ⟨h0, h1, h2, h3⟩ := hwN
          rw [show (((nodes u (u.size - 1)).c0.toNat : Nat) : Int) = (nodes u (u.size - 1)).c0 by omega, show (((nodes u (u.size - 1)).c1.toNat : Nat) : Int) = (nodes u (u.size - 1)).c1 by omega, show (((nodes u (u.size - 1)).c2.toNat : Nat) : Int) = (nodes u (u.size - 1)).c2 by omega, show (((nodes u (u.size - 1)).c3.toNat : Nat) : Int) = (nodes u (u.size - 1)).c3 by omega] at this
          exact this
        have hus : u.size ≤ 2048 := Nat.le_trans (pt_size 3 t u (List.mem_of_getElem? hu)) HE1.out
        clear hcs hcell hwp htrs hru hwN R0
        generalize nodes u (u.size - 1) = N at *
        obtain ⟨nk, n0, n1, n2, n3, na, nb, nl, nm, nz⟩ := N
        dsimp only at *
        have hcast : ((u.size : Int) - 1) = ((u.size - 1 : Nat) : Int) := by omega
        have hsl : ((u.size - 1 : Nat) : Int) < (u.size : Int) := by omega
        have hwu : IntKind.i64.wrap ((u.size - 1 : Nat) : Int) = ((u.size - 1 : Nat) : Int) := by rw [IntKind.wrap_i64]; omega
        generalize u.size - 1 = um at *
        generalize u.size = us at *
        go_upto_region 9 with fail
        go_cut [7] from 22 to 35 (fun b wx => ∃ bn, b = .pointer (some ⟨bn, 0, none⟩) ∧ Cl wx bn 82 [.int .i64 nk, .int .u64 n0, .int .u64 n1, .int .u64 n2, .int .u64 n3, .int .i64 na, .int .i64 nb, .int .i64 nl, .int .i64 nm, .bool nz] ∧ Below wr.heap.size wr wx)
        case first =>
          have hgr2 : gr < wr.heap.size := Nat.lt_of_lt_of_le hgrl hbr.size
          have hgr3 : gr ≠ wr.heap.size := by omega
          have hg3 : g ≠ wr.heap.size := by omega
          have dp' := dp
          have q0' := q0
          have q1' := q1
          have q2' := q2
          have q3' := q3
          have q4' := q4
          have q5' := q5
          have q6' := q6
          have q7' := q7
          have q8' := q8
          have q9' := q9
          change wr.drew.cell? _ = _ at dp q0 q1 q2 q3 q4 q5 q6 q7 q8 q9
          have kN : Cl (wr.drew.alloc (.cells #[.int .i64 nk, .int .u64 n0, .int .u64 n1, .int .u64 n2, .int .u64 n3, .int .i64 na, .int .i64 nb, .int .i64 nl, .int .i64 nm, .bool nz] 82)) wr.heap.size 82 [.int .i64 nk, .int .u64 n0, .int .u64 n1, .int .u64 n2, .int .u64 n3, .int .i64 na, .int .i64 nb, .int .i64 nl, .int .i64 nm, .bool nz] := Cl.new wr.drew 82 [.int .i64 nk, .int .u64 n0, .int .u64 n1, .int .u64 n2, .int .u64 n3, .int .i64 na, .int .i64 nb, .int .i64 nl, .int .i64 nm, .bool nz]
          have hbN : Below wr.heap.size wr (wr.drew.alloc (.cells #[.int .i64 nk, .int .u64 n0, .int .u64 n1, .int .u64 n2, .int .u64 n3, .int .i64 na, .int .i64 nb, .int .i64 nl, .int .i64 nm, .bool nz] 82)) := (Below.refl _ wr).drew.alloc (by simp) _
          go_region_with fail
          all_goals go_wp2_with fail
          all_goals go_meet
          all_goals exact ⟨wr.heap.size, rfl, Cl.new wr.drew 82 [.int .i64 nk, .int .u64 n0, .int .u64 n1, .int .u64 n2, .int .u64 n3, .int .i64 na, .int .i64 nb, .int .i64 nl, .int .i64 nm, .bool nz], hbN⟩
        case rest =>
          obtain ⟨bn, rfl, kN, hbN⟩ := hcut
          have hbr2 := hbr.trans (hbN.mono hbr.size)
          have hRW2 := hRW.below hbN
          clear dp q0 q1 q2 q3 q4 q5 q6 q7 q8 q9 hbN hRW hcast hsl hwu
          have hkn0 := kN.cell 0 rfl
          have hkn1 := kN.cell 1 rfl
          have hkn2 := kN.cell 2 rfl
          have hkn3 := kN.cell 3 rfl
          have hkn4 := kN.cell 4 rfl
          cases hl : ltT u with
          | none =>
            rw [hl] at HL hp0
            dsimp only [ltV] at HL
            have HN : Hid (∀ W, Below wc.heap.size wc W → ∃ (j' : Nat) (M : Nat → Value) (ob : Bool), j' ≤ (pt 3 t).length ∧ (Value.int .i64 ((j : Int) + 1)) = .int .i64 (j' : Nat) ∧ Value.bool false = .bool ob ∧ Hid (ob = decide (curY (ptL t) j' ≠ [])) ∧ Below V.heap.size V W ∧ RW V.heap.size (allY (ptL t) j') W u4 M) := fun W hW => ⟨j + 1, M, false, by omega, by congr 1, rfl, by show false = _; rw [curY_none hp0]; rfl, hbr2.trans (hW.mono hbr2.size), by rw [allY_none hp0]; exact hRW2.below hW⟩
            have hmea : (pt 3 t).length - (j + 1) < (pt 3 t).length - j := by omega
            clear hRW2 hbr2 hk2 hp0 hu hob
            go_wp2_with (go_at_call 9; refine (HL.out _).mono ?_; rintro e w5 ⟨rfl, hb5⟩)
            go_roundw
            case rel => exact HN.out _ (hb5.alloc hb5.size _)
            case measure => simp [intOf]; omega
          | some y =>
            rw [hl] at HL hp0
            obtain ⟨yb, yf⟩ := y
            dsimp only [ltV] at HL
            obtain rfl : nk = 2 := hk2 _ hl
            obtain ⟨i0, hi, hz0, hz1, hz2⟩ := info_parts b_letter
            obtain ⟨i1, hi1, hy0, hy1, hy2⟩ := info_parts b_run
            have hall := allY_len (ptL t) j
            by_cases hc : curY (ptL t) j = []
            · have hobf : ob = false := by rw [hob.out, hc]; rfl
              subst hobf
              obtain ⟨oa, oc0, hoa⟩ := ownsRow_slice hRW2.row
              rw [hoa] at hRW2
              obtain rfl := hoa
              have HRo : Hid (∀ A2, Below wc.heap.size wc A2 → A2.ownsRow V.heap.size 55 2 (.slice oa (allY (ptL t) j).length oc0) (allY (ptL t) j).length (rcF (fun k => ((allY (ptL t) j).getD k (0, [])).1) M (allY (ptL t) j).length)) := fun A2 h => ownsRow_below hRW2.row h
              have HB4 : Hid (∀ w5 : World, Below wc.heap.size wc w5 → Below wc.heap.size wc ((w5.alloc (.cells #[.int .u8 (yb : Nat), .bool yf] 26)).alloc (.cells #[.int .i64 (j : Nat), .slice none 0 0] 55))) := fun w5 h5 => (h5.alloc h5.size _).alloc (Nat.le_trans h5.size (by simp)) _
              have HN5 : Hid (∀ (w5 : World) (jj : Nat) (z : Value), [Value.int .i64 (j : Nat), .slice none 0 0][jj]? = some z → ((w5.alloc (.cells #[.int .u8 (yb : Nat), .bool yf] 26)).alloc (.cells #[.int .i64 (j : Nat), .slice none 0 0] 55)).cell? (Addr.add ⟨w5.heap.size + 1, 0, none⟩ jj) = some z) := fun w5 jj z hjj => by
                have k9 := Cl.new (w5.alloc (.cells #[.int .u8 (yb : Nat), .bool yf] 26)) 55 [.int .i64 (j : Nat), .slice none 0 0]
                simp only [World.size_alloc] at k9
                have := k9.cell jj hjj
                have e : Addr.add ⟨w5.heap.size + 1, 0, none⟩ jj = ⟨w5.heap.size + 1, jj, none⟩ := by
                  by_cases h0 : jj = 0
                  · subst h0; simp [Addr.add]
                  · simp [Addr.add, h0]
                rw [e]; exact this
              have HP : Hid (∀ (w5 w6 : World) (go oc : Nat), Below wc.heap.size wc w5 → w6.ownsRow V.heap.size 55 2 (.slice (some ⟨go, 0, none⟩) ((allY (ptL t) j).length + 1) oc) ((allY (ptL t) j).length + 1) (rcF (fun k => ((allY (ptL t) j).getD k (0, [])).1) M (allY (ptL t) j).length ++ [.int .i64 (j : Nat), .slice none 0 0]) → ((w5.alloc (.cells #[.int .u8 (yb : Nat), .bool yf] 26)).alloc (.cells #[.int .i64 (j : Nat), .slice none 0 0] 55)).grownBy w6 (Value.slice oa (allY (ptL t) j).length oc0).ownBlock → RW V.heap.size (allY (ptL t) j ++ [(j, [])]) w6 (.slice (some ⟨go, 0, none⟩) ((allY (ptL t) j).length + 1) oc) (updV M (allY (ptL t) j).length (.slice none 0 0)) ∧ Below V.heap.size V w6 ∧ Cl w6 w5.heap.size 26 [.int .u8 (yb : Nat), .bool yf]) := by
                intro w5 w6 go oc h5 a1 a2
                have h4 := HB4.out w5 h5
                have hmB := ownsRow_own hRW2.row
                have hmL := ownsRow_lt hRW2.row
                have hx1 := hbr2.trans (h4.mono hbr2.size)
                have k5 := (Cl.new w5 26 [.int .u8 (yb : Nat), .bool yf]).alloc (.cells #[.int .i64 (j : Nat), .slice none 0 0] 55)
                refine ⟨hRW2.push h4 a1 a2, ⟨a2.os.trans hx1.os, a2.tape.trans hx1.tape, a2.output.trans hx1.output, Nat.le_trans hx1.size a2.size, fun k hk => (a2.block k (Nat.lt_of_lt_of_le hk hx1.size) (fun e => by have := hmB k e.symm; omega)).trans (hx1.block k hk)⟩, ?_⟩
                unfold Cl
                rw [a2.block _ k5.lt (fun e => by have := hmL _ e.symm; have := h5.size; omega)]
                exact k5
              have HBs : Hid (∀ w5 : World, Below wc.heap.size wc w5 → V.heap.size ≤ ((w5.alloc (.cells #[.int .u8 (yb : Nat), .bool yf] 26)).alloc (.cells #[.int .i64 (j : Nat), .slice none 0 0] 55)).heap.size) := fun w5 h5 => Nat.le_trans hbr2.size (HB4.out w5 h5).size
              have hRl0 : (allY (ptL t) j).length + 1 ≤ 2049 := by omega
              clear hRW2 hbr2
              generalize hRC : rcF (fun k => ((allY (ptL t) j).getD k (0, [])).1) M (allY (ptL t) j).length = rc at *
              clear hRC
              go_upto_region 16 with (first | (go_at_call 9; refine (HL.out _).mono ?_; rintro e w5 ⟨rfl, hb5⟩; have f0 := ((kN.below hb5).alloc (.cells #[.int .u8 (yb : Nat), .bool yf] 26)).cell 0 rfl) | (at_builtin; refine wpList_append_lies _ rfl _ _ 49 rfl V.heap.size 55 i1 _ 2 32 Tryd.underlying49 hi1 hy0 hy1 hy2 rfl (by decide) _ _ _ rfl (HRo.out _ (HB4.out _ hb5)) ⟨w5.heap.size + 1, 0, none⟩ 1 1 [.int .i64 (j : Nat), .slice none 0 0] rfl rfl (HN5.out w5) (by simp [Value.oneCell']) (by decide) (by unfold maxLen; omega) (by omega) (HBs.out w5 hb5) _ rfl ?_; intro go oc w6 hown hgr hat hlt; obtain ⟨hW, hbX, kl⟩ := HP.out w5 w6 go oc hb5 hown hgr; clear hown hgr hat hlt))
              clear HP HRo HB4 HN5 HL
              obtain ⟨bl, hbl⟩ : ∃ bl, bl = w5.heap.size := ⟨_, rfl⟩
              rw [← hbl] at kl ⊢
              clear hbl
              obtain ⟨X, hX⟩ : ∃ X, X = w6 := ⟨_, rfl⟩
              subst hX
              obtain ⟨Mx, hMx⟩ : ∃ Mx, Mx = updV M (allY (ptL t) j).length (.slice none 0 0) := ⟨_, rfl⟩
              rw [← hMx] at hW
              clear hMx
              clear M
              obtain ⟨M, hM⟩ : ∃ M, M = Mx := ⟨_, rfl⟩
              subst hM
              have kl' : Cl X.drew bl 26 [.int .u8 (yb : Nat), .bool yf] := kl
              have l0 := kl'.cell 0 rfl
              have l1 := kl'.cell 1 rfl
              have hel := hW.els (allY (ptL t) j).length (j, []) (by simp)
              obtain ⟨mo, mc, hm⟩ := ownsRow_slice hel
              rw [hm] at hel
              dsimp only at hel hm
              have hrowW := hW.row
              rw [List.length_append, List.length_singleton] at hrowW
              obtain ⟨g0, e0, hgol, _, hcl, hfr⟩ := row_cell hrowW (by omega)
              obtain rfl : go = g0 := by simpa using e0
              have dM : X.drew.cell? ⟨go, (allY (ptL t) j).length * 2 + 1, none⟩ = some (.slice mo ([] : List (Nat × Bool)).length mc) := by
                have := hcl _ _ (rcF_get _ M ((allY (ptL t) j).length + 1) (allY (ptL t) j).length (by omega)).2
                rw [hm] at this
                exact this
              have hgoX : go < X.heap.size := hgol
              have dM2 : (X.alloc (.cells #[.int .u8 (yb : Nat), .bool yf] 26)).cell? ⟨go, (allY (ptL t) j).length * 2 + 1, none⟩ = some (.slice mo ([] : List (Nat × Bool)).length mc) := by
                rw [(below1 X _).cell (p := ⟨go, (allY (ptL t) j).length * 2 + 1, none⟩) hgol]
                exact dM
              have HO : Hid ((X.drew.alloc (.cells #[.int .u8 (yb : Nat), .bool yf] 26)).ownsRow V.heap.size 26 2 (.slice mo ([] : List (Nat × Bool)).length mc) ([] : List (Nat × Bool)).length (lcs [])) := ownsRow_below hel ((Below.refl _ X).drew.alloc (by simp) _)
              have HN : Hid (∀ jj z, [Value.int .u8 (yb : Nat), .bool yf][jj]? = some z → (X.drew.alloc (.cells #[.int .u8 (yb : Nat), .bool yf] 26)).cell? (Addr.add ⟨X.heap.size, 0, none⟩ jj) = some z) := fun jj z hjj => by
                have k9 : Cl (X.drew.alloc (.cells #[.int .u8 (yb : Nat), .bool yf] 26)) X.heap.size 26 [.int .u8 (yb : Nat), .bool yf] := Cl.new X.drew 26 [.int .u8 (yb : Nat), .bool yf]
                have := k9.cell jj hjj
                have e : Addr.add ⟨X.heap.size, 0, none⟩ jj = ⟨X.heap.size, jj, none⟩ := by
                  by_cases h0 : jj = 0
                  · subst h0; simp [Addr.add]
                  · simp [Addr.add, h0]
                rw [e]; exact this
              have HG : Hid (∀ g9 c9 w9, w9.ownsRow V.heap.size 26 2 (.slice (some ⟨g9, 0, none⟩) (([] : List (Nat × Bool)).length + 1) c9) (([] : List (Nat × Bool)).length + 1) (lcs [] ++ [.int .u8 (yb : Nat), .bool yf]) → (X.drew.alloc (.cells #[.int .u8 (yb : Nat), .bool yf] 26)).grownBy w9 (Value.slice mo ([] : List (Nat × Bool)).length mc).ownBlock → ((Value.slice mo ([] : List (Nat × Bool)).length mc).ownBlock = some g9 ∨ g9 = X.heap.size + 1) → (w9.cell? ⟨go, (allY (ptL t) j).length * 2 + 1, none⟩ = some (.slice mo ([] : List (Nat × Bool)).length mc) ∧ w9.frozen? ⟨go, (allY (ptL t) j).length * 2 + 1, none⟩ = false) ∧ ∃ (j' : Nat) (M : Nat → Value) (ob : Bool), j' ≤ (pt 3 t).length ∧ (Value.int .i64 ((j : Int) + 1)) = .int .i64 (j' : Nat) ∧ Value.bool true = .bool ob ∧ Hid (ob = decide (curY (ptL t) j' ≠ [])) ∧ Below V.heap.size V (w9.setCell ⟨go, (allY (ptL t) j).length * 2 + 1, none⟩ (.slice (some ⟨g9, 0, none⟩) (([] : List (Nat × Bool)).length + 1) c9)) ∧ RW V.heap.size (allY (ptL t) j') (w9.setCell ⟨go, (allY (ptL t) j).length * 2 + 1, none⟩ (.slice (some ⟨g9, 0, none⟩) (([] : List (Nat × Bool)).length + 1) c9)) (.slice (some ⟨go, 0, none⟩) ((allY (ptL t) j).length + 1) oc) M) := by
                intro g9 c9 w9 a1 a2 a3
                have hbA : Below X.heap.size X (X.drew.alloc (.cells #[.int .u8 (yb : Nat), .bool yf] 26)) := (Below.refl _ X).drew.alloc (by simp) _
                obtain ⟨hg, hgb⟩ := RW.grow (x := (yb, yf)) hW hbA a1 (by rw [hm]; exact a2) (by rw [hm]; simpa using a3)
                refine ⟨⟨?_, ?_⟩, j + 1, _, true, by omega, by congr 1, rfl, ?_, ?_, by rw [allY_first hp0 hc]; exact hg⟩
                · rw [World.cell?_of_block (w := X) hgb]; exact dM
                · rw [World.frozen?_of_block (w := X) hgb]; exact hfr _
                · show true = _
                  rw [curY_some hp0]
                  simp
                · have hx1 : Below V.heap.size V (X.drew.alloc (.cells #[.int .u8 (yb : Nat), .bool yf] 26)) := hbX.trans (hbA.mono hbX.size)
                  have hmB := ownsRow_own hel
                  have hx2 : Below V.heap.size V w9 := ⟨a2.os.trans hx1.os, a2.tape.trans hx1.tape, a2.output.trans hx1.output, Nat.le_trans hx1.size a2.size, fun k hk => (a2.block k (Nat.lt_of_lt_of_le hk hx1.size) (fun e => by have := hmB k e.symm; omega)).trans (hx1.block k hk)⟩
                  exact hx2.setCell (p := ⟨go, (allY (ptL t) j).length * 2 + 1, none⟩) (ownsRow_own hrowW go (by simp [Value.ownBlock])) _
              have hXs : V.heap.size ≤ X.heap.size := hbX.size
              have hRl : (((allY (ptL t) j).length : Nat) : Int) < ((allY (ptL t) j).length : Int) + 1 := by omega
              have hll : ([] : List (Nat × Bool)).length ≤ 2048 := by
                simp
              clear hel hrowW hW kl kl' hcl hfr hgol hm hp0 hu hl hall hc
              generalize lcs [] = lc at *
              generalize ([] : List (Nat × Bool)).length = ll at *
              generalize (allY (ptL t) j).length = rl at *
              go_region_law (refine step_append_lies _ (by rfl) _ _ 34 (by rfl) V.heap.size 26 i0 _ 2 2 Tryd.underlying34 hi hz0 hz1 hz2 (by rfl) (by decide) (.slice mo ll mc) ll lc (by rfl) HO.out ⟨X.heap.size, 0, none⟩ 1 1 [.int .u8 (yb : Nat), .bool yf] (by rfl) (by rfl) HN.out (by simp [Value.oneCell']) (by decide) (by unfold maxLen; omega) (by omega) (by simp; omega) _ rfl ?_; intro g9 c9 w9 hown hgr hat hlt; obtain ⟨⟨f1, f2⟩, hfin⟩ := HG.out g9 c9 w9 hown hgr (by simpa using hat); have HF : Hid _ := hfin; clear hown hgr hat hlt hfin)
              all_goals go_wp2
              all_goals go_roundw
              all_goals first | exact HF.out | (simp [intOf]; omega)
            · have hobt : ob = true := by rw [hob.out]; simp [hc]
              subst hobt
              obtain ⟨y1, y2⟩ := allY_next hp0 hc
              rw [y1] at hRW2 hall
              obtain ⟨oa, oc, eu⟩ := ownsRow_slice hRW2.row
              have hrl := hRW2.row
              rw [eu] at hrl hRW2
              rw [show (stY (ptL t) j ++ [(j - (curY (ptL t) j).length, curY (ptL t) j)]).length = (stY (ptL t) j).length + 1 from by simp] at hRW2 hrl eu
              obtain ⟨go, rfl, _⟩ := row_cell hrl (by omega)
              subst eu
              rw [List.length_append, List.length_singleton] at hall
              have HB6 : Hid (∀ w5 : World, Below wc.heap.size wc w5 → RW V.heap.size (stY (ptL t) j ++ [(j - (curY (ptL t) j).length, curY (ptL t) j)]) (w5.alloc (.cells #[.int .u8 (yb : Nat), .bool yf] 26)) (.slice (some ⟨go, 0, none⟩) ((stY (ptL t) j).length + 1) oc) M ∧ Below V.heap.size V (w5.alloc (.cells #[.int .u8 (yb : Nat), .bool yf] 26))) := fun w5 h5 => ⟨hRW2.below (h5.alloc h5.size _), (hbr2.trans (h5.mono hbr2.size)).alloc (Nat.le_trans hbr2.size h5.size) _⟩
              clear hRW2 hrl hbr2
              have hRl0 : (stY (ptL t) j).length + 1 ≤ 2048 := by omega
              go_upto_region 16 with (go_at_call 9; refine (HL.out _).mono ?_; rintro e w5 ⟨rfl, hb5⟩; have f0 := ((kN.below hb5).alloc (.cells #[.int .u8 (yb : Nat), .bool yf] 26)).cell 0 rfl)
              obtain ⟨hW, hbX⟩ := HB6.out w5 hb5
              have kl := Cl.new w5 26 [.int .u8 (yb : Nat), .bool yf]
              clear HB6 hb5 HL
              obtain ⟨bl, hbl⟩ : ∃ bl, bl = w5.heap.size := ⟨_, rfl⟩
              rw [← hbl] at kl ⊢
              clear hbl
              generalize w5.alloc (.cells #[.int .u8 (yb : Nat), .bool yf] 26) = X at *
              have kl' : Cl X.drew bl 26 [.int .u8 (yb : Nat), .bool yf] := kl
              have l0 := kl'.cell 0 rfl
              have l1 := kl'.cell 1 rfl
              have hel := hW.els (stY (ptL t) j).length (j - (curY (ptL t) j).length, curY (ptL t) j) (by simp)
              obtain ⟨mo, mc, hm⟩ := ownsRow_slice hel
              rw [hm] at hel
              dsimp only at hel hm
              have hrowW := hW.row
              rw [show ((stY (ptL t) j) ++ [(j - (curY (ptL t) j).length, curY (ptL t) j)]).length = (stY (ptL t) j).length + 1 from by simp] at hrowW
              obtain ⟨g0, e0, hgol, _, hcl, hfr⟩ := row_cell hrowW (by omega)
              obtain rfl : go = g0 := by simpa using e0
              have dM : X.drew.cell? ⟨go, (stY (ptL t) j).length * 2 + 1, none⟩ = some (.slice mo (curY (ptL t) j).length mc) := by
                have := hcl _ _ (rcF_get _ M ((stY (ptL t) j).length + 1) (stY (ptL t) j).length (by omega)).2
                rw [hm] at this
                exact this
              have hgoX : go < X.heap.size := hgol
              have dM2 : (X.alloc (.cells #[.int .u8 (yb : Nat), .bool yf] 26)).cell? ⟨go, (stY (ptL t) j).length * 2 + 1, none⟩ = some (.slice mo (curY (ptL t) j).length mc) := by
                rw [(below1 X _).cell (p := ⟨go, (stY (ptL t) j).length * 2 + 1, none⟩) hgol]
                exact dM
              have HO : Hid ((X.drew.alloc (.cells #[.int .u8 (yb : Nat), .bool yf] 26)).ownsRow V.heap.size 26 2 (.slice mo (curY (ptL t) j).length mc) (curY (ptL t) j).length (lcs (curY (ptL t) j))) := ownsRow_below hel ((Below.refl _ X).drew.alloc (by simp) _)
              have HN : Hid (∀ jj z, [Value.int .u8 (yb : Nat), .bool yf][jj]? = some z → (X.drew.alloc (.cells #[.int .u8 (yb : Nat), .bool yf] 26)).cell? (Addr.add ⟨X.heap.size, 0, none⟩ jj) = some z) := fun jj z hjj => by
                have k9 : Cl (X.drew.alloc (.cells #[.int .u8 (yb : Nat), .bool yf] 26)) X.heap.size 26 [.int .u8 (yb : Nat), .bool yf] := Cl.new X.drew 26 [.int .u8 (yb : Nat), .bool yf]
                have := k9.cell jj hjj
                have e : Addr.add ⟨X.heap.size, 0, none⟩ jj = ⟨X.heap.size, jj, none⟩ := by
                  by_cases h0 : jj = 0
                  · subst h0; simp [Addr.add]
                  · simp [Addr.add, h0]
                rw [e]; exact this
              have HG : Hid (∀ g9 c9 w9, w9.ownsRow V.heap.size 26 2 (.slice (some ⟨g9, 0, none⟩) ((curY (ptL t) j).length + 1) c9) ((curY (ptL t) j).length + 1) (lcs (curY (ptL t) j) ++ [.int .u8 (yb : Nat), .bool yf]) → (X.drew.alloc (.cells #[.int .u8 (yb : Nat), .bool yf] 26)).grownBy w9 (Value.slice mo (curY (ptL t) j).length mc).ownBlock → ((Value.slice mo (curY (ptL t) j).length mc).ownBlock = some g9 ∨ g9 = X.heap.size + 1) → (w9.cell? ⟨go, (stY (ptL t) j).length * 2 + 1, none⟩ = some (.slice mo (curY (ptL t) j).length mc) ∧ w9.frozen? ⟨go, (stY (ptL t) j).length * 2 + 1, none⟩ = false) ∧ ∃ (j' : Nat) (M : Nat → Value) (ob : Bool), j' ≤ (pt 3 t).length ∧ (Value.int .i64 ((j : Int) + 1)) = .int .i64 (j' : Nat) ∧ Value.bool true = .bool ob ∧ Hid (ob = decide (curY (ptL t) j' ≠ [])) ∧ Below V.heap.size V (w9.setCell ⟨go, (stY (ptL t) j).length * 2 + 1, none⟩ (.slice (some ⟨g9, 0, none⟩) ((curY (ptL t) j).length + 1) c9)) ∧ RW V.heap.size (allY (ptL t) j') (w9.setCell ⟨go, (stY (ptL t) j).length * 2 + 1, none⟩ (.slice (some ⟨g9, 0, none⟩) ((curY (ptL t) j).length + 1) c9)) (.slice (some ⟨go, 0, none⟩) ((stY (ptL t) j).length + 1) oc) M) := by
                intro g9 c9 w9 a1 a2 a3
                have hbA : Below X.heap.size X (X.drew.alloc (.cells #[.int .u8 (yb : Nat), .bool yf] 26)) := (Below.refl _ X).drew.alloc (by simp) _
                obtain ⟨hg, hgb⟩ := RW.grow (x := (yb, yf)) hW hbA a1 (by rw [hm]; exact a2) (by rw [hm]; simpa using a3)
                refine ⟨⟨?_, ?_⟩, j + 1, _, true, by omega, by congr 1, rfl, ?_, ?_, by rw [y2]; exact hg⟩
                · rw [World.cell?_of_block (w := X) hgb]; exact dM
                · rw [World.frozen?_of_block (w := X) hgb]; exact hfr _
                · show true = _
                  rw [curY_some hp0]
                  simp
                · have hx1 : Below V.heap.size V (X.drew.alloc (.cells #[.int .u8 (yb : Nat), .bool yf] 26)) := hbX.trans (hbA.mono hbX.size)
                  have hmB := ownsRow_own hel
                  have hx2 : Below V.heap.size V w9 := ⟨a2.os.trans hx1.os, a2.tape.trans hx1.tape, a2.output.trans hx1.output, Nat.le_trans hx1.size a2.size, fun k hk => (a2.block k (Nat.lt_of_lt_of_le hk hx1.size) (fun e => by have := hmB k e.symm; omega)).trans (hx1.block k hk)⟩
                  exact hx2.setCell (p := ⟨go, (stY (ptL t) j).length * 2 + 1, none⟩) (ownsRow_own hrowW go (by simp [Value.ownBlock])) _
              have hXs : V.heap.size ≤ X.heap.size := hbX.size
              have hRl : (((stY (ptL t) j).length : Nat) : Int) < ((stY (ptL t) j).length : Int) + 1 := by omega
              have hll : (curY (ptL t) j).length ≤ 2048 := by
                have := curY_len (ptL t) j
                omega
              clear hel hrowW hW kl kl' hcl hfr hgol hm hp0 hu hl hall hc
              generalize lcs (curY (ptL t) j) = lc at *
              generalize (curY (ptL t) j).length = ll at *
              generalize (stY (ptL t) j).length = rl at *
              go_region_law (refine step_append_lies _ (by rfl) _ _ 34 (by rfl) V.heap.size 26 i0 _ 2 2 Tryd.underlying34 hi hz0 hz1 hz2 (by rfl) (by decide) (.slice mo ll mc) ll lc (by rfl) HO.out ⟨X.heap.size, 0, none⟩ 1 1 [.int .u8 (yb : Nat), .bool yf] (by rfl) (by rfl) HN.out (by simp [Value.oneCell']) (by decide) (by unfold maxLen; omega) (by omega) (by simp; omega) _ rfl ?_; intro g9 c9 w9 hown hgr hat hlt; obtain ⟨⟨f1, f2⟩, hfin⟩ := HG.out g9 c9 w9 hown hgr (by simpa using hat); have HF : Hid _ := hfin; clear hown hgr hat hlt hfin)
              all_goals go_wp2
              all_goals go_roundw
              all_goals first | exact HF.out | (simp [intOf]; omega)
      · obtain rfl : j = (pt 3 t).length := by omega
        have HR : Hid (RetRR w (runsY (ptL t) (pt 3 t).length) (.returned u4) wr) := ⟨u4, M, rfl, ⟨ownsRow_base hRW.row hBV.size, fun k r hr => ownsRow_base (hRW.els k r hr) hBV.size, hRW.dif⟩, hBV.trans (hbr.mono hBV.size)⟩
        clear hRW R0 hrow htrs hwp
        go_wp2
        go_ret
        exact HR.out
end Go.Proofs.YthbmfnibgjlkhaaDoor
