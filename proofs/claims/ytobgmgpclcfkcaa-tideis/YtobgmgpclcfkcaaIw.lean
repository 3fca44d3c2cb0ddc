/- TideIs: the walk. -/
import Derived.Test.YtobgmgpclcfkcaaTi
import Derived.Test.YtobgmgpclcfkcaaKg
namespace Go.Proofs.Ytobgmgpclcfkcaa
open Go.RowKit Go.Shelf
/-- A tide's tree is one. -/
theorem treeOf_td {a b c d : Nat} {lo : Int} (h0 : 0 ≤ lo) (h1 : lo ≤ 1000) : T.treeOf (T.nodes (tdT a b c d lo)) 2 = some (tdT a b c d lo) := by
  have e0 : T.scanT (T.nodes (tdT a b c d lo)) 1 = some [.leaf (tdN a b c d)] := by
    rw [T.scanT, T.scanT]
    show T.stepT [] 0 (T.nodes (tdT a b c d lo) 0) = _
    rw [nodes_td0]
    unfold T.stepT
    rw [if_neg (by simp [tdN]), if_neg (by simp [tdN]), if_pos (lf_td a b c d)]
  have hm : T.Tre.mayR lo (-1) = true := by unfold T.Tre.mayR; simp [h0, h1]
  have hn : (⟨5, 0, 0, 0, 0, 0, 0, lo, -1, false⟩ : T.Nd).eq ((T.Tre.rep (.leaf (tdN a b c d)) lo (-1) false).nd ((1 : Nat) : Int)) = true := by
    rw [T.Nd.eq_iff]
    simp [T.Tre.nd]
  unfold T.treeOf
  rw [if_neg (by omega), T.scanT, e0]
  show (match T.stepT [.leaf (tdN a b c d)] 1 (T.nodes (tdT a b c d lo) 1) with | some [t] => some t | _ => none) = _
  rw [nodes_td1]
  have hs : T.stepT [.leaf (tdN a b c d)] 1 ⟨5, 0, 0, 0, 0, 0, 0, lo, -1, false⟩ = some [tdT a b c d lo] := by
    unfold T.stepT
    rw [if_neg (by simp), if_pos rfl]
    show (if (T.Tre.mayR lo (-1) && (⟨5, 0, 0, 0, 0, 0, 0, lo, -1, false⟩ : T.Nd).eq ((T.Tre.rep (.leaf (tdN a b c d)) lo (-1) false).nd ((1 : Nat) : Int))) = true then _ else _) = _
    rw [hm, hn]
    rfl
  rw [hs]
theorem chkE_td {a b c d : Nat} {lo : Int} (h0 : 0 ≤ lo) (h1 : lo ≤ 1000) : T.chkE (T.nodes (tdT a b c d lo)) 2 = 0 := by
  unfold T.chkE
  rw [treeOf_td h0 h1]
  rfl
theorem wfN_td {a b c d : Nat} {lo : Int} {P : Nat → Bool} (hP : C4 P a b c d) : ∀ i, i < 2 → T.wfN (T.nodes (tdT a b c d lo) i) := by
  intro i hi
  obtain rfl | rfl : i = 0 ∨ i = 1 := by omega
  · rw [nodes_td0]
    have := hP.la; have := hP.lb; have := hP.lc; have := hP.ld
    exact ⟨⟨by simp [tdN], by simp [tdN]; omega⟩, ⟨by simp [tdN], by simp [tdN]; omega⟩, ⟨by simp [tdN], by simp [tdN]; omega⟩, ⟨by simp [tdN], by simp [tdN]; omega⟩⟩
  · rw [nodes_td1]
    exact ⟨⟨by simp, by simp⟩, ⟨by simp, by simp⟩, ⟨by simp, by simp⟩, ⟨by simp, by simp⟩⟩
theorem spans_td {a b c d : Nat} {lo : Int} {P : Nat → Bool} (hP : C4 P a b c d) (h0 : 0 ≤ lo) (h1 : lo ≤ 1000) (xo : Option Addr) (xc : Nat) (ao : Option Addr) (n cap : Nat) (f : Nat → Nat) (w : World) (hx : T.RdN w xo 2 (T.nodes (tdT a b c d lo))) (hr : RdB w ao n f) (hn : n ≤ 24) :
    Calls Try.prog 29 #[.agg #[.slice xo 2 xc], .bool false, .slice ao n cap] w (T.RetR w (n + 1) (T.spB (T.mean f n false (tdT a b c d lo)))) :=
  T.spans13_ok xo 2 xc _ ao n cap false f (tdT a b c d lo) w hx (by omega) (wfN_td hP) ⟨hr.small, hr.at_⟩ hn (chkE_td h0 h1) (treeOf_td h0 h1)
/-- What each operation answers. -/
def V4i (a b c d : Nat) (lo : Int) (ao zo : Option Addr) (n l ca lc : Nat) (X : Int) (L : List Int) (BB : Nat) (j : Nat) (g : Nat → Value) (w : World) : Prop :=
  match j with
  | 0 => g 0 = .agg #[.int .u64 (a : Nat), .int .u64 (b : Nat), .int .u64 (c : Nat), .int .u64 (d : Nat), .int .i64 lo]
  | 1 => g 1 = .agg #[.int .i64 (-1)]
  | 2 => g 2 = .slice ao n ca
  | 3 => g 3 = .slice zo l lc
  | 4 => ∃ v : Value, g 4 = .tuple #[.agg #[.int .i64 X], v] ∧ RowL BB w v L
  | 5 => ∃ v : Value, g 5 = .tuple #[.agg #[.int .i64 X], v] ∧ RowL BB w v L
  | 6 => g 6 = .agg #[.int .i64 X]
  | 7 => RowL BB w (g 7) L
  | 8 => ∃ b : Nat, g 8 = .pointer (some ⟨b, 0, none⟩) ∧ Bo BB w b 28 1
  | 10 => RowL BB w (g 10) L
  | _ => True
theorem V4i.keep (a b c d : Nat) (lo : Int) (ao zo : Option Addr) (n l ca lc : Nat) (X : Int) (L : List Int) (BB : Nat) (j : Nat) (g : Nat → Value) (w w' : World) (hv : V4i a b c d lo ao zo n l ca lc X L BB j g w) (h : Gx (fun t => t == 28) (fun _ => false) w w') : V4i a b c d lo ao zo n l ca lc X L BB j g w' := by
  match j, hv with
  | 0, hv =>
    exact hv
  | 1, hv =>
    exact hv
  | 2, hv =>
    exact hv
  | 3, hv =>
    exact hv
  | 4, hv =>
    obtain ⟨v, e, hr⟩ := hv
    exact ⟨v, e, ownsRow_gx hr h rfl rfl⟩
  | 5, hv =>
    obtain ⟨v, e, hr⟩ := hv
    exact ⟨v, e, ownsRow_gx hr h rfl rfl⟩
  | 6, hv =>
    exact hv
  | 7, hv =>
    exact ownsRow_gx hv h rfl rfl
  | 8, hv =>
    obtain ⟨b, e, hb⟩ := hv
    exact ⟨b, e, hb.keep h rfl⟩
  | 9, _ => trivial
  | 10, hv =>
    exact ownsRow_gx hv h rfl rfl
  | _ + 11, _ => trivial
theorem V4i.same (a b c d : Nat) (lo : Int) (ao zo : Option Addr) (n l ca lc : Nat) (X : Int) (L : List Int) (BB : Nat) (j : Nat) (g g' : Nat → Value) (w : World) (h0 : g' j = g j) (hv : V4i a b c d lo ao zo n l ca lc X L BB j g w) : V4i a b c d lo ao zo n l ca lc X L BB j g' w := by
  match j, hv, h0 with
  | 0, hv, h0 => unfold V4i at hv ⊢; rw [h0]; exact hv
  | 1, hv, h0 => unfold V4i at hv ⊢; rw [h0]; exact hv
  | 2, hv, h0 => unfold V4i at hv ⊢; rw [h0]; exact hv
  | 3, hv, h0 => unfold V4i at hv ⊢; rw [h0]; exact hv
  | 4, hv, h0 => unfold V4i at hv ⊢; rw [h0]; exact hv
  | 5, hv, h0 => unfold V4i at hv ⊢; rw [h0]; exact hv
  | 6, hv, h0 => unfold V4i at hv ⊢; rw [h0]; exact hv
  | 7, hv, h0 => unfold V4i at hv ⊢; rw [h0]; exact hv
  | 8, hv, h0 => unfold V4i at hv ⊢; rw [h0]; exact hv
  | 9, _, _ => trivial
  | 10, hv, h0 => unfold V4i at hv ⊢; rw [h0]; exact hv
  | _ + 11, _, _ => trivial
set_option maxRecDepth 100000 in
set_option maxHeartbeats 4000000 in
/-- Of what is no tide. -/
theorem is_no {a b c d : Nat} {lo : Int} (w : World) (ao zo : Option Addr) (n l ca lc : Nat) (h : okT a b c d lo = false) :
    Calls Try.prog 6 #[tdV a b c d lo, .slice ao n ca, .slice zo l lc] w fun e w' => e = .returned (.bool true) ∧ Below w.heap.size w w' := by
  have HT : Hid (∀ W, Calls Try.prog 25 #[tdV a b c d lo] W fun e w' => e = .returned (.tuple #[.agg #[.slice none 0 0], .bool false]) ∧ Below W.heap.size W w') := fun W => rtree_no W h
  have HB : Hid (∀ W, Calls Try.prog 9 #[] W fun e w' => e = .returned (.bool true) ∧ Below W.heap.size W w') := fun W => begun_any W
  have hB := (Below.refl w.heap.size w).alloc (Nat.le_refl _) (tdO a b c d lo)
  have r0 := TdAt.new w a b c d lo
  clear h
  unfold tdO at hB r0
  unfold tdV at *
  go_enter Try.func6, Try.ntmps6
  go_upto_region 1 with fail
  generalize w.alloc (.cells #[.int .u64 (a : Nat), .int .u64 (b : Nat), .int .u64 (c : Nat), .int .u64 (d : Nat), .int .i64 lo] 26) = W0 at *
  obtain ⟨⟨g0, g1, g2, g3, g4⟩, -⟩ := r0.cells
  clear r0
  go_upto_region 2 with (go_at_call 25; refine (HT.out W0).mono ?_; rintro e w1 ⟨rfl, hb1⟩)
  have hb := hB.trans (hb1.mono hB.size)
  have hb2 := hb.alloc hb.size (.cells #[.slice none 0 0] 47)
  clear hB hb1 hb
  generalize w1.alloc (.cells #[.slice none 0 0] 47) = W1 at *
  have hs := hb2.size
  have HB2 := HB
  go_wp2_with (go_at_call 9; first | (refine (HB.out W1).mono ?_; rintro e w3 ⟨rfl, hb3⟩; clear HB) | (refine (HB2.out w3).mono ?_; rintro e w4 ⟨rfl, hb4⟩))
  go_ret
  exact ⟨rfl, (hb2.trans (hb3.mono hs)).trans (hb4.mono (by have := hb3.size; omega))⟩
set_option maxRecDepth 100000 in
set_option maxHeartbeats 4000000 in
/-- Of texts and triggers that the law passes by. -/
theorem is_out {a b c d : Nat} {lo : Int} (w : World) (ao zo : Option Addr) (n l ca lc : Nat) (h : okT a b c d lo = true) (hx : 20 < (n : Int) ∨ 40 < (l : Int)) :
    Calls Try.prog 6 #[tdV a b c d lo, .slice ao n ca, .slice zo l lc] w fun e w' => e = .returned (.bool true) ∧ Below w.heap.size w w' := by
  have HT : Hid (∀ W, Calls Try.prog 25 #[tdV a b c d lo] W (RetTr W (T.nodes (tdT a b c d lo)))) := fun W => rtree_yes W h
  have HB : Hid (∀ W, Calls Try.prog 9 #[] W fun e w' => e = .returned (.bool true) ∧ Below W.heap.size W w') := fun W => begun_any W
  have hB := (Below.refl w.heap.size w).alloc (Nat.le_refl _) (tdO a b c d lo)
  have r0 := TdAt.new w a b c d lo
  clear h
  unfold tdO at hB r0
  unfold tdV at *
  go_enter Try.func6, Try.ntmps6
  go_upto_region 1 with fail
  generalize w.alloc (.cells #[.int .u64 (a : Nat), .int .u64 (b : Nat), .int .u64 (c : Nat), .int .u64 (d : Nat), .int .i64 lo] 26) = W0 at *
  obtain ⟨⟨g0, g1, g2, g3, g4⟩, -⟩ := r0.cells
  clear r0
  go_upto_region 2 with (go_at_call 25; refine (HT.out W0).mono ?_; rintro e w1 ⟨ta, tc, rfl, hr, hb1⟩)
  have hb := hB.trans (hb1.mono hB.size)
  have hb2 := hb.alloc hb.size (.cells #[.slice ta 2 tc] 47)
  clear hB hb1 hb hr
  generalize w1.alloc (.cells #[.slice ta 2 tc] 47) = W1 at *
  have hs := hb2.size
  by_cases hn : 20 < (n : Int)
  · clear hx
    have HB2 := HB
    go_wp2_with (go_at_call 9; first | (refine (HB.out W1).mono ?_; rintro e w3 ⟨rfl, hb3⟩; clear HB) | (refine (HB2.out w3).mono ?_; rintro e w4 ⟨rfl, hb4⟩))
    go_ret
    exact ⟨rfl, (hb2.trans (hb3.mono hs)).trans (hb4.mono (by have := hb3.size; omega))⟩
  · have hl : 40 < (l : Int) := by
      rcases hx with h | h
      · exact absurd h hn
      · exact h
    clear hx
    have HB2 := HB
    go_wp2_with (go_at_call 9; first | (refine (HB.out W1).mono ?_; rintro e w3 ⟨rfl, hb3⟩; clear HB) | (refine (HB2.out w3).mono ?_; rintro e w4 ⟨rfl, hb4⟩))
    go_ret
    exact ⟨rfl, (hb2.trans (hb3.mono hs)).trans (hb4.mono (by have := hb3.size; omega))⟩
/-- What the loop holds on to. -/
structure IwI (w : World) (bs sg N sc : Nat) (p : Nat → Nat → Bool) (lo2 : Option Addr) (L : List Int) (W : World) : Prop where
  box : Cl W bs 54 [.slice (some ⟨sg, 0, none⟩) N sc]
  tab : T.RT W 0 sg N p
  row : RdI W lo2 L.length (fun i => L.getD i 0)
  bel : Below w.heap.size w W
theorem IwI.next {w : World} {bs sg N sc : Nat} {p : Nat → Nat → Bool} {lo2 : Option Addr} {L : List Int} {W W' : World} (h : IwI w bs sg N sc p lo2 L W) (hb : Below W.heap.size W W') : IwI w bs sg N sc p lo2 L W' :=
  ⟨h.box.below hb, h.tab.below hb, h.row.below hb, h.bel.trans (hb.mono h.bel.size)⟩
set_option maxRecDepth 100000 in
set_option maxHeartbeats 8000000 in
/-- Of texts and triggers that it looks over. -/
theorem is_in {a b c d lo : Nat} {P : Nat → Bool} (w : World) (ao zo : Option Addr) (n l ca lc : Nat) (t : Nat → Nat) (z : Nat → Int) (h : okT a b c d (lo : Nat) = true) (hn : ¬ 20 < (n : Int)) (hl : ¬ 40 < (l : Int)) (hP : C4 P a b c d) (hr : RdB w ao n t) (hz : RdI w zo l z) (ht : ∀ i, i < n → t i < 256) :
    Calls Try.prog 6 #[tdV a b c d (lo : Nat), .slice ao n ca, .slice zo l lc] w fun e w' => e = .returned (.bool true) ∧ Below w.heap.size w w' := by
  have hlo := okT_lo h
  have HT : Hid (∀ W, Calls Try.prog 25 #[.agg #[.int .u64 (a : Nat), .int .u64 (b : Nat), .int .u64 (c : Nat), .int .u64 (d : Nat), .int .i64 (lo : Nat)]] W (RetTr W (T.nodes (tdT a b c d (lo : Nat))))) := fun W => rtree_yes W h
  have HB : Hid (∀ W, Calls Try.prog 9 #[] W fun e w' => e = .returned (.bool true) ∧ Below W.heap.size W w') := fun W => begun_any W
  have HR : Hid (∀ W, Below w.heap.size w W → Calls Try.prog 21 #[.agg #[.int .u64 (a : Nat), .int .u64 (b : Nat), .int .u64 (c : Nat), .int .u64 (d : Nat), .int .i64 (lo : Nat)], .agg #[.int .i64 (-1)], .slice ao n ca, .slice zo l lc] W (RetRun W (ageF P lo (among z l) t (-1) n) (plc (fun j => ageF P lo (among z l) t (-1) j == (lo : Int)) (n + 1)))) := by
    intro W hW
    have := run_t (-1) W ao n ca t zo l lc z (fun g w => sound_yes g w h) (fun g w => sound_yes g w h) hP (by omega) (hr.below hW) (by omega) (hz.below hW) (by omega)
    rw [show clS (lo : Nat) (-1) = -1 by unfold clS; split <;> omega] at this
    exact this
  have HS : Hid (∀ W xo xc, Below w.heap.size w W → T.RdN W xo 2 (T.nodes (tdT a b c d (lo : Nat))) → Calls Try.prog 29 #[.agg #[.slice xo 2 xc], .bool false, .slice ao n ca] W (T.RetR W (n + 1) (T.spB (T.mean t n false (tdT a b c d (lo : Nat)))))) := fun W xo xc hW hx => spans_td hP hlo.1 hlo.2 xo xc ao n ca t W hx (hr.below hW) (by omega)
  have HP : Hid (∀ j, j ≤ n → anyZ (askZ (T.spB (T.mean t n false (tdT a b c d (lo : Nat)))) j) z l = among (fun i => (plc (fun j => ageF P lo (among z l) t (-1) j == (lo : Int)) (n + 1)).getD i 0) (plc (fun j => ageF P lo (among z l) t (-1) j == (lo : Int)) (n + 1)).length j) := by
    intro j hj
    rw [among_plc _ _ _ (by omega)]
    exact is_pure hP t n l z ht hj
  have hLn := plc_len (fun j => ageF P lo (among z l) t (-1) j == (lo : Int)) (n + 1)
  generalize plc (fun j => ageF P lo (among z l) t (-1) j == (lo : Int)) (n + 1) = L at *
  generalize ageF P lo (among z l) t (-1) n = X at *
  generalize T.spB (T.mean t n false (tdT a b c d (lo : Nat))) = p at *
  generalize T.nodes (tdT a b c d (lo : Nat)) = F at *
  have HZ := Hid.mk' hz
  clear hP ht h hr hz
  have hB := (Below.refl w.heap.size w).alloc (Nat.le_refl _) (tdO a b c d (lo : Nat))
  have r0 := TdAt.new w a b c d (lo : Nat)
  unfold tdO at hB r0
  unfold tdV
  generalize ((lo : Nat) : Int) = lo at *
  clear hlo
  go_enter Try.func6, Try.ntmps6
  go_upto_region 1 with fail
  generalize w.alloc (.cells #[.int .u64 (a : Nat), .int .u64 (b : Nat), .int .u64 (c : Nat), .int .u64 (d : Nat), .int .i64 lo] 26) = W0 at *
  obtain ⟨⟨g0, g1, g2, g3, g4⟩, -⟩ := r0.cells
  go_upto_region 2 with (go_at_call 25; refine (HT.out W0).mono ?_; rintro e w1 ⟨ta, tc, rfl, hx, hb1⟩)
  have hb := hB.trans (hb1.mono hB.size)
  have hb2 := hb.alloc hb.size (.cells #[.slice ta 2 tc] 47)
  have h21 := ((Below.refl w1.heap.size w1).alloc (Nat.le_refl _) (.cells #[.slice ta 2 tc] 47))
  have R1 := Hid.mk' (r0.below (hb1.trans (h21.mono hb1.size)))
  have T1 := Hid.mk' (Cl.new w1 47 [.slice ta 2 tc])
  have X1 := Hid.mk' (T.OwN.rd (T.ownsRow_below hx h21))
  clear r0 hB hb1 hb hx h21 g0 g1 g2 g3 g4
  generalize w1.alloc (.cells #[.slice ta 2 tc] 47) = W1 at *
  generalize w1.heap.size = px at *
  have hs := hb2.size
  go_upto_region 4 with (go_at_call 9; refine (HB.out W1).mono ?_; rintro e W ⟨rfl, hb3⟩)
  have hbW := hb2.trans (hb3.mono hs)
  have R0 := Hid.mk' (R1.out.below hb3)
  have T0 := Hid.mk' (T1.out.below hb3)
  have X0 := Hid.mk' (X1.out.below hb3)
  clear R1 T1 X1 hb2 hb3 hs
  replace HR : Hid (∀ W1, Below W.heap.size W W1 → Calls Try.prog 21 #[.agg #[.int .u64 (a : Nat), .int .u64 (b : Nat), .int .u64 (c : Nat), .int .u64 (d : Nat), .int .i64 lo], .agg #[.int .i64 (-1)], .slice ao n ca, .slice zo l lc] W1 (RetRun W1 X L)) := Hid.mk' fun W1 h1 => HR.out W1 (hbW.trans (h1.mono hbW.size))
  go_cut [10] (fun v wx => RowL W.heap.size wx v L ∧ Below W.heap.size W wx)
  case first =>
    rename_i JJ KK hJ hK
    refine wp_region_ops [false, false, false, false, false, false, false, false, false, true, true, false, false, false, false, false, false, false, false, false, false, false, false, false, false, false, false, false, false, false, false, false, false, false, false, false, true, true, true, true, true, true, true, true] 62 (fun w' => Below W.heap.size W w') (V4i a b c d lo ao zo n l ca lc X L W.heap.size) (Gx (fun t => t == 28) (fun _ => false)) (by kernel_rfl) rfl (by decide +kernel) (by decide +kernel) (by decide +kernel) ((Below.refl _ _).drew) (V4i.keep a b c d lo ao zo n l ca lc X L W.heap.size) (fun j o ga gb wz _ h0 _ hv => V4i.same a b c d lo ao zo n l ca lc X L W.heap.size j ga gb wz h0 hv) ?step ?done
    case step =>
      intro i o ho u w1 g1 hC hdep
      have hBs := hC.size
      match i, ho with
      | 0, ho =>
        have ho0 := ho
        obtain rfl := Option.some.inj (show some _ = some o from ho)
        clear hdep
        refine op_list ho0 ?_
        clear ho ho0
        simp only [puts, mp, Nat.reduceAdd, Nat.zero_add]
        generalize u 9 = x9 at *
        generalize u 10 = x10 at *
        generalize u 36 = x36 at *
        generalize u 37 = x37 at *
        generalize u 38 = x38 at *
        generalize u 39 = x39 at *
        generalize u 40 = x40 at *
        generalize u 41 = x41 at *
        generalize u 42 = x42 at *
        generalize u 43 = x43 at *
        obtain ⟨⟨c0, c1, c2, c3, c4⟩, -⟩ := (R0.out.below hC).cells
        go_wp2
        exact Ans.mk _ rfl (fun g2 hg => hg) hC (Gx.refl _)
      | 1, ho =>
        have ho0 := ho
        obtain rfl := Option.some.inj (show some _ = some o from ho)
        clear hdep
        refine op_list ho0 ?_
        clear ho ho0
        simp only [puts, mp, Nat.reduceAdd, Nat.zero_add]
        generalize u 9 = x9 at *
        generalize u 10 = x10 at *
        generalize u 36 = x36 at *
        generalize u 37 = x37 at *
        generalize u 38 = x38 at *
        generalize u 39 = x39 at *
        generalize u 40 = x40 at *
        generalize u 41 = x41 at *
        generalize u 42 = x42 at *
        generalize u 43 = x43 at *
        go_wp2_with (go_at_call 14; refine (new_t _).mono ?_; rintro e w2 ⟨rfl, hb⟩)
        exact Ans.mk _ rfl (fun g2 hg => hg) (hC.trans (hb.mono hBs)) (Gx.of_below hb)
      | 2, ho =>
        have ho0 := ho
        obtain rfl := Option.some.inj (show some _ = some o from ho)
        clear hdep
        refine op_list ho0 ?_
        clear ho ho0
        simp only [puts, mp, Nat.reduceAdd, Nat.zero_add]
        generalize u 9 = x9 at *
        generalize u 10 = x10 at *
        generalize u 36 = x36 at *
        generalize u 37 = x37 at *
        generalize u 38 = x38 at *
        generalize u 39 = x39 at *
        generalize u 40 = x40 at *
        generalize u 41 = x41 at *
        generalize u 42 = x42 at *
        generalize u 43 = x43 at *
        go_wp2
        exact Ans.mk _ rfl (fun g2 hg => hg) hC (Gx.refl _)
      | 3, ho =>
        have ho0 := ho
        obtain rfl := Option.some.inj (show some _ = some o from ho)
        clear hdep
        refine op_list ho0 ?_
        clear ho ho0
        simp only [puts, mp, Nat.reduceAdd, Nat.zero_add]
        generalize u 9 = x9 at *
        generalize u 10 = x10 at *
        generalize u 36 = x36 at *
        generalize u 37 = x37 at *
        generalize u 38 = x38 at *
        generalize u 39 = x39 at *
        generalize u 40 = x40 at *
        generalize u 41 = x41 at *
        generalize u 42 = x42 at *
        generalize u 43 = x43 at *
        go_wp2
        exact Ans.mk _ rfl (fun g2 hg => hg) hC (Gx.refl _)
      | 4, ho =>
        have ho0 := ho
        obtain rfl := Option.some.inj (show some _ = some o from ho)
        obtain ⟨h0, s0⟩ := hdep ⟨0, .data⟩ (by simp) rfl
        replace s0 : u 37 = g1 0 := s0 _ 37 rfl rfl
        obtain ⟨h1, s1⟩ := hdep ⟨1, .data⟩ (by simp) rfl
        replace s1 : u 38 = g1 1 := s1 _ 38 rfl rfl
        obtain ⟨h2, s2⟩ := hdep ⟨2, .data⟩ (by simp) rfl
        replace s2 : u 39 = g1 2 := s2 _ 39 rfl rfl
        obtain ⟨h3, s3⟩ := hdep ⟨3, .data⟩ (by simp) rfl
        replace s3 : u 40 = g1 3 := s3 _ 40 rfl rfl
        clear hdep
        refine op_list ho0 ?_
        clear ho ho0
        simp only [puts, mp, Nat.reduceAdd, Nat.zero_add]
        generalize u 9 = x9 at *
        generalize u 10 = x10 at *
        generalize u 36 = x36 at *
        generalize u 37 = x37 at *
        generalize u 38 = x38 at *
        generalize u 39 = x39 at *
        generalize u 40 = x40 at *
        generalize u 41 = x41 at *
        generalize u 42 = x42 at *
        generalize u 43 = x43 at *
        have e0 : g1 0 = _ := h0
        rw [e0] at s0
        subst s0
        have e1 : g1 1 = _ := h1
        rw [e1] at s1
        subst s1
        have e2 : g1 2 = _ := h2
        rw [e2] at s2
        subst s2
        have e3 : g1 3 = _ := h3
        rw [e3] at s3
        subst s3
        go_wp2_with (go_at_call 21; refine (HR.out w1 hC).mono ?_; rintro e w2 ⟨v, rfl, hrow, hb⟩)
        exact Ans.mk _ rfl (fun g2 hg => ⟨v, hg, hrow.mono hBs⟩) (hC.trans (hb.mono hBs)) (Gx.of_below hb)
      | 5, ho =>
        have ho0 := ho
        obtain rfl := Option.some.inj (show some _ = some o from ho)
        obtain ⟨h4, s4⟩ := hdep ⟨4, .data⟩ (by simp) rfl
        replace s4 : u 41 = g1 4 := s4 _ 41 rfl rfl
        clear hdep
        refine op_list ho0 ?_
        clear ho ho0
        simp only [puts, mp, Nat.reduceAdd, Nat.zero_add]
        generalize u 9 = x9 at *
        generalize u 10 = x10 at *
        generalize u 36 = x36 at *
        generalize u 37 = x37 at *
        generalize u 38 = x38 at *
        generalize u 39 = x39 at *
        generalize u 40 = x40 at *
        generalize u 41 = x41 at *
        generalize u 42 = x42 at *
        generalize u 43 = x43 at *
        obtain ⟨v4, e4, k4⟩ := h4
        rw [e4] at s4
        subst s4
        go_wp2
        exact Ans.mk _ rfl (fun g2 hg => ⟨v4, hg, k4⟩) hC (Gx.refl _)
      | 6, ho =>
        have ho0 := ho
        obtain rfl := Option.some.inj (show some _ = some o from ho)
        obtain ⟨h5, s5⟩ := hdep ⟨5, .data⟩ (by simp) rfl
        replace s5 : u 36 = g1 5 := s5 _ 36 rfl rfl
        clear hdep
        refine op_list ho0 ?_
        clear ho ho0
        simp only [puts, mp, Nat.reduceAdd, Nat.zero_add]
        generalize u 9 = x9 at *
        generalize u 10 = x10 at *
        generalize u 36 = x36 at *
        generalize u 37 = x37 at *
        generalize u 38 = x38 at *
        generalize u 39 = x39 at *
        generalize u 40 = x40 at *
        generalize u 41 = x41 at *
        generalize u 42 = x42 at *
        generalize u 43 = x43 at *
        obtain ⟨v5, e5, k5⟩ := h5
        rw [e5] at s5
        subst s5
        go_wp2
        exact Ans.mk _ rfl (fun g2 hg => hg) hC (Gx.refl _)
      | 7, ho =>
        have ho0 := ho
        obtain rfl := Option.some.inj (show some _ = some o from ho)
        obtain ⟨h5, s5⟩ := hdep ⟨5, .data⟩ (by simp) rfl
        replace s5 : u 36 = g1 5 := s5 _ 36 rfl rfl
        clear hdep
        refine op_list ho0 ?_
        clear ho ho0
        simp only [puts, mp, Nat.reduceAdd, Nat.zero_add]
        generalize u 9 = x9 at *
        generalize u 10 = x10 at *
        generalize u 36 = x36 at *
        generalize u 37 = x37 at *
        generalize u 38 = x38 at *
        generalize u 39 = x39 at *
        generalize u 40 = x40 at *
        generalize u 41 = x41 at *
        generalize u 42 = x42 at *
        generalize u 43 = x43 at *
        obtain ⟨v5, e5, k5⟩ := h5
        rw [e5] at s5
        subst s5
        go_wp2
        exact Ans.mk _ rfl (fun g2 hg => (by show RowL W.heap.size w1 (g2 7) L; rw [hg]; exact k5)) hC (Gx.refl _)
      | 8, ho =>
        have ho0 := ho
        obtain rfl := Option.some.inj (show some _ = some o from ho)
        clear hdep
        refine op_list ho0 ?_
        clear ho ho0
        simp only [puts, mp, Nat.reduceAdd, Nat.zero_add]
        generalize u 9 = x9 at *
        generalize u 10 = x10 at *
        generalize u 36 = x36 at *
        generalize u 37 = x37 at *
        generalize u 38 = x38 at *
        generalize u 39 = x39 at *
        generalize u 40 = x40 at *
        generalize u 41 = x41 at *
        generalize u 42 = x42 at *
        generalize u 43 = x43 at *
        go_wp2
        exact Ans.mk _ rfl (fun g2 hg => ⟨w1.heap.size, hg, hBs, #[.int .i64 0], rfl, heap_alloc_new _ _⟩) (hC.alloc hBs _) (Gx.of_below ((Below.refl _ _).alloc (Nat.le_refl _) _))
      | 9, ho =>
        have ho0 := ho
        obtain rfl := Option.some.inj (show some _ = some o from ho)
        obtain ⟨h8, s8⟩ := hdep ⟨8, .data⟩ (by simp) rfl
        replace s8 : u 9 = g1 8 := s8 _ 9 rfl rfl
        obtain ⟨h6, s6⟩ := hdep ⟨6, .data⟩ (by simp) rfl
        replace s6 : u 42 = g1 6 := s6 _ 42 rfl rfl
        clear hdep
        refine op_list ho0 ?_
        clear ho ho0
        simp only [puts, mp, Nat.reduceAdd, Nat.zero_add]
        generalize u 9 = x9 at *
        generalize u 10 = x10 at *
        generalize u 36 = x36 at *
        generalize u 37 = x37 at *
        generalize u 38 = x38 at *
        generalize u 39 = x39 at *
        generalize u 40 = x40 at *
        generalize u 41 = x41 at *
        generalize u 42 = x42 at *
        generalize u 43 = x43 at *
        obtain ⟨b8, e8, k8⟩ := h8
        rw [e8] at s8
        subst s8
        have e6 : g1 6 = _ := h6
        rw [e6] at s6
        subst s6
        obtain ⟨hb8, cs8, hs8, hh8⟩ := k8
        have hc8 : w1.cell? ⟨b8, 0, none⟩ = some (cs8[0]'(by omega)) := by rw [cell_of_row w1 b8 0 cs8 28 (0, 0) hh8]; simp [hs8]
        have hf8 := frozen_of_row w1 b8 0 cs8 28 hh8
        go_wp2
        exact Ans.mk undef rfl (fun g2 hg => trivial) (hC.setCell (p := ⟨b8, 0, none⟩) hb8 _) (Gx.set hh8 rfl)
      | 10, ho =>
        have ho0 := ho
        obtain rfl := Option.some.inj (show some _ = some o from ho)
        obtain ⟨h7, s7⟩ := hdep ⟨7, .data⟩ (by simp) rfl
        replace s7 : u 43 = g1 7 := s7 _ 43 rfl rfl
        clear hdep
        refine op_list ho0 ?_
        clear ho ho0
        simp only [puts, mp, Nat.reduceAdd, Nat.zero_add]
        generalize u 9 = x9 at *
        generalize u 10 = x10 at *
        generalize u 36 = x36 at *
        generalize u 37 = x37 at *
        generalize u 38 = x38 at *
        generalize u 39 = x39 at *
        generalize u 40 = x40 at *
        generalize u 41 = x41 at *
        generalize u 42 = x42 at *
        generalize u 43 = x43 at *
        obtain ⟨v7, e7⟩ : ∃ v, g1 7 = v := ⟨_, rfl⟩
        have k7 : RowL W.heap.size w1 v7 L := by rw [← e7]; exact h7
        rw [e7] at s7
        subst s7
        go_wp2
        exact Ans.mk _ rfl (fun g2 hg => (by show RowL W.heap.size w1 (g2 10) L; rw [hg]; exact k7)) hC (Gx.refl _)
      | _ + 11, ho => cases ho
    case done =>
      intro u w1 g1 hC hu hV
      have h10 := hV 10 _ rfl
      replace h10 : RowL W.heap.size w1 (g1 10) L := h10
      have s10 : u 10 = g1 10 := hu 10 _ 10 rfl rfl
      rw [← s10] at h10
      clear hu hV s10
      simp only [puts, mp, Nat.reduceAdd, Nat.zero_add]
      generalize u 10 = x10 at *
      refine hK _ _ (Met.intro (hJ _ _ ?_))
      (repeat apply Exists.intro)
      exact ⟨⟨h10, hC⟩, rfl⟩
  case rest =>
    obtain ⟨hL, hb⟩ := hcut
    have hL' := RowL.mono hL (Nat.zero_le _)
    obtain ⟨lo2, lc2, rfl⟩ := RowL.slice hL'
    have hrd := Hid.mk' (RowL.rd hL')
    have hbx := hbW.trans (hb.mono hbW.size)
    have T1 := Hid.mk' (T0.out.below hb)
    have X1 := Hid.mk' (X0.out.below hb)
    have c0 := T1.out.cell 0 rfl
    clear HR HB HT R0 T0 X0 hL hL' hb hbW
    go_upto_region 6 with (go_at_call 29; refine (HS.out _ ta tc hbx X1.out).mono ?_; rintro e w5 ⟨sg, sc, rfl, hRT, hb5⟩)
    have h6 := (Below.refl w5.heap.size w5).alloc (Nat.le_refl _) (.cells #[.slice (some ⟨sg, 0, none⟩) (n + 1) sc] 54)
    have hL6 := hb5.trans (h6.mono hb5.size)
    have hI : IwI w w5.heap.size sg (n + 1) sc p lo2 L (w5.alloc (.cells #[.slice (some ⟨sg, 0, none⟩) (n + 1) sc] 54)) :=
      ⟨Cl.new w5 54 [.slice (some ⟨sg, 0, none⟩) (n + 1) sc], (hRT.lower (Nat.zero_le _)).below h6, hrd.out.below hL6, hbx.trans (hL6.mono hbx.size)⟩
    generalize w5.alloc (.cells #[.slice (some ⟨sg, 0, none⟩) (n + 1) sc] 54) = W5 at *
    generalize w5.heap.size = bs at *
    clear hRT hb5 h6 hL6 hrd hbx T1 X1 c0 HS
    have hnw : IntKind.i64.wrap ((n : Int) + 1) = (n : Int) + 1 := wrapi64_in _ (by omega) (by omega)
    have HLn := Hid.mk' hLn
    have HN2 := Hid.mk' hn
    have HL2 := Hid.mk' hl
    clear hLn hn hl
    go_wp2_with fail
    go_loopw [50] (fun i wr => ∃ k : Nat, k ≤ n + 1 ∧ i = .int .i64 k ∧ IwI w bs sg (n + 1) sc p lo2 L wr) (fun i _ => n + 1 - (intOf i).toNat)
    case atStart => exact ⟨0, Nat.zero_le _, rfl, hI⟩
    case round =>
      clear hI
      obtain ⟨k, hk, rfl, hR⟩ := hrel
      by_cases hlt : k < n + 1
      · have hki : (k : Int) < (n : Int) + 1 := by omega
        have ha := (Below.refl wr.heap.size wr).alloc (Nat.le_refl _) (.cells #[.int .i64 (k : Nat)] 3)
        have hR1 := hR.next ha
        have j1 := Cl.new wr 3 [.int .i64 (k : Nat)]
        have HQ : ∀ W x, Below (wr.alloc (.cells #[.int .i64 (k : Nat)] 3)).heap.size (wr.alloc (.cells #[.int .i64 (k : Nat)] 3)) W → Calls Try.prog 31 #[.int .i64 x, .pointer (some ⟨wr.heap.size, 0, none⟩), .pointer (some ⟨bs, 0, none⟩)] W fun e w' => e = .returned (.bool (askZ p k x)) ∧ Below W.heap.size W w' := fun W x hW =>
          ask_any W wr.heap.size bs sg (n + 1) sc 0 p k x hlt ((j1.below hW).cell 0 rfl) ((hR1.box.below hW).cell 0 rfl) (hR1.tab.below hW)
        have HC := containsf_any zo l lc 31 (.pointer (some ⟨wr.heap.size, 0, none⟩)) (.pointer (some ⟨bs, 0, none⟩)) (askZ p k) z (wr.alloc (.cells #[.int .i64 (k : Nat)] 3)) (HZ.out.below (hR1.bel)) (by have := HL2.out; omega) HQ rfl
        rw [HP.out k (by omega)] at HC
        have HK := fun W (h : RdI W lo2 L.length (fun i => L.getD i 0)) => contains_any lo2 L.length lc2 k _ W h (by have := HLn.out; have := HN2.out; omega)
        generalize among (fun i => L.getD i 0) L.length k = V at *
        have R1 := Hid.mk' hR1
        have J1 := Hid.mk' j1
        have hvv : (V != V) = false := by simp
        have ha1 := ha
        clear hR hR1 j1 HQ ha
        go_wp2_with (first
          | (go_at_call 30; refine HC.mono ?_; rintro e w7 ⟨rfl, hb7⟩; have c7 := (J1.out.below hb7).cell 0 rfl; have R7 := R1.out.next hb7; have hRd := Hid.mk' R7.row)
          | (go_at_call 32; refine (HK w7 hRd.out).mono ?_; rintro e w8 ⟨rfl, rfl⟩))
        go_roundw
        case rel => exact ⟨k + 1, by omega, by go_num, R7⟩
        case measure => simp [intOf]; omega
      · have hki : ¬ (k : Int) < (n : Int) + 1 := by omega
        have hbw := hR.bel
        clear hR
        go_wp2
        go_ret
        exact ⟨rfl, hbw⟩
/-- TideIs. -/
theorem is_walk {a b c d : Nat} {lo : Int} {P : Nat → Bool} (w : World) (ao : Option Addr) (n ca : Nat) (t : Nat → Nat) (zo : Option Addr) (l lc : Nat) (z : Nat → Int) (hP : C4 P a b c d) (hr : RdB w ao n t) (hz : RdI w zo l z) :
    Calls Try.prog 6 #[tdV a b c d lo, .slice ao n ca, .slice zo l lc] w fun e w' => e = .returned (.bool true) ∧ Below w.heap.size w w' := by
  cases h : okT a b c d lo with
  | false => exact is_no w ao zo n l ca lc h
  | true =>
    by_cases hn : 20 < (n : Int)
    · exact is_out w ao zo n l ca lc h (.inl hn)
    by_cases hl : 40 < (l : Int)
    · exact is_out w ao zo n l ca lc h (.inr hl)
    obtain ⟨lo, rfl⟩ := Int.eq_ofNat_of_zero_le (okT_lo h).1
    exact is_in w ao zo n l ca lc t z h hn hl hP hr hz hr.small
end Go.Proofs.Ytobgmgpclcfkcaa
