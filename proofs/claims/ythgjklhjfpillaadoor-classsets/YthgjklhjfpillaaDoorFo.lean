/- isLetter, Fold: the walks. -/
import Derived.Test.YthgjklhjfpillaaDoorTx
namespace Go.Proofs.YthgjklhjfpillaaDoor
open Go.RowKit Go.Shelf
attribute [local go_sem] Oper.semAt_some
/-- A letter. -/
def ltr (b : Nat) : Bool := decide (97 ≤ b ||| 32) && decide (b ||| 32 ≤ 122)
set_option maxHeartbeats 400000 in
theorem isLetter_any (b : Nat) (w : World) (hb : b < 256) : Calls Tryd.prog 52 #[.int .u8 (b : Nat)] w fun e w' => e = .returned (.bool (ltr b)) ∧ w' = w := by
  have o : bits BinOp.or IntKind.u8 (b : Int) 32 = ((b ||| 32 : Nat) : Int) := u8_or_nat b 32 hb (by decide)
  unfold ltr
  generalize b ||| 32 = z at *
  by_cases h1 : 97 ≤ z
  · have g1 : (97 : Int) ≤ (z : Int) := by omega
    have e : decide ((z : Int) ≤ 122) = decide (z ≤ 122) := by rw [decide_eq_decide]; omega
    rw [decide_eq_true h1, Bool.true_and]
    go_enter Tryd.func52, Tryd.ntmps52
    go_wp2
    go_ret
    exact ⟨rfl, rfl⟩
  · have g1 : ¬ (97 : Int) ≤ (z : Int) := by omega
    rw [decide_eq_false h1, Bool.false_and]
    go_enter Tryd.func52, Tryd.ntmps52
    go_wp2
    go_ret
    exact ⟨rfl, rfl⟩
/-- P, and of each letter among some bytes the one of the other case. -/
def foldN (P : Nat → Bool) (l : List Nat) : Nat → Bool := fun y => P y || l.any fun b => ltr b && (b ^^^ 32 == y)
theorem foldN_nil (P : Nat → Bool) : foldN P [] = P := by funext y; simp [foldN]
theorem foldN_yes {P : Nat → Bool} {l : List Nat} {b : Nat} (h : ltr b = true) : foldN P (l ++ [b]) = ins (foldN P l) (b ^^^ 32) := by
  funext y
  unfold foldN ins
  rw [List.any_append]
  simp only [List.any_cons, List.any_nil, Bool.or_false, h, Bool.true_and]
  rw [← Bool.or_assoc, show (b ^^^ 32 == y) = (y == b ^^^ 32) from by rw [Bool.eq_iff_iff]; simp; exact eq_comm]
theorem foldN_no {P : Nat → Bool} {l : List Nat} {b : Nat} (h : ltr b = false) : foldN P (l ++ [b]) = foldN P l := by
  funext y
  unfold foldN
  rw [List.any_append]
  simp [h]
abbrev Bt : Type := { x : Nat // x < 256 }
theorem all_seq {P : Nat → Bool} {a b c d : Nat} {nb bc l : Nat} {w4 W : World} {J Jx : List Bt → World → Prop} (h4 : C4 P a b c d) (hx : Bx w4 bc (.int .u64 (a : Nat)) (.int .u64 (b : Nat)) (.int .u64 (c : Nat)) (.int .u64 (d : Nat))) (hne : bc ≠ nb) (hW : Below w4.heap.size w4 W) (hA : AbidesFrom W.heap.size J)
    (hY : ∀ (pre : List Bt) (x : Bt) W1, J pre W1 → pre.length < 256 → YieldAt Fence.wide (5 - 1 - 1) Tryd.prog l #[.int .u8 (x.1 : Nat)] W1 fun e W' =>
      (e = .returned (.bool true) ∧ J (pre ++ [x]) W' ∧ KeepC nb W1 W') ∨ (e = .returned (.bool false) ∧ Jx (pre ++ [x]) W')) (h0 : J [] W) :
    CallsIn Fence.wide (5 - 1) Tryd.prog 53 (#[.func (.yield l) #[] #[]] ++ #[.pointer (some ⟨bc, 0, none⟩)]) W fun e W' => (∃ v, e = .returned v) ∧ ((∃ ys : List Bt, ys.map (·.1) = come P 256 ∧ J ys W') ∨ (∃ pre, True ∧ Jx pre W')) := by
  have := allIt_in 4 l bc W.heap.size h4 (KeepC nb) (fun pre W => ∃ p : List Bt, p.map (·.1) = pre ∧ J p W) (fun pre W => ∃ p : List Bt, p.map (·.1) = pre ∧ Jx p W) (by decide)
    (fun s X Y row ⟨p, hp, hj⟩ hg hr => ⟨p, hp, hA p X Y row hj hg hr⟩) (fun X Y hk hb => bx_keep hk hb hne) (fun pre x X hj hlen h1 => by
      obtain ⟨p, hp, hj⟩ := hj
      obtain ⟨fn, tmps, assign, body, hy, hR⟩ := hY p ⟨x, h1⟩ X hj (by rw [← hp] at hlen; simpa using hlen)
      refine ⟨fn, tmps, assign, body, hy, hR.mono ?_⟩
      rintro e X' (⟨he, hj', hk⟩ | ⟨he, hj'⟩)
      · exact .inl ⟨he, ⟨_, by simp [hp], hj'⟩, hk⟩
      · exact .inr ⟨he, ⟨_, by simp [hp], hj'⟩⟩) W (hx.below hW) ⟨[], rfl, h0⟩
  refine this.mono ?_
  rintro e X ⟨hv, ⟨ys, hys, p, hp, hj⟩ | ⟨pre, _, p, hp, hj⟩⟩
  · exact ⟨hv, .inl ⟨p, by rw [hp, hys], hj⟩⟩
  · exact ⟨hv, .inr ⟨p, trivial, hj⟩⟩
theorem KeepC.put4 {b : Nat} {W W' : World} (h : KeepC b W W') (p q r s : Value) : KeepC b W (put4 W' b p q r s) := fun k cs t fz hk hn ht => by
  have := h k cs t fz hk hn ht
  rw [Below.heap_setCell _ _ _ _ hn, Below.heap_setCell _ _ _ _ hn, Below.heap_setCell _ _ _ _ hn, Below.heap_setCell _ _ _ _ hn]
  exact this
theorem grown_put4 (W : World) (b : Nat) (p q r s : Value) {k : Nat} {o : Obj} (h : W.heap[k]? = some o) (hb : k ≠ b) : (put4 W b p q r s).heap[k]? = some o := by
  rw [Below.heap_setCell _ _ _ _ hb, Below.heap_setCell _ _ _ _ hb, Below.heap_setCell _ _ _ _ hb, Below.heap_setCell _ _ _ _ hb]
  exact h
/-- Fold on its way: what is folded in block n + 2, the result's block n + 1. -/
structure Fw (w : World) (Q : Nat → Bool) (W : World) : Prop where
  ex : ∃ p q r s, C4 Q p q r s ∧ Bx W (w.heap.size + 2) (.int .u64 (p : Nat)) (.int .u64 (q : Nat)) (.int .u64 (r : Nat)) (.int .u64 (s : Nat))
  res : ∃ x y z t, Bx W (w.heap.size + 1) x y z t
theorem bx_grown {W W' : World} {k : Nat} {x y z t : Value} {row : Option Nat} (h : Bx W k x y z t) (hg : W.grownBy W' row) (hr : ∀ r, row = some r → ∃ o : Obj, W.heap[r]? = some o ∧ o.isCells = false) : Bx W' k x y z t := by
  unfold Bx
  rw [hg.block k h.lt (fun e => ?_)]
  · exact h
  · obtain ⟨o, ho, hc⟩ := hr k e.symm
    rw [show W.heap[k]? = _ from h] at ho; cases ho; cases hc
theorem fw_own (w : World) (P : Nat → Bool) : Go.Own (fun (l : List Bt) W => Fw w (foldN P (l.map (·.1))) W) := fun s X Y row h hg hr => by
  obtain ⟨⟨p, q, r, s, h4, hx⟩, x, y, z, t, hy⟩ := h
  exact ⟨⟨p, q, r, s, h4, bx_grown hx hg hr⟩, x, y, z, t, bx_grown hy hg hr⟩
theorem Fw.below {w W W' : World} {Q : Nat → Bool} (h : Fw w Q W) (hb : Below W.heap.size W W') : Fw w Q W' := by
  obtain ⟨⟨p, q, r, s, h4, hx⟩, x, y, z, t, hy⟩ := h
  exact ⟨⟨p, q, r, s, h4, hx.below hb⟩, x, y, z, t, hy.below hb⟩
theorem Fw.put {w W W' : World} {Q R : Nat → Bool} {p q r s : Nat} (h : Fw w Q W) (hb : Below W.heap.size W W') (h4 : C4 R p q r s) : Fw w R (Go.Proofs.YthgjklhjfpillaaDoor.put4 W' (w.heap.size + 2) (.int .u64 (p : Nat)) (.int .u64 (q : Nat)) (.int .u64 (r : Nat)) (.int .u64 (s : Nat))) := by
  obtain ⟨⟨_, _, _, _, _, hx⟩, x, y, z, t, hy⟩ := h
  exact ⟨⟨p, q, r, s, h4, (hx.below hb).set _ _ _ _⟩, x, y, z, t, (hy.below hb).others (by omega) _ _ _ _⟩
set_option maxRecDepth 100000 in
set_option maxHeartbeats 4000000 in
theorem fold_c {P : Nat → Bool} {a b c d : Nat} (h4 : C4 P a b c d) (w : World) : Calls Tryd.prog 33 #[.agg #[.int .u64 (a : Nat), .int .u64 (b : Nat), .int .u64 (c : Nat), .int .u64 (d : Nat)]] w (RetC w (foldN P (come P 256))) := by
  have hB0 : Below w.heap.size w (((w.alloc (.cells #[.int .u64 (a : Nat), .int .u64 (b : Nat), .int .u64 (c : Nat), .int .u64 (d : Nat)] 26)).alloc (.cells #[.int .u64 0, .int .u64 0, .int .u64 0, .int .u64 0] 26)).alloc (.cells #[.int .u64 (a : Nat), .int .u64 (b : Nat), .int .u64 (c : Nat), .int .u64 (d : Nat)] 26)) := below3 _ _ _ _
  have hF0 : Fw w P (((w.alloc (.cells #[.int .u64 (a : Nat), .int .u64 (b : Nat), .int .u64 (c : Nat), .int .u64 (d : Nat)] 26)).alloc (.cells #[.int .u64 0, .int .u64 0, .int .u64 0, .int .u64 0] 26)).alloc (.cells #[.int .u64 (a : Nat), .int .u64 (b : Nat), .int .u64 (c : Nat), .int .u64 (d : Nat)] 26)) := by
    refine ⟨⟨a, b, c, d, h4, ?_⟩, .int .u64 0, .int .u64 0, .int .u64 0, .int .u64 0, Bx.alloc ?_ _⟩
    · have := Bx.new ((w.alloc (.cells #[.int .u64 (a : Nat), .int .u64 (b : Nat), .int .u64 (c : Nat), .int .u64 (d : Nat)] 26)).alloc (.cells #[.int .u64 0, .int .u64 0, .int .u64 0, .int .u64 0] 26)) (.int .u64 (a : Nat)) (.int .u64 (b : Nat)) (.int .u64 (c : Nat)) (.int .u64 (d : Nat))
      simpa using this
    · have := Bx.new (w.alloc (.cells #[.int .u64 (a : Nat), .int .u64 (b : Nat), .int .u64 (c : Nat), .int .u64 (d : Nat)] 26)) (.int .u64 0) (.int .u64 0) (.int .u64 0) (.int .u64 0)
      simpa using this
  refine (callsIn_wide (n := 5)).1 ?_
  refine callsIn_of_wp_marks Tryd.func33 rfl trivial ?_ rfl
  simp only [Tryd.ntmps33, List.size_toArray, List.length_cons, List.length_nil, Nat.reduceAdd, Nat.reduceSub, Array.replicate_succ, Array.replicate_zero, List.push_toArray, List.append_toArray, List.nil_append, List.cons_append]
  have ham := all_mk a b c d (((w.alloc (.cells #[.int .u64 (a : Nat), .int .u64 (b : Nat), .int .u64 (c : Nat), .int .u64 (d : Nat)] 26)).alloc (.cells #[.int .u64 0, .int .u64 0, .int .u64 0, .int .u64 0] 26)).alloc (.cells #[.int .u64 (a : Nat), .int .u64 (b : Nat), .int .u64 (c : Nat), .int .u64 (d : Nat)] 26))
  simp only [World.size_alloc] at ham
  gi_wp2_with (refine ⟨trivial, ?_⟩; gi_at_call 38; refine (callsIn_wide.2 ham).mono ?_; rintro e w4 ⟨rfl, hx4, hb4⟩)
  have hF4 : Fw w (foldN P (([] : List Bt).map (·.1))) w4 := by rw [List.map_nil, foldN_nil]; exact hF0.below (by simpa using hb4)
  have hB4 : Below w.heap.size w w4 := hB0.trans (hb4.mono (by omega))
  have hsz4 : w.heap.size + 3 < w4.heap.size := hx4.lt
  refine wpIn_rangeFunc_ownG (n := 5) rfl (by decide) (gf := 53) (lb := #[.pointer (some ⟨w.heap.size + 3, 0, none⟩)]) rfl trivial (enters_of Tryd.func53 (by kernel_rfl) rfl)
    (w0 := w4) (encs := fun x : Bt => #[Value.int .u8 (x.1 : Nat)]) (Kp := KeepC (w.heap.size + 2)) (S := fun ys => ys.map (·.1) = come P 256) (Sp := fun _ => True) (N := 256)
    (fun l J Jx W hW hA _ hY h0 => all_seq h4 hx4 (by omega) hW hA hY h0)
    KeepC.trans (fun W l o o' _ h ho _ => KeepC.put W l o o' h ho) (Below.refl _ _) (fun _ => rfl)
    (fun pre W => Fw w (foldN P (pre.map (·.1))) W ∧ Below w.heap.size w4 W)
    (fun _ _ _ => False)
    (OwnFrom.and (Own.from (fw_own _ _) _) (ownFrom_below (by omega) (by omega)))
    (fun _ _ _ _ _ hs _ _ => hs)
    ⟨hF4, Below.refl _ _⟩
    (fun x => { tmps := #[.agg #[.int .u64 (a : Nat), .int .u64 (b : Nat), .int .u64 (c : Nat), .int .u64 (d : Nat)], .pointer (some ⟨w.heap.size, 0, none⟩), .pointer (some ⟨w.heap.size + 1, 0, none⟩), .pointer (some ⟨w.heap.size + 2, 0, none⟩), .int .u8 (x.1 : Nat), .agg #[.int .u64 (a : Nat), .int .u64 (b : Nat), .int .u64 (c : Nat), .int .u64 (d : Nat)], .agg #[.int .u64 (a : Nat), .int .u64 (b : Nat), .int .u64 (c : Nat), .int .u64 (d : Nat)], .func (.func 53) #[] #[.pointer (some ⟨w.heap.size + 3, 0, none⟩)], .int .u8 (x.1 : Nat), undef, undef, undef, undef, undef, undef, undef], defers := [] }) ?assign ?body ?done ?stop
  case assign =>
    intro l x W K hK
    gi_wp2
    exact hK
  case body =>
    rintro l pre x W ⟨hF, hBW⟩ hlt
    have hszW := hBW.size
    have hil := isLetter_any x.1 W x.2
    obtain ⟨p, q, r, s, hc4, hx⟩ := hF.ex
    obtain ⟨c0, c1, c2, c3, f0, f1, f2, f3⟩ := hx.cells
    cases hL : ltr x.1 with
    | false =>
      rw [hL] at hil
      have hfo : foldN P ((pre ++ [x]).map (·.1)) = foldN P (pre.map (·.1)) := by rw [List.map_append]; exact foldN_no hL
      gi_wp2_with (refine ⟨trivial, ?_⟩; gi_at_call 52; refine (CallsIn.inRound l (callsIn_wide.2 hil)).mono ?_; rintro e1 w5 ⟨rfl, rfl⟩)
      exact ⟨(KeepsOthers.refl _).from _, (KeepC.below (Below.refl _ _)), by rw [hfo]; exact hF, hBW⟩
    | true =>
      rw [hL] at hil
      have hfo : foldN P ((pre ++ [x]).map (·.1)) = ins (foldN P (pre.map (·.1))) (x.1 ^^^ 32) := by rw [List.map_append]; exact foldN_yes hL
      have hxr : bits BinOp.xor IntKind.u8 (x.1 : Int) 32 = ((x.1 ^^^ 32 : Nat) : Int) := u8_xor_nat x.1 32 x.2 (by decide)
      have hwi := with_c hc4 (x.1 ^^^ 32) W (Nat.xor_lt_two_pow (n := 8) x.2 (by decide))
      rw [← hfo] at hwi
      gi_wp2_with (first | (refine ⟨trivial, ?_⟩; gi_at_call 52; refine (CallsIn.inRound l (callsIn_wide.2 hil)).mono ?_; rintro e1 w5 ⟨rfl, rfl⟩) | (refine ⟨trivial, ?_⟩; gi_at_call 48; refine (CallsIn.inRound l (callsIn_wide.2 hwi)).mono ?_; rintro e1 w5 ⟨⟨p', q', r', s', rfl, hc5⟩, hb5⟩; obtain ⟨g0, g1, g2, g3, e0, e1, e2, e3⟩ := (hx.below hb5).cells; have hF5 := hF.put hb5 hc5))
      exact ⟨((keeps_below hb5).trans ⟨by simp [World.setCell], fun k o hk ho => grown_put4 _ _ _ _ _ _ hk (fun e => by subst e; rw [show w5.heap[w.heap.size + 2]? = _ from hx.below hb5] at hk; cases hk; cases ho)⟩).from _, (KeepC.below hb5).put4 _ _ _ _, hF5, below_put4 (hBW.trans (hb5.mono (by omega))) (by omega) _ _ _ _⟩
  case done =>
    rintro D ys W hD hys ⟨hF, hBW⟩ hK
    obtain ⟨p, q, r, s, hc4, hx⟩ := hF.ex
    obtain ⟨x, y, z, t, hy⟩ := hF.res
    obtain ⟨c0, c1, c2, c3, f0, f1, f2, f3⟩ := hx.cells
    obtain ⟨y0, y1, y2, y3, v0, v1, v2, v3⟩ := hy.cells
    rw [hys] at hc4
    have hszW := hBW.size
    have hK6 := grown_put4 W (w.heap.size + 1) (.int .u64 (p : Nat)) (.int .u64 (q : Nat)) (.int .u64 (r : Nat)) (.int .u64 (s : Nat)) hK (by omega)
    gi_wp2
    refine ⟨by simp, .inl ⟨_, _, rfl, run_takeDeferred hK6, ?_⟩⟩
    have hbp : Below w.heap.size w (Go.Proofs.YthgjklhjfpillaaDoor.put4 W (w.heap.size + 1) (.int .u64 (p : Nat)) (.int .u64 (q : Nat)) (.int .u64 (r : Nat)) (.int .u64 (s : Nat))) := below_put4 (hB4.trans (hBW.mono (by omega))) (by omega) _ _ _ _
    have hby := belowK_b (w := w) (Nat.le_refl w.heap.size) (Go.Proofs.YthgjklhjfpillaaDoor.put4 W (w.heap.size + 1) (.int .u64 (p : Nat)) (.int .u64 (q : Nat)) (.int .u64 (r : Nat)) (.int .u64 (s : Nat))) D _ (.deferred none) (by omega) hK6 rfl rfl
    have hyb : Bx ((Go.Proofs.YthgjklhjfpillaaDoor.put4 W (w.heap.size + 1) (.int .u64 (p : Nat)) (.int .u64 (q : Nat)) (.int .u64 (r : Nat)) (.int .u64 (s : Nat))).putObj D (.deferred none)) (w.heap.size + 1) (.int .u64 (p : Nat)) (.int .u64 (q : Nat)) (.int .u64 (r : Nat)) (.int .u64 (s : Nat)) := by
      unfold Bx
      rw [World.putObj_heap_other (by omega)]
      exact hy.set _ _ _ _
    obtain ⟨z0, z1, z2, z3, _⟩ := hyb.cells
    exact ⟨.agg #[.int .u64 (p : Nat), .int .u64 (q : Nat), .int .u64 (r : Nat), .int .u64 (s : Nat)], by simp [results, Tryd.results33, go_sem, z0, z1, z2, z3], ⟨p, q, r, s, rfl, hc4⟩, hbp.trans hby⟩
  case stop =>
    rintro D c pre W _ _ h _
    exact h.elim
end Go.Proofs.YthgjklhjfpillaaDoor
