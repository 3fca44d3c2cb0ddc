/- class: All and its iterator, isLetter, Fold: the walks. parse: cased, dot, Leaf: the walks. -/
import Derived.RangeFuncNested
import Derived.RangeFuncBound
import Derived.RangeFuncCalls
import Derived.RangeFuncLeaves
import Derived.RangeFuncBox
import Derived.Shelf.Abstract
import Derived.Shelf.RegionOpen
import Derived.OwnWalkIn
import Derived.TacticsInMore
import Derived.LoopNIn
import Derived.LoopIn
import Derived.Maps.AppendAt
import Derived.Deep.RegionWith
import Derived.Deep.RegionHeld3
import Derived.Deep.DeepCutAuto
import Derived.Test.YtlmmiicibjfcdaaQ01
import Derived.Test.YtlmmiicibjfcdaaQ13
import Derived.Test.YtlmmiicibjfcdaaQ10
import Derived.Test.YtlmmiicibjfcdaaQ07
namespace Go.Proofs.Ytlmmiicibjfcdaa
open Go.RowKit Go.Shelf
attribute [local go_sem] Oper.semAt_some
/-- The numbers below k that P tells, rising. -/
def come (P : Nat → Bool) (k : Nat) : List Nat := (List.range k).filter P
theorem come_yes {P : Nat → Bool} {k : Nat} (h : P k = true) : come P (k + 1) = come P k ++ [k] := by
  unfold come; rw [List.range_succ, List.filter_append]; simp [h]
theorem come_no {P : Nat → Bool} {k : Nat} (h : P k = false) : come P (k + 1) = come P k := by
  unfold come; rw [List.range_succ, List.filter_append]; simp [h]
theorem come_len (P : Nat → Bool) (n : Nat) : (come P n).length ≤ n := by
  unfold come
  exact Nat.le_trans (List.length_filter_le _ _) (by simp)
theorem grown_below {W W' : World} (h : Below W.heap.size W W') : W.grownBy W' none := ⟨h.os, h.tape, h.output, h.size, fun k hk _ => h.block k hk⟩
theorem abides {β : Type} {B : Nat} {J : β → World → Prop} (h : AbidesFrom B J) {s : β} {W W' : World} (hb : Below W.heap.size W W') (hs : J s W) : J s W' :=
  h s W W' none hs (grown_below hb) (fun r e => by cases e)
set_option maxRecDepth 100000 in
set_option maxHeartbeats 2000000 in
/-- The iterator of All. -/
theorem allIt_in {P : Nat → Bool} {a b c d : Nat} (m l bc B : Nat) (h4 : C4 P a b c d) (Kp : World → World → Prop) (J Jx : List Nat → World → Prop) (hm : 1 ≤ m) (hA : AbidesFrom B J)
    (hK : ∀ W W', Kp W W' → Bx W bc (.int .u64 (a : Nat)) (.int .u64 (b : Nat)) (.int .u64 (c : Nat)) (.int .u64 (d : Nat)) → Bx W' bc (.int .u64 (a : Nat)) (.int .u64 (b : Nat)) (.int .u64 (c : Nat)) (.int .u64 (d : Nat)))
    (hY : ∀ pre x W, J pre W → pre.length < 256 → x < 256 → YieldAt Fence.wide (m - 1) Try.prog l #[.int .u8 (x : Nat)] W fun e W' =>
      (e = .returned (.bool true) ∧ J (pre ++ [x]) W' ∧ Kp W W') ∨ (e = .returned (.bool false) ∧ Jx (pre ++ [x]) W'))
    (W : World) (hb : Bx W bc (.int .u64 (a : Nat)) (.int .u64 (b : Nat)) (.int .u64 (c : Nat)) (.int .u64 (d : Nat))) (h0 : J [] W) :
    CallsIn Fence.wide m Try.prog 82 #[.func (.yield l) #[] #[], .pointer (some ⟨bc, 0, none⟩)] W fun e W' => (∃ v, e = .returned v) ∧
      ((∃ ys, ys = come P 256 ∧ J ys W') ∨ (∃ pre, True ∧ Jx pre W')) := by
  refine callsIn_of_wp Try.func82 rfl trivial ?_ rfl
  simp only [Try.ntmps82, List.size_toArray, List.length_cons, List.length_nil, Nat.reduceAdd, Nat.reduceSub, Array.replicate_succ, Array.replicate_zero, List.push_toArray, List.append_toArray, List.nil_append, List.cons_append]
  gi_wp2
  gi_loopw [4] (fun i wr => ∃ k : Nat, k ≤ 256 ∧ i = .int .i64 (k : Nat) ∧ J (come P k) wr ∧ Bx wr bc (.int .u64 (a : Nat)) (.int .u64 (b : Nat)) (.int .u64 (c : Nat)) (.int .u64 (d : Nat))) (fun i _ => 256 - (intOf i).toNat)
  case atStart => exact ⟨0, by omega, rfl, h0, hb⟩
  case round =>
    obtain ⟨k, hk, rfl, hJ, hx⟩ := hrel
    obtain ⟨c0, c1, c2, c3, f0, f1, f2, f3⟩ := hx.cells
    by_cases hlt : k < 256
    · have hki : (k : Int) < 256 := by omega
      have hlen : (come P k).length < 256 := by have := come_len P k; omega
      have hh := has_c h4 k wr hlt
      cases hP : P k with
      | true =>
        rw [hP] at hh
        have hcm := come_yes hP
        gi_wp2_with (refine ⟨trivial, ?_⟩; gi_at_call 83; refine (callsIn_wide.2 hh).mono ?_; rintro e w1 ⟨rfl, hb1⟩; have hJ1 := abides hA hb1 hJ; have hx1 := hx.below hb1; obtain ⟨fn, tmps, assign, body, hy, hR⟩ := hY (come P k) k w1 hJ1 hlen hlt)
        refine hR.mono ?_
        rintro e W3 (⟨rfl, hJ3, hk3⟩ | ⟨rfl, hJx3⟩)
        · have hx3 := hK _ _ hk3 hx1
          gi_wp2
          go_roundw
          case rel => exact ⟨k + 1, by omega, by go_num, by rw [hcm]; exact hJ3, hx3⟩
          case measure => simp [intOf]; omega
        · gi_wp2
          refine bodyPost_ret (results_none rfl _ _ _) rfl ?_
          exact ⟨⟨_, rfl⟩, .inr ⟨_, trivial, hJx3⟩⟩
      | false =>
        rw [hP] at hh
        have hcm := come_no hP
        gi_wp2_with (refine ⟨trivial, ?_⟩; gi_at_call 83; refine (callsIn_wide.2 hh).mono ?_; rintro e w1 ⟨rfl, hb1⟩; have hJ1 := abides hA hb1 hJ; have hx1 := hx.below hb1)
        refine ⟨(fun f h => by cases h), ?_⟩
        gi_wp2
        go_roundw
        case rel => exact ⟨k + 1, by omega, by go_num, by rw [hcm]; exact hJ1, hx1⟩
        case measure => simp [intOf]; omega
    · have hki : ¬ ((k : Int) < 256) := by omega
      have hke : Hid (J (come P 256) wr) := by rw [show 256 = k by omega]; exact hJ
      gi_wp2
      go_end0
      exact ⟨⟨_, rfl⟩, .inl hke.out⟩
theorem mk_func : ∀ (fn : Fn) (first cap : Array Value) (w : World), (Instr.makeFunc fn first cap).run Try.prog w = .ok (.func fn first cap) w := fun _ _ _ _ => rfl
set_option maxHeartbeats 400000 in
theorem all_mk (a b c d : Nat) (w : World) : Calls Try.prog 73 #[.agg #[.int .u64 (a : Nat), .int .u64 (b : Nat), .int .u64 (c : Nat), .int .u64 (d : Nat)]] w fun e w' => e = .returned (.func (.func 82) #[] #[.pointer (some ⟨w.heap.size, 0, none⟩)]) ∧ Bx w' w.heap.size (.int .u64 (a : Nat)) (.int .u64 (b : Nat)) (.int .u64 (c : Nat)) (.int .u64 (d : Nat)) ∧ Below w.heap.size w w' := by
  have hmf := mk_func
  go_enter Try.func73, Try.ntmps73
  go_wp2
  go_ret
  exact ⟨rfl, Bx.new w _ _ _ _, (Below.refl _ _).alloc (Nat.le_refl _) _⟩

/-- All cells but block b's and the rows of bytes are as they were. -/
def KeepC (b : Nat) (W W' : World) : Prop := ∀ k cs t fz, W.heap[k]? = some (.cells cs t fz) → k ≠ b → t ≠ 5 → W'.heap[k]? = some (.cells cs t fz)
theorem KeepC.trans {b : Nat} {A B C : World} (h : KeepC b A B) (k : KeepC b B C) : KeepC b A C := fun i cs t fz hi hn ht => k i cs t fz (h i cs t fz hi hn ht) hn ht
theorem KeepC.put {b : Nat} (W : World) (l : Nat) (o o' : Obj) (h : W.heap[l]? = some o) (ho : o.isCells = false) : KeepC b W (W.putObj l o') := fun k cs t fz hk _ _ => by
  rw [World.putObj_heap_other (fun e => ?_)]
  · exact hk
  · subst e; rw [h] at hk; cases hk; cases ho
theorem KeepC.of {b : Nat} {W W' : World} (h : Lib.OthersKept 5 (some b) W W') : KeepC b W W' := fun k cs t fz hk hn ht => h k _ hk (by simpa using hn) (fun c fz e => by cases e; exact ht rfl)
theorem KeepC.below {b : Nat} {W W' : World} (h : Below W.heap.size W W') : KeepC b W W' := fun k cs t fz hk _ _ => by
  rw [h.block k (Array.getElem?_eq_some_iff.1 hk).1]; exact hk
theorem bx_keep {b k : Nat} {x y z t : Value} {W W' : World} (h : KeepC b W W') (hx : Bx W k x y z t) (hn : k ≠ b) : Bx W' k x y z t := h k _ 40 (0, 0) hx hn (by decide)
theorem keeps_below {W W' : World} (h : Below W.heap.size W W') : KeepsOthers W W' := ⟨h.size, fun k o hk _ => by rw [h.block k (Array.getElem?_eq_some_iff.1 hk).1]; exact hk⟩
attribute [local go_sem] Oper.semAt_some
/-- A letter. -/
def ltr (b : Nat) : Bool := decide (97 ≤ b ||| 32) && decide (b ||| 32 ≤ 122)
set_option maxHeartbeats 400000 in
theorem cisLetter_any (b : Nat) (w : World) (hb : b < 256) : Calls Try.prog 74 #[.int .u8 (b : Nat)] w fun e w' => e = .returned (.bool (ltr b)) ∧ w' = w := by
  have o : bits BinOp.or IntKind.u8 (b : Int) 32 = ((b ||| 32 : Nat) : Int) := u8_or_nat b 32 hb (by decide)
  unfold ltr
  generalize b ||| 32 = z at *
  by_cases h1 : 97 ≤ z
  · have g1 : (97 : Int) ≤ (z : Int) := by omega
    have e : decide ((z : Int) ≤ 122) = decide (z ≤ 122) := by rw [decide_eq_decide]; omega
    rw [decide_eq_true h1, Bool.true_and]
    go_enter Try.func74, Try.ntmps74
    go_wp2
    go_ret
    exact ⟨rfl, rfl⟩
  · have g1 : ¬ (97 : Int) ≤ (z : Int) := by omega
    rw [decide_eq_false h1, Bool.false_and]
    go_enter Try.func74, Try.ntmps74
    go_wp2
    go_ret
    exact ⟨rfl, rfl⟩
/-- P, and of each letter among some bytes the one of the other case. -/
def foldN (P : Nat → Bool) (l : List Nat) : Nat → Bool := fun y => P y || l.any fun b => ltr b && (b ^^^ 32 == y)
theorem foldN_nil (P : Nat → Bool) : foldN P [] = P := by funext y; simp [foldN]
theorem foldN_yes {P : Nat → Bool} {l : List Nat} {b : Nat} (h : ltr b = true) : foldN P (l ++ [b]) = ins (foldN P l) (b ^^^ 32) := by
  funext y
  unfold foldN ins
  rw [List.any_append]
  simp only [List.any_cons, List.any_nil, Bool.or_false, h, Bool.true_and]
  rw [← Bool.or_assoc, show (b ^^^ 32 == y) = (y == b ^^^ 32) from by rw [Bool.eq_iff_iff]; simp; exact eq_comm]
theorem foldN_no {P : Nat → Bool} {l : List Nat} {b : Nat} (h : ltr b = false) : foldN P (l ++ [b]) = foldN P l := by
  funext y
  unfold foldN
  rw [List.any_append]
  simp [h]
abbrev Bt : Type := { x : Nat // x < 256 }
theorem all_seq {P : Nat → Bool} {a b c d : Nat} {nb bc l : Nat} {w4 W : World} {J Jx : List Bt → World → Prop} (h4 : C4 P a b c d) (hx : Bx w4 bc (.int .u64 (a : Nat)) (.int .u64 (b : Nat)) (.int .u64 (c : Nat)) (.int .u64 (d : Nat))) (hne : bc ≠ nb) (hW : Below w4.heap.size w4 W) (hA : AbidesFrom W.heap.size J)
    (hY : ∀ (pre : List Bt) (x : Bt) W1, J pre W1 → pre.length < 256 → YieldAt Fence.wide (5 - 1 - 1) Try.prog l #[.int .u8 (x.1 : Nat)] W1 fun e W' =>
      (e = .returned (.bool true) ∧ J (pre ++ [x]) W' ∧ KeepC nb W1 W') ∨ (e = .returned (.bool false) ∧ Jx (pre ++ [x]) W')) (h0 : J [] W) :
    CallsIn Fence.wide (5 - 1) Try.prog 82 (#[.func (.yield l) #[] #[]] ++ #[.pointer (some ⟨bc, 0, none⟩)]) W fun e W' => (∃ v, e = .returned v) ∧ ((∃ ys : List Bt, ys.map (·.1) = come P 256 ∧ J ys W') ∨ (∃ pre, True ∧ Jx pre W')) := by
  have := allIt_in 4 l bc W.heap.size h4 (KeepC nb) (fun pre W => ∃ p : List Bt, p.map (·.1) = pre ∧ J p W) (fun pre W => ∃ p : List Bt, p.map (·.1) = pre ∧ Jx p W) (by decide)
    (fun s X Y row ⟨p, hp, hj⟩ hg hr => ⟨p, hp, hA p X Y row hj hg hr⟩) (fun X Y hk hb => bx_keep hk hb hne) (fun pre x X hj hlen h1 => by
      obtain ⟨p, hp, hj⟩ := hj
      obtain ⟨fn, tmps, assign, body, hy, hR⟩ := hY p ⟨x, h1⟩ X hj (by rw [← hp] at hlen; simpa using hlen)
      refine ⟨fn, tmps, assign, body, hy, hR.mono ?_⟩
      rintro e X' (⟨he, hj', hk⟩ | ⟨he, hj'⟩)
      · exact .inl ⟨he, ⟨_, by simp [hp], hj'⟩, hk⟩
      · exact .inr ⟨he, ⟨_, by simp [hp], hj'⟩⟩) W (hx.below hW) ⟨[], rfl, h0⟩
  refine this.mono ?_
  rintro e X ⟨hv, ⟨ys, hys, p, hp, hj⟩ | ⟨pre, _, p, hp, hj⟩⟩
  · exact ⟨hv, .inl ⟨p, by rw [hp, hys], hj⟩⟩
  · exact ⟨hv, .inr ⟨p, trivial, hj⟩⟩
theorem KeepC.put4 {b : Nat} {W W' : World} (h : KeepC b W W') (p q r s : Value) : KeepC b W (put4 W' b p q r s) := fun k cs t fz hk hn ht => by
  have := h k cs t fz hk hn ht
  rw [Below.heap_setCell _ _ _ _ hn, Below.heap_setCell _ _ _ _ hn, Below.heap_setCell _ _ _ _ hn, Below.heap_setCell _ _ _ _ hn]
  exact this
theorem grown_put4 (W : World) (b : Nat) (p q r s : Value) {k : Nat} {o : Obj} (h : W.heap[k]? = some o) (hb : k ≠ b) : (put4 W b p q r s).heap[k]? = some o := by
  rw [Below.heap_setCell _ _ _ _ hb, Below.heap_setCell _ _ _ _ hb, Below.heap_setCell _ _ _ _ hb, Below.heap_setCell _ _ _ _ hb]
  exact h
/-- Fold on its way: what is folded in block n + 2, the result's block n + 1. -/
structure Fw (w : World) (Q : Nat → Bool) (W : World) : Prop where
  ex : ∃ p q r s, C4 Q p q r s ∧ Bx W (w.heap.size + 2) (.int .u64 (p : Nat)) (.int .u64 (q : Nat)) (.int .u64 (r : Nat)) (.int .u64 (s : Nat))
  res : ∃ x y z t, Bx W (w.heap.size + 1) x y z t
theorem bx_grown {W W' : World} {k : Nat} {x y z t : Value} {row : Option Nat} (h : Bx W k x y z t) (hg : W.grownBy W' row) (hr : ∀ r, row = some r → ∃ o : Obj, W.heap[r]? = some o ∧ o.isCells = false) : Bx W' k x y z t := by
  unfold Bx
  rw [hg.block k h.lt (fun e => ?_)]
  · exact h
  · obtain ⟨o, ho, hc⟩ := hr k e.symm
    rw [show W.heap[k]? = _ from h] at ho; cases ho; cases hc
theorem fw_own (w : World) (P : Nat → Bool) : Go.Own (fun (l : List Bt) W => Fw w (foldN P (l.map (·.1))) W) := fun s X Y row h hg hr => by
  obtain ⟨⟨p, q, r, s, h4, hx⟩, x, y, z, t, hy⟩ := h
  exact ⟨⟨p, q, r, s, h4, bx_grown hx hg hr⟩, x, y, z, t, bx_grown hy hg hr⟩
theorem Fw.below {w W W' : World} {Q : Nat → Bool} (h : Fw w Q W) (hb : Below W.heap.size W W') : Fw w Q W' := by
  obtain ⟨⟨p, q, r, s, h4, hx⟩, x, y, z, t, hy⟩ := h
  exact ⟨⟨p, q, r, s, h4, hx.below hb⟩, x, y, z, t, hy.below hb⟩
theorem Fw.put {w W W' : World} {Q R : Nat → Bool} {p q r s : Nat} (h : Fw w Q W) (hb : Below W.heap.size W W') (h4 : C4 R p q r s) : Fw w R (Go.Proofs.Ytlmmiicibjfcdaa.put4 W' (w.heap.size + 2) (.int .u64 (p : Nat)) (.int .u64 (q : Nat)) (.int .u64 (r : Nat)) (.int .u64 (s : Nat))) := by
  obtain ⟨⟨_, _, _, _, _, hx⟩, x, y, z, t, hy⟩ := h
  exact ⟨⟨p, q, r, s, h4, (hx.below hb).set _ _ _ _⟩, x, y, z, t, (hy.below hb).others (by omega) _ _ _ _⟩
set_option maxRecDepth 100000 in
set_option maxHeartbeats 4000000 in
theorem fold_c {P : Nat → Bool} {a b c d : Nat} (h4 : C4 P a b c d) (w : World) : Calls Try.prog 54 #[.agg #[.int .u64 (a : Nat), .int .u64 (b : Nat), .int .u64 (c : Nat), .int .u64 (d : Nat)]] w (RetC w (foldN P (come P 256))) := by
  have hB0 : Below w.heap.size w (((w.alloc (.cells #[.int .u64 (a : Nat), .int .u64 (b : Nat), .int .u64 (c : Nat), .int .u64 (d : Nat)] 40)).alloc (.cells #[.int .u64 0, .int .u64 0, .int .u64 0, .int .u64 0] 40)).alloc (.cells #[.int .u64 (a : Nat), .int .u64 (b : Nat), .int .u64 (c : Nat), .int .u64 (d : Nat)] 40)) := below3 _ _ _ _
  have hF0 : Fw w P (((w.alloc (.cells #[.int .u64 (a : Nat), .int .u64 (b : Nat), .int .u64 (c : Nat), .int .u64 (d : Nat)] 40)).alloc (.cells #[.int .u64 0, .int .u64 0, .int .u64 0, .int .u64 0] 40)).alloc (.cells #[.int .u64 (a : Nat), .int .u64 (b : Nat), .int .u64 (c : Nat), .int .u64 (d : Nat)] 40)) := by
    refine ⟨⟨a, b, c, d, h4, ?_⟩, .int .u64 0, .int .u64 0, .int .u64 0, .int .u64 0, Bx.alloc ?_ _⟩
    · have := Bx.new ((w.alloc (.cells #[.int .u64 (a : Nat), .int .u64 (b : Nat), .int .u64 (c : Nat), .int .u64 (d : Nat)] 40)).alloc (.cells #[.int .u64 0, .int .u64 0, .int .u64 0, .int .u64 0] 40)) (.int .u64 (a : Nat)) (.int .u64 (b : Nat)) (.int .u64 (c : Nat)) (.int .u64 (d : Nat))
      simpa using this
    · have := Bx.new (w.alloc (.cells #[.int .u64 (a : Nat), .int .u64 (b : Nat), .int .u64 (c : Nat), .int .u64 (d : Nat)] 40)) (.int .u64 0) (.int .u64 0) (.int .u64 0) (.int .u64 0)
      simpa using this
  refine (callsIn_wide (n := 5)).1 ?_
  refine callsIn_of_wp_marks Try.func54 rfl trivial ?_ rfl
  simp only [Try.ntmps54, List.size_toArray, List.length_cons, List.length_nil, Nat.reduceAdd, Nat.reduceSub, Array.replicate_succ, Array.replicate_zero, List.push_toArray, List.append_toArray, List.nil_append, List.cons_append]
  have ham := all_mk a b c d (((w.alloc (.cells #[.int .u64 (a : Nat), .int .u64 (b : Nat), .int .u64 (c : Nat), .int .u64 (d : Nat)] 40)).alloc (.cells #[.int .u64 0, .int .u64 0, .int .u64 0, .int .u64 0] 40)).alloc (.cells #[.int .u64 (a : Nat), .int .u64 (b : Nat), .int .u64 (c : Nat), .int .u64 (d : Nat)] 40))
  simp only [World.size_alloc] at ham
  gi_wp2_with (refine ⟨trivial, ?_⟩; gi_at_call 73; refine (callsIn_wide.2 ham).mono ?_; rintro e w4 ⟨rfl, hx4, hb4⟩)
  have hF4 : Fw w (foldN P (([] : List Bt).map (·.1))) w4 := by rw [List.map_nil, foldN_nil]; exact hF0.below (by simpa using hb4)
  have hB4 : Below w.heap.size w w4 := hB0.trans (hb4.mono (by omega))
  have hsz4 : w.heap.size + 3 < w4.heap.size := hx4.lt
  refine wpIn_rangeFunc_ownG (n := 5) rfl (by decide) (gf := 82) (lb := #[.pointer (some ⟨w.heap.size + 3, 0, none⟩)]) rfl trivial (enters_of Try.func82 (by kernel_rfl) rfl)
    (w0 := w4) (encs := fun x : Bt => #[Value.int .u8 (x.1 : Nat)]) (Kp := KeepC (w.heap.size + 2)) (S := fun ys => ys.map (·.1) = come P 256) (Sp := fun _ => True) (N := 256)
    (fun l J Jx W hW hA _ hY h0 => all_seq h4 hx4 (by omega) hW hA hY h0)
    KeepC.trans (fun W l o o' _ h ho _ => KeepC.put W l o o' h ho) (Below.refl _ _) (fun _ => rfl)
    (fun pre W => Fw w (foldN P (pre.map (·.1))) W ∧ Below w.heap.size w4 W)
    (fun _ _ _ => False)
    (OwnFrom.and (Own.from (fw_own _ _) _) (ownFrom_below (by omega) (by omega)))
    (fun _ _ _ _ _ hs _ _ => hs)
    ⟨hF4, Below.refl _ _⟩
    (fun x => { tmps := #[.agg #[.int .u64 (a : Nat), .int .u64 (b : Nat), .int .u64 (c : Nat), .int .u64 (d : Nat)], .pointer (some ⟨w.heap.size, 0, none⟩), .pointer (some ⟨w.heap.size + 1, 0, none⟩), .pointer (some ⟨w.heap.size + 2, 0, none⟩), .int .u8 (x.1 : Nat), .agg #[.int .u64 (a : Nat), .int .u64 (b : Nat), .int .u64 (c : Nat), .int .u64 (d : Nat)], .agg #[.int .u64 (a : Nat), .int .u64 (b : Nat), .int .u64 (c : Nat), .int .u64 (d : Nat)], .func (.func 82) #[] #[.pointer (some ⟨w.heap.size + 3, 0, none⟩)], .int .u8 (x.1 : Nat), undef, undef, undef, undef, undef, undef, undef], defers := [] }) ?assign ?body ?done ?stop
  case assign =>
    intro l x W K hK
    gi_wp2
    exact hK
  case body =>
    rintro l pre x W ⟨hF, hBW⟩ hlt
    have hszW := hBW.size
    have hil := cisLetter_any x.1 W x.2
    obtain ⟨p, q, r, s, hc4, hx⟩ := hF.ex
    obtain ⟨c0, c1, c2, c3, f0, f1, f2, f3⟩ := hx.cells
    cases hL : ltr x.1 with
    | false =>
      rw [hL] at hil
      have hfo : foldN P ((pre ++ [x]).map (·.1)) = foldN P (pre.map (·.1)) := by rw [List.map_append]; exact foldN_no hL
      gi_wp2_with (refine ⟨trivial, ?_⟩; gi_at_call 74; refine (CallsIn.inRound l (callsIn_wide.2 hil)).mono ?_; rintro e1 w5 ⟨rfl, rfl⟩)
      exact ⟨(KeepsOthers.refl _).from _, (KeepC.below (Below.refl _ _)), by rw [hfo]; exact hF, hBW⟩
    | true =>
      rw [hL] at hil
      have hfo : foldN P ((pre ++ [x]).map (·.1)) = ins (foldN P (pre.map (·.1))) (x.1 ^^^ 32) := by rw [List.map_append]; exact foldN_yes hL
      have hxr : bits BinOp.xor IntKind.u8 (x.1 : Int) 32 = ((x.1 ^^^ 32 : Nat) : Int) := u8_xor_nat x.1 32 x.2 (by decide)
      have hwi := with_c hc4 (x.1 ^^^ 32) W (Nat.xor_lt_two_pow (n := 8) x.2 (by decide))
      rw [← hfo] at hwi
      gi_wp2_with (first | (refine ⟨trivial, ?_⟩; gi_at_call 74; refine (CallsIn.inRound l (callsIn_wide.2 hil)).mono ?_; rintro e1 w5 ⟨rfl, rfl⟩) | (refine ⟨trivial, ?_⟩; gi_at_call 55; refine (CallsIn.inRound l (callsIn_wide.2 hwi)).mono ?_; rintro e1 w5 ⟨⟨p', q', r', s', rfl, hc5⟩, hb5⟩; obtain ⟨g0, g1, g2, g3, e0, e1, e2, e3⟩ := (hx.below hb5).cells; have hF5 := hF.put hb5 hc5))
      exact ⟨((keeps_below hb5).trans ⟨by simp [World.setCell], fun k o hk ho => grown_put4 _ _ _ _ _ _ hk (fun e => by subst e; rw [show w5.heap[w.heap.size + 2]? = _ from hx.below hb5] at hk; cases hk; cases ho)⟩).from _, (KeepC.below hb5).put4 _ _ _ _, hF5, below_put4 (hBW.trans (hb5.mono (by omega))) (by omega) _ _ _ _⟩
  case done =>
    rintro D ys W hD hys ⟨hF, hBW⟩ hK
    obtain ⟨p, q, r, s, hc4, hx⟩ := hF.ex
    obtain ⟨x, y, z, t, hy⟩ := hF.res
    obtain ⟨c0, c1, c2, c3, f0, f1, f2, f3⟩ := hx.cells
    obtain ⟨y0, y1, y2, y3, v0, v1, v2, v3⟩ := hy.cells
    rw [hys] at hc4
    have hszW := hBW.size
    have hK6 := grown_put4 W (w.heap.size + 1) (.int .u64 (p : Nat)) (.int .u64 (q : Nat)) (.int .u64 (r : Nat)) (.int .u64 (s : Nat)) hK (by omega)
    gi_wp2
    refine ⟨by simp, .inl ⟨_, _, rfl, run_takeDeferred hK6, ?_⟩⟩
    have hbp : Below w.heap.size w (Go.Proofs.Ytlmmiicibjfcdaa.put4 W (w.heap.size + 1) (.int .u64 (p : Nat)) (.int .u64 (q : Nat)) (.int .u64 (r : Nat)) (.int .u64 (s : Nat))) := below_put4 (hB4.trans (hBW.mono (by omega))) (by omega) _ _ _ _
    have hby := belowK_b (w := w) (Nat.le_refl w.heap.size) (Go.Proofs.Ytlmmiicibjfcdaa.put4 W (w.heap.size + 1) (.int .u64 (p : Nat)) (.int .u64 (q : Nat)) (.int .u64 (r : Nat)) (.int .u64 (s : Nat))) D _ (.deferred none) (by omega) hK6 rfl rfl
    have hyb : Bx ((Go.Proofs.Ytlmmiicibjfcdaa.put4 W (w.heap.size + 1) (.int .u64 (p : Nat)) (.int .u64 (q : Nat)) (.int .u64 (r : Nat)) (.int .u64 (s : Nat))).putObj D (.deferred none)) (w.heap.size + 1) (.int .u64 (p : Nat)) (.int .u64 (q : Nat)) (.int .u64 (r : Nat)) (.int .u64 (s : Nat)) := by
      unfold Bx
      rw [World.putObj_heap_other (by omega)]
      exact hy.set _ _ _ _
    obtain ⟨z0, z1, z2, z3, _⟩ := hyb.cells
    exact ⟨.agg #[.int .u64 (p : Nat), .int .u64 (q : Nat), .int .u64 (r : Nat), .int .u64 (s : Nat)], by simp [results, Try.results54, go_sem, z0, z1, z2, z3], ⟨p, q, r, s, rfl, hc4⟩, hbp.trans hby⟩
  case stop =>
    rintro D c pre W _ _ h _
    exact h.elim

end Go.Proofs.Ytlmmiicibjfcdaa
namespace Go.Proofs.Ytlmmiicibjfcdaa
open Go.RowKit
/-- Flags as a value. -/
def fgV (fl : Fg) : Value := .agg #[.bool fl.c, .bool fl.d, .bool fl.m, .bool fl.o, .bool fl.l]
/-- A class without regard to case, if that is asked; what a dot is. -/
def csP (fl : Fg) (P : Nat → Bool) : Nat → Bool := if fl.c then foldN P (come P 256) else P
def dotP (fl : Fg) : Nat → Bool := if fl.d then fun _ => true else fun x => !ofN (fun _ => 10) 1 x
set_option maxRecDepth 10000 in
set_option maxHeartbeats 2000000 in
theorem cased_c {P : Nat → Bool} {a b c d : Nat} (h4 : C4 P a b c d) (fl : Fg) (w : World) : Calls Try.prog 27 #[.agg #[.int .u64 (a : Nat), .int .u64 (b : Nat), .int .u64 (c : Nat), .int .u64 (d : Nat)], fgV fl] w (RetC w (csP fl P)) := by
  have hB := below3 w (.cells #[.int .u64 (a : Nat), .int .u64 (b : Nat), .int .u64 (c : Nat), .int .u64 (d : Nat)] 40) (.cells #[.bool fl.c, .bool fl.d, .bool fl.m, .bool fl.o, .bool fl.l] 23) (.cells #[.int .u64 0, .int .u64 0, .int .u64 0, .int .u64 0] 40)
  unfold fgV csP
  cases hc : fl.c with
  | false =>
    rw [if_neg (by decide)]
    rw [hc] at hB
    go_enter Try.func27, Try.ntmps27
    go_wp2
    exact bodyPost_ret (v := .agg #[.int .u64 (a : Nat), .int .u64 (b : Nat), .int .u64 (c : Nat), .int .u64 (d : Nat)]) (by simp [results, Try.results27, go_sem]) rfl ⟨⟨a, b, c, d, rfl, h4⟩, below3 _ _ _ _⟩
  | true =>
    rw [if_pos rfl]
    rw [hc] at hB
    have hz : Bx (((w.alloc (.cells #[.int .u64 (a : Nat), .int .u64 (b : Nat), .int .u64 (c : Nat), .int .u64 (d : Nat)] 40)).alloc (.cells #[.bool true, .bool fl.d, .bool fl.m, .bool fl.o, .bool fl.l] 23)).alloc (.cells #[.int .u64 0, .int .u64 0, .int .u64 0, .int .u64 0] 40)) (w.heap.size + 1 + 1) (.int .u64 0) (.int .u64 0) (.int .u64 0) (.int .u64 0) := by
      have := Bx.new ((w.alloc (.cells #[.int .u64 (a : Nat), .int .u64 (b : Nat), .int .u64 (c : Nat), .int .u64 (d : Nat)] 40)).alloc (.cells #[.bool true, .bool fl.d, .bool fl.m, .bool fl.o, .bool fl.l] 23)) (.int .u64 0) (.int .u64 0) (.int .u64 0) (.int .u64 0)
      simpa using this
    have HF := fold_c h4 (((w.alloc (.cells #[.int .u64 (a : Nat), .int .u64 (b : Nat), .int .u64 (c : Nat), .int .u64 (d : Nat)] 40)).alloc (.cells #[.bool true, .bool fl.d, .bool fl.m, .bool fl.o, .bool fl.l] 23)).alloc (.cells #[.int .u64 0, .int .u64 0, .int .u64 0, .int .u64 0] 40))
    go_enter Try.func27, Try.ntmps27
    go_wp2_with fail
    refine HF.mono ?_
    rintro e w1 ⟨⟨a', b', c', d', rfl, h4'⟩, hb1⟩
    have hx := hz.below hb1
    have hB1 := hB.trans (hb1.mono hB.size)
    obtain ⟨y0, y1, y2, y3, v0, v1, v2, v3⟩ := hx.cells
    obtain ⟨z0, z1, z2, z3, _⟩ := (hx.set (.int .u64 (a' : Nat)) (.int .u64 (b' : Nat)) (.int .u64 (c' : Nat)) (.int .u64 (d' : Nat))).cells
    have HB : Hid (Below w.heap.size w (put4 w1 (w.heap.size + 1 + 1) (.int .u64 (a' : Nat)) (.int .u64 (b' : Nat)) (.int .u64 (c' : Nat)) (.int .u64 (d' : Nat)))) := below_put4 hB1 (by omega) _ _ _ _
    clear hb1 HF hB hB1 hz
    go_wp2
    exact bodyPost_ret (v := .agg #[.int .u64 (a' : Nat), .int .u64 (b' : Nat), .int .u64 (c' : Nat), .int .u64 (d' : Nat)]) (by simp [results, Try.results27, go_sem, z0, z1, z2, z3]) rfl ⟨⟨a', b', c', d', rfl, h4'⟩, HB.out⟩
set_option maxRecDepth 10000 in
set_option maxHeartbeats 2000000 in
theorem dot_c (fl : Fg) (w : World) : Calls Try.prog 30 #[fgV fl] w (RetC w (dotP fl)) := by
  unfold fgV dotP
  cases hc : fl.d with
  | true =>
    rw [if_pos rfl]
    have hB := below2 w (.cells #[.bool fl.c, .bool true, .bool fl.m, .bool fl.o, .bool fl.l] 23) (.cells #[.int .u64 0, .int .u64 0, .int .u64 0, .int .u64 0] 40)
    have hz : Bx ((w.alloc (.cells #[.bool fl.c, .bool true, .bool fl.m, .bool fl.o, .bool fl.l] 23)).alloc (.cells #[.int .u64 0, .int .u64 0, .int .u64 0, .int .u64 0] 40)) (w.heap.size + 1) (.int .u64 0) (.int .u64 0) (.int .u64 0) (.int .u64 0) := by
      have := Bx.new (w.alloc (.cells #[.bool fl.c, .bool true, .bool fl.m, .bool fl.o, .bool fl.l] 23)) (.int .u64 0) (.int .u64 0) (.int .u64 0) (.int .u64 0)
      simpa using this
    have HF := full_any ((w.alloc (.cells #[.bool fl.c, .bool true, .bool fl.m, .bool fl.o, .bool fl.l] 23)).alloc (.cells #[.int .u64 0, .int .u64 0, .int .u64 0, .int .u64 0] 40))
    go_enter Try.func30, Try.ntmps30
    go_wp2_with fail
    refine HF.mono ?_
    rintro e w1 ⟨⟨a', b', c', d', rfl, h4'⟩, hb1⟩
    have hx := hz.below hb1
    have hB1 := hB.trans (hb1.mono hB.size)
    obtain ⟨y0, y1, y2, y3, v0, v1, v2, v3⟩ := hx.cells
    obtain ⟨z0, z1, z2, z3, _⟩ := (hx.set (.int .u64 (a' : Nat)) (.int .u64 (b' : Nat)) (.int .u64 (c' : Nat)) (.int .u64 (d' : Nat))).cells
    have HB : Hid (Below w.heap.size w (put4 w1 (w.heap.size + 1) (.int .u64 (a' : Nat)) (.int .u64 (b' : Nat)) (.int .u64 (c' : Nat)) (.int .u64 (d' : Nat)))) := below_put4 hB1 (by omega) _ _ _ _
    clear hb1 HF hB hB1 hz
    go_wp2
    exact bodyPost_ret (v := .agg #[.int .u64 (a' : Nat), .int .u64 (b' : Nat), .int .u64 (c' : Nat), .int .u64 (d' : Nat)]) (by simp [results, Try.results30, go_sem, z0, z1, z2, z3]) rfl ⟨⟨a', b', c', d', rfl, h4'⟩, HB.out⟩
  | false =>
    rw [if_neg (by decide)]
    have hB := below3 w (.cells #[.bool fl.c, .bool false, .bool fl.m, .bool fl.o, .bool fl.l] 23) (.cells #[.int .u64 0, .int .u64 0, .int .u64 0, .int .u64 0] 40) (.cells #[.int .u8 10] 5)
    have hz : Bx (((w.alloc (.cells #[.bool fl.c, .bool false, .bool fl.m, .bool fl.o, .bool fl.l] 23)).alloc (.cells #[.int .u64 0, .int .u64 0, .int .u64 0, .int .u64 0] 40)).alloc (.cells #[.int .u8 10] 5)) (w.heap.size + 1) (.int .u64 0) (.int .u64 0) (.int .u64 0) (.int .u64 0) := by
      have := (Bx.new (w.alloc (.cells #[.bool fl.c, .bool false, .bool fl.m, .bool fl.o, .bool fl.l] 23)) (.int .u64 0) (.int .u64 0) (.int .u64 0) (.int .u64 0)).alloc (.cells #[.int .u8 10] 5)
      simpa using this
    have HO := of_any _ 1 1 (fun _ => 10) _ (rd_one ((w.alloc (.cells #[.bool fl.c, .bool false, .bool fl.m, .bool fl.o, .bool fl.l] 23)).alloc (.cells #[.int .u64 0, .int .u64 0, .int .u64 0, .int .u64 0] 40)) 10 (by decide)) (by decide)
    simp only [World.size_alloc] at HO
    go_enter Try.func30, Try.ntmps30
    go_wp2_with fail
    refine HO.mono ?_
    rintro e w1 ⟨⟨a', b', c', d', rfl, h4'⟩, hb1⟩
    have hx1 := hz.below hb1
    have hB1 := hB.trans (hb1.mono hB.size)
    have HN := not_c h4' w1
    clear HO hz hB hb1 h4'
    go_wp2_with fail
    refine HN.mono ?_
    rintro e w2 ⟨⟨a2, b2, c2, d2, rfl, h42⟩, hb2⟩
    have hx := hx1.below hb2
    have hB2 := hB1.trans (hb2.mono hB1.size)
    obtain ⟨y0, y1, y2, y3, v0, v1, v2, v3⟩ := hx.cells
    obtain ⟨z0, z1, z2, z3, _⟩ := (hx.set (.int .u64 (a2 : Nat)) (.int .u64 (b2 : Nat)) (.int .u64 (c2 : Nat)) (.int .u64 (d2 : Nat))).cells
    have HB : Hid (Below w.heap.size w (put4 w2 (w.heap.size + 1) (.int .u64 (a2 : Nat)) (.int .u64 (b2 : Nat)) (.int .u64 (c2 : Nat)) (.int .u64 (d2 : Nat)))) := below_put4 hB2 (by omega) _ _ _ _
    clear HN hb2 hB1 hB2 hx1
    go_wp2
    exact bodyPost_ret (v := .agg #[.int .u64 (a2 : Nat), .int .u64 (b2 : Nat), .int .u64 (c2 : Nat), .int .u64 (d2 : Nat)]) (by simp [results, Try.results30, go_sem, z0, z1, z2, z3]) rfl ⟨⟨a2, b2, c2, d2, rfl, h42⟩, HB.out⟩
end Go.Proofs.Ytlmmiicibjfcdaa
