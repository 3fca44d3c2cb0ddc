/- The bytes and the runs of a class, one by one: All and Runs, and their iterators: the walks. -/
import Derived.Test.YthgjklhjfpillaaDoorFi
import Derived.RangeFuncNested
import Derived.RangeFuncBound
import Derived.RangeFuncCalls
import Derived.RangeFuncLeaves
import Derived.RangeFuncBox
import Derived.Shelf.Abstract
import Derived.Shelf.RegionOpen
import Derived.OwnWalkIn
import Derived.TacticsInMore
import Derived.LoopNIn
import Derived.LoopIn
import Derived.Maps.AppendAt
namespace Go.Proofs.YthgjklhjfpillaaDoor
open Go.RowKit Go.Shelf
/-- The numbers below k that P tells, rising. -/
def come (P : Nat → Bool) (k : Nat) : List Nat := (List.range k).filter P
theorem come_yes {P : Nat → Bool} {k : Nat} (h : P k = true) : come P (k + 1) = come P k ++ [k] := by
  unfold come; rw [List.range_succ, List.filter_append]; simp [h]
theorem come_no {P : Nat → Bool} {k : Nat} (h : P k = false) : come P (k + 1) = come P k := by
  unfold come; rw [List.range_succ, List.filter_append]; simp [h]
theorem come_len (P : Nat → Bool) (n : Nat) : (come P n).length ≤ n := by
  unfold come
  exact Nat.le_trans (List.length_filter_le _ _) (by simp)
/-- The runs that have ended ahead of n, and where the next one may begin. -/
def rs (P : Nat → Bool) : Nat → List (Nat × Nat) × Nat
  | 0 => ([], 0)
  | n + 1 => if (decide (n < 256) && P n) = true then rs P n else (if (rs P n).2 < n then (rs P n).1 ++ [((rs P n).2, n - 1)] else (rs P n).1, n + 1)
theorem rs_lo (P : Nat → Bool) (n : Nat) : (rs P n).2 ≤ n := by
  induction n with
  | zero => exact Nat.le_refl _
  | succ n ih =>
    rw [rs]
    split
    · omega
    · exact Nat.le_refl _
theorem rs_len (P : Nat → Bool) (n : Nat) : (rs P n).1.length ≤ n := by
  induction n with
  | zero => exact Nat.le_refl _
  | succ n ih =>
    rw [rs]
    split
    · omega
    · show (ite _ _ _ : List (Nat × Nat)).length ≤ n + 1
      split
      · simp; omega
      · omega
attribute [local go_sem] Oper.semAt_some
theorem grown_below {W W' : World} (h : Below W.heap.size W W') : W.grownBy W' none := ⟨h.os, h.tape, h.output, h.size, fun k hk _ => h.block k hk⟩
theorem abides {β : Type} {B : Nat} {J : β → World → Prop} (h : AbidesFrom B J) {s : β} {W W' : World} (hb : Below W.heap.size W W') (hs : J s W) : J s W' :=
  h s W W' none hs (grown_below hb) (fun r e => by cases e)
set_option maxRecDepth 100000 in
set_option maxHeartbeats 2000000 in
/-- The iterator of All. -/
theorem allIt_in {P : Nat → Bool} {a b c d : Nat} (m l bc B : Nat) (h4 : C4 P a b c d) (Kp : World → World → Prop) (J Jx : List Nat → World → Prop) (hm : 1 ≤ m) (hA : AbidesFrom B J)
    (hK : ∀ W W', Kp W W' → Bx W bc (.int .u64 (a : Nat)) (.int .u64 (b : Nat)) (.int .u64 (c : Nat)) (.int .u64 (d : Nat)) → Bx W' bc (.int .u64 (a : Nat)) (.int .u64 (b : Nat)) (.int .u64 (c : Nat)) (.int .u64 (d : Nat)))
    (hY : ∀ pre x W, J pre W → pre.length < 256 → x < 256 → YieldAt Fence.wide (m - 1) Tryd.prog l #[.int .u8 (x : Nat)] W fun e W' =>
      (e = .returned (.bool true) ∧ J (pre ++ [x]) W' ∧ Kp W W') ∨ (e = .returned (.bool false) ∧ Jx (pre ++ [x]) W'))
    (W : World) (hb : Bx W bc (.int .u64 (a : Nat)) (.int .u64 (b : Nat)) (.int .u64 (c : Nat)) (.int .u64 (d : Nat))) (h0 : J [] W) :
    CallsIn Fence.wide m Tryd.prog 53 #[.func (.yield l) #[] #[], .pointer (some ⟨bc, 0, none⟩)] W fun e W' => (∃ v, e = .returned v) ∧
      ((∃ ys, ys = come P 256 ∧ J ys W') ∨ (∃ pre, True ∧ Jx pre W')) := by
  refine callsIn_of_wp Tryd.func53 rfl trivial ?_ rfl
  simp only [Tryd.ntmps53, List.size_toArray, List.length_cons, List.length_nil, Nat.reduceAdd, Nat.reduceSub, Array.replicate_succ, Array.replicate_zero, List.push_toArray, List.append_toArray, List.nil_append, List.cons_append]
  gi_wp2
  gi_loopw [4] (fun i wr => ∃ k : Nat, k ≤ 256 ∧ i = .int .i64 (k : Nat) ∧ J (come P k) wr ∧ Bx wr bc (.int .u64 (a : Nat)) (.int .u64 (b : Nat)) (.int .u64 (c : Nat)) (.int .u64 (d : Nat))) (fun i _ => 256 - (intOf i).toNat)
  case atStart => exact ⟨0, by omega, rfl, h0, hb⟩
  case round =>
    obtain ⟨k, hk, rfl, hJ, hx⟩ := hrel
    obtain ⟨c0, c1, c2, c3, f0, f1, f2, f3⟩ := hx.cells
    by_cases hlt : k < 256
    · have hki : (k : Int) < 256 := by omega
      have hlen : (come P k).length < 256 := by have := come_len P k; omega
      have hh := has_c h4 k wr hlt
      cases hP : P k with
      | true =>
        rw [hP] at hh
        have hcm := come_yes hP
        gi_wp2_with (refine ⟨trivial, ?_⟩; gi_at_call 24; refine (callsIn_wide.2 hh).mono ?_; rintro e w1 ⟨rfl, hb1⟩; have hJ1 := abides hA hb1 hJ; have hx1 := hx.below hb1; obtain ⟨fn, tmps, assign, body, hy, hR⟩ := hY (come P k) k w1 hJ1 hlen hlt)
        refine hR.mono ?_
        rintro e W3 (⟨rfl, hJ3, hk3⟩ | ⟨rfl, hJx3⟩)
        · have hx3 := hK _ _ hk3 hx1
          gi_wp2
          go_roundw
          case rel => exact ⟨k + 1, by omega, by go_num, by rw [hcm]; exact hJ3, hx3⟩
          case measure => simp [intOf]; omega
        · gi_wp2
          refine bodyPost_ret (results_none rfl _ _ _) rfl ?_
          exact ⟨⟨_, rfl⟩, .inr ⟨_, trivial, hJx3⟩⟩
      | false =>
        rw [hP] at hh
        have hcm := come_no hP
        gi_wp2_with (refine ⟨trivial, ?_⟩; gi_at_call 24; refine (callsIn_wide.2 hh).mono ?_; rintro e w1 ⟨rfl, hb1⟩; have hJ1 := abides hA hb1 hJ; have hx1 := hx.below hb1)
        refine ⟨(fun f h => by cases h), ?_⟩
        gi_wp2
        go_roundw
        case rel => exact ⟨k + 1, by omega, by go_num, by rw [hcm]; exact hJ1, hx1⟩
        case measure => simp [intOf]; omega
    · have hki : ¬ ((k : Int) < 256) := by omega
      have hke : Hid (J (come P 256) wr) := by rw [show 256 = k by omega]; exact hJ
      gi_wp2
      go_end0
      exact ⟨⟨_, rfl⟩, .inl hke.out⟩
theorem rs_in {P : Nat → Bool} {k : Nat} (hk : k < 256) (h : P k = true) : rs P (k + 1) = rs P k := by
  rw [rs, decide_eq_true hk, h]; rfl
theorem rs_out {P : Nat → Bool} {k : Nat} (h : (decide (k < 256) && P k) = false) (hl : (rs P k).2 < k) : rs P (k + 1) = ((rs P k).1 ++ [((rs P k).2, k - 1)], k + 1) := by
  rw [rs, h, if_neg (by decide), if_pos hl]
theorem rs_skip {P : Nat → Bool} {k : Nat} (h : (decide (k < 256) && P k) = false) (hl : ¬ (rs P k).2 < k) : rs P (k + 1) = ((rs P k).1, k + 1) := by
  rw [rs, h, if_neg (by decide), if_neg hl]
set_option maxRecDepth 100000 in
set_option maxHeartbeats 4000000 in
/-- The iterator of Runs. -/
theorem runsIt_in {P : Nat → Bool} {a b c d : Nat} (m l bc B : Nat) (h4 : C4 P a b c d) (Kp : World → World → Prop) (J Jx : List (Nat × Nat) → World → Prop) (hm : 1 ≤ m) (hA : AbidesFrom B J)
    (hK : ∀ W W', Kp W W' → Bx W bc (.int .u64 (a : Nat)) (.int .u64 (b : Nat)) (.int .u64 (c : Nat)) (.int .u64 (d : Nat)) → Bx W' bc (.int .u64 (a : Nat)) (.int .u64 (b : Nat)) (.int .u64 (c : Nat)) (.int .u64 (d : Nat)))
    (hY : ∀ pre x W, J pre W → pre.length < 257 → x.1 ≤ x.2 → x.2 < 256 → YieldAt Fence.wide (m - 1) Tryd.prog l #[.int .u8 (x.1 : Nat), .int .u8 (x.2 : Nat)] W fun e W' =>
      (e = .returned (.bool true) ∧ J (pre ++ [x]) W' ∧ Kp W W') ∨ (e = .returned (.bool false) ∧ Jx (pre ++ [x]) W'))
    (W : World) (hb : Bx W bc (.int .u64 (a : Nat)) (.int .u64 (b : Nat)) (.int .u64 (c : Nat)) (.int .u64 (d : Nat))) (h0 : J [] W) :
    CallsIn Fence.wide m Tryd.prog 54 #[.func (.yield l) #[] #[], .pointer (some ⟨bc, 0, none⟩)] W fun e W' => (∃ v, e = .returned v) ∧
      ((∃ ys, ys = (rs P 257).1 ∧ J ys W') ∨ (∃ pre, True ∧ Jx pre W')) := by
  refine callsIn_of_wp Tryd.func54 rfl trivial ?_ rfl
  simp only [Tryd.ntmps54, List.size_toArray, List.length_cons, List.length_nil, Nat.reduceAdd, Nat.reduceSub, Array.replicate_succ, Array.replicate_zero, List.push_toArray, List.append_toArray, List.nil_append, List.cons_append]
  gi_wp2
  gi_loopw [3, 5] (fun j i wr => ∃ k lo : Nat, k ≤ 257 ∧ i = .int .i64 (k : Nat) ∧ j = .int .i64 (lo : Nat) ∧ (rs P k).2 = lo ∧ J (rs P k).1 wr ∧ Bx wr bc (.int .u64 (a : Nat)) (.int .u64 (b : Nat)) (.int .u64 (c : Nat)) (.int .u64 (d : Nat))) (fun _ i _ => 257 - (intOf i).toNat)
  case atStart => exact ⟨0, 0, by omega, rfl, rfl, rfl, h0, hb⟩
  case round =>
    obtain ⟨k, lo, hk, rfl, rfl, hlo, hJ, hx⟩ := hrel
    obtain ⟨c0, c1, c2, c3, f0, f1, f2, f3⟩ := hx.cells
    have hlk : lo ≤ k := by rw [← hlo]; exact rs_lo P k
    have hlen : k < 257 → (rs P k).1.length < 257 := by have := rs_len P k; omega
    by_cases hlt : k < 257
    · have hlen := hlen hlt
      have hki : (k : Int) < 257 := by omega
      by_cases h256 : k < 256
      · have hk2 : (k : Int) < 256 := by omega
        have hh := has_c h4 k wr h256
        cases hP : P k with
        | true =>
          rw [hP] at hh
          have hin := rs_in h256 hP
          gi_wp2_with (refine ⟨trivial, ?_⟩; gi_at_call 24; refine (callsIn_wide.2 hh).mono ?_; rintro e w1 ⟨rfl, hb1⟩; have hJ1 := abides hA hb1 hJ; have hx1 := hx.below hb1)
          go_roundw
          case rel => exact ⟨k + 1, lo, by omega, by go_num, rfl, by rw [hin]; exact hlo, by rw [hin]; exact hJ1, hx1⟩
          case measure => simp [intOf]; omega
        | false =>
          rw [hP] at hh
          have hq : (decide (k < 256) && P k) = false := by rw [hP, Bool.and_false]
          by_cases hl : lo < k
          · have hout := rs_out hq (by rw [hlo]; exact hl)
            have hli : (lo : Int) < (k : Int) := by omega
            have hk1 : ((k - 1 : Nat) : Int) = (k : Int) - 1 := by omega
            have hv1 : (lo, k - 1).1 ≤ (lo, k - 1).2 := by show lo ≤ k - 1; omega
            have hv2 : (lo, k - 1).2 < 256 := by show k - 1 < 256; omega
            gi_wp2_with (refine ⟨trivial, ?_⟩; gi_at_call 24; refine (callsIn_wide.2 hh).mono ?_; rintro e w1 ⟨rfl, hb1⟩; have hJ1 := abides hA hb1 hJ; have hx1 := hx.below hb1; obtain ⟨fn, tmps, assign, body, hy, hR⟩ := hY (rs P k).1 (lo, k - 1) w1 hJ1 hlen hv1 hv2; rw [hk1] at hy)
            refine hR.mono ?_
            rintro e W3 (⟨rfl, hJ3, hk3⟩ | ⟨rfl, hJx3⟩)
            · have hx3 := hK _ _ hk3 hx1
              gi_wp2
              go_roundw
              case rel => exact ⟨k + 1, k + 1, by omega, by go_num, by go_num, by rw [hout], by rw [hout, hlo]; exact hJ3, hx3⟩
              case measure => simp [intOf]; omega
            · gi_wp2
              refine bodyPost_ret (results_none rfl _ _ _) rfl ?_
              exact ⟨⟨_, rfl⟩, .inr ⟨_, trivial, hJx3⟩⟩
          · have hout := rs_skip hq (by rw [hlo]; exact hl)
            have hli : ¬ ((lo : Int) < (k : Int)) := by omega
            gi_wp2_with (refine ⟨trivial, ?_⟩; gi_at_call 24; refine (callsIn_wide.2 hh).mono ?_; rintro e w1 ⟨rfl, hb1⟩; have hJ1 := abides hA hb1 hJ; have hx1 := hx.below hb1)
            refine ⟨(fun f h => by cases h), ?_⟩
            gi_wp2
            go_roundw
            case rel => exact ⟨k + 1, k + 1, by omega, by go_num, by go_num, by rw [hout], by rw [hout]; exact hJ1, hx1⟩
            case measure => simp [intOf]; omega
      · have hk2 : ¬ ((k : Int) < 256) := by omega
        have hq : (decide (k < 256) && P k) = false := by rw [decide_eq_false h256, Bool.false_and]
        by_cases hl : lo < k
        · have hout := rs_out hq (by rw [hlo]; exact hl)
          have hli : (lo : Int) < (k : Int) := by omega
          have hk1 : ((k - 1 : Nat) : Int) = (k : Int) - 1 := by omega
          have hv1 : (lo, k - 1).1 ≤ (lo, k - 1).2 := by show lo ≤ k - 1; omega
          have hv2 : (lo, k - 1).2 < 256 := by show k - 1 < 256; omega
          obtain ⟨fn, tmps, assign, body, hy, hR⟩ := hY (rs P k).1 (lo, k - 1) wr hJ hlen hv1 hv2
          rw [hk1] at hy
          gi_wp2
          refine ⟨trivial, ?_⟩
          gi_wp2
          refine hR.mono ?_
          rintro e W3 (⟨rfl, hJ3, hk3⟩ | ⟨rfl, hJx3⟩)
          · have hx3 := hK _ _ hk3 hx
            gi_wp2
            go_roundw
            case rel => exact ⟨k + 1, k + 1, by omega, by go_num, by go_num, by rw [hout], by rw [hout, hlo]; exact hJ3, hx3⟩
            case measure => simp [intOf]; omega
          · gi_wp2
            refine bodyPost_ret (results_none rfl _ _ _) rfl ?_
            exact ⟨⟨_, rfl⟩, .inr ⟨_, trivial, hJx3⟩⟩
        · have hout := rs_skip hq (by rw [hlo]; exact hl)
          have hli : ¬ ((lo : Int) < (k : Int)) := by omega
          gi_wp2
          refine ⟨trivial, ?_⟩
          gi_wp2
          refine ⟨(fun f h => by cases h), ?_⟩
          gi_wp2
          go_roundw
          case rel => exact ⟨k + 1, k + 1, by omega, by go_num, by go_num, by rw [hout], by rw [hout]; exact hJ, hx⟩
          case measure => simp [intOf]; omega
    · have hki : ¬ ((k : Int) < 257) := by omega
      have hke : Hid (J (rs P 257).1 wr) := by rw [show 257 = k by omega]; exact hJ
      gi_wp2
      go_end0
      exact ⟨⟨_, rfl⟩, .inl hke.out⟩
theorem mk_func : ∀ (fn : Fn) (first cap : Array Value) (w : World), (Instr.makeFunc fn first cap).run Tryd.prog w = .ok (.func fn first cap) w := fun _ _ _ _ => rfl
set_option maxHeartbeats 400000 in
theorem all_mk (a b c d : Nat) (w : World) : Calls Tryd.prog 38 #[.agg #[.int .u64 (a : Nat), .int .u64 (b : Nat), .int .u64 (c : Nat), .int .u64 (d : Nat)]] w fun e w' => e = .returned (.func (.func 53) #[] #[.pointer (some ⟨w.heap.size, 0, none⟩)]) ∧ Bx w' w.heap.size (.int .u64 (a : Nat)) (.int .u64 (b : Nat)) (.int .u64 (c : Nat)) (.int .u64 (d : Nat)) ∧ Below w.heap.size w w' := by
  have hmf := mk_func
  go_enter Tryd.func38, Tryd.ntmps38
  go_wp2
  go_ret
  exact ⟨rfl, Bx.new w _ _ _ _, (Below.refl _ _).alloc (Nat.le_refl _) _⟩
set_option maxHeartbeats 400000 in
theorem runs_mk (a b c d : Nat) (w : World) : Calls Tryd.prog 41 #[.agg #[.int .u64 (a : Nat), .int .u64 (b : Nat), .int .u64 (c : Nat), .int .u64 (d : Nat)]] w fun e w' => e = .returned (.func (.func 54) #[] #[.pointer (some ⟨w.heap.size, 0, none⟩)]) ∧ Bx w' w.heap.size (.int .u64 (a : Nat)) (.int .u64 (b : Nat)) (.int .u64 (c : Nat)) (.int .u64 (d : Nat)) ∧ Below w.heap.size w w' := by
  have hmf := mk_func
  go_enter Tryd.func41, Tryd.ntmps41
  go_wp2
  go_ret
  exact ⟨rfl, Bx.new w _ _ _ _, (Below.refl _ _).alloc (Nat.le_refl _) _⟩
end Go.Proofs.YthgjklhjfpillaaDoor
