/- The iterator of ring.Ends: the walk. -/
import Derived.Test.YtehlmjjdegmnaaaDoorEb
import Derived.RangeFuncNested
import Derived.RangeFuncBound
import Derived.RangeFuncCalls
import Derived.RangeFuncLeaves
import Derived.RangeFuncBox
import Derived.Shelf.RegionOpen
import Derived.OwnWalkIn
import Derived.TacticsInMore
import Derived.LoopNIn
import Derived.LoopIn
import Derived.Maps.AppendAt
import Derived.Sort.CutIn
import Derived.Deep.DeepCutAuto
import Derived.Deep.RegionLaw
namespace Go.Proofs.YtehlmjjdegmnaaaDoor
open Go.RowKit Go.Shelf
attribute [local go_sem] Oper.semAt_some
/-- The numbers below k that P tells, rising. -/
def come (P : Nat → Bool) (k : Nat) : List Nat := (List.range k).filter P
theorem come_succ (P : Nat → Bool) (k : Nat) : come P (k + 1) = come P k ++ (if P k = true then [k] else []) := by
  unfold come
  rw [List.range_succ, List.filter_append]
  congr 1
  by_cases h : P k = true <;> simp [h]
theorem come_mono (P : Nat → Bool) {a b : Nat} (h : a ≤ b) : (come P a).length ≤ (come P b).length := by
  obtain ⟨c, rfl⟩ := Nat.exists_eq_add_of_le h
  unfold come
  rw [List.range_add, List.filter_append]
  simp
theorem come_len (P : Nat → Bool) (n : Nat) : (come P n).length ≤ n := by
  unfold come
  exact Nat.le_trans (List.length_filter_le _ _) (by simp)
/-- All blocks below n₀ but B are as they were. -/
structure Exc (B n₀ : Nat) (w w' : World) : Prop where
  size : w.heap.size ≤ w'.heap.size
  block : ∀ j, j < n₀ → j ≠ B → w'.heap[j]? = w.heap[j]?
theorem Exc.refl (B n₀ : Nat) (w : World) : Exc B n₀ w w := ⟨Nat.le_refl _, fun _ _ _ => rfl⟩
theorem Exc.trans {B n₀ : Nat} {a b c : World} (h : Exc B n₀ a b) (k : Exc B n₀ b c) : Exc B n₀ a c := ⟨Nat.le_trans h.size k.size, fun j hj hn => (k.block j hj hn).trans (h.block j hj hn)⟩
theorem Exc.cell {B n₀ : Nat} {w w' : World} (h : Exc B n₀ w w') {p : Addr} (hp : p.block < n₀) (hn : p.block ≠ B) : w'.cell? p = w.cell? p := World.cell?_of_block (w := w) (h.block p.block hp hn)
theorem Exc.put {B n₀ : Nat} {w : World} (hn : n₀ ≤ w.heap.size) (W : World) (l : Nat) (o o' : Obj) (hl : w.heap.size ≤ l) (h : W.heap[l]? = some o) : Exc B n₀ W (W.putObj l o') :=
  ⟨(grownBy_putObj' W l o').size, fun j hj _ => (grownBy_putObj' W l o').block j (by have := (Array.getElem?_eq_some_iff.1 h).1; omega) (by simp; omega)⟩
theorem Exc.below {B n₀ : Nat} {w w' w'' : World} (h : Exc B n₀ w w') (hb : Below w'.heap.size w' w'') (hn : n₀ ≤ w'.heap.size) : Exc B n₀ w w'' :=
  ⟨Nat.le_trans h.size hb.size, fun j hj hne => (hb.block j (by omega)).trans (h.block j hj hne)⟩
/-- What the iterator of Ends holds on to. -/
structure EnB (Bk n₀ pb pr pw g : Nat) (ao : Option Addr) (cap a b c d lo hi n : Nat) (B : Nat → Bool) (t : Nat → Nat) (W : World) : Prop where
  kb : Cl W pb 67 [.slice (some ⟨g, 0, none⟩) (n + 1) (n + 1)]
  kg : Cl W g 4 (bls B (n + 1))
  kr : RgAt W pr a b c d lo hi
  kw : Cl W pw 30 [.slice ao n cap]
  kt : RdB W ao n t
  lt : pb < n₀ ∧ g < n₀ ∧ pr < n₀ ∧ pw < n₀ ∧ (0 < n → ∀ q, ao = some q → q.block < n₀)
  ne : pb ≠ Bk ∧ g ≠ Bk ∧ pr ≠ Bk ∧ pw ≠ Bk ∧ ∀ q, ao = some q → q.block ≠ Bk
theorem Cl.exc {B n₀ : Nat} {w w' : World} {b : Nat} {t : TypeId} {vs : List Value} (h : Cl w b t vs) (he : Exc B n₀ w w') (h1 : b < n₀) (h2 : b ≠ B) : Cl w' b t vs := by
  unfold Cl; rw [he.block b h1 h2]; exact h
theorem EnB.exc {Bk n₀ pb pr pw g : Nat} {ao : Option Addr} {cap a b c d lo hi n : Nat} {B : Nat → Bool} {t : Nat → Nat} {W W' : World} (h : EnB Bk n₀ pb pr pw g ao cap a b c d lo hi n B t W) (he : Exc Bk n₀ W W') : EnB Bk n₀ pb pr pw g ao cap a b c d lo hi n B t W' := by
  refine ⟨h.kb.exc he h.lt.1 h.ne.1, h.kg.exc he h.lt.2.1 h.ne.2.1, Cl.exc h.kr he h.lt.2.2.1 h.ne.2.2.1, h.kw.exc he h.lt.2.2.2.1 h.ne.2.2.2.1, ⟨h.kt.small, fun hl => ?_⟩, h.lt, h.ne⟩
  obtain ⟨b', off, e, hlt, hc⟩ := h.kt.at_ hl
  exact ⟨b', off, e, Nat.lt_of_lt_of_le hlt he.size, fun i hi => by rw [he.cell (p := ⟨b', off + i, none⟩) (show b' < n₀ from h.lt.2.2.2.2 hl _ e) (show b' ≠ Bk from h.ne.2.2.2.2 _ e)]; exact hc i hi⟩
/-- Ahead of place k. -/
def rnP (P : Nat → Bool) (t : Nat → Nat) : Nat → Nat
  | 0 => 0
  | k + 1 => rnF P t k
def yP (lo : Nat) (B : Nat → Bool) : Nat → Int
  | 0 => -1
  | k + 1 => yF lo B k
def nb (P : Nat → Bool) (t : Nat → Nat) : Nat → Bool
  | 0 => false
  | k + 1 => !P (t k)
theorem rnF_eq (P : Nat → Bool) (t : Nat → Nat) : ∀ k, rnF P t k = if nb P t k = true then k else rnP P t k
  | 0 => rfl
  | k + 1 => by
    simp only [rnF, nb, rnP]
    by_cases h : P (t k) = true <;> simp [h]
theorem yF_yes {lo : Nat} {B : Nat → Bool} {k : Nat} (h : lo ≤ k) (hb : B (k - lo) = true) : yF lo B k = (k : Int) - lo := by
  cases k with
  | zero =>
    obtain rfl : lo = 0 := by omega
    unfold yF
    rw [if_pos ⟨rfl, hb⟩]
    rfl
  | succ k =>
    unfold yF
    rw [if_pos ⟨h, hb⟩]
    omega
theorem yF_no {lo : Nat} {B : Nat → Bool} {k : Nat} (h : ¬ (lo ≤ k ∧ B (k - lo) = true)) : yF lo B k = yP lo B k := by
  cases k with
  | zero =>
    unfold yF yP
    rw [if_neg (fun hh => h ⟨by omega, by rw [Nat.zero_sub]; exact hh.2⟩)]
  | succ k =>
    simp only [yF, yP]
    rw [if_neg h]
theorem grown_below {w w' : World} (h : Below w.heap.size w w') : w.grownBy w' none := ⟨h.os, h.tape, h.output, h.size, fun k hk _ => h.block k hk⟩
set_option maxRecDepth 100000 in
set_option maxHeartbeats 2000000 in
/-- The iterator of Ends: the places at which the ring accepts, rising. -/
theorem it_in {P B : Nat → Bool} {t : Nat → Nat} {ao : Option Addr} {cap a b c d lo hi n : Nat} (m l pb pr pw g Bk n₀ : Nat) (hP : C4 P a b c d) (J Jx : List Nat → World → Prop) (hm : 1 ≤ m)
    (hlo : lo ≤ 1000) (hhi : hi ≤ 1000) (hn : n ≤ 1000)
    (hY : ∀ pre x W, J pre W → pre.length < (come (accF P lo hi B t) (n + 1)).length → YieldAt Fence.wide (m - 1) Tryd.prog l #[.int .i64 (x : Nat)] W fun e W' =>
      (e = .returned (.bool true) ∧ J (pre ++ [x]) W' ∧ Exc Bk n₀ W W') ∨ (e = .returned (.bool false) ∧ Jx (pre ++ [x]) W'))
    (W : World) (hA : AbidesFrom W.heap.size J) (hE : EnB Bk n₀ pb pr pw g ao cap a b c d lo hi n B t W) (hn0 : n₀ ≤ W.heap.size) (h0 : J [] W) :
    CallsIn Fence.wide m Tryd.prog 56 #[.func (.yield l) #[] #[], .pointer (some ⟨pb, 0, none⟩), .pointer (some ⟨pr, 0, none⟩), .pointer (some ⟨pw, 0, none⟩)] W fun e W' => (∃ v, e = .returned v) ∧
      ((∃ ys, ys = come (accF P lo hi B t) (n + 1) ∧ J ys W') ∨ (∃ pre, True ∧ Jx pre W')) := by
  have cb := hE.kb.cell 0 rfl
  refine callsIn_of_wp Tryd.func56 rfl trivial ?_ rfl
  simp only [Tryd.ntmps56, List.size_toArray, List.length_cons, List.length_nil, Nat.reduceAdd, Nat.reduceSub, Array.replicate_succ, Array.replicate_zero, List.push_toArray, List.append_toArray, List.nil_append, List.cons_append]
  gi_wp2
  gi_loopw [5, 6, 10] (fun y r i wr => ∃ k : Nat, k ≤ n + 1 ∧ i = .int .i64 k ∧ r = .int .i64 (rnP P t k : Nat) ∧ y = .int .i64 (yP lo B k) ∧ J (come (accF P lo hi B t) k) wr ∧ Exc Bk n₀ W wr) (fun _ _ i _ => n + 1 - (intOf i).toNat)
  case atStart => exact ⟨0, Nat.zero_le _, rfl, rfl, rfl, h0, Exc.refl _ _ _⟩
  case round =>
    obtain ⟨k, hk, rfl, rfl, rfl, hJs, hX⟩ := hrel
    by_cases hlt : k < n + 1
    · have hEk := hE.exc hX
      have hki : (k : Int) < (n : Int) + 1 := by omega
      have hrle : (rnP P t k : Int) ≤ k := by
        cases k with
        | zero => simp [rnP]
        | succ k => have := rnF_le P t k; simp only [rnP]; omega
      have hyge : -1 ≤ yP lo B k := by
        cases k with
        | zero => simp [yP]
        | succ k => exact yF_ge lo B k
      have hcs := come_succ (accF P lo hi B t) k
      have hlen2 : (come (accF P lo hi B t) (k + 1)).length ≤ (come (accF P lo hi B t) (n + 1)).length := come_mono _ (by omega)
      clear cb h0
      gi_wp2_with fail
      gi_cut [25] from 11 (fun v wx => v = .bool (nb P t k) ∧ J (come (accF P lo hi B t) k) wx ∧ Exc Bk n₀ W wx)
      case first =>
        rename_i J' K' hJ' hK'
        refine wpIn_wide.2 ?_
        refine Code.wp_mono (Q := Exit.then K' (fun _ _ _ => False)) (fun e a w h => by cases e <;> first | exact h | exact False.elim h) ?_
        by_cases h0k : k = 0
        · subst h0k
          go_quiet (fail)
          refine hK' _ _ (Met.intro (hJ' _ _ ?_))
          repeat apply Exists.intro
          exact ⟨⟨rfl, hA _ _ _ none hJs (grown_below (below_drewN (Below.refl _ _) _)) (fun r e => by cases e), hX.below (below_drewN (Below.refl _ _) _) (Nat.le_trans hn0 hX.size)⟩, rfl⟩
        · obtain ⟨j, rfl⟩ : ∃ j, k = j + 1 := ⟨k - 1, by omega⟩
          have hg1 : (0 : Int) < (j : Int) + 1 := by omega
          have hjn : (j : Int) < (n : Int) := by omega
          have hjn' : j < n := by omega
          have hsb : (j : Int) + 1 - 1 = j := by omega
          obtain ⟨b', off, rfl, hbl, hct⟩ := hEk.kt.at_ (by omega)
          have t1 := hct j hjn'
          obtain ⟨⟨g0, g1, g2, g3, g4, g5⟩, -⟩ := hEk.kr.cells
          have cw := hEk.kw.cell 0 rfl
          have hxs := hEk.kt.small j hjn'
          have HH := has_c hP (t j) wr.drew hxs
          have hwj : IntKind.i64.wrap (j : Int) = j := wrapi64_in _ (by omega) (by omega)
          clear h0k hct
          go_region_with (go_at_call 34; refine HH.mono ?_; rintro e w1 ⟨rfl, hb⟩)
          all_goals
            refine hK' _ _ (Met.intro (hJ' _ _ ?_))
            repeat apply Exists.intro
            exact ⟨⟨rfl, hA _ _ _ none hJs (grown_below ((Below.refl _ _).drew.trans hb)) (fun r e => by cases e), hX.below ((Below.refl _ _).drew.trans hb) (Nat.le_trans hn0 hX.size)⟩, rfl⟩
      case rest =>
        obtain ⟨rfl, hJc, hXc⟩ := hcut
        have hEc := hE.exc hXc
        obtain ⟨⟨g0, g1, g2, g3, g4, g5⟩, -⟩ := hEc.kr.cells
        have cb := hEc.kb.cell 0 rfl
        have hrn := rnF_eq P t k
        have hacc : accF P lo hi B t k = decide (max ((rnF P t k : Nat) : Int) ((k : Int) - hi) ≤ yF lo B k) := rfl
        generalize hRe : rnP P t k = R at *
        generalize hYe : yP lo B k = Y at *
        have hRk : (R : Int) ≤ k := hrle
        have hY1 : -1 ≤ Y := hyge
        clear hrle hyge hJs hX hEk
        have hwh : IntKind.i64.wrap ((k : Int) - hi) = (k : Int) - hi := wrapi64_in _ (by omega) (by omega)
        cases hnb : nb P t k with
        | false =>
          have hrn' : rnF P t k = R := by rw [hrn, hnb]; rfl
          by_cases hlk : lo ≤ k
          · have hlk' : (lo : Int) ≤ k := by omega
            obtain ⟨q, hq⟩ : ∃ q, k - lo = q := ⟨_, rfl⟩
            have hql : (k : Int) - lo = (q : Nat) := by omega
            have hqn : (q : Int) < (n : Int) + 1 := by omega
            have hwq : IntKind.i64.wrap ((k : Int) - lo) = q := by rw [wrapi64_in _ (by omega) (by omega)]; exact hql
            have cg := hEc.kg.cell q (bls_get B (by omega))
            cases hB : B q with
            | true =>
              rw [hB] at cg
              have hyy := yF_yes (B := B) hlk (by rw [hq]; exact hB)
              rw [hql] at hyy
              clear hq
              have hrx : ((R : Nat) : Int) = (rnF P t k : Nat) := by rw [hrn']
              have hyv : yF lo B k = ((q : Nat) : Int) := hyy
              obtain ⟨M, hM⟩ : ∃ M : Int, max ((R : Nat) : Int) ((k : Int) - hi) = M := ⟨_, rfl⟩
              have hmax : ∀ w, (Builtin.max_ #[3, 3] 3 #[.int .i64 ((R : Nat) : Int), .int .i64 ((k : Int) - hi)]).run Tryd.prog w = .ok (.int .i64 M) w := by
                intro w
                rw [run_max_int2, ← hM]
                congr 2
                split <;> omega
              rw [← hrx, hM, hyv] at hacc
              have HR : Hid (((R : Nat) : Int) = (rnF P t k : Nat)) := hrx
              have HYv : Hid (yF lo B k = ((q : Nat) : Int)) := hyv
              have HMM : Hid (max ((R : Nat) : Int) ((k : Int) - hi) = M) := hM
              clear hrx hyv hM hrn
              cases hac : accF P lo hi B t k with
              | true =>
                rw [hac] at hacc
                have hle : M ≤ ((q : Nat) : Int) := by simpa using hacc.symm
                rw [hac, if_pos rfl] at hcs
                obtain ⟨fn, tmps, assign, body, hy, hR⟩ := hY _ k _ hJc (by rw [hcs] at hlen2; simp at hlen2; omega)
                clear hacc
                gi_wp2_with fail
                refine hR.mono ?_
                rintro e W3 (⟨rfl, hJ3, hk3⟩ | ⟨rfl, hJx3⟩)
                · gi_wp2
                  go_roundw
                  case rel => exact ⟨k + 1, by omega, by go_num, by rw [HR.out]; rfl, by rw [← HYv.out]; rfl, by rw [hcs]; exact hJ3, hXc.trans hk3⟩
                  case measure => simp [intOf]; omega
                · gi_wp2
                  refine bodyPost_ret (results_none rfl _ _ _) rfl ?_
                  exact ⟨⟨_, rfl⟩, .inr ⟨_, trivial, hJx3⟩⟩
              | false =>
                rw [hac] at hacc
                have hle : ¬ M ≤ ((q : Nat) : Int) := by simpa using hacc.symm
                rw [hac, if_neg (by decide), List.append_nil] at hcs
                clear hacc
                gi_wp2_with fail
                refine ⟨fun f h => (by cases h), ?_⟩
                gi_wp2
                go_roundw
                case rel => exact ⟨k + 1, by omega, by go_num, by rw [HR.out]; rfl, by rw [← HYv.out]; rfl, by rw [hcs]; exact hJc, hXc⟩
                case measure => simp [intOf]; omega
            | false =>
              rw [hB] at cg
              have hyy := yF_no (lo := lo) (B := B) (k := k) (fun h => by rw [hq, hB] at h; exact absurd h.2 (by decide))
              rw [hYe] at hyy
              clear hq
              have hrx : ((R : Nat) : Int) = (rnF P t k : Nat) := by rw [hrn']
              have hyv : yF lo B k = Y := hyy
              obtain ⟨M, hM⟩ : ∃ M : Int, max ((R : Nat) : Int) ((k : Int) - hi) = M := ⟨_, rfl⟩
              have hmax : ∀ w, (Builtin.max_ #[3, 3] 3 #[.int .i64 ((R : Nat) : Int), .int .i64 ((k : Int) - hi)]).run Tryd.prog w = .ok (.int .i64 M) w := by
                intro w
                rw [run_max_int2, ← hM]
                congr 2
                split <;> omega
              rw [← hrx, hM, hyv] at hacc
              have HR : Hid (((R : Nat) : Int) = (rnF P t k : Nat)) := hrx
              have HYv : Hid (yF lo B k = Y) := hyv
              have HMM : Hid (max ((R : Nat) : Int) ((k : Int) - hi) = M) := hM
              clear hrx hyv hM hrn
              cases hac : accF P lo hi B t k with
              | true =>
                rw [hac] at hacc
                have hle : M ≤ Y := by simpa using hacc.symm
                rw [hac, if_pos rfl] at hcs
                obtain ⟨fn, tmps, assign, body, hy, hR⟩ := hY _ k _ hJc (by rw [hcs] at hlen2; simp at hlen2; omega)
                clear hacc
                gi_wp2_with fail
                refine hR.mono ?_
                rintro e W3 (⟨rfl, hJ3, hk3⟩ | ⟨rfl, hJx3⟩)
                · gi_wp2
                  go_roundw
                  case rel => exact ⟨k + 1, by omega, by go_num, by rw [HR.out]; rfl, by rw [← HYv.out]; rfl, by rw [hcs]; exact hJ3, hXc.trans hk3⟩
                  case measure => simp [intOf]; omega
                · gi_wp2
                  refine bodyPost_ret (results_none rfl _ _ _) rfl ?_
                  exact ⟨⟨_, rfl⟩, .inr ⟨_, trivial, hJx3⟩⟩
              | false =>
                rw [hac] at hacc
                have hle : ¬ M ≤ Y := by simpa using hacc.symm
                rw [hac, if_neg (by decide), List.append_nil] at hcs
                clear hacc
                gi_wp2_with fail
                refine ⟨fun f h => (by cases h), ?_⟩
                gi_wp2
                go_roundw
                case rel => exact ⟨k + 1, by omega, by go_num, by rw [HR.out]; rfl, by rw [← HYv.out]; rfl, by rw [hcs]; exact hJc, hXc⟩
                case measure => simp [intOf]; omega
          · have hlk' : ¬ (lo : Int) ≤ k := by omega
            have hyy := yF_no (lo := lo) (B := B) (k := k) (fun h => hlk h.1)
            rw [hYe] at hyy
            have hrx : ((R : Nat) : Int) = (rnF P t k : Nat) := by rw [hrn']
            have hyv : yF lo B k = Y := hyy
            obtain ⟨M, hM⟩ : ∃ M : Int, max ((R : Nat) : Int) ((k : Int) - hi) = M := ⟨_, rfl⟩
            have hmax : ∀ w, (Builtin.max_ #[3, 3] 3 #[.int .i64 ((R : Nat) : Int), .int .i64 ((k : Int) - hi)]).run Tryd.prog w = .ok (.int .i64 M) w := by
              intro w
              rw [run_max_int2, ← hM]
              congr 2
              split <;> omega
            rw [← hrx, hM, hyv] at hacc
            have HR : Hid (((R : Nat) : Int) = (rnF P t k : Nat)) := hrx
            have HYv : Hid (yF lo B k = Y) := hyv
            have HMM : Hid (max ((R : Nat) : Int) ((k : Int) - hi) = M) := hM
            clear hrx hyv hM hrn
            cases hac : accF P lo hi B t k with
            | true =>
              rw [hac] at hacc
              have hle : M ≤ Y := by simpa using hacc.symm
              rw [hac, if_pos rfl] at hcs
              obtain ⟨fn, tmps, assign, body, hy, hR⟩ := hY _ k _ hJc (by rw [hcs] at hlen2; simp at hlen2; omega)
              clear hacc
              gi_wp2_with fail
              refine hR.mono ?_
              rintro e W3 (⟨rfl, hJ3, hk3⟩ | ⟨rfl, hJx3⟩)
              · gi_wp2
                go_roundw
                case rel => exact ⟨k + 1, by omega, by go_num, by rw [HR.out]; rfl, by rw [← HYv.out]; rfl, by rw [hcs]; exact hJ3, hXc.trans hk3⟩
                case measure => simp [intOf]; omega
              · gi_wp2
                refine bodyPost_ret (results_none rfl _ _ _) rfl ?_
                exact ⟨⟨_, rfl⟩, .inr ⟨_, trivial, hJx3⟩⟩
            | false =>
              rw [hac] at hacc
              have hle : ¬ M ≤ Y := by simpa using hacc.symm
              rw [hac, if_neg (by decide), List.append_nil] at hcs
              clear hacc
              gi_wp2_with fail
              refine ⟨fun f h => (by cases h), ?_⟩
              gi_wp2
              go_roundw
              case rel => exact ⟨k + 1, by omega, by go_num, by rw [HR.out]; rfl, by rw [← HYv.out]; rfl, by rw [hcs]; exact hJc, hXc⟩
              case measure => simp [intOf]; omega
        | true =>
          have hrn' : rnF P t k = k := by rw [hrn, hnb]; rfl
          by_cases hlk : lo ≤ k
          · have hlk' : (lo : Int) ≤ k := by omega
            obtain ⟨q, hq⟩ : ∃ q, k - lo = q := ⟨_, rfl⟩
            have hql : (k : Int) - lo = (q : Nat) := by omega
            have hqn : (q : Int) < (n : Int) + 1 := by omega
            have hwq : IntKind.i64.wrap ((k : Int) - lo) = q := by rw [wrapi64_in _ (by omega) (by omega)]; exact hql
            have cg := hEc.kg.cell q (bls_get B (by omega))
            cases hB : B q with
            | true =>
              rw [hB] at cg
              have hyy := yF_yes (B := B) hlk (by rw [hq]; exact hB)
              rw [hql] at hyy
              clear hq
              have hrx : ((k : Nat) : Int) = (rnF P t k : Nat) := by rw [hrn']
              have hyv : yF lo B k = ((q : Nat) : Int) := hyy
              obtain ⟨M, hM⟩ : ∃ M : Int, max ((k : Nat) : Int) ((k : Int) - hi) = M := ⟨_, rfl⟩
              have hmax : ∀ w, (Builtin.max_ #[3, 3] 3 #[.int .i64 ((k : Nat) : Int), .int .i64 ((k : Int) - hi)]).run Tryd.prog w = .ok (.int .i64 M) w := by
                intro w
                rw [run_max_int2, ← hM]
                congr 2
                split <;> omega
              rw [← hrx, hM, hyv] at hacc
              have HR : Hid (((k : Nat) : Int) = (rnF P t k : Nat)) := hrx
              have HYv : Hid (yF lo B k = ((q : Nat) : Int)) := hyv
              have HMM : Hid (max ((k : Nat) : Int) ((k : Int) - hi) = M) := hM
              clear hrx hyv hM hrn
              cases hac : accF P lo hi B t k with
              | true =>
                rw [hac] at hacc
                have hle : M ≤ ((q : Nat) : Int) := by simpa using hacc.symm
                rw [hac, if_pos rfl] at hcs
                obtain ⟨fn, tmps, assign, body, hy, hR⟩ := hY _ k _ hJc (by rw [hcs] at hlen2; simp at hlen2; omega)
                clear hacc
                gi_wp2_with fail
                refine hR.mono ?_
                rintro e W3 (⟨rfl, hJ3, hk3⟩ | ⟨rfl, hJx3⟩)
                · gi_wp2
                  go_roundw
                  case rel => exact ⟨k + 1, by omega, by go_num, by rw [HR.out]; rfl, by rw [← HYv.out]; rfl, by rw [hcs]; exact hJ3, hXc.trans hk3⟩
                  case measure => simp [intOf]; omega
                · gi_wp2
                  refine bodyPost_ret (results_none rfl _ _ _) rfl ?_
                  exact ⟨⟨_, rfl⟩, .inr ⟨_, trivial, hJx3⟩⟩
              | false =>
                rw [hac] at hacc
                have hle : ¬ M ≤ ((q : Nat) : Int) := by simpa using hacc.symm
                rw [hac, if_neg (by decide), List.append_nil] at hcs
                clear hacc
                gi_wp2_with fail
                refine ⟨fun f h => (by cases h), ?_⟩
                gi_wp2
                go_roundw
                case rel => exact ⟨k + 1, by omega, by go_num, by rw [HR.out]; rfl, by rw [← HYv.out]; rfl, by rw [hcs]; exact hJc, hXc⟩
                case measure => simp [intOf]; omega
            | false =>
              rw [hB] at cg
              have hyy := yF_no (lo := lo) (B := B) (k := k) (fun h => by rw [hq, hB] at h; exact absurd h.2 (by decide))
              rw [hYe] at hyy
              clear hq
              have hrx : ((k : Nat) : Int) = (rnF P t k : Nat) := by rw [hrn']
              have hyv : yF lo B k = Y := hyy
              obtain ⟨M, hM⟩ : ∃ M : Int, max ((k : Nat) : Int) ((k : Int) - hi) = M := ⟨_, rfl⟩
              have hmax : ∀ w, (Builtin.max_ #[3, 3] 3 #[.int .i64 ((k : Nat) : Int), .int .i64 ((k : Int) - hi)]).run Tryd.prog w = .ok (.int .i64 M) w := by
                intro w
                rw [run_max_int2, ← hM]
                congr 2
                split <;> omega
              rw [← hrx, hM, hyv] at hacc
              have HR : Hid (((k : Nat) : Int) = (rnF P t k : Nat)) := hrx
              have HYv : Hid (yF lo B k = Y) := hyv
              have HMM : Hid (max ((k : Nat) : Int) ((k : Int) - hi) = M) := hM
              clear hrx hyv hM hrn
              cases hac : accF P lo hi B t k with
              | true =>
                rw [hac] at hacc
                have hle : M ≤ Y := by simpa using hacc.symm
                rw [hac, if_pos rfl] at hcs
                obtain ⟨fn, tmps, assign, body, hy, hR⟩ := hY _ k _ hJc (by rw [hcs] at hlen2; simp at hlen2; omega)
                clear hacc
                gi_wp2_with fail
                refine hR.mono ?_
                rintro e W3 (⟨rfl, hJ3, hk3⟩ | ⟨rfl, hJx3⟩)
                · gi_wp2
                  go_roundw
                  case rel => exact ⟨k + 1, by omega, by go_num, by rw [HR.out]; rfl, by rw [← HYv.out]; rfl, by rw [hcs]; exact hJ3, hXc.trans hk3⟩
                  case measure => simp [intOf]; omega
                · gi_wp2
                  refine bodyPost_ret (results_none rfl _ _ _) rfl ?_
                  exact ⟨⟨_, rfl⟩, .inr ⟨_, trivial, hJx3⟩⟩
              | false =>
                rw [hac] at hacc
                have hle : ¬ M ≤ Y := by simpa using hacc.symm
                rw [hac, if_neg (by decide), List.append_nil] at hcs
                clear hacc
                gi_wp2_with fail
                refine ⟨fun f h => (by cases h), ?_⟩
                gi_wp2
                go_roundw
                case rel => exact ⟨k + 1, by omega, by go_num, by rw [HR.out]; rfl, by rw [← HYv.out]; rfl, by rw [hcs]; exact hJc, hXc⟩
                case measure => simp [intOf]; omega
          · have hlk' : ¬ (lo : Int) ≤ k := by omega
            have hyy := yF_no (lo := lo) (B := B) (k := k) (fun h => hlk h.1)
            rw [hYe] at hyy
            have hrx : ((k : Nat) : Int) = (rnF P t k : Nat) := by rw [hrn']
            have hyv : yF lo B k = Y := hyy
            obtain ⟨M, hM⟩ : ∃ M : Int, max ((k : Nat) : Int) ((k : Int) - hi) = M := ⟨_, rfl⟩
            have hmax : ∀ w, (Builtin.max_ #[3, 3] 3 #[.int .i64 ((k : Nat) : Int), .int .i64 ((k : Int) - hi)]).run Tryd.prog w = .ok (.int .i64 M) w := by
              intro w
              rw [run_max_int2, ← hM]
              congr 2
              split <;> omega
            rw [← hrx, hM, hyv] at hacc
            have HR : Hid (((k : Nat) : Int) = (rnF P t k : Nat)) := hrx
            have HYv : Hid (yF lo B k = Y) := hyv
            have HMM : Hid (max ((k : Nat) : Int) ((k : Int) - hi) = M) := hM
            clear hrx hyv hM hrn
            cases hac : accF P lo hi B t k with
            | true =>
              rw [hac] at hacc
              have hle : M ≤ Y := by simpa using hacc.symm
              rw [hac, if_pos rfl] at hcs
              obtain ⟨fn, tmps, assign, body, hy, hR⟩ := hY _ k _ hJc (by rw [hcs] at hlen2; simp at hlen2; omega)
              clear hacc
              gi_wp2_with fail
              refine hR.mono ?_
              rintro e W3 (⟨rfl, hJ3, hk3⟩ | ⟨rfl, hJx3⟩)
              · gi_wp2
                go_roundw
                case rel => exact ⟨k + 1, by omega, by go_num, by rw [HR.out]; rfl, by rw [← HYv.out]; rfl, by rw [hcs]; exact hJ3, hXc.trans hk3⟩
                case measure => simp [intOf]; omega
              · gi_wp2
                refine bodyPost_ret (results_none rfl _ _ _) rfl ?_
                exact ⟨⟨_, rfl⟩, .inr ⟨_, trivial, hJx3⟩⟩
            | false =>
              rw [hac] at hacc
              have hle : ¬ M ≤ Y := by simpa using hacc.symm
              rw [hac, if_neg (by decide), List.append_nil] at hcs
              clear hacc
              gi_wp2_with fail
              refine ⟨fun f h => (by cases h), ?_⟩
              gi_wp2
              go_roundw
              case rel => exact ⟨k + 1, by omega, by go_num, by rw [HR.out]; rfl, by rw [← HYv.out]; rfl, by rw [hcs]; exact hJc, hXc⟩
              case measure => simp [intOf]; omega
    · obtain rfl : k = n + 1 := by omega
      gi_wp2
      go_end0
      exact ⟨⟨_, rfl⟩, .inl ⟨_, rfl, hJs⟩⟩
end Go.Proofs.YtehlmjjdegmnaaaDoor
