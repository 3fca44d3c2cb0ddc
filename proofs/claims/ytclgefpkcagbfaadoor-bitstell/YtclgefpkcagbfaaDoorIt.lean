/- The numbers of a set, rising; bits.All and its iterator: the walks. -/
import Derived.Test.YtclgefpkcagbfaaDoorTz
import Derived.RangeFuncNested
import Derived.RangeFuncBound
import Derived.RangeFuncCalls
import Derived.RangeFuncLeaves
import Derived.RangeFuncBox
import Derived.Shelf.Abstract
import Derived.Shelf.RegionOpen
import Derived.OwnWalkIn
import Derived.TacticsInMore
import Derived.LoopNIn
import Derived.LoopIn
import Derived.Maps.AppendAt
namespace Go.Proofs.YtclgefpkcagbfaaDoor
open Go.RowKit Go.Shelf
/-- The numbers below k that P tells, rising. -/
def come (P : Nat → Bool) (k : Nat) : List Nat := (List.range k).filter P
/-- The bits of a word, as numbers from 64 i on. -/
def rest (i v : Nat) : List Nat := ((List.range 64).filter v.testBit).map (64 * i + ·)
theorem come_add (P : Nat → Bool) (a b : Nat) : come P (a + b) = come P a ++ ((List.range b).filter fun j => P (a + j)).map (a + ·) := by
  unfold come
  rw [List.range_add, List.filter_append, List.filter_map]
  rfl
theorem come_word {n len : Nat} {f : Nat → Nat} {P : Nat → Bool} (h : IsSet n len f P) {i : Nat} (hi : i < len) : come P (64 * (i + 1)) = come P (64 * i) ++ rest i (f i) := by
  rw [Nat.mul_add, Nat.mul_one, come_add]
  unfold rest
  congr 2
  apply List.filter_congr
  intro j hj
  have hj : j < 64 := List.mem_range.1 hj
  rw [← h.hbit _ (by omega)]
  unfold bitAt
  rw [show (64 * i + j) / 64 = i by omega, show (64 * i + j) % 64 = j by omega]
theorem rest_zero (i : Nat) : rest i 0 = [] := by
  unfold rest
  rw [List.filter_eq_nil_iff.2 (fun j _ => by simp)]
  rfl
theorem rest_low {i v k : Nat} (h : Low v k) (hk : k < 64) : rest i v = (64 * i + k) :: rest i (v &&& (v - 1)) := by
  unfold rest
  rw [← List.map_cons (f := (64 * i + ·))]
  congr 1
  obtain ⟨m, hm⟩ : ∃ m, 64 = k + (1 + m) := ⟨64 - k - 1, by omega⟩
  rw [hm, List.range_add, List.range_add, List.map_append, List.filter_append, List.filter_append, List.filter_append, List.filter_append]
  have e1 : (List.range k).filter v.testBit = [] := List.filter_eq_nil_iff.2 fun j hj => by rw [h.no j (List.mem_range.1 hj)]; simp
  have e2 : (List.range k).filter (v &&& (v - 1)).testBit = [] := List.filter_eq_nil_iff.2 fun j hj => by rw [clear_bit h, h.no j (List.mem_range.1 hj)]; simp
  rw [e1, e2]
  have e3 : (List.map (fun x => k + x) (List.range 1)).filter v.testBit = [k] := by simp [List.range_succ, h.yes]
  have e4 : (List.map (fun x => k + x) (List.range 1)).filter (v &&& (v - 1)).testBit = [] := by simp [List.range_succ, clear_bit h]
  rw [e3, e4, List.nil_append, List.nil_append, List.nil_append, List.singleton_append]
  congr 1
  apply List.filter_congr
  intro j hj
  simp only [List.mem_map, List.mem_range] at hj
  obtain ⟨a, ⟨b, _, rfl⟩, rfl⟩ := hj
  rw [clear_bit h]
  simp
theorem come_mono (P : Nat → Bool) {a b : Nat} (h : a ≤ b) : (come P a).length ≤ (come P b).length := by
  obtain ⟨c, rfl⟩ := Nat.exists_eq_add_of_le h
  rw [come_add]; simp
theorem come_all {P : Nat → Bool} {n : Nat} (h : ∀ i, n ≤ i → P i = false) {m : Nat} (hm : n ≤ m) : come P m = come P n := by
  obtain ⟨c, rfl⟩ := Nat.exists_eq_add_of_le hm
  rw [come_add, List.filter_eq_nil_iff.2 (fun j _ => by rw [h _ (by omega)]; simp)]
  simp
theorem come_lt {P : Nat → Bool} {n x : Nat} (h : x ∈ come P n) : x < n ∧ P x = true := by
  unfold come at h
  rw [List.mem_filter, List.mem_range] at h
  exact h
theorem come_len (P : Nat → Bool) (n : Nat) : (come P n).length ≤ n := by
  unfold come
  exact Nat.le_trans (List.length_filter_le _ _) (by simp)
attribute [local go_sem] Oper.semAt_some
/-- All blocks below n₀ but B are as they were. -/
structure Exc (B n₀ : Nat) (w w' : World) : Prop where
  size : w.heap.size ≤ w'.heap.size
  block : ∀ j, j < n₀ → j ≠ B → w'.heap[j]? = w.heap[j]?
theorem Exc.refl (B n₀ : Nat) (w : World) : Exc B n₀ w w := ⟨Nat.le_refl _, fun _ _ _ => rfl⟩
theorem Exc.trans {B n₀ : Nat} {a b c : World} (h : Exc B n₀ a b) (k : Exc B n₀ b c) : Exc B n₀ a c := ⟨Nat.le_trans h.size k.size, fun j hj hn => (k.block j hj hn).trans (h.block j hj hn)⟩
theorem Exc.cell {B n₀ : Nat} {w w' : World} (h : Exc B n₀ w w') {p : Addr} (hp : p.block < n₀) (hn : p.block ≠ B) : w'.cell? p = w.cell? p := World.cell?_of_block (w := w) (h.block p.block hp hn)
theorem Exc.put {B n₀ : Nat} {w : World} (hn : n₀ ≤ w.heap.size) (W : World) (l : Nat) (o o' : Obj) (hl : w.heap.size ≤ l) (h : W.heap[l]? = some o) : Exc B n₀ W (W.putObj l o') :=
  ⟨(grownBy_putObj' W l o').size, fun j hj _ => (grownBy_putObj' W l o').block j (by have := (Array.getElem?_eq_some_iff.1 h).1; omega) (by simp; omega)⟩
theorem Tab.exc {B n₀ : Nat} {w w' : World} (h : Tab w) (hb : Exc B n₀ w w') (hB : 0 < n₀) (h0 : 0 ≠ B) : Tab w' :=
  ⟨Nat.lt_of_lt_of_le h.lt hb.size, fun i hi => by rw [hb.cell (p := ⟨0, i, none⟩) hB h0]; exact h.cell i hi⟩
theorem sub_one_val {v : Nat} (h : v ≠ 0) (hv : v < 18446744073709551616) : bits BinOp.and .u64 (v : Int) ((v : Int) - 1) = ((v &&& (v - 1) : Nat) : Int) := by
  have e : (v : Int) - 1 = ((v - 1 : Nat) : Int) := by omega
  rw [e, u64_and_nat _ _ hv (by omega)]
set_option maxRecDepth 100000 in
set_option maxHeartbeats 2000000 in
/-- The iterator of All: all numbers, rising, for every loop body that keeps what lay below n₀ but block B. -/
theorem it_in {n len cap : Nat} {f : Nat → Nat} {P : Nat → Bool} {ao : Option Addr} (m l bc B n₀ : Nat) (hs : IsSet n len f P) (J Jx : List Nat → World → Prop) (hm : 1 ≤ m)
    (hY : ∀ pre x W, J pre W → pre.length < (come P (64 * len)).length → YieldAt Fence.wide (m - 1) Tryd.prog l #[.int .i64 (x : Nat)] W fun e W' =>
      (e = .returned (.bool true) ∧ J (pre ++ [x]) W' ∧ Exc B n₀ W W') ∨ (e = .returned (.bool false) ∧ Jx (pre ++ [x]) W'))
    (W : World) (hb : Box W bc (.int .i64 (n : Nat)) (.slice ao len cap)) (hr : Rd W ao len f) (hT : Tab W) (hblk : ∀ a, ao = some a → a.block < n₀ ∧ a.block ≠ B) (hn0 : 0 < n₀) (hB0 : 0 ≠ B) (h0 : J [] W) :
    CallsIn Fence.wide m Tryd.prog 38 #[.func (.yield l) #[] #[], .pointer (some ⟨bc, 0, none⟩)] W fun e W' => (∃ v, e = .returned v) ∧
      ((∃ ys, ys = come P (64 * len) ∧ J ys W') ∨ (∃ pre, True ∧ Jx pre W')) := by
  obtain ⟨c0, c1, f0, f1⟩ := hb.cells
  have hl8 : (len : Int) ≤ 128 := by have := hs.hle; have := hs.hlen; omega
  refine callsIn_of_wp Tryd.func38 rfl trivial ?_ rfl
  simp only [Tryd.ntmps38, List.size_toArray, List.length_cons, List.length_nil, Nat.reduceAdd, Nat.reduceSub, Array.replicate_succ, Array.replicate_zero, List.push_toArray, List.append_toArray, List.nil_append, List.cons_append]
  gi_wp2
  gi_loopw [8] (fun i wr => ∃ k : Nat, k ≤ len ∧ i = .int .i64 k ∧ J (come P (64 * k)) wr ∧ Exc B n₀ W wr) (fun i _ => len - (intOf i).toNat)
  case atStart => exact ⟨0, Nat.zero_le _, rfl, h0, Exc.refl _ _ _⟩
  case round =>
    obtain ⟨k, hk, rfl, hJs, hB⟩ := hrel
    by_cases hlt : k < len
    · obtain ⟨b, off, rfl, hbl, hc⟩ := hr.at_ (by omega)
      have t1 : wr.cell? ⟨b, off + k, none⟩ = some (.int .u64 (f k : Nat)) := by rw [hB.cell (p := ⟨b, off + k, none⟩) (hblk ⟨b, off, none⟩ rfl).1 (hblk ⟨b, off, none⟩ rfl).2]; exact hc k hlt
      have hki : (k : Int) < (len : Int) := by omega
      clear hc
      have hfk : f k < 18446744073709551616 := hr.small k hlt
      have hcw := come_word hs hlt
      have hlen2 : (come P (64 * (k + 1))).length ≤ (come P (64 * len)).length := come_mono P (by omega)
      clear hs c0 c1 f0 f1 hb hr
      gi_wp2
      gi_loopw [4] (fun u wv => ∃ (v : Nat) (pre : List Nat), u = .int .u64 (v : Nat) ∧ v < 18446744073709551616 ∧ pre ++ rest k v = come P (64 * (k + 1)) ∧ J pre wv ∧ Exc B n₀ W wv) (fun u _ => (intOf u).toNat)
      case atStart => exact ⟨f k, _, rfl, hfk, hcw.symm, hJs, hB⟩
      case round =>
        obtain ⟨v, pre, rfl, hv, hpre, hJv, hBv⟩ := hrel
        by_cases hv0 : v = 0
        · subst hv0
          rw [rest_zero, List.append_nil] at hpre
          subst hpre
          gi_wp2
          go_roundw
          case rel => exact ⟨k + 1, by omega, by go_num, hJv, hBv⟩
          case measure => simp [intOf]; omega
        · obtain ⟨kk, hkk, hlow⟩ := low_ex 64 v hv hv0
          rw [rest_low hlow hkk] at hpre
          obtain ⟨fn, tmps, assign, body, hy, hR⟩ := hY pre (64 * k + kk) _ hJv (by rw [← hpre] at hlen2; simp at hlen2; omega)
          have hcast : ((64 * k + kk : Nat) : Int) = (k : Int) * 64 + kk := by omega
          rw [hcast] at hy
          have hnz : ((v : Int) != 0) = true := by simpa using hv0
          have hTv := hT.exc hBv hn0 hB0
          gi_wp2_with (refine ⟨trivial, ?_⟩; gi_at_call 22; refine (callsIn_wide.2 (tz_any v kk _ hTv hlow hv)).mono ?_; rintro e w' ⟨rfl, rfl⟩)
          refine hR.mono ?_
          rintro e W3 (⟨rfl, hJ3, hk3⟩ | ⟨rfl, hJx3⟩)
          · have hsv := sub_one_val hv0 hv
            have hle : v &&& (v - 1) ≤ v - 1 := Nat.and_le_right
            gi_wp2
            go_roundw
            case rel => exact ⟨v &&& (v - 1), pre ++ [64 * k + kk], rfl, by omega, by simpa using hpre, hJ3, hBv.trans hk3⟩
            case measure => simp [intOf]; omega
          · gi_wp2
            refine bodyPost_ret (results_none rfl _ _ _) rfl ?_
            exact ⟨⟨_, rfl⟩, .inr ⟨_, trivial, hJx3⟩⟩
    · obtain rfl : k = len := by omega
      gi_wp2
      go_end0
      exact ⟨⟨_, rfl⟩, .inl ⟨_, rfl, hJs⟩⟩
set_option maxHeartbeats 1000000 in
/-- All: the copy in a box; the function value captures the box. -/
theorem all_mk {w : World} {x : Value} {n : Nat} {P : Nat → Bool} (h : Arg w x n P) :
    Calls Tryd.prog 29 #[x] w fun e w' => ∃ bc ao len cap f, e = .returned (.func (.func 38) #[] #[.pointer (some ⟨bc, 0, none⟩)]) ∧ Box w' bc (.int .i64 (n : Nat)) (.slice ao len cap) ∧ w.heap.size ≤ bc ∧
      Own w.heap.size w' ao len f ∧ IsSet n len f P ∧ Below w.heap.size w w' := by
  obtain ⟨m, a0, l0, c0, rfl⟩ := h.shape
  have hB0 : Below w.heap.size w (w.alloc (.cells #[.int .i64 m, .slice a0 l0 c0] 24)) := (Below.refl _ _).alloc (Nat.le_refl _) _
  go_enter Tryd.func29, Tryd.ntmps29
  go_wp2_with fail
  refine (copied_any (h.below hB0)).mono ?_
  rintro e w1 ⟨ao, len, cap, f, rfl, ho, hs, hb⟩
  have hB1 : Below w.heap.size w w1 := hB0.trans (hb.mono (by simp))
  have ho1 : Own w.heap.size w1 ao len f := ho.mono (by simp)
  have hsz : w.heap.size ≤ w1.heap.size := hB1.size
  have hmf : ∀ (fn : Fn) (first cap : Array Value) (w : World), (Instr.makeFunc fn first cap).run Tryd.prog w = .ok (.func fn first cap) w := fun _ _ _ _ => rfl
  clear hb ho hB0 h
  go_wp2
  go_ret
  exact ⟨w1.heap.size, ao, len, cap, f, rfl, Box.new w1 _ _, hsz, ho1.alloc _, hs, hB1.alloc hsz _⟩
end Go.Proofs.YtclgefpkcagbfaaDoor
