/- Ported: TvTa. -/
import Derived.Test.YtobgmgpclcfkcaaTvb
import Derived.Test.YtobgmgpclcfkcaaTvc
import Derived.Test.YtobgmgpclcfkcaaTvd
import Derived.Test.YtobgmgpclcfkcaaTve
namespace Go.Proofs.Ytobgmgpclcfkcaa.T
open Go.RowKit
/-- Rows of bools, each in a block of its own. -/
structure RowsB (W : World) (B N : Nat) (b : Nat → Nat) (k : Nat) (p : Nat → Nat → Bool) : Prop where
  lo : ∀ i, i < k → B ≤ b i
  up : ∀ i j, i < j → j < k → b i < b j
  row : ∀ i, i < k → Cl W (b i) 4 (bools (p i) N)
theorem RowsB.below {W W' : World} {B N k : Nat} {b : Nat → Nat} {p : Nat → Nat → Bool} (h : RowsB W B N b k p) (hb : Below W.heap.size W W') : RowsB W' B N b k p :=
  ⟨h.lo, h.up, fun i hi => (h.row i hi).below hb⟩
theorem RowsB.at_ {W W' : World} {B N k : Nat} {b : Nat → Nat} {p : Nat → Nat → Bool} (h : RowsB W B N b k p) (hb : ∀ g vs, Cl W g 4 vs → W'.heap[g]? = W.heap[g]?) : RowsB W' B N b k p :=
  ⟨h.lo, h.up, fun i hi => by have := h.row i hi; have e := hb _ _ this; unfold Cl at *; rw [e]; exact this⟩
theorem RowsB.inj {W : World} {B N k : Nat} {b : Nat → Nat} {p : Nat → Nat → Bool} (h : RowsB W B N b k p) {i j : Nat} (hi : i < k) (hj : j < k) (e : b i = b j) : i = j := by
  rcases Nat.lt_trichotomy i j with h1 | h1 | h1
  · have := h.up i j h1 hj; omega
  · exact h1
  · have := h.up j i h1 hi; omega
def upd2 (p : Nat → Nat → Bool) (i j : Nat) (x : Bool) : Nat → Nat → Bool := fun i' j' => if i' = i ∧ j' = j then x else p i' j'
theorem bools_upd (p : Nat → Bool) (n j : Nat) (x : Bool) : (bools p n).set j (.bool x) = bools (fun j' => if j' = j then x else p j') n := by
  apply List.ext_getElem?
  intro q
  rw [List.getElem?_set]
  by_cases hj : j = q
  · subst hj
    rw [if_pos rfl, bools_len]
    by_cases hi : j < n
    · rw [if_pos hi, bools_get _ hi]; simp
    · rw [if_neg hi, List.getElem?_eq_none (by rw [bools_len]; omega)]
  · rw [if_neg hj]
    by_cases hi : q < n
    · rw [bools_get _ hi, bools_get _ hi, if_neg (fun e => hj e.symm)]
    · rw [List.getElem?_eq_none (by rw [bools_len]; omega), List.getElem?_eq_none (by rw [bools_len]; omega)]
theorem RowsB.set {W : World} {B N k : Nat} {b : Nat → Nat} {p : Nat → Nat → Bool} (h : RowsB W B N b k p) {i : Nat} (hi : i < k) (j : Nat) (x : Bool) : RowsB (W.setCell ⟨b i, j, none⟩ (.bool x)) B N b k (upd2 p i j x) := by
  refine ⟨h.lo, h.up, fun i' hi' => ?_⟩
  by_cases e : i' = i
  · subst e
    have := (h.row i' hi').set j (.bool x)
    rw [bools_upd] at this
    have e2 : (fun j' => if j' = j then x else p i' j') = upd2 p i' j x i' := by funext q; simp [upd2]
    rwa [e2] at this
  · have e2 : upd2 p i j x i' = p i' := by funext q; simp [upd2, e]
    rw [e2]
    exact (h.row i' hi').other (fun e' => e (h.inj hi' hi e'.symm)) _ _
/-- A table. -/
def RT (W : World) (B g N : Nat) (p : Nat → Nat → Bool) : Prop := B ≤ g ∧ ∃ (b : Nat → Nat) (cur : Array Value), W.heap[g]? = some (.cells cur 57 (0, 0)) ∧ (∀ i, i < N → cur[i]? = some (.slice (some ⟨b i, 0, none⟩) N N)) ∧ RowsB W B N b N p
theorem RT.below {W W' : World} {B g N : Nat} {p : Nat → Nat → Bool} (h : RT W B g N p) (hb : Below W.heap.size W W') : RT W' B g N p := by
  obtain ⟨h0, b, cur, h1, h2, h3⟩ := h
  exact ⟨h0, b, cur, (hb.block g (Array.getElem?_eq_some_iff.1 h1).1).trans h1, h2, h3.below hb⟩
theorem RT.lower {W : World} {B B' g N : Nat} {p : Nat → Nat → Bool} (h : RT W B g N p) (hB : B' ≤ B) : RT W B' g N p := by
  obtain ⟨h0, b, cur, h1, h2, h3⟩ := h
  exact ⟨by omega, b, cur, h1, h2, ⟨fun i hi => by have := h3.lo i hi; omega, h3.up, h3.row⟩⟩
theorem RT.congr {W : World} {B g N : Nat} {p q : Nat → Nat → Bool} (h : RT W B g N p) (e : ∀ i j, i < N → j < N → p i j = q i j) : RT W B g N q := by
  obtain ⟨h0, b, cur, h1, h2, h3⟩ := h
  exact ⟨h0, b, cur, h1, h2, ⟨h3.lo, h3.up, fun i hi => by rw [← bools_congr (fun j hj => e i j hi hj)]; exact h3.row i hi⟩⟩
/-- What can be read of it, and written. -/
theorem RT.get {W : World} {B g N : Nat} {p : Nat → Nat → Bool} (h : RT W B g N p) {i : Nat} (hi : i < N) : ∃ b, B ≤ b ∧ g < W.heap.size ∧ b < W.heap.size ∧ W.cell? ⟨g, i, none⟩ = some (.slice (some ⟨b, 0, none⟩) N N) ∧ (∀ j, j < N → W.cell? ⟨b, j, none⟩ = some (.bool (p i j))) ∧ (∀ j, W.frozen? ⟨b, j, none⟩ = false) ∧ ∀ (A : World), Below W.heap.size W A → ∀ j x, RT (A.setCell ⟨b, j, none⟩ (.bool x)) B g N (upd2 p i j x) := by
  obtain ⟨h0, b, cur, h1, h2, h3⟩ := h
  have hg := (Array.getElem?_eq_some_iff.1 h1).1
  refine ⟨b i, h3.lo i hi, hg, (h3.row i hi).lt, by rw [cell_of_row W g i cur 57 (0, 0) h1]; exact h2 i hi, fun j hj => (h3.row i hi).cell j (bools_get _ hj), fun j => (h3.row i hi).frozen j, fun A hA j x => ?_⟩
  have h3' := h3.below hA
  refine ⟨h0, b, cur, ?_, h2, h3'.set hi j x⟩
  rw [Below.heap_setCell _ _ _ _ ((h3.row i hi).ne h1 (by decide)), hA.block g hg]
  exact h1
/-- What a call answers that makes a table. -/
def RetR (w : World) (N : Nat) (p : Nat → Nat → Bool) (e : Ending) (w' : World) : Prop := ∃ g cap, e = .returned (.slice (some ⟨g, 0, none⟩) N cap) ∧ RT w' w.heap.size g N p ∧ Below w.heap.size w w'
theorem own_ne {W : World} {base k c : Nat} {v : Value} {xs vs : List Value} {e t : TypeId} (h : W.ownsRow base e 1 v k xs) (hc : Cl W c t vs) (ht : t ≠ e) : some c ≠ v.ownBlock := fun he => by
  rcases h.2 with ⟨rfl, _⟩ | ⟨g, cap, cur, rfl, _, hg, _⟩
  · simp [Value.ownBlock] at he
  · simp [Value.ownBlock] at he
    subst he
    exact hc.ne hg ht rfl
/-- empty's loop. -/
structure EmI (w : World) (N k : Nat) (v : Value) (W : World) : Prop where
  own : ∃ b, W.ownsRow w.heap.size 57 1 v k (vals (fun i => .slice (some ⟨b i, 0, none⟩) N N) k) ∧ RowsB W w.heap.size N b k (fun _ _ => false)
  bel : Below w.heap.size w W
set_option maxRecDepth 10000 in
set_option maxHeartbeats 2000000 in
theorem empty36_any (n : Nat) (w : World) (hn : n ≤ 24) : Calls Try.prog 45 #[.int .i64 (n : Nat)] w (RetR w (n + 1) (fun _ _ => false)) := by
  obtain ⟨N, hNe⟩ : ∃ N, n + 1 = N := ⟨_, rfl⟩
  have hN : N ≤ 25 := by omega
  obtain ⟨i0, hi, hz0, hz1, hz2⟩ := info_parts b_brow
  have hmk2 : ∀ W, (Instr.makeSlice 57 (.int .i64 ((n : Int) + 1)) (.int .i64 ((n : Int) + 1))).run Try.prog W = .ok (.slice (some ⟨W.heap.size, 0, none⟩) N N) (W.alloc (.cells (bools (fun _ => false) N).toArray 4)) := fun W => by
    have := make_any (P := Try.prog) N hN Try.underlying57 b_bool (by omega) rfl W
    rwa [show (N : Int) = (n : Int) + 1 by omega] at this
  have hni : (n : Int) ≤ 24 := by omega
  rw [hNe]
  go_enter Try.func45, Try.ntmps45
  go_wp2_with fail
  go_loopw [3, 4] (fun v i wr => ∃ k : Nat, k ≤ N ∧ i = .int .i64 (k : Nat) ∧ EmI w N k v wr) (fun _ i _ => N - (intOf i).toNat)
  case atStart => exact ⟨0, Nat.zero_le _, rfl, ⟨fun _ => 0, World.ownsRow_nil _ _ _ _, ⟨fun i h => by omega, fun i j _ h => by omega, fun i h => by omega⟩⟩, Below.refl _ _⟩
  case round =>
    obtain ⟨k, hk, rfl, ⟨b, hown, hrows⟩, hbel⟩ := hrel
    by_cases hlt : k < N
    · have hki : (k : Int) ≤ (n : Int) := by omega
      obtain ⟨vo, vc, rfl⟩ := ownsRow_slice hown
      have hb2 := below2 wr (.cells (bools (fun _ => false) N).toArray 4) (.cells #[.slice (some ⟨wr.heap.size, 0, none⟩) N N] 57)
      have kn : Cl ((wr.alloc (.cells (bools (fun _ => false) N).toArray 4)).alloc (.cells #[.slice (some ⟨wr.heap.size, 0, none⟩) N N] 57)) wr.heap.size 4 (bools (fun _ => false) N) := (Cl.new wr 4 _).alloc _
      have hown2 := ownsRow_below hown hb2
      have hsz := hbel.size
      go_wp2_with (at_builtin; refine wpList_append_own _ rfl _ _ 72 rfl w.heap.size 57 i0 (.slice none 0 0) 1 24 Try.underlying72 hi hz0 hz1 hz2 rfl (by decide) _ _ _ rfl hown2 ⟨wr.heap.size + 1, 0, none⟩ 1 1 [.slice (some ⟨wr.heap.size, 0, none⟩) N N] rfl rfl (by have := cell_one_new (wr.alloc (.cells (bools (fun _ => false) N).toArray 4)) (.slice (some ⟨wr.heap.size, 0, none⟩) N N) 57; simpa only [World.size_alloc] using this) (by simp [Value.oneCell']) (by unfold maxLen; omega) (by omega) (by simp; omega) ?_)
      intro v' w3 hown' hgrow _
      have hbw : Below w.heap.size _ w3 := (Below.refl _ _).grown hgrow (by simp; omega) (fun j e => ownsRow_own hown2 j e)
      have HE : Hid (EmI w N (k + 1) v' w3) := by
        refine ⟨⟨fun i => if i = k then wr.heap.size else b i, ?_, ?_⟩, hbel.trans ((hb2.mono hsz).trans hbw)⟩
        · have e : vals (fun i => Value.slice (some ⟨if i = k then wr.heap.size else b i, 0, none⟩) N N) (k + 1) = vals (fun i => .slice (some ⟨b i, 0, none⟩) N N) k ++ [.slice (some ⟨wr.heap.size, 0, none⟩) N N] := by
            unfold vals
            rw [List.range_succ, List.map_append]
            congr 1
            · apply List.map_congr_left
              intro i hi
              have := List.mem_range.1 hi
              rw [if_neg (by omega)]
            · simp
          rw [e]; exact hown'
        · have hr2 := hrows.below hb2
          have key : ∀ g vs, Cl ((wr.alloc (.cells (bools (fun _ => false) N).toArray 4)).alloc (.cells #[.slice (some ⟨wr.heap.size, 0, none⟩) N N] 57)) g 4 vs → Cl w3 g 4 vs := fun g vs hg => by
            have := hgrow.block g hg.lt (own_ne hown2 hg (by decide))
            unfold Cl at *; rw [this]; exact hg
          refine ⟨fun i hi => ?_, fun i j hij hj => ?_, fun i hi => ?_⟩
          · by_cases e : i = k
            · simp only [e, if_true]; omega
            · simp only [e, if_false]; exact hrows.lo i (by omega)
          · have hik : ¬ i = k := by omega
            simp only [hik, if_false]
            by_cases e : j = k
            · simp only [e, if_true]; exact (hrows.row i (by omega)).lt
            · simp only [e, if_false]; exact hrows.up i j hij (by omega)
          · by_cases e : i = k
            · simp only [e, if_true]; exact key _ _ kn
            · simp only [e, if_false]; exact key _ _ (hr2.row i (by omega))
      obtain ⟨vo', vc', rfl⟩ := ownsRow_slice hown'
      clear hown' hgrow hown hown2 hrows hbw kn hb2
      go_wp2_with fail
      go_roundw
      case rel => exact ⟨k + 1, by omega, by go_num, HE.out⟩
      case measure => simp [intOf]; omega
    · obtain rfl : k = N := by omega
      have hki : ¬ (k : Int) ≤ (n : Int) := by omega
      obtain ⟨vo, vc, rfl⟩ := ownsRow_slice hown
      have HR : Hid (RetR w k (fun _ _ => false) (.returned (.slice vo k vc)) wr) := by
        rcases hown.2 with ⟨_, h0⟩ | ⟨g, cap, cur, e, hB, hg, hle, hm, hs, ht⟩
        · omega
        · simp only [Value.slice.injEq] at e
          obtain ⟨rfl, _, rfl⟩ := e
          refine ⟨g, vc, rfl, ⟨hB, b, cur, hg, fun i hi => ?_, hrows⟩, hbel⟩
          have e : cur.toList[i]? = (vals (fun i => Value.slice (some ⟨b i, 0, none⟩) k k) k)[i]? := by rw [← ht, List.getElem?_take, if_pos (by omega)]
          rw [← Array.getElem?_toList, e, vals_get _ hi]
      clear hown hrows
      go_wp2_with fail
      go_ret
      exact HR.out
end Go.Proofs.Ytobgmgpclcfkcaa.T
