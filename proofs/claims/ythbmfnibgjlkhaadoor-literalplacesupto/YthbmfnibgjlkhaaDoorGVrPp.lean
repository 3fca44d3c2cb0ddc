/- Rows of values. The law's parts: the walk. -/
import Derived.Test.YthbmfnibgjlkhaaDoorGMvEmGrJoRpJk
import Derived.Test.YthbmfnibgjlkhaaDoorPn
namespace Go.Proofs.YthbmfnibgjlkhaaDoor
open Go.RowKit
def vals (M : Nat → Value) (n : Nat) : List Value := (List.range n).map M
theorem vals_len (M : Nat → Value) (n : Nat) : (vals M n).length = n := by simp [vals]
theorem vals_get (M : Nat → Value) {n i : Nat} (h : i < n) : (vals M n)[i]? = some (M i) := by simp [vals, h]
def updV (M : Nat → Value) (i : Nat) (v : Value) : Nat → Value := fun j => if j = i then v else M j
theorem vals_set (M : Nat → Value) (n i : Nat) (v : Value) : (vals M n).set i v = vals (updV M i v) n := by
  apply List.ext_getElem?
  intro q
  by_cases hq : q < n
  · rw [vals_get _ hq, List.getElem?_set]
    by_cases e : i = q
    · subst e; simp [vals_len, hq, updV]
    · rw [if_neg e, vals_get _ hq]; simp [updV, Ne.symm e]
  · rw [List.getElem?_eq_none (by simp [vals_len]; omega), List.getElem?_eq_none (by simp [vals_len]; omega)]
theorem b_tree : (Tryd.prog.info? 48).map (fun i => (i.zero, i.size, i.bytes)) = some (some (.agg #[.slice none 0 0]), 1, 24) := by kernel_rfl
end Go.Proofs.YthbmfnibgjlkhaaDoor
namespace Go.Proofs.YthbmfnibgjlkhaaDoor
open Go.RowKit Go.Shelf
attribute [local go_sem] Oper.semAt_some
theorem vals_snoc (M : Nat → Value) (n : Nat) : vals M (n + 1) = vals M n ++ [M n] := by simp [vals, List.range_succ]
theorem vals_congr {M M' : Nat → Value} {n : Nat} (h : ∀ i, i < n → M i = M' i) : vals M n = vals M' n := by
  apply List.map_congr_left
  intro i hi
  exact h i (by simpa using hi)
/-- A list of the parts that were told. -/
def Trs (x : Tre) (c : Int) (lo i : Nat) (O : Nat → Prop) (M : Nat → Value) (W : World) : Prop := ∀ p u, p < i → (pt c x)[p]? = some u → ∃ g cap, M p = .slice (some ⟨g, 0, none⟩) u.size cap ∧ RdN W (some ⟨g, 0, none⟩) u.size (nodes u) ∧ u.size ≤ cap ∧ ¬ O g ∧ lo ≤ g ∧ g < W.heap.size
structure TI (w : World) (x : Tre) (c : Int) (b b5 i : Nat) (O : Nat → Prop) (W : World) (v : Value) (M : Nat → Value) : Prop where
  box : Cl W b5 62 [v]
  row : W.ownsRow (b + 2) 48 1 v i (vals M i)
  trs : Trs x c (b + 2) i O M W
  bel : Below w.heap.size w W
  own : ∀ k, v.ownBlock = some k → ¬ O k ∧ k < W.heap.size
  oge : ∀ k, O k → b ≤ k
  sz : b ≤ W.heap.size
  z : i = 0 → v = .slice none 0 0
theorem row_at {W W' : World} {B e s n : Nat} {v : Value} {xs : List Value} (h : W.ownsRow B e s v n xs) (hs : ∀ g, v.ownBlock = some g → W'.heap[g]? = W.heap[g]?) : W'.ownsRow B e s v n xs := by
  refine ⟨h.1, ?_⟩
  rcases h.2 with h' | ⟨g, cap, cur, e', hB, hc, r⟩
  · exact .inl h'
  · refine .inr ⟨g, cap, cur, e', hB, ?_, r⟩
    rw [hs g (by rw [e']; simp [Value.ownBlock])]
    exact hc
theorem Trs.at_ {x : Tre} {c : Int} {lo i : Nat} {O O' : Nat → Prop} {M : Nat → Value} {A B : World} (h : Trs x c lo i O M A) (hs : A.heap.size ≤ B.heap.size) (hb : ∀ k, k < A.heap.size → lo ≤ k → ¬ O k → (∃ v, A.cell? ⟨k, 0, none⟩ = some (.int .i64 v)) → B.heap[k]? = A.heap[k]?) (ho : ∀ k, k < A.heap.size → O' k → O k) : Trs x c lo i O' M B := by
  intro p u hp hu
  obtain ⟨g, cap, e, hr, hc, hO, hlo, hlt⟩ := h p u hp hu
  refine ⟨g, cap, e, hr.at_blocks (hb g hlt hlo hO ?_) hs, hc, fun h' => hO (ho g hlt h'), hlo, Nat.lt_of_lt_of_le hlt hs⟩
  obtain ⟨bb, off, e', _, hcs⟩ := hr u.size_pos
  obtain ⟨rfl, rfl⟩ : g = bb ∧ 0 = off := by simpa using e'
  exact ⟨_, by simpa using (hcs 0 u.size_pos).1⟩
/-- What parts answers. -/
def RetPs (w : World) (x : Tre) (c : Int) (e : Ending) (w' : World) : Prop := ∃ ao cap M, e = .returned (.slice ao (pt c x).length cap) ∧ w'.ownsRow w.heap.size 48 1 (.slice ao (pt c x).length cap) (pt c x).length (vals M (pt c x).length) ∧ Trs x c w.heap.size (pt c x).length (fun _ => False) M w' ∧ Below w.heap.size w w'
theorem b_tree1 : (Tryd.prog.info? 48).map (fun i => (i.zero, i.size, i.bytes)) = some (some (.agg #[.slice none 0 0]), 1, 24) := b_tree
theorem pt_le (c : Int) : ∀ u : Tre, (pt c u).length ≤ u.size
  | .leaf _ => by simp [pt, Tre.size]
  | .two k x y => by
    unfold pt
    have := pt_le c x
    have := pt_le c y
    split
    · simp [Tre.size]; omega
    · simp [Tre.size]
  | .rep _ _ _ _ => by simp [pt, Tre.size]
theorem TI.bears {w : World} {x : Tre} {c : Int} {b b5 i : Nat} {O O' : Nat → Prop} {A B : World} {v : Value} {M : Nat → Value} (h : TI w x c b b5 i O A v M) (h5 : b5 < b) (hw : w.heap.size ≤ b) (ht : TurnO O A B) (ho : ∀ k, k < A.heap.size → O' k → O k) : TI w x c b b5 i O' B v M := by
  have hn5 : ¬ O b5 := fun h' => by have := h.oge b5 h'; omega
  refine ⟨by unfold Cl; rw [ht.block b5 h.box.lt hn5]; exact h.box, row_at h.row (fun g hg => ht.block g (h.own g hg).2 (h.own g hg).1), h.trs.at_ ht.size (fun k hk _ hO _ => ht.block k hk hO) ho, ⟨ht.os.trans h.bel.os, ht.tape.trans h.bel.tape, ht.output.trans h.bel.output, Nat.le_trans h.bel.size ht.size, fun k hk => (ht.block k (Nat.lt_of_lt_of_le hk h.bel.size) (fun h' => by have := h.oge k h'; omega)).trans (h.bel.block k hk)⟩, fun k hk => ⟨fun h' => (h.own k hk).1 (ho k (h.own k hk).2 h'), Nat.lt_of_lt_of_le (h.own k hk).2 ht.size⟩, fun k hk => ?_, Nat.le_trans h.sz ht.size, h.z⟩
  rcases Nat.lt_or_ge k A.heap.size with h' | h'
  · exact h.oge k (ho k h' hk)
  · have := h.sz; omega
theorem TI.turn {w : World} {x : Tre} {c : Int} {b b5 i : Nat} {O : Nat → Prop} {A B : World} {v : Value} {M : Nat → Value} (h : TI w x c b b5 i O A v M) (h5 : b5 < b) (hw : w.heap.size ≤ b) (ht : Turn b A B) : TI w x c b b5 i O B v M :=
  ⟨by unfold Cl; rw [ht.block b5 h.box.lt (.inl h5)]; exact h.box, row_at h.row (fun g hg => ht.block g (h.own g hg).2 (.inr (ownsRow_own h.row g hg))), h.trs.at_ ht.size (fun k hk hlo _ _ => ht.block k hk (.inr hlo)) (fun _ _ h' => h'), ⟨ht.os.trans h.bel.os, ht.tape.trans h.bel.tape, ht.output.trans h.bel.output, Nat.le_trans h.bel.size ht.size, fun k hk => (ht.block k (Nat.lt_of_lt_of_le hk h.bel.size) (.inl (by omega))).trans (h.bel.block k hk)⟩, fun k hk => ⟨(h.own k hk).1, Nat.lt_of_lt_of_le (h.own k hk).2 ht.size⟩, h.oge, Nat.le_trans h.sz ht.size, h.z⟩
def fr25 (a : Option Addr) (n c : Nat) (k : Int) (X nb : Nat) (u : Nat → Value) : Array Value := #[.agg #[.slice a n c], .int .i64 k, u 2, u 3, u 4, .pointer (some ⟨X, 0, none⟩), u 6, .pointer (some ⟨nb, 0, none⟩), u 8, u 9, u 10, u 11, u 12, u 13, u 14, u 15, u 16, u 17, u 18, u 19]
def Fr25 (a : Option Addr) (n c : Nat) (k : Int) (X nb : Nat) (tm : Array Value) : Prop := ∃ u, tm = fr25 a n c k X nb u
theorem Fr25.of {a : Option Addr} {n c : Nat} {k : Int} {X nb : Nat} (tm : Array Value) (h : tm = fr25 a n c k X nb (nth tm.toList)) : Fr25 a n c k X nb tm := ⟨_, h⟩
end Go.Proofs.YthbmfnibgjlkhaaDoor
