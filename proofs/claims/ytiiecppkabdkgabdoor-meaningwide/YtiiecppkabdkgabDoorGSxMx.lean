/- Where what ends at a place begins first: plain facts. Loops that range over functions: the marks that they leave; worlds that differ in one block. -/
import Derived.Test.YtiiecppkabdkgabDoorGHcRrWtTwSw
import Derived.Test.YtiiecppkabdkgabDoorGNbStSoSpSaNl
import Derived.Test.YtiiecppkabdkgabDoorMt
namespace Go.Proofs.YtiiecppkabdkgabDoor
/-- The least place ahead of j, and below r, from which on something ends at j, or -1. -/
def stK (T : Tab) (r j : Nat) : Int := match (List.range (min r j)).find? (fun i => T i (j - i)) with
  | some i => (i : Int)
  | none => -1
def stT (T : Tab) (j : Nat) : Int := stK T j j
/-- The same, with some widths of row r. -/
def stP (T : Tab) (r : Nat) (S : List Nat) (j : Nat) : Int := if stK T r j = -1 ∧ (S.any fun d => decide (0 < d) && decide (r + d = j)) = true then (r : Int) else stK T r j
theorem stK_zero (T : Tab) (j : Nat) : stK T 0 j = -1 := by simp [stK]
theorem stK_lt (T : Tab) (r j : Nat) : -1 ≤ stK T r j ∧ stK T r j < (r : Int) + 1 := by
  unfold stK
  split
  · rename_i i h
    have := List.mem_of_find?_eq_some h
    simp at this
    omega
  · omega
theorem stK_big (T : Tab) {r j : Nat} (h : j ≤ r) : stK T r j = stT T j := by
  unfold stT stK
  rw [Nat.min_eq_right h, Nat.min_self]
theorem stK_succ (T : Tab) (r j : Nat) : stK T (r + 1) j = if stK T r j = -1 ∧ r < j ∧ T r (j - r) = true then (r : Int) else stK T r j := by
  by_cases h : r < j
  · unfold stK
    rw [Nat.min_eq_left (by omega : r + 1 ≤ j), Nat.min_eq_left (by omega : r ≤ j), List.range_succ, List.find?_append]
    cases hf : (List.range r).find? (fun i => T i (j - i)) with
    | some i =>
      simp only [Option.some_or]
      rw [if_neg (by omega)]
    | none =>
      simp only [Option.none_or, h, true_and]
      cases ht : T r (j - r) with
      | true => simp [ht]
      | false => simp [ht]
  · rw [if_neg (by omega)]
    unfold stK
    rw [Nat.min_eq_right (by omega), Nat.min_eq_right (by omega)]
theorem stP_nil (T : Tab) (r : Nat) : stP T r [] = stK T r := by funext j; simp [stP]
theorem stP_all {N : Nat} (hN : N ≤ 25) (T : Tab) (r : Nat) {j : Nat} (hj : j < N) : stP T r (come (wrd N T r).testBit 64) j = stK T (r + 1) j := by
  rw [stK_succ]
  unfold stP
  have e : ((come (wrd N T r).testBit 64).any fun d => decide (0 < d) && decide (r + d = j)) = true ↔ r < j ∧ T r (j - r) = true := by
    rw [List.any_eq_true]
    constructor
    · rintro ⟨d, hd, h⟩
      obtain ⟨_, hb⟩ := come_mem.1 hd
      rw [wrd_bit hN] at hb
      simp at hb h
      obtain ⟨h1, rfl⟩ := h
      exact ⟨by omega, by rw [Nat.add_sub_cancel_left]; exact hb.2⟩
    · rintro ⟨h1, h2⟩
      refine ⟨j - r, come_mem.2 ⟨by omega, ?_⟩, by simp; omega⟩
      rw [wrd_bit hN, h2]
      simp; omega
  simp only [e]
theorem stP_no {T : Tab} {r : Nat} {S : List Nat} {d : Nat} (h : d = 0 ∨ stP T r S (r + d) ≠ -1) : stP T r (S ++ [d]) = stP T r S := by
  funext j
  unfold stP at *
  rw [List.any_append]
  simp only [List.any_cons, List.any_nil, Bool.or_false]
  by_cases hj : r + d = j
  · subst hj
    rcases h with rfl | h
    · simp
    · by_cases hs : stK T r (r + d) = -1
      · simp only [hs, true_and] at h ⊢
        cases hc : (S.any fun d' => decide (0 < d') && decide (r + d' = r + d)) with
        | true => simp
        | false => rw [hc] at h; simp at h
      · rw [if_neg (fun h' => hs h'.1), if_neg (fun h' => hs h'.1)]
  · simp [hj]
theorem stP_yes {T : Tab} {r : Nat} {S : List Nat} {d : Nat} (hd : 0 < d) (h : stP T r S (r + d) = -1) : stP T r (S ++ [d]) = updI (stP T r S) (r + d) (r : Int) := by
  funext j
  unfold updI
  by_cases hj : j = r + d
  · subst hj
    rw [if_pos rfl]
    unfold stP at *
    have hs : stK T r (r + d) = -1 := by
      split at h
      · omega
      · exact h
    rw [if_pos ⟨hs, by simp [hd]⟩]
  · rw [if_neg hj]
    unfold stP
    rw [List.any_append]
    simp only [List.any_cons, List.any_nil, Bool.or_false]
    have : ¬ r + d = j := by omega
    simp [this]
end Go.Proofs.YtiiecppkabdkgabDoor
namespace Go.Proofs.YtiiecppkabdkgabDoor
open Go.RowKit
def mkD (r : Nat) : Deferred := { target := .collected r, args := #[] }
/-- The marks of the loops that have gone by. -/
structure Marks (W : World) (ms : List Nat) : Prop where
  nodup : ms.Nodup
  at_ : ∀ r ∈ ms, W.heap[r]? = some (.deferred (some []))
structure Alike (ms : List Nat) (A B : World) : Prop where
  os : B.os = A.os
  tape : B.tape = A.tape
  output : B.output = A.output
  size : B.heap.size = A.heap.size
  block : ∀ k, k ∉ ms → B.heap[k]? = A.heap[k]?
theorem leaves_marks {F : Fence} {n : Nat} {P : Program} {fn : Func} {tmps : Array Value} {R : Ending → World → Prop} : ∀ (ms : List Nat) (W : World), Marks W ms →
    (∀ W', Alike ms W W' → LeavesIn F n P fn tmps R [] .returning W') → LeavesInM F n P fn tmps R (ms.map mkD) .returning W
  | [], W, _, h => h W ⟨rfl, rfl, rfl, rfl, fun _ _ => rfl⟩
  | r :: ms, W, hm, h => by
    have hr := hm.at_ r (by simp)
    have hnd := List.nodup_cons.1 hm.nodup
    refine ⟨by simp, .inl ⟨r, W.putObj r (.deferred none), rfl, run_takeDeferred hr, ?_⟩⟩
    refine leaves_marks ms _ ⟨hnd.2, fun k hk => ?_⟩ fun W' hW' => h W' ⟨hW'.os, hW'.tape, hW'.output, by rw [hW'.size]; simp, fun k hk => ?_⟩
    · rw [World.putObj_heap_other (fun e => by subst e; exact hnd.1 hk)]
      exact hm.at_ k (by simp [hk])
    · simp only [List.mem_cons, not_or] at hk
      rw [hW'.block k hk.2, World.putObj_heap_other hk.1]
/-- From A to B only one block, and what is new, is other. -/
structure But1 (b : Nat) (A B : World) : Prop where
  os : B.os = A.os
  tape : B.tape = A.tape
  output : B.output = A.output
  size : A.heap.size ≤ B.heap.size
  block : ∀ k, k < A.heap.size → k ≠ b → B.heap[k]? = A.heap[k]?
theorem But1.refl (b : Nat) (A : World) : But1 b A A := ⟨rfl, rfl, rfl, Nat.le_refl _, fun _ _ _ => rfl⟩
theorem But1.trans {b : Nat} {A B C : World} (h : But1 b A B) (k : But1 b B C) : But1 b A C :=
  ⟨k.os.trans h.os, k.tape.trans h.tape, k.output.trans h.output, Nat.le_trans h.size k.size, fun i h1 h2 => (k.block i (Nat.lt_of_lt_of_le h1 h.size) h2).trans (h.block i h1 h2)⟩
theorem But1.of_below {b : Nat} {A B : World} (h : Below A.heap.size A B) : But1 b A B := ⟨h.os, h.tape, h.output, h.size, fun k hk _ => h.block k hk⟩
theorem But1.set {b : Nat} {A B : World} (h : But1 b A B) (i : Nat) (v : Value) : But1 b A (B.setCell ⟨b, i, none⟩ v) :=
  by
  have hs : Below b B (B.setCell ⟨b, i, none⟩ v) := (Below.refl _ B).setCell (p := ⟨b, i, none⟩) (Nat.le_refl _) v
  exact ⟨hs.os.trans h.os, hs.tape.trans h.tape, hs.output.trans h.output, Nat.le_trans h.size hs.size, fun k h1 h2 => (Below.heap_setCell _ _ _ _ h2).trans (h.block k h1 h2)⟩
theorem But1.turn {b : Nat} {A B C : World} (h : But1 b A B) (ht : Turn A.heap.size B C) : But1 b A C :=
  ⟨ht.os.trans h.os, ht.tape.trans h.tape, ht.output.trans h.output, Nat.le_trans h.size ht.size, fun k h1 h2 => (ht.block k (Nat.lt_of_lt_of_le h1 h.size) (.inl h1)).trans (h.block k h1 h2)⟩
theorem But1.below {b B0 : Nat} {A B w : World} (h : But1 b A B) (hb : B0 ≤ b) (hw : Below B0 w A) (hsz : B0 ≤ w.heap.size) : Below B0 w B :=
  ⟨h.os.trans hw.os, h.tape.trans hw.tape, h.output.trans hw.output, Nat.le_trans hw.size h.size, fun k hk => (h.block k (Nat.lt_of_lt_of_le (Nat.lt_of_lt_of_le hk hsz) hw.size) (by omega)).trans (hw.block k hk)⟩
theorem Cl.but {b c : Nat} {A B : World} {t : TypeId} {vs : List Value} (h : Cl A c t vs) (hb : But1 b A B) (hc : c ≠ b) : Cl B c t vs := by
  unfold Cl; rw [hb.block c h.lt hc]; exact h
theorem TabZ.but {b : Nat} {A B : World} (h : TabZ A) (hb : But1 b A B) (hc : 0 ≠ b) : TabZ B :=
  ⟨Nat.lt_of_lt_of_le h.lt hb.size, fun i hi => by rw [← h.cell i hi]; simp only [World.cell?, hb.block 0 h.lt hc]⟩
theorem Cl.ne {A : World} {b c : Nat} {t t' : TypeId} {vs : List Value} {cur : Array Value} {fz : Nat × Nat} (h : Cl A b t vs) (h' : A.heap[c]? = some (.cells cur t' fz)) (ht : t ≠ t') : c ≠ b := fun e => by
  subst e
  unfold Cl at h
  rw [h'] at h
  injection h with h
  injection h with _ h
  exact ht h.symm
theorem Rows.but {b tb N k : Nat} {A B : World} {S : Nat → Nat} {t : TypeId} {vs : List Value} (h : Rows A tb N k S) (hb : But1 b A B) (hA : Cl A b t vs) (h1 : t ≠ 52) (h2 : t ≠ 39) : Rows B tb N k S := by
  obtain ⟨M, hM, hR⟩ := h
  refine ⟨M, hM.but hb (hA.ne hM h1), fun j h3 h4 => (hR j h3 h4).at_ fun g cur fz hg => hb.block g (Array.getElem?_eq_some_iff.1 hg).1 (hA.ne hg h2)⟩
theorem Marks.but {A B : World} {ms : List Nat} {b : Nat} {t : TypeId} {vs : List Value} (h : Marks A ms) (hb : But1 b A B) (hA : Cl A b t vs) : Marks B ms :=
  ⟨h.nodup, fun r hr => by
    have := h.at_ r hr
    rw [hb.block r (Array.getElem?_eq_some_iff.1 this).1 (fun e => by subst e; unfold Cl at hA; rw [this] at hA; cases hA)]
    exact this⟩
theorem Marks.cons {A : World} {ms : List Nat} {r : Nat} (h : Marks A ms) (hr : A.heap[r]? = some (.deferred (some []))) (hl : ∀ k ∈ ms, k < r) : Marks A (r :: ms) :=
  ⟨List.nodup_cons.2 ⟨fun hk => by have := hl r hk; omega, h.nodup⟩, fun k hk => by
    rcases List.mem_cons.1 hk with rfl | hk
    · exact hr
    · exact h.at_ k hk⟩
theorem Marks.lt {A : World} {ms : List Nat} (h : Marks A ms) : ∀ k ∈ ms, k < A.heap.size := fun k hk => (Array.getElem?_eq_some_iff.1 (h.at_ k hk)).1
theorem Cl.alike {A B : World} {ms : List Nat} {b : Nat} {t : TypeId} {vs : List Value} (h : Cl A b t vs) (hm : Marks A ms) (ha : Alike ms A B) : Cl B b t vs := by
  unfold Cl at *
  rw [ha.block b (fun hb => by rw [hm.at_ b hb] at h; cases h)]
  exact h
theorem Alike.below {A B w : World} {ms : List Nat} (ha : Alike ms A B) (hw : Below w.heap.size w A) (hm : ∀ r ∈ ms, w.heap.size ≤ r) : Below w.heap.size w B :=
  ⟨ha.os.trans hw.os, ha.tape.trans hw.tape, ha.output.trans hw.output, by rw [ha.size]; exact hw.size, fun k hk => (ha.block k fun h => by have := hm k h; omega).trans (hw.block k hk)⟩
end Go.Proofs.YtiiecppkabdkgabDoor
