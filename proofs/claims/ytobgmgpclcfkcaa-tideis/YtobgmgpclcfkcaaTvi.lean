/- Ported: Tvi. -/
import Derived.Test.YtobgmgpclcfkcaaTvb
import Derived.Test.YtobgmgpclcfkcaaTvc
import Derived.Test.YtobgmgpclcfkcaaTve
import Derived.Test.YtobgmgpclcfkcaaTvTa
import Derived.Test.YtobgmgpclcfkcaaTvf
import Derived.Test.YtobgmgpclcfkcaaTvTh
namespace Go.Proofs.Ytobgmgpclcfkcaa.T
open Go.RowKit
theorem RT.keep {W W' : World} {B g N : Nat} {p : Nat → Nat → Bool} (h : RT W B g N p) (hk : ∀ (b : Nat) (cur : Array Value) (t : TypeId) (fz : Nat × Nat), t ≠ 72 → W.heap[b]? = some (.cells cur t fz) → W'.heap[b]? = W.heap[b]?) : RT W' B g N p := by
  obtain ⟨h0, b, cur, h1, h2, h3⟩ := h
  exact ⟨h0, b, cur, (hk g cur 57 (0, 0) (by decide) h1).trans h1, h2, ⟨h3.lo, h3.up, fun i hi => by
    have := h3.row i hi
    have e := hk _ _ 4 (0, 0) (by decide) this
    unfold Cl at *; rw [e]; exact this⟩⟩
/-- The tables of k nodes. -/
def LT (W : World) (B : Nat) (v : Value) (N k : Nat) (T : Nat → Tab) : Prop := ∃ M : Nat → Value, W.ownsRow B 72 1 v k (vals M k) ∧ ∀ i, i < k → ∃ g c, M i = .slice (some ⟨g, 0, none⟩) N c ∧ RT W B g N (spB (T i))
theorem LT.below {W W' : World} {B N k : Nat} {v : Value} {T : Nat → Tab} (h : LT W B v N k T) (hb : Below W.heap.size W W') : LT W' B v N k T := by
  obtain ⟨M, h1, h2⟩ := h
  refine ⟨M, ownsRow_below h1 hb, fun i hi => ?_⟩
  obtain ⟨g, c, e, hR⟩ := h2 i hi
  exact ⟨g, c, e, hR.below hb⟩
theorem LT.slice {W : World} {B N k : Nat} {v : Value} {T : Nat → Tab} (h : LT W B v N k T) : ∃ ao cap, v = .slice ao k cap := by
  obtain ⟨M, h1, _⟩ := h
  exact ownsRow_slice h1
theorem LT.put {W W1 W2 : World} {B N k g2 c2 : Nat} {v v' : Value} {T : Nat → Tab} {M : Nat → Value} (h1 : W.ownsRow B 72 1 v k (vals M k)) (h2 : ∀ i, i < k → ∃ g c, M i = .slice (some ⟨g, 0, none⟩) N c ∧ RT W B g N (spB (T i))) (hb : Below W.heap.size W W1) (hR : RT W1 B g2 N (spB (T k)))
    (hown : W2.ownsRow B 72 1 v' (k + 1) (vals M k ++ [.slice (some ⟨g2, 0, none⟩) N c2])) (hgr : (W1.alloc (.cells #[.slice (some ⟨g2, 0, none⟩) N c2] 72)).grownBy W2 v.ownBlock) : LT W2 B v' N (k + 1) T := by
  have h1' := ownsRow_below (ownsRow_below h1 hb) (below1 W1 (.cells #[.slice (some ⟨g2, 0, none⟩) N c2] 72))
  have hkeep : ∀ (b : Nat) (cur : Array Value) (t : TypeId) (fz : Nat × Nat), t ≠ 72 → W1.heap[b]? = some (.cells cur t fz) → W2.heap[b]? = W1.heap[b]? := fun b cur t fz ht hbk => by
    have hlt := (Array.getElem?_eq_some_iff.1 hbk).1
    have e1 : (W1.alloc (.cells #[.slice (some ⟨g2, 0, none⟩) N c2] 72)).heap[b]? = W1.heap[b]? := Below.heap_alloc _ _ _ hlt
    rw [hgr.block b (by simp; omega) ?_, e1]
    rcases h1'.2 with ⟨rfl, _⟩ | ⟨g, cap, cur', rfl, _, hg, _⟩
    · simp [Value.ownBlock]
    · simp only [Value.ownBlock]
      intro e
      have e : b = g := by simpa using e
      subst e
      rw [e1, hbk] at hg
      injection hg with hg
      injection hg with _ hg
      exact ht hg
  refine ⟨updV M k (.slice (some ⟨g2, 0, none⟩) N c2), ?_, fun i hi => ?_⟩
  · have e : vals (updV M k (.slice (some ⟨g2, 0, none⟩) N c2)) (k + 1) = vals M k ++ [.slice (some ⟨g2, 0, none⟩) N c2] := by
      unfold vals
      rw [List.range_succ, List.map_append]
      congr 1
      · apply List.map_congr_left
        intro i hi
        have : ¬ i = k := by have := List.mem_range.1 hi; omega
        simp [updV, this]
      · simp [updV]
    rw [e]; exact hown
  · by_cases e : i = k
    · subst e
      exact ⟨g2, c2, by simp [updV], hR.keep hkeep⟩
    · obtain ⟨g, c, eM, hRi⟩ := h2 i (by omega)
      exact ⟨g, c, by simp only [updV, e, if_false]; exact eM, (hRi.below hb).keep hkeep⟩
theorem LT.bel {W W1 W2 : World} {B k g2 N c2 : Nat} {v : Value} {xs : List Value} (h1 : W.ownsRow B 72 1 v k xs) (hBW : B ≤ W.heap.size) (hb : Below W.heap.size W W1) (hgr : (W1.alloc (.cells #[.slice (some ⟨g2, 0, none⟩) N c2] 72)).grownBy W2 v.ownBlock) : Below B W W2 := by
  have hs := hb.size
  refine ((hb.mono hBW).alloc (by omega) _).grown hgr (by simp; omega) fun g hg => ?_
  exact ownsRow_own h1 g hg
/-- The table of each node of a tree. -/
def tabAt (f : Nat → Nat) (n : Nat) (mu : Bool) (t : Tre) (i : Nat) : Tab := match t.subs[i]? with
  | some u => mean f n mu u
  | none => tNo
theorem tabAt_of {f : Nat → Nat} {n : Nat} {mu : Bool} {t u : Tre} {i : Nat} (h : t.subs[i]? = some u) : tabAt f n mu t i = mean f n mu u := by unfold tabAt; rw [h]
/-- The leaf, whatever its kind. -/
theorem leaf40_any (ao : Option Addr) (n cap : Nat) (mu : Bool) (f : Nat → Nat) (q : Nd) (w : World) (hr : RdB w ao n f) (hn : n ≤ 24) (hk : q.k = 1 ∨ q.k = 2 ∨ q.k = 6 ∨ q.k = 7) (hq : wfN q) : Calls Try.prog 49 #[ndV q, .bool mu, .slice ao n cap] w (RetR w (n + 1) (spB (mLeaf f n mu q))) := by
  rcases hk with h | h | h | h
  · exact leaf40_1 ao n cap mu f q w hr hn h
  · exact leaf40_2 ao n cap mu f q w hr hn h hq
  · exact leaf40_6 ao n cap mu f q w hr hn h
  · exact leaf40_7 ao n cap mu f q w hr hn h
section
variable {P : Program} {ops : Array Oper} {Q : Exit → Act → World → Prop}
/-- How many operations are left. -/
def left (ops : Array Oper) (listed : Array Bool) : Nat := ((List.range ops.size).filter fun j => !listed.getD j true).length
end
section
variable {P : Program}
end
/-- Values, each as its code says. -/
def Fits (sem : Nat → Value → World → Prop) (w : World) : List Nat → List Value → Prop
  | [], [] => True
  | c :: cs, v :: vs => sem c v w ∧ Fits sem w cs vs
  | _, _ => False
/-- What is told of a region: the codes of the slots ahead of it, of its loads, its calls. Code 0: true; 1: false; 2: the number -1; 9: anything; 2000 + n: the number n. -/
structure Look where
  base : Nat
  res : Nat
  num : Nat
  fixed : List (Nat × Nat)
  loads : List (Nat × Nat × Nat)
  calls : List (Nat × List Nat × Nat)
  bools : List Nat
  L : List Nat
def Look.get (K : Look) (j : Nat) : Nat := K.L.getD j 9
section
variable {P : Program} {ops : Array Oper} {Q : Exit → Act → World → Prop} {i : Nat} {o : Oper} {a : Act} {w : World} {K : Act → World → Prop}
end
section
variable {P : Program} {K : Look} {sem : Nat → Value → World → Prop} {C : World → Prop} {S : Nat} {fv : Nat → Value} {ops : Array Oper} {Q : Exit → Act → World → Prop}
end
theorem Fits.nil {sem : Nat → Value → World → Prop} {w : World} {vs : List Value} (h : Fits sem w [] vs) : vs = [] := by
  cases vs with
  | nil => rfl
  | cons _ _ => exact h.elim
theorem Fits.cons {sem : Nat → Value → World → Prop} {w : World} {c : Nat} {cs : List Nat} {vs : List Value} (h : Fits sem w (c :: cs) vs) : ∃ v vs', vs = v :: vs' ∧ sem c v w ∧ Fits sem w cs vs' := by
  cases vs with
  | nil => exact h.elim
  | cons v vs' => exact ⟨v, vs', rfl, h.1, h.2⟩
theorem BRows.lower {W : World} {B B' tb N r : Nat} {T : Tab} (h : BRows W B tb N r T) (hB : B' ≤ B) : BRows W B' tb N r T := by
  obtain ⟨M, h1, h2⟩ := h
  refine ⟨M, h1, fun i hi => ?_⟩
  obtain ⟨b, h3, h4⟩ := h2 i hi
  exact ⟨b, by omega, h4⟩
/-- A value that is a tree. -/
def TV (w : World) (v : Value) (t : Tre) : Prop := ∃ ao cap, v = .agg #[.slice ao t.size cap] ∧ RdN w ao t.size (nodes t) ∧ t.size ≤ cap
theorem TV.below {w w' : World} {v : Value} {t : Tre} (h : TV w v t) (hb : Below w.heap.size w w') : TV w' v t := by
  obtain ⟨ao, cap, e, hr, hc⟩ := h
  exact ⟨ao, cap, e, hr.below hb, hc⟩
section
variable {ta tb tc : Tre} {wb : Nat} {C : World → Prop}
end
theorem mean_alt (f : Nat → Nat) (n : Nat) (mu : Bool) (x y : Tre) : mean f n mu (.two 4 x y) = tAlt (mean f n mu x) (mean f n mu y) := by rw [mean, if_neg (by decide)]
theorem mean_cat (f : Nat → Nat) (n : Nat) (mu : Bool) (x y : Tre) : mean f n mu (.two 3 x y) = tCat (mean f n mu x) (mean f n mu y) := by rw [mean, if_pos rfl]
end Go.Proofs.Ytobgmgpclcfkcaa.T
