/- A range over a function whose iterator writes two blocks of its own, the first that it lays. -/
import Derived.Test.YtlmmiicibjfcdaaKt
import Derived.RangeFuncNested
import Derived.RangeFuncBound
import Derived.RangeFuncCalls
import Derived.RangeFuncLeaves
import Derived.RangeFuncBox
namespace Go.Proofs.Ytlmmiicibjfcdaa
open Go.RowKit
/-- From A to B only the blocks from b to b + 3 may have turned. -/
structure Turn (b : Nat) (A B : World) : Prop where
  os : B.os = A.os
  tape : B.tape = A.tape
  output : B.output = A.output
  size : A.heap.size ≤ B.heap.size
  block : ∀ k, k < A.heap.size → (k < b ∨ b + 4 ≤ k) → B.heap[k]? = A.heap[k]?
/-- From A to B only the blocks b + 2 and b + 3 may have turned. -/
structure TurnI (b : Nat) (A B : World) : Prop where
  os : B.os = A.os
  tape : B.tape = A.tape
  output : B.output = A.output
  size : A.heap.size ≤ B.heap.size
  block : ∀ k, k < A.heap.size → k ≠ b + 2 → k ≠ b + 3 → B.heap[k]? = A.heap[k]?
theorem TurnI.turn {b : Nat} {A B : World} (h : TurnI b A B) : Turn b A B := ⟨h.os, h.tape, h.output, h.size, fun k hk hb => h.block k hk (by omega) (by omega)⟩
theorem TurnI.of_below {b : Nat} {A B : World} (h : Below A.heap.size A B) : TurnI b A B := ⟨h.os, h.tape, h.output, h.size, fun k hk _ _ => h.block k hk⟩
theorem TurnI.trans {b : Nat} {A B C : World} (h : TurnI b A B) (k : TurnI b B C) : TurnI b A C :=
  ⟨k.os.trans h.os, k.tape.trans h.tape, k.output.trans h.output, Nat.le_trans h.size k.size, fun i hi h2 h3 => (k.block i (Nat.lt_of_lt_of_le hi h.size) h2 h3).trans (h.block i hi h2 h3)⟩
theorem TurnI.of_set {b B : Nat} {A C : World} (h : Below B A C) (hs : ∀ k, k ≠ b + 2 → k ≠ b + 3 → C.heap[k]? = A.heap[k]?) : TurnI b A C := ⟨h.os, h.tape, h.output, h.size, fun k _ h2 h3 => hs k h2 h3⟩
theorem Turn.of_below {b : Nat} {A B : World} (h : Below A.heap.size A B) : Turn b A B := (TurnI.of_below h).turn
theorem Turn.put {b : Nat} {A : World} (l : Nat) (o : Obj) (hl : b ≤ l ∧ l < b + 4) : Turn b A (A.putObj l o) :=
  ⟨rfl, rfl, rfl, by simp, fun k _ hk => World.putObj_heap_other (by omega)⟩
/-- What a round of the body keeps: the old blocks, and those from b to b + 3. -/
structure KeepT (b : Nat) (Old : Nat → Prop) (A B : World) : Prop where
  size : A.heap.size ≤ B.heap.size
  same : ∀ k, (Old k ∨ (b ≤ k ∧ k < b + 4)) → B.heap[k]? = A.heap[k]?
theorem KeepT.refl (b : Nat) (Old : Nat → Prop) (A : World) : KeepT b Old A A := ⟨Nat.le_refl _, fun _ _ => rfl⟩
theorem KeepT.trans {b : Nat} {Old : Nat → Prop} {A B C : World} (h : KeepT b Old A B) (k : KeepT b Old B C) : KeepT b Old A C := ⟨Nat.le_trans h.size k.size, fun i hi => (k.same i hi).trans (h.same i hi)⟩
/-- What the iterator sees of it. -/
def KeepY (b : Nat) (Old : Nat → Prop) (A B : World) : Prop := A.heap.size ≤ B.heap.size ∧ ∀ k, (Old k ∨ k = b + 2 ∨ k = b + 3) → B.heap[k]? = A.heap[k]?
/-- How the body of a round may be left. -/
def turnPost {α : Type} (b : Nat) (Old : Nat → Prop) (I : List α → World → Prop) (Ix : Code → List α → World → Prop) (xs : List α) (W : World) : Exit → Act → World → Prop
  | .normal, _, W' => KeepT b Old W W' ∧ I xs W'
  | .ret, _, W' => KeepT b Old W W' ∧ Ix .ret xs W'
  | _, _, _ => False
/-- What such an iterator is owed, and does: it begins in a world of b + 2 blocks. -/
def SeqT {α : Type} (F : Fence) (n : Nat) (P : Program) (b : Nat) (Old : Nat → Prop) (g : Nat) (lb : Array Value) (encs : α → Array Value) (S Sp : List α → Prop) (N : Nat) (w : World) : Prop :=
  ∀ (J Jx : List α → World → Prop) (W : World), Below b w W → W.heap.size = b + 2 → (∀ s A B, J s A → TurnI b A B → J s B) → (∀ s A B, Jx s A → TurnI b A B → Jx s B) →
    (∀ pre x W1, J pre W1 → b + 4 ≤ W1.heap.size → pre.length < N → YieldAt F (n - 1) P (b + 1) (encs x) W1 fun e W' =>
      (e = .returned (.bool true) ∧ J (pre ++ [x]) W' ∧ KeepY b Old W1 W') ∨ (e = .returned (.bool false) ∧ Jx (pre ++ [x]) W')) →
    J [] W →
    CallsIn F n P g (#[.func (.yield (b + 1)) #[] #[]] ++ lb) W fun e W' => (∃ v, e = .returned v) ∧ ((∃ xs, S xs ∧ J xs W') ∨ (∃ pre, Sp pre ∧ Jx pre W'))
theorem wpIn_rangeFunc_turn {α : Type} {F : Fence} {n : Nat} {P : Program} {g : Operand} {ps : Array Tmp} {assign body : Code} {Q : Exit → Act → World → Prop} {a : Act} {w : World}
    (hro : F.round = none) (h1 : 1 ≤ n) {gf : Nat} {lb : Array Value} (hg : a.eval g = .func (.func gf) #[] lb) (hFg : F.fn gf) (eg : ∀ args w, (callFunc gf args).run P w = .ok (.enter gf args) w)
    {encs : α → Array Value} {S Sp : List α → Prop} {N : Nat} (Old : Nat → Prop) (hOld : ∀ k, Old k → k < w.heap.size) (hseq : SeqT F (n - 1) P w.heap.size Old gf lb encs S Sp N w) (hps : ∀ x, (encs x).size = ps.size)
    (I : List α → World → Prop) (Ix : Code → List α → World → Prop) (hI : ∀ s A B, I s A → Turn w.heap.size A B → I s B) (hIx : ∀ c s A B, Ix c s A → Turn w.heap.size A B → Ix c s B) (h0 : I [] w)
    (Ax : α → Act → World → Prop) (hAx : ∀ x a' A B, Ax x a' A → Turn w.heap.size A B → Ax x a' B)
    (hassign : ∀ (pre : List α) (x : α) (W : World) (K : Act → World → Prop), I pre W → w.heap.size + 4 ≤ W.heap.size → (∀ a' W', KeepT w.heap.size Old W W' → I pre W' → Ax x a' W' → K a' W') →
      assign.wpIn (F.inRound (w.heap.size + 1)) (n - 1 - 1) P (Exit.then K (fun _ _ _ => False)) { tmps := (ps.zip (encs x)).foldl (fun t (p, v) => t.setIfInBounds p v) a.tmps, defers := [] } W)
    (hbody : ∀ (pre : List α) (x : α) (a' : Act) (W : World), I pre W → Ax x a' W → w.heap.size + 4 ≤ W.heap.size → pre.length < N → body.wpIn (F.inRound (w.heap.size + 1)) (n - 1 - 1) P (turnPost w.heap.size Old I Ix (pre ++ [x]) W) a' W)
    (hdone : ∀ (xs : List α) (W : World), S xs → I xs W → W.heap[w.heap.size]? = some (.deferred (some [])) → Q .normal { a with defers := { target := .collected w.heap.size, args := #[] } :: a.defers } W)
    (hstop : ∀ (pre : List α) (W : World), Sp pre → Ix .ret pre W → W.heap[w.heap.size]? = some (.deferred (some [])) → Code.ret.wpIn F n P Q { a with defers := { target := .collected w.heap.size, args := #[] } :: a.defers } W) :
    (Code.rangeFunc g ps assign body).wpIn F n P Q a w := by
  refine wpIn_rangeFunc fun fn hfn => ?_
  rw [hro]
  let rec0 : LoopState → Option Code → Loop := fun st pe => { state := st, pending := pe, fn, tmps := a.tmps, params := ps, assign, body, defers := w.heap.size }
  let W1 := (w.alloc (.deferred (some []))).alloc (.loop (rec0 .ready none))
  have hs1 : W1.heap.size = w.heap.size + 2 := by simp [W1]
  have eL : W1.heap[w.heap.size + 1]? = some (.loop (rec0 .ready none)) := by
    have := World.alloc_heap_new (w.alloc (.deferred (some []))) (.loop (rec0 .ready none))
    rwa [World.size_alloc] at this
  have eD : W1.heap[w.heap.size]? = some (.deferred (some [])) := (Below.heap_alloc _ _ _ (by simp)).trans (World.alloc_heap_new w _)
  have hb : Below w.heap.size w W1 := ((Below.refl _ w).alloc (Nat.le_refl _) _).alloc (by simp) _
  refine ⟨w.heap.size + 1, [{ target := .collected w.heap.size, args := #[] }], W1, { target := .fn (.func gf) lb, args := #[.func (.yield (w.heap.size + 1)) #[] #[]] }, W1, gf, #[.func (.yield (w.heap.size + 1)) #[] #[]] ++ lb, W1, run_enterLoop_outer _ _ _ _ _, ?_, ?_, ?_, fun _ => h1, ?_⟩
  · simp only [resolve, hg]
    simp [go_sem]
  · intro f' hf'
    simp [Target.leads] at hf'
    subst hf'
    exact hFg
  · simp [invoke, go_sem, eg]
  refine (hseq (fun pre W => I pre W ∧ W.heap[w.heap.size + 1]? = some (.loop (rec0 .ready none)) ∧ W.heap[w.heap.size]? = some (.deferred (some [])))
    (fun pre W => Ix .ret pre W ∧ W.heap[w.heap.size + 1]? = some (.loop (rec0 .done (some .ret))) ∧ W.heap[w.heap.size]? = some (.deferred (some []))) W1 hb hs1 ?_ ?_ ?_ ⟨hI _ _ _ h0 (Turn.of_below hb), eL, eD⟩).mono ?_
  · rintro s A B ⟨hi, hl, hd⟩ ht
    exact ⟨hI _ _ _ hi ht.turn, (ht.block _ (Array.getElem?_eq_some_iff.1 hl).1 (by omega) (by omega)).trans hl, (ht.block _ (Array.getElem?_eq_some_iff.1 hd).1 (by omega) (by omega)).trans hd⟩
  · rintro s A B ⟨hi, hl, hd⟩ ht
    exact ⟨hIx _ _ _ _ hi ht.turn, (ht.block _ (Array.getElem?_eq_some_iff.1 hl).1 (by omega) (by omega)).trans hl, (ht.block _ (Array.getElem?_eq_some_iff.1 hd).1 (by omega) (by omega)).trans hd⟩
  · rintro pre x W ⟨hi, hl, hd⟩ hsz hlen
    have hy := run_yield (P := P) (args := encs x) hl (hps x)
    refine ⟨fn, _, assign, body, hy, roundIn_of_wpIn hfn (hassign pre x W _ hi hsz fun a' W' hk hi' hx => ?_)⟩
    have hl' : W'.heap[w.heap.size + 1]? = some (.loop (rec0 .ready none)) := (hk.same _ (.inr ⟨by omega, by omega⟩)).trans hl
    have hd' : W'.heap[w.heap.size]? = some (.deferred (some [])) := (hk.same _ (.inr ⟨by omega, by omega⟩)).trans hd
    have hlt := (Array.getElem?_eq_some_iff.1 hl').1
    have hsz' := Nat.le_trans hsz hk.size
    refine ⟨_, run_beginRound hl' rfl, ?_⟩
    have hp : Turn w.heap.size W' (W'.putObj (w.heap.size + 1) (.loop (rec0 .busy none))) := Turn.put _ _ ⟨by omega, by omega⟩
    refine wpIn_mono (hbody pre x a' (W'.putObj (w.heap.size + 1) (.loop (rec0 .busy none))) (hI _ _ _ hi' hp) (hAx _ _ _ _ hx hp) (by simpa using hsz') hlen) ?_
    have hl2 : (W'.putObj (w.heap.size + 1) (.loop (rec0 .busy none))).heap[w.heap.size + 1]? = some (.loop (rec0 .busy none)) := World.putObj_heap_same hlt
    have hd2 : (W'.putObj (w.heap.size + 1) (.loop (rec0 .busy none))).heap[w.heap.size]? = some (.deferred (some [])) := (World.putObj_heap_other (by omega)).trans hd'
    rintro e a3 W3 hq
    cases e with
    | normal =>
      obtain ⟨hk3, hi3⟩ := hq
      have hl3 := (hk3.same (w.heap.size + 1) (.inr ⟨by omega, by omega⟩)).trans hl2
      have hd3 := (hk3.same w.heap.size (.inr ⟨by omega, by omega⟩)).trans hd2
      refine ⟨_, _, run_endRound (P := P) none hl3, .inl ⟨rfl, ⟨hI _ _ _ hi3 (Turn.put _ _ ⟨by omega, by omega⟩), World.putObj_heap_same (Array.getElem?_eq_some_iff.1 hl3).1, (World.putObj_heap_other (by omega)).trans hd3⟩, ?_, ?_⟩⟩
      · have := hk3.size; have := hk.size; simp at *; omega
      · intro k hkk
        have hne : k ≠ w.heap.size + 1 := by
          rcases hkk with h | h | h
          · have := hOld k h; omega
          · omega
          · omega
        rw [World.putObj_heap_other hne, hk3.same k (hkk.imp id fun h => by omega), World.putObj_heap_other hne, hk.same k (hkk.imp id fun h => by omega)]
    | ret =>
      obtain ⟨hk3, hi3⟩ := hq
      have hl3 := (hk3.same (w.heap.size + 1) (.inr ⟨by omega, by omega⟩)).trans hl2
      have hd3 := (hk3.same w.heap.size (.inr ⟨by omega, by omega⟩)).trans hd2
      exact ⟨_, _, run_endRound (P := P) (some .ret) hl3, .inr ⟨rfl, hIx _ _ _ _ hi3 (Turn.put _ _ ⟨by omega, by omega⟩), World.putObj_heap_same (Array.getElem?_eq_some_iff.1 hl3).1, (World.putObj_heap_other (by omega)).trans hd3⟩⟩
    | exit id => exact hq.elim
    | goto t => exact hq.elim
    | panic ch => exact hq.elim
    | outgrown => exact hq.elim
  · rintro e W2 ⟨⟨v, rfl⟩, (⟨xs, hS, hi, hl, hd⟩ | ⟨pre, hSp, hi, hl, hd⟩)⟩
    · exact ⟨none, _, run_endLoop (P := P) hl (by simp [rec0]), hdone xs _ hS (hI _ _ _ hi (Turn.put _ _ ⟨by omega, by omega⟩)) ((World.putObj_heap_other (by omega)).trans hd)⟩
    · exact ⟨some .ret, _, run_endLoop (P := P) hl (by simp [rec0]), hstop pre _ hSp (hIx _ _ _ _ hi (Turn.put _ _ ⟨by omega, by omega⟩)) ((World.putObj_heap_other (by omega)).trans hd)⟩
end Go.Proofs.Ytlmmiicibjfcdaa
