/- A range over a function whose iterator lays and writes blocks of its own, and never those of the body: a law. -/
import Derived.Test.YtgedhjflminlbaaTq
namespace Go.Proofs.Ytgedhjflminlbaa
open Go.RowKit
/-- From A to B only blocks of O may have turned. -/
structure TurnO (O : Nat → Prop) (A B : World) : Prop where
  os : B.os = A.os
  tape : B.tape = A.tape
  output : B.output = A.output
  size : A.heap.size ≤ B.heap.size
  block : ∀ k, k < A.heap.size → ¬ O k → B.heap[k]? = A.heap[k]?
theorem TurnO.of_below {O : Nat → Prop} {A B : World} (h : Below A.heap.size A B) : TurnO O A B := ⟨h.os, h.tape, h.output, h.size, fun k hk _ => h.block k hk⟩
theorem TurnO.trans {O : Nat → Prop} {A B C : World} (h : TurnO O A B) (k : TurnO O B C) : TurnO O A C := ⟨k.os.trans h.os, k.tape.trans h.tape, k.output.trans h.output, Nat.le_trans h.size k.size, fun i hi hO => (k.block i (Nat.lt_of_lt_of_le hi h.size) hO).trans (h.block i hi hO)⟩
theorem TurnO.mono {O O' : Nat → Prop} {A B : World} (h : TurnO O A B) (ho : ∀ k, k < A.heap.size → O k → O' k) : TurnO O' A B := ⟨h.os, h.tape, h.output, h.size, fun i hi hO => h.block i hi (fun h' => hO (ho i hi h'))⟩
/-- What a round of the body keeps: the old blocks and those of the iterator. -/
def KeepO (O : Nat → Prop) (A B : World) : Prop := A.heap.size ≤ B.heap.size ∧ ∀ k, k < A.heap.size → O k → B.heap[k]? = A.heap[k]?
/-- An invariant of the body bears what the iterator does: it turns its own blocks, and lays new ones. -/
def Bears (J : Nat → (Nat → Prop) → World → Prop) : Prop := ∀ i O O' A B, J i O A → TurnO O A B → (∀ k, k < A.heap.size → O' k → O k) → J i O' B
/-- What such an iterator is owed, and does. -/
def SeqO (F : Fence) (n : Nat) (P : Program) (Old : Nat → Prop) (g : Nat) (lb : Array Value) (V : Nat → (Nat → Prop) → Array Value → World → Prop) (N : Nat) (w : World) : Prop :=
  ∀ (l : Nat) (J : Nat → (Nat → Prop) → World → Prop) (W : World), Below w.heap.size w W → w.heap.size + 2 ≤ W.heap.size → Bears J →
    (∀ i O vs W1, i < N → J i O W1 → V i O vs W1 → (∀ k, O k → k < W1.heap.size) → YieldAt F (n - 1) P l vs W1 fun e W' => e = .returned (.bool true) ∧ J (i + 1) O W' ∧ KeepO (fun k => Old k ∨ O k) W1 W') →
    J 0 (fun _ => False) W →
    CallsIn F n P g (#[.func (.yield l) #[] #[]] ++ lb) W fun e W' => (∃ v, e = .returned v) ∧ ∃ O, J N O W'
/-- How the body of a round may be left. -/
def stepPostO (b : Nat) (Old : Nat → Prop) (I : Nat → (Nat → Prop) → World → Prop) (i : Nat) (O : Nat → Prop) (W : World) : Exit → Act → World → Prop
  | .normal, _, W' => KeepO (fun k => Old k ∨ O k ∨ k = b ∨ k = b + 1) W W' ∧ I (i + 1) O W'
  | _, _, _ => False
theorem wpIn_rangeFunc_own_steps {F : Fence} {n : Nat} {P : Program} {g : Operand} {ps : Array Tmp} {assign body : Code} {Q : Exit → Act → World → Prop} {a : Act} {w : World}
    (hro : F.round = none) (h1 : 1 ≤ n) {gf : Nat} {lb : Array Value} (hg : a.eval g = .func (.func gf) #[] lb) (hFg : F.fn gf) (eg : ∀ args w, (callFunc gf args).run P w = .ok (.enter gf args) w)
    {V : Nat → (Nat → Prop) → Array Value → World → Prop} {N : Nat} (Old : Nat → Prop) (hOld : ∀ k, Old k → k < w.heap.size) (hseq : SeqO F (n - 1) P Old gf lb V N w) (hps : ∀ i O vs W, V i O vs W → vs.size = ps.size)
    (I : Nat → (Nat → Prop) → World → Prop) (hI : Bears I) (hIt : ∀ i O A B, I i O A → Turn w.heap.size A B → I i O B) (h0 : I 0 (fun _ => False) w)
    (Ax : Nat → (Nat → Prop) → Array Value → Act → World → Prop) (hAx : ∀ x O vs a' A B, Ax x O vs a' A → Turn w.heap.size A B → Ax x O vs a' B)
    (hassign : ∀ (i : Nat) (O : Nat → Prop) (vs : Array Value) (W : World) (K : Act → World → Prop), i < N → I i O W → V i O vs W → w.heap.size + 2 ≤ W.heap.size → (∀ k, O k → k < W.heap.size) → (∀ a' W', KeepO (fun k => Old k ∨ O k ∨ k = w.heap.size ∨ k = w.heap.size + 1) W W' → I i O W' → Ax i O vs a' W' → K a' W') →
      assign.wpIn (F.inRound (w.heap.size + 1)) (n - 1 - 1) P (Exit.then K (fun _ _ _ => False)) { tmps := (ps.zip vs).foldl (fun t (p, v) => t.setIfInBounds p v) a.tmps, defers := [] } W)
    (hbody : ∀ (i : Nat) (O : Nat → Prop) (vs : Array Value) (a' : Act) (W : World), i < N → I i O W → Ax i O vs a' W → w.heap.size + 2 ≤ W.heap.size → (∀ k, O k → k < W.heap.size ∧ w.heap.size + 2 ≤ k) → body.wpIn (F.inRound (w.heap.size + 1)) (n - 1 - 1) P (stepPostO w.heap.size Old I i O W) a' W)
    (hdone : ∀ (O : Nat → Prop) (W : World), I N O W → W.heap[w.heap.size]? = some (.deferred (some [])) → Q .normal { a with defers := { target := .collected w.heap.size, args := #[] } :: a.defers } W) :
    (Code.rangeFunc g ps assign body).wpIn F n P Q a w := by
  refine wpIn_rangeFunc fun fn hfn => ?_
  rw [hro]
  let rec0 : LoopState → Option Code → Loop := fun st pe => { state := st, pending := pe, fn, tmps := a.tmps, params := ps, assign, body, defers := w.heap.size }
  let W1 := (w.alloc (.deferred (some []))).alloc (.loop (rec0 .ready none))
  have hs1 : W1.heap.size = w.heap.size + 2 := by simp [W1]
  have eL : W1.heap[w.heap.size + 1]? = some (.loop (rec0 .ready none)) := by
    have := World.alloc_heap_new (w.alloc (.deferred (some []))) (.loop (rec0 .ready none))
    rwa [World.size_alloc] at this
  have eD : W1.heap[w.heap.size]? = some (.deferred (some [])) := (Below.heap_alloc _ _ _ (by simp)).trans (World.alloc_heap_new w _)
  have hb : Below w.heap.size w W1 := ((Below.refl _ w).alloc (Nat.le_refl _) _).alloc (by simp) _
  refine ⟨w.heap.size + 1, [{ target := .collected w.heap.size, args := #[] }], W1, { target := .fn (.func gf) lb, args := #[.func (.yield (w.heap.size + 1)) #[] #[]] }, W1, gf, #[.func (.yield (w.heap.size + 1)) #[] #[]] ++ lb, W1, run_enterLoop_outer _ _ _ _ _, ?_, ?_, ?_, fun _ => h1, ?_⟩
  · simp only [resolve, hg]
    simp [go_sem]
  · intro f' hf'
    simp [Target.leads] at hf'
    subst hf'
    exact hFg
  · simp [invoke, go_sem, eg]
  refine (hseq (w.heap.size + 1) (fun i O W => I i O W ∧ W.heap[w.heap.size + 1]? = some (.loop (rec0 .ready none)) ∧ W.heap[w.heap.size]? = some (.deferred (some [])) ∧ w.heap.size + 2 ≤ W.heap.size ∧ ∀ k, O k → w.heap.size + 2 ≤ k) W1 hb (by omega) ?_ ?_ ⟨hIt _ _ _ _ h0 (Turn.of_below hb), eL, eD, by omega, fun k hk => hk.elim⟩).mono ?_
  · rintro i O O' A B ⟨hi, hl, hd, hsz, hO⟩ ht hO'
    have hOn : ¬ O (w.heap.size + 1) ∧ ¬ O w.heap.size := ⟨fun h => by have := hO _ h; omega, fun h => by have := hO _ h; omega⟩
    refine ⟨hI _ _ _ _ _ hi ht hO', (ht.block _ (Array.getElem?_eq_some_iff.1 hl).1 hOn.1).trans hl, (ht.block _ (Array.getElem?_eq_some_iff.1 hd).1 hOn.2).trans hd, Nat.le_trans hsz ht.size, fun k hk => ?_⟩
    rcases Nat.lt_or_ge k A.heap.size with h | h
    · exact hO k (hO' k h hk)
    · omega
  · rintro i O vs W hiN ⟨hi, hl, hd, hsz, hO⟩ hV hOlt
    have hy := run_yield (P := P) (args := vs) hl (hps i O vs W hV)
    refine ⟨fn, _, assign, body, hy, roundIn_of_wpIn hfn (hassign i O vs W _ hiN hi hV hsz hOlt fun a' W' hk hi' hx => ?_)⟩
    have hl' : W'.heap[w.heap.size + 1]? = some (.loop (rec0 .ready none)) := (hk.2 _ (by omega) (.inr (.inr (.inr rfl)))).trans hl
    have hd' : W'.heap[w.heap.size]? = some (.deferred (some [])) := (hk.2 _ (by omega) (.inr (.inr (.inl rfl)))).trans hd
    have hlt := (Array.getElem?_eq_some_iff.1 hl').1
    have hsz' := Nat.le_trans hsz hk.1
    refine ⟨_, run_beginRound hl' rfl, ?_⟩
    have hp : Turn w.heap.size W' (W'.putObj (w.heap.size + 1) (.loop (rec0 .busy none))) := Turn.put _ _ ⟨by omega, by omega⟩
    refine wpIn_mono (hbody i O vs a' (W'.putObj (w.heap.size + 1) (.loop (rec0 .busy none))) hiN (hIt _ _ _ _ hi' hp) (hAx _ _ _ _ _ _ hx hp) (by simpa using hsz') (fun k hk' => ⟨by have := hOlt k hk'; have := hk.1; simp; omega, hO k hk'⟩)) ?_
    have hl2 : (W'.putObj (w.heap.size + 1) (.loop (rec0 .busy none))).heap[w.heap.size + 1]? = some (.loop (rec0 .busy none)) := World.putObj_heap_same hlt
    have hd2 : (W'.putObj (w.heap.size + 1) (.loop (rec0 .busy none))).heap[w.heap.size]? = some (.deferred (some [])) := (World.putObj_heap_other (by omega)).trans hd'
    have hszp : (W'.putObj (w.heap.size + 1) (.loop (rec0 .busy none))).heap.size = W'.heap.size := by simp
    rintro e a3 W3 hq
    cases e with
    | normal =>
      obtain ⟨hk3, hi3⟩ := hq
      have hl3 := (hk3.2 (w.heap.size + 1) (by omega) (.inr (.inr (.inr rfl)))).trans hl2
      have hd3 := (hk3.2 w.heap.size (by omega) (.inr (.inr (.inl rfl)))).trans hd2
      have hs3 := hk3.1
      rw [hszp] at hs3
      refine ⟨_, _, run_endRound (P := P) none hl3, rfl, ⟨hIt _ _ _ _ hi3 (Turn.put _ _ ⟨by omega, by omega⟩), World.putObj_heap_same (Array.getElem?_eq_some_iff.1 hl3).1, (World.putObj_heap_other (by omega)).trans hd3, by simp; omega, hO⟩, ?_, ?_⟩
      · have := hk.1; simp; omega
      · intro k hkl hkk
        have hne : k ≠ w.heap.size + 1 := by
          rcases hkk with h | h
          · have := hOld k h; omega
          · have := hO k h; omega
        have hk' : Old k ∨ O k ∨ k = w.heap.size ∨ k = w.heap.size + 1 := hkk.imp id .inl
        have := hk.1
        rw [World.putObj_heap_other hne, hk3.2 k (by rw [hszp]; omega) hk', World.putObj_heap_other hne, hk.2 k hkl hk']
    | ret => exact hq.elim
    | exit id => exact hq.elim
    | goto t => exact hq.elim
    | panic ch => exact hq.elim
    | outgrown => exact hq.elim
  · rintro e W2 ⟨⟨v, rfl⟩, O, hi, hl, hd, _, _⟩
    exact ⟨none, _, run_endLoop (P := P) hl (by simp [rec0]), hdone O _ (hIt _ _ _ _ hi (Turn.put _ _ ⟨by omega, by omega⟩)) ((World.putObj_heap_other (by omega)).trans hd)⟩
end Go.Proofs.Ytgedhjflminlbaa
