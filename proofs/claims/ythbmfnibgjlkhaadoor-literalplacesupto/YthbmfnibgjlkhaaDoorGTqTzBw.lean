/- A range over a function whose iterator lays nothing, writes nothing and gives a known row of values: a law. A range over a function whose iterator lays and writes blocks of its own, and never those of the body: a law. slices.Backward of nodes, and its iterator: the walks. -/
import Derived.Test.YthbmfnibgjlkhaaDoorGSpSaNl
import Derived.RangeFuncNested
import Derived.RangeFuncBound
import Derived.RangeFuncCalls
import Derived.RangeFuncLeaves
import Derived.RangeFuncBox
import Derived.Shelf.Abstract
import Derived.Shelf.RegionOpen
import Derived.OwnWalkIn
import Derived.TacticsInMore
import Derived.LoopNIn
import Derived.LoopIn
namespace Go.Proofs.YthbmfnibgjlkhaaDoor
open Go.RowKit
/-- From A to B only the blocks b and b + 1 may have turned. -/
structure Turn (b : Nat) (A B : World) : Prop where
  os : B.os = A.os
  tape : B.tape = A.tape
  output : B.output = A.output
  size : A.heap.size ≤ B.heap.size
  block : ∀ k, k < A.heap.size → (k < b ∨ b + 2 ≤ k) → B.heap[k]? = A.heap[k]?
theorem Turn.of_below {b : Nat} {A B : World} (h : Below A.heap.size A B) : Turn b A B := ⟨h.os, h.tape, h.output, h.size, fun k hk _ => h.block k hk⟩
theorem Turn.put {b : Nat} {A : World} (l : Nat) (o : Obj) (hl : b ≤ l ∧ l < b + 2) : Turn b A (A.putObj l o) :=
  ⟨rfl, rfl, rfl, by simp, fun k _ hk => World.putObj_heap_other (by omega)⟩
/-- What a round of the body keeps: the old blocks, and b and b + 1. -/
structure KeepT (b : Nat) (Old : Nat → Prop) (A B : World) : Prop where
  size : A.heap.size ≤ B.heap.size
  same : ∀ k, (Old k ∨ (b ≤ k ∧ k < b + 2)) → B.heap[k]? = A.heap[k]?
theorem KeepT.refl (b : Nat) (Old : Nat → Prop) (A : World) : KeepT b Old A A := ⟨Nat.le_refl _, fun _ _ => rfl⟩
theorem KeepT.trans {b : Nat} {Old : Nat → Prop} {A B C : World} (h : KeepT b Old A B) (k : KeepT b Old B C) : KeepT b Old A C := ⟨Nat.le_trans h.size k.size, fun i hi => (k.same i hi).trans (h.same i hi)⟩
/-- What the iterator sees of it. -/
def KeepY (Old : Nat → Prop) (A B : World) : Prop := A.heap.size ≤ B.heap.size ∧ ∀ k, Old k → B.heap[k]? = A.heap[k]?
/-- How the body of a round may be left. -/
def stepPost (b : Nat) (Old : Nat → Prop) (I : Nat → World → Prop) (i : Nat) (W : World) : Exit → Act → World → Prop
  | .normal, _, W' => KeepT b Old W W' ∧ I (i + 1) W'
  | _, _, _ => False
/-- What such an iterator is owed, and does: it begins in a world of b + 2 blocks. -/
def SeqN (F : Fence) (n : Nat) (P : Program) (b : Nat) (Old : Nat → Prop) (g : Nat) (lb : Array Value) (L : Nat → Array Value) (N : Nat) (w : World) : Prop :=
  ∀ (J : Nat → World → Prop) (W : World), Below b w W → W.heap.size = b + 2 →
    (∀ i W1, i < N → J i W1 → b + 2 ≤ W1.heap.size → YieldAt F (n - 1) P (b + 1) (L i) W1 fun e W' => e = .returned (.bool true) ∧ J (i + 1) W' ∧ KeepY Old W1 W') →
    J 0 W →
    CallsIn F n P g (#[.func (.yield (b + 1)) #[] #[]] ++ lb) W fun e W' => (∃ v, e = .returned v) ∧ J N W'
theorem wpIn_rangeFunc_steps {F : Fence} {n : Nat} {P : Program} {g : Operand} {ps : Array Tmp} {assign body : Code} {Q : Exit → Act → World → Prop} {a : Act} {w : World}
    (hro : F.round = none) (h1 : 1 ≤ n) {gf : Nat} {lb : Array Value} (hg : a.eval g = .func (.func gf) #[] lb) (hFg : F.fn gf) (eg : ∀ args w, (callFunc gf args).run P w = .ok (.enter gf args) w)
    {L : Nat → Array Value} {N : Nat} (Old : Nat → Prop) (hOld : ∀ k, Old k → k < w.heap.size) (hseq : SeqN F (n - 1) P w.heap.size Old gf lb L N w) (hps : ∀ i, (L i).size = ps.size)
    (I : Nat → World → Prop) (hI : ∀ s A B, I s A → Turn w.heap.size A B → I s B) (h0 : I 0 w)
    (Ax : Nat → Act → World → Prop) (hAx : ∀ x a' A B, Ax x a' A → Turn w.heap.size A B → Ax x a' B)
    (hassign : ∀ (i : Nat) (W : World) (K : Act → World → Prop), i < N → I i W → w.heap.size + 2 ≤ W.heap.size → (∀ a' W', KeepT w.heap.size Old W W' → I i W' → Ax i a' W' → K a' W') →
      assign.wpIn (F.inRound (w.heap.size + 1)) (n - 1 - 1) P (Exit.then K (fun _ _ _ => False)) { tmps := (ps.zip (L i)).foldl (fun t (p, v) => t.setIfInBounds p v) a.tmps, defers := [] } W)
    (hbody : ∀ (i : Nat) (a' : Act) (W : World), i < N → I i W → Ax i a' W → w.heap.size + 2 ≤ W.heap.size → body.wpIn (F.inRound (w.heap.size + 1)) (n - 1 - 1) P (stepPost w.heap.size Old I i W) a' W)
    (hdone : ∀ (W : World), I N W → W.heap[w.heap.size]? = some (.deferred (some [])) → Q .normal { a with defers := { target := .collected w.heap.size, args := #[] } :: a.defers } W) :
    (Code.rangeFunc g ps assign body).wpIn F n P Q a w := by
  refine wpIn_rangeFunc fun fn hfn => ?_
  rw [hro]
  let rec0 : LoopState → Option Code → Loop := fun st pe => { state := st, pending := pe, fn, tmps := a.tmps, params := ps, assign, body, defers := w.heap.size }
  let W1 := (w.alloc (.deferred (some []))).alloc (.loop (rec0 .ready none))
  have hs1 : W1.heap.size = w.heap.size + 2 := by simp [W1]
  have eL : W1.heap[w.heap.size + 1]? = some (.loop (rec0 .ready none)) := by
    have := World.alloc_heap_new (w.alloc (.deferred (some []))) (.loop (rec0 .ready none))
    rwa [World.size_alloc] at this
  have eD : W1.heap[w.heap.size]? = some (.deferred (some [])) := (Below.heap_alloc _ _ _ (by simp)).trans (World.alloc_heap_new w _)
  have hb : Below w.heap.size w W1 := ((Below.refl _ w).alloc (Nat.le_refl _) _).alloc (by simp) _
  refine ⟨w.heap.size + 1, [{ target := .collected w.heap.size, args := #[] }], W1, { target := .fn (.func gf) lb, args := #[.func (.yield (w.heap.size + 1)) #[] #[]] }, W1, gf, #[.func (.yield (w.heap.size + 1)) #[] #[]] ++ lb, W1, run_enterLoop_outer _ _ _ _ _, ?_, ?_, ?_, fun _ => h1, ?_⟩
  · simp only [resolve, hg]
    simp [go_sem]
  · intro f' hf'
    simp [Target.leads] at hf'
    subst hf'
    exact hFg
  · simp [invoke, go_sem, eg]
  refine (hseq (fun i W => I i W ∧ W.heap[w.heap.size + 1]? = some (.loop (rec0 .ready none)) ∧ W.heap[w.heap.size]? = some (.deferred (some []))) W1 hb hs1 ?_ ⟨hI _ _ _ h0 (Turn.of_below hb), eL, eD⟩).mono ?_
  · rintro i W hiN ⟨hi, hl, hd⟩ hsz
    have hy := run_yield (P := P) (args := L i) hl (hps i)
    refine ⟨fn, _, assign, body, hy, roundIn_of_wpIn hfn (hassign i W _ hiN hi hsz fun a' W' hk hi' hx => ?_)⟩
    have hl' : W'.heap[w.heap.size + 1]? = some (.loop (rec0 .ready none)) := (hk.same _ (.inr ⟨by omega, by omega⟩)).trans hl
    have hd' : W'.heap[w.heap.size]? = some (.deferred (some [])) := (hk.same _ (.inr ⟨by omega, by omega⟩)).trans hd
    have hlt := (Array.getElem?_eq_some_iff.1 hl').1
    have hsz' := Nat.le_trans hsz hk.size
    refine ⟨_, run_beginRound hl' rfl, ?_⟩
    have hp : Turn w.heap.size W' (W'.putObj (w.heap.size + 1) (.loop (rec0 .busy none))) := Turn.put _ _ ⟨by omega, by omega⟩
    refine wpIn_mono (hbody i a' (W'.putObj (w.heap.size + 1) (.loop (rec0 .busy none))) hiN (hI _ _ _ hi' hp) (hAx _ _ _ _ hx hp) (by simpa using hsz')) ?_
    have hl2 : (W'.putObj (w.heap.size + 1) (.loop (rec0 .busy none))).heap[w.heap.size + 1]? = some (.loop (rec0 .busy none)) := World.putObj_heap_same hlt
    have hd2 : (W'.putObj (w.heap.size + 1) (.loop (rec0 .busy none))).heap[w.heap.size]? = some (.deferred (some [])) := (World.putObj_heap_other (by omega)).trans hd'
    rintro e a3 W3 hq
    cases e with
    | normal =>
      obtain ⟨hk3, hi3⟩ := hq
      have hl3 := (hk3.same (w.heap.size + 1) (.inr ⟨by omega, by omega⟩)).trans hl2
      have hd3 := (hk3.same w.heap.size (.inr ⟨by omega, by omega⟩)).trans hd2
      refine ⟨_, _, run_endRound (P := P) none hl3, rfl, ⟨hI _ _ _ hi3 (Turn.put _ _ ⟨by omega, by omega⟩), World.putObj_heap_same (Array.getElem?_eq_some_iff.1 hl3).1, (World.putObj_heap_other (by omega)).trans hd3⟩, ?_, ?_⟩
      · have := hk3.size; have := hk.size; simp at *; omega
      · intro k hkk
        have hne : k ≠ w.heap.size + 1 := by
          have := hOld k hkk; omega
        rw [World.putObj_heap_other hne, hk3.same k (.inl hkk), World.putObj_heap_other hne, hk.same k (.inl hkk)]
    | ret => exact hq.elim
    | exit id => exact hq.elim
    | goto t => exact hq.elim
    | panic ch => exact hq.elim
    | outgrown => exact hq.elim
  · rintro e W2 ⟨⟨v, rfl⟩, hi, hl, hd⟩
    exact ⟨none, _, run_endLoop (P := P) hl (by simp [rec0]), hdone _ (hI _ _ _ hi (Turn.put _ _ ⟨by omega, by omega⟩)) ((World.putObj_heap_other (by omega)).trans hd)⟩
end Go.Proofs.YthbmfnibgjlkhaaDoor
namespace Go.Proofs.YthbmfnibgjlkhaaDoor
open Go.RowKit
/-- From A to B only blocks of O may have turned. -/
structure TurnO (O : Nat → Prop) (A B : World) : Prop where
  os : B.os = A.os
  tape : B.tape = A.tape
  output : B.output = A.output
  size : A.heap.size ≤ B.heap.size
  block : ∀ k, k < A.heap.size → ¬ O k → B.heap[k]? = A.heap[k]?
theorem TurnO.of_below {O : Nat → Prop} {A B : World} (h : Below A.heap.size A B) : TurnO O A B := ⟨h.os, h.tape, h.output, h.size, fun k hk _ => h.block k hk⟩
theorem TurnO.trans {O : Nat → Prop} {A B C : World} (h : TurnO O A B) (k : TurnO O B C) : TurnO O A C := ⟨k.os.trans h.os, k.tape.trans h.tape, k.output.trans h.output, Nat.le_trans h.size k.size, fun i hi hO => (k.block i (Nat.lt_of_lt_of_le hi h.size) hO).trans (h.block i hi hO)⟩
theorem TurnO.mono {O O' : Nat → Prop} {A B : World} (h : TurnO O A B) (ho : ∀ k, k < A.heap.size → O k → O' k) : TurnO O' A B := ⟨h.os, h.tape, h.output, h.size, fun i hi hO => h.block i hi (fun h' => hO (ho i hi h'))⟩
/-- What a round of the body keeps: the old blocks and those of the iterator. -/
def KeepO (O : Nat → Prop) (A B : World) : Prop := A.heap.size ≤ B.heap.size ∧ ∀ k, k < A.heap.size → O k → B.heap[k]? = A.heap[k]?
/-- An invariant of the body bears what the iterator does: it turns its own blocks, and lays new ones. -/
def Bears (J : Nat → (Nat → Prop) → World → Prop) : Prop := ∀ i O O' A B, J i O A → TurnO O A B → (∀ k, k < A.heap.size → O' k → O k) → J i O' B
/-- What such an iterator is owed, and does. -/
def SeqO (F : Fence) (n : Nat) (P : Program) (Old : Nat → Prop) (g : Nat) (lb : Array Value) (V : Nat → (Nat → Prop) → Array Value → World → Prop) (N : Nat) (w : World) : Prop :=
  ∀ (l : Nat) (J : Nat → (Nat → Prop) → World → Prop) (W : World), Below w.heap.size w W → w.heap.size + 2 ≤ W.heap.size → Bears J →
    (∀ i O vs W1, i < N → J i O W1 → V i O vs W1 → (∀ k, O k → k < W1.heap.size) → YieldAt F (n - 1) P l vs W1 fun e W' => e = .returned (.bool true) ∧ J (i + 1) O W' ∧ KeepO (fun k => Old k ∨ O k) W1 W') →
    J 0 (fun _ => False) W →
    CallsIn F n P g (#[.func (.yield l) #[] #[]] ++ lb) W fun e W' => (∃ v, e = .returned v) ∧ ∃ O, J N O W'
/-- How the body of a round may be left. -/
def stepPostO (b : Nat) (Old : Nat → Prop) (I : Nat → (Nat → Prop) → World → Prop) (i : Nat) (O : Nat → Prop) (W : World) : Exit → Act → World → Prop
  | .normal, _, W' => KeepO (fun k => Old k ∨ O k ∨ k = b ∨ k = b + 1) W W' ∧ I (i + 1) O W'
  | _, _, _ => False
theorem wpIn_rangeFunc_own_steps {F : Fence} {n : Nat} {P : Program} {g : Operand} {ps : Array Tmp} {assign body : Code} {Q : Exit → Act → World → Prop} {a : Act} {w : World}
    (hro : F.round = none) (h1 : 1 ≤ n) {gf : Nat} {lb : Array Value} (hg : a.eval g = .func (.func gf) #[] lb) (hFg : F.fn gf) (eg : ∀ args w, (callFunc gf args).run P w = .ok (.enter gf args) w)
    {V : Nat → (Nat → Prop) → Array Value → World → Prop} {N : Nat} (Old : Nat → Prop) (hOld : ∀ k, Old k → k < w.heap.size) (hseq : SeqO F (n - 1) P Old gf lb V N w) (hps : ∀ i O vs W, V i O vs W → vs.size = ps.size)
    (I : Nat → (Nat → Prop) → World → Prop) (hI : Bears I) (hIt : ∀ i O A B, I i O A → Turn w.heap.size A B → I i O B) (h0 : I 0 (fun _ => False) w)
    (Ax : Nat → (Nat → Prop) → Array Value → Act → World → Prop) (hAx : ∀ x O vs a' A B, Ax x O vs a' A → Turn w.heap.size A B → Ax x O vs a' B)
    (hassign : ∀ (i : Nat) (O : Nat → Prop) (vs : Array Value) (W : World) (K : Act → World → Prop), i < N → I i O W → V i O vs W → w.heap.size + 2 ≤ W.heap.size → (∀ k, O k → k < W.heap.size) → (∀ a' W', KeepO (fun k => Old k ∨ O k ∨ k = w.heap.size ∨ k = w.heap.size + 1) W W' → I i O W' → Ax i O vs a' W' → K a' W') →
      assign.wpIn (F.inRound (w.heap.size + 1)) (n - 1 - 1) P (Exit.then K (fun _ _ _ => False)) { tmps := (ps.zip vs).foldl (fun t (p, v) => t.setIfInBounds p v) a.tmps, defers := [] } W)
    (hbody : ∀ (i : Nat) (O : Nat → Prop) (vs : Array Value) (a' : Act) (W : World), i < N → I i O W → Ax i O vs a' W → w.heap.size + 2 ≤ W.heap.size → (∀ k, O k → k < W.heap.size ∧ w.heap.size + 2 ≤ k) → body.wpIn (F.inRound (w.heap.size + 1)) (n - 1 - 1) P (stepPostO w.heap.size Old I i O W) a' W)
    (hdone : ∀ (O : Nat → Prop) (W : World), I N O W → W.heap[w.heap.size]? = some (.deferred (some [])) → Q .normal { a with defers := { target := .collected w.heap.size, args := #[] } :: a.defers } W) :
    (Code.rangeFunc g ps assign body).wpIn F n P Q a w := by
  refine wpIn_rangeFunc fun fn hfn => ?_
  rw [hro]
  let rec0 : LoopState → Option Code → Loop := fun st pe => { state := st, pending := pe, fn, tmps := a.tmps, params := ps, assign, body, defers := w.heap.size }
  let W1 := (w.alloc (.deferred (some []))).alloc (.loop (rec0 .ready none))
  have hs1 : W1.heap.size = w.heap.size + 2 := by simp [W1]
  have eL : W1.heap[w.heap.size + 1]? = some (.loop (rec0 .ready none)) := by
    have := World.alloc_heap_new (w.alloc (.deferred (some []))) (.loop (rec0 .ready none))
    rwa [World.size_alloc] at this
  have eD : W1.heap[w.heap.size]? = some (.deferred (some [])) := (Below.heap_alloc _ _ _ (by simp)).trans (World.alloc_heap_new w _)
  have hb : Below w.heap.size w W1 := ((Below.refl _ w).alloc (Nat.le_refl _) _).alloc (by simp) _
  refine ⟨w.heap.size + 1, [{ target := .collected w.heap.size, args := #[] }], W1, { target := .fn (.func gf) lb, args := #[.func (.yield (w.heap.size + 1)) #[] #[]] }, W1, gf, #[.func (.yield (w.heap.size + 1)) #[] #[]] ++ lb, W1, run_enterLoop_outer _ _ _ _ _, ?_, ?_, ?_, fun _ => h1, ?_⟩
  · simp only [resolve, hg]
    simp [go_sem]
  · intro f' hf'
    simp [Target.leads] at hf'
    subst hf'
    exact hFg
  · simp [invoke, go_sem, eg]
  refine (hseq (w.heap.size + 1) (fun i O W => I i O W ∧ W.heap[w.heap.size + 1]? = some (.loop (rec0 .ready none)) ∧ W.heap[w.heap.size]? = some (.deferred (some [])) ∧ w.heap.size + 2 ≤ W.heap.size ∧ ∀ k, O k → w.heap.size + 2 ≤ k) W1 hb (by omega) ?_ ?_ ⟨hIt _ _ _ _ h0 (Turn.of_below hb), eL, eD, by omega, fun k hk => hk.elim⟩).mono ?_
  · rintro i O O' A B ⟨hi, hl, hd, hsz, hO⟩ ht hO'
    have hOn : ¬ O (w.heap.size + 1) ∧ ¬ O w.heap.size := ⟨fun h => by have := hO _ h; omega, fun h => by have := hO _ h; omega⟩
    refine ⟨hI _ _ _ _ _ hi ht hO', (ht.block _ (Array.getElem?_eq_some_iff.1 hl).1 hOn.1).trans hl, (ht.block _ (Array.getElem?_eq_some_iff.1 hd).1 hOn.2).trans hd, Nat.le_trans hsz ht.size, fun k hk => ?_⟩
    rcases Nat.lt_or_ge k A.heap.size with h | h
    · exact hO k (hO' k h hk)
    · omega
  · rintro i O vs W hiN ⟨hi, hl, hd, hsz, hO⟩ hV hOlt
    have hy := run_yield (P := P) (args := vs) hl (hps i O vs W hV)
    refine ⟨fn, _, assign, body, hy, roundIn_of_wpIn hfn (hassign i O vs W _ hiN hi hV hsz hOlt fun a' W' hk hi' hx => ?_)⟩
    have hl' : W'.heap[w.heap.size + 1]? = some (.loop (rec0 .ready none)) := (hk.2 _ (by omega) (.inr (.inr (.inr rfl)))).trans hl
    have hd' : W'.heap[w.heap.size]? = some (.deferred (some [])) := (hk.2 _ (by omega) (.inr (.inr (.inl rfl)))).trans hd
    have hlt := (Array.getElem?_eq_some_iff.1 hl').1
    have hsz' := Nat.le_trans hsz hk.1
    refine ⟨_, run_beginRound hl' rfl, ?_⟩
    have hp : Turn w.heap.size W' (W'.putObj (w.heap.size + 1) (.loop (rec0 .busy none))) := Turn.put _ _ ⟨by omega, by omega⟩
    refine wpIn_mono (hbody i O vs a' (W'.putObj (w.heap.size + 1) (.loop (rec0 .busy none))) hiN (hIt _ _ _ _ hi' hp) (hAx _ _ _ _ _ _ hx hp) (by simpa using hsz') (fun k hk' => ⟨by have := hOlt k hk'; have := hk.1; simp; omega, hO k hk'⟩)) ?_
    have hl2 : (W'.putObj (w.heap.size + 1) (.loop (rec0 .busy none))).heap[w.heap.size + 1]? = some (.loop (rec0 .busy none)) := World.putObj_heap_same hlt
    have hd2 : (W'.putObj (w.heap.size + 1) (.loop (rec0 .busy none))).heap[w.heap.size]? = some (.deferred (some [])) := (World.putObj_heap_other (by omega)).trans hd'
    have hszp : (W'.putObj (w.heap.size + 1) (.loop (rec0 .busy none))).heap.size = W'.heap.size := by simp
    rintro e a3 W3 hq
    cases e with
    | normal =>
      obtain ⟨hk3, hi3⟩ := hq
      have hl3 := (hk3.2 (w.heap.size + 1) (by omega) (.inr (.inr (.inr rfl)))).trans hl2
      have hd3 := (hk3.2 w.heap.size (by omega) (.inr (.inr (.inl rfl)))).trans hd2
      have hs3 := hk3.1
      rw [hszp] at hs3
      refine ⟨_, _, run_endRound (P := P) none hl3, rfl, ⟨hIt _ _ _ _ hi3 (Turn.put _ _ ⟨by omega, by omega⟩), World.putObj_heap_same (Array.getElem?_eq_some_iff.1 hl3).1, (World.putObj_heap_other (by omega)).trans hd3, by simp; omega, hO⟩, ?_, ?_⟩
      · have := hk.1; simp; omega
      · intro k hkl hkk
        have hne : k ≠ w.heap.size + 1 := by
          rcases hkk with h | h
          · have := hOld k h; omega
          · have := hO k h; omega
        have hk' : Old k ∨ O k ∨ k = w.heap.size ∨ k = w.heap.size + 1 := hkk.imp id .inl
        have := hk.1
        rw [World.putObj_heap_other hne, hk3.2 k (by rw [hszp]; omega) hk', World.putObj_heap_other hne, hk.2 k hkl hk']
    | ret => exact hq.elim
    | exit id => exact hq.elim
    | goto t => exact hq.elim
    | panic ch => exact hq.elim
    | outgrown => exact hq.elim
  · rintro e W2 ⟨⟨v, rfl⟩, O, hi, hl, hd, _, _⟩
    exact ⟨none, _, run_endLoop (P := P) hl (by simp [rec0]), hdone O _ (hIt _ _ _ _ hi (Turn.put _ _ ⟨by omega, by omega⟩)) ((World.putObj_heap_other (by omega)).trans hd)⟩
end Go.Proofs.YthbmfnibgjlkhaaDoor
namespace Go.Proofs.YthbmfnibgjlkhaaDoor
open Go.RowKit Go.Shelf
theorem mk_func : ∀ (fn : Fn) (first cap : Array Value) (w : World), (Instr.makeFunc fn first cap).run Tryd.prog w = .ok (.func fn first cap) w := fun _ _ _ _ => rfl
theorem RdN.kept {Old : Nat → Prop} {A B : World} {a : Addr} {n : Nat} {F : Nat → Nd} (h : RdN A (some a) n F) (hk : KeepY Old A B) (ho : Old a.block) : RdN B (some a) n F := by
  intro hn
  obtain ⟨b, off, e, hb, hc⟩ := h hn
  obtain rfl := Option.some.inj e
  refine ⟨b, off, rfl, Nat.lt_of_lt_of_le hb hk.1, fun k hkn => ?_⟩
  have q : ∀ i, B.cell? ⟨b, i, none⟩ = A.cell? ⟨b, i, none⟩ := fun i => by simp only [World.cell?, hk.2 b ho]
  rw [q, q, q, q, q, q, q, q, q, q]
  exact hc k hkn
theorem Cl.kept {Old : Nat → Prop} {A B : World} {b : Nat} {t : TypeId} {vs : List Value} (h : Cl A b t vs) (hk : KeepY Old A B) (ho : Old b) : Cl B b t vs := by unfold Cl; rw [hk.2 b ho]; exact h
end Go.Proofs.YthbmfnibgjlkhaaDoor
