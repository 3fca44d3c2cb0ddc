/- A range over a function whose iterator writes blocks of its own, those ahead of a height; it may be left by break, or by return. -/
import Derived.RangeFuncNested
import Derived.RangeFuncBound
import Derived.RangeFuncCalls
import Derived.RangeFuncLeaves
import Derived.RangeFuncBox
namespace Go.Proofs.Ytgololmgdakigaa
open Go.RowKit
/-- From A to B only the blocks from lo up to hi may have turned. -/
structure TurnR (lo hi : Nat) (A B : World) : Prop where
  os : B.os = A.os
  tape : B.tape = A.tape
  output : B.output = A.output
  size : A.heap.size ≤ B.heap.size
  block : ∀ k, k < A.heap.size → (k < lo ∨ hi ≤ k) → B.heap[k]? = A.heap[k]?
theorem TurnR.of_below {lo hi : Nat} {A B : World} (h : Below A.heap.size A B) : TurnR lo hi A B := ⟨h.os, h.tape, h.output, h.size, fun k hk _ => h.block k hk⟩
theorem TurnR.wide {lo hi lo' hi' : Nat} {A B : World} (h : TurnR lo hi A B) (h1 : lo' ≤ lo) (h2 : hi ≤ hi') : TurnR lo' hi' A B := ⟨h.os, h.tape, h.output, h.size, fun k hk hb => h.block k hk (by omega)⟩
theorem TurnR.put {lo hi : Nat} {A : World} (l : Nat) (o : Obj) (hl : lo ≤ l ∧ l < hi) : TurnR lo hi A (A.putObj l o) :=
  ⟨rfl, rfl, rfl, by simp, fun k _ hk => World.putObj_heap_other (by omega)⟩
/-- What a round of the body keeps: the old blocks, and those from lo up to hi. -/
structure KeepR (lo hi : Nat) (Old : Nat → Prop) (A B : World) : Prop where
  size : A.heap.size ≤ B.heap.size
  same : ∀ k, (Old k ∨ (lo ≤ k ∧ k < hi)) → B.heap[k]? = A.heap[k]?
theorem KeepR.trans {lo hi : Nat} {Old : Nat → Prop} {A B C : World} (h : KeepR lo hi Old A B) (k : KeepR lo hi Old B C) : KeepR lo hi Old A C := ⟨Nat.le_trans h.size k.size, fun i hi => (k.same i hi).trans (h.same i hi)⟩
/-- How the body of a round may be left. -/
def turnPostR {α : Type} (lo hi : Nat) (Old : Nat → Prop) (I : List α → World → Prop) (Ix : Code → List α → World → Prop) (xs : List α) (W : World) : Exit → Act → World → Prop
  | .normal, _, W' => KeepR lo hi Old W W' ∧ I xs W'
  | .ret, _, W' => KeepR lo hi Old W W' ∧ Ix .ret xs W'
  | .exit i, _, W' => KeepR lo hi Old W W' ∧ Ix (.exit i) xs W'
  | _, _, _ => False
/-- What such an iterator is owed, and does: it begins in a world of b + 2 blocks. -/
def SeqR {α : Type} (F : Fence) (n : Nat) (P : Program) (b hi : Nat) (Old : Nat → Prop) (g : Nat) (lb : Array Value) (encs : α → Array Value) (V : List α → α → Prop) (S Sp : List α → Prop) (N : Nat) (w : World) : Prop :=
  ∀ (J Jx : List α → World → Prop) (W : World), Below b w W → W.heap.size = b + 2 → (∀ s A B, J s A → TurnR (b + 2) hi A B → J s B) → (∀ s A B, Jx s A → TurnR (b + 2) hi A B → Jx s B) →
    (∀ pre x W1, J pre W1 → V pre x → hi ≤ W1.heap.size → pre.length < N → YieldAt F (n - 1) P (b + 1) (encs x) W1 fun e W' =>
      ((e = .returned (.bool true) ∧ J (pre ++ [x]) W') ∨ (e = .returned (.bool false) ∧ Jx (pre ++ [x]) W')) ∧ KeepR (b + 2) hi Old W1 W') →
    J [] W →
    CallsIn F n P g (#[.func (.yield (b + 1)) #[] #[]] ++ lb) W fun e W' => (∃ v, e = .returned v) ∧ ((∃ xs, S xs ∧ J xs W') ∨ (∃ pre, Sp pre ∧ Jx pre W'))
theorem wpIn_rangeFunc_turnR {α : Type} {F : Fence} {n : Nat} {P : Program} {g : Operand} {ps : Array Tmp} {assign body : Code} {Q : Exit → Act → World → Prop} {a : Act} {w : World}
    (hro : F.round = none) (h1 : 1 ≤ n) {gf : Nat} {lb : Array Value} (hg : a.eval g = .func (.func gf) #[] lb) (hFg : F.fn gf) (eg : ∀ args w, (callFunc gf args).run P w = .ok (.enter gf args) w)
    {encs : α → Array Value} {V : List α → α → Prop} {S Sp : List α → Prop} {N hi : Nat} (hhi : w.heap.size + 2 ≤ hi) (Old : Nat → Prop) (hOld : ∀ k, Old k → k < w.heap.size) (hseq : SeqR F (n - 1) P w.heap.size hi Old gf lb encs V S Sp N w) (hps : ∀ x, (encs x).size = ps.size)
    (I : List α → World → Prop) (Ix : Code → List α → World → Prop) (hI : ∀ s A B, I s A → TurnR w.heap.size hi A B → I s B) (hIx : ∀ c s A B, Ix c s A → TurnR w.heap.size hi A B → Ix c s B) (h0 : I [] w)
    (Ax : α → Act → World → Prop) (hAx : ∀ x a' A B, Ax x a' A → TurnR w.heap.size hi A B → Ax x a' B)
    (hassign : ∀ (pre : List α) (x : α) (W : World) (K : Act → World → Prop), I pre W → hi ≤ W.heap.size → (∀ a' W', KeepR w.heap.size hi Old W W' → I pre W' → Ax x a' W' → K a' W') →
      assign.wpIn (F.inRound (w.heap.size + 1)) (n - 1 - 1) P (Exit.then K (fun _ _ _ => False)) { tmps := (ps.zip (encs x)).foldl (fun t (p, v) => t.setIfInBounds p v) a.tmps, defers := [] } W)
    (hbody : ∀ (pre : List α) (x : α) (a' : Act) (W : World), I pre W → V pre x → Ax x a' W → hi ≤ W.heap.size → pre.length < N → body.wpIn (F.inRound (w.heap.size + 1)) (n - 1 - 1) P (turnPostR w.heap.size hi Old I Ix (pre ++ [x]) W) a' W)
    (hdone : ∀ (xs : List α) (W : World), S xs → I xs W → W.heap[w.heap.size]? = some (.deferred (some [])) → Q .normal { a with defers := { target := .collected w.heap.size, args := #[] } :: a.defers } W)
    (hstop : ∀ (c : Code) (pre : List α) (W : World), Sp pre → Ix c pre W → W.heap[w.heap.size]? = some (.deferred (some [])) → c.wpIn F n P Q { a with defers := { target := .collected w.heap.size, args := #[] } :: a.defers } W) :
    (Code.rangeFunc g ps assign body).wpIn F n P Q a w := by
  refine wpIn_rangeFunc fun fn hfn => ?_
  rw [hro]
  let rec0 : LoopState → Option Code → Loop := fun st pe => { state := st, pending := pe, fn, tmps := a.tmps, params := ps, assign, body, defers := w.heap.size }
  let W1 := (w.alloc (.deferred (some []))).alloc (.loop (rec0 .ready none))
  have hs1 : W1.heap.size = w.heap.size + 2 := by simp [W1]
  have eL : W1.heap[w.heap.size + 1]? = some (.loop (rec0 .ready none)) := by
    have := World.alloc_heap_new (w.alloc (.deferred (some []))) (.loop (rec0 .ready none))
    rwa [World.size_alloc] at this
  have eD : W1.heap[w.heap.size]? = some (.deferred (some [])) := (Below.heap_alloc _ _ _ (by simp)).trans (World.alloc_heap_new w _)
  have hb : Below w.heap.size w W1 := ((Below.refl _ w).alloc (Nat.le_refl _) _).alloc (by simp) _
  refine ⟨w.heap.size + 1, [{ target := .collected w.heap.size, args := #[] }], W1, { target := .fn (.func gf) lb, args := #[.func (.yield (w.heap.size + 1)) #[] #[]] }, W1, gf, #[.func (.yield (w.heap.size + 1)) #[] #[]] ++ lb, W1, run_enterLoop_outer _ _ _ _ _, ?_, ?_, ?_, fun _ => h1, ?_⟩
  · simp only [resolve, hg]
    simp [go_sem]
  · intro f' hf'
    simp [Target.leads] at hf'
    subst hf'
    exact hFg
  · simp [invoke, go_sem, eg]
  refine (hseq (fun pre W => I pre W ∧ W.heap[w.heap.size + 1]? = some (.loop (rec0 .ready none)) ∧ W.heap[w.heap.size]? = some (.deferred (some [])))
    (fun pre W => ∃ c, Ix c pre W ∧ W.heap[w.heap.size + 1]? = some (.loop (rec0 .done (some c))) ∧ W.heap[w.heap.size]? = some (.deferred (some []))) W1 hb hs1 ?_ ?_ ?_ ⟨hI _ _ _ h0 (TurnR.of_below hb), eL, eD⟩).mono ?_
  · rintro s A B ⟨hi, hl, hd⟩ ht
    exact ⟨hI _ _ _ hi (ht.wide (by omega) (Nat.le_refl _)), (ht.block _ (Array.getElem?_eq_some_iff.1 hl).1 (by omega)).trans hl, (ht.block _ (Array.getElem?_eq_some_iff.1 hd).1 (by omega)).trans hd⟩
  · rintro s A B ⟨c, hi, hl, hd⟩ ht
    exact ⟨c, hIx _ _ _ _ hi (ht.wide (by omega) (Nat.le_refl _)), (ht.block _ (Array.getElem?_eq_some_iff.1 hl).1 (by omega)).trans hl, (ht.block _ (Array.getElem?_eq_some_iff.1 hd).1 (by omega)).trans hd⟩
  · rintro pre x W ⟨hi', hl, hd⟩ hV hsz hlen
    have hy := run_yield (P := P) (args := encs x) hl (hps x)
    refine ⟨fn, _, assign, body, hy, roundIn_of_wpIn hfn (hassign pre x W _ hi' hsz fun a' W' hk hi' hx => ?_)⟩
    have hl' : W'.heap[w.heap.size + 1]? = some (.loop (rec0 .ready none)) := (hk.same _ (.inr ⟨by omega, by omega⟩)).trans hl
    have hd' : W'.heap[w.heap.size]? = some (.deferred (some [])) := (hk.same _ (.inr ⟨by omega, by omega⟩)).trans hd
    have hlt := (Array.getElem?_eq_some_iff.1 hl').1
    have hsz' := Nat.le_trans hsz hk.size
    refine ⟨_, run_beginRound hl' rfl, ?_⟩
    have hp : TurnR w.heap.size hi W' (W'.putObj (w.heap.size + 1) (.loop (rec0 .busy none))) := TurnR.put _ _ ⟨by omega, by omega⟩
    refine wpIn_mono (hbody pre x a' (W'.putObj (w.heap.size + 1) (.loop (rec0 .busy none))) (hI _ _ _ hi' hp) hV (hAx _ _ _ _ hx hp) (by simpa using hsz') hlen) ?_
    have hl2 : (W'.putObj (w.heap.size + 1) (.loop (rec0 .busy none))).heap[w.heap.size + 1]? = some (.loop (rec0 .busy none)) := World.putObj_heap_same hlt
    have hd2 : (W'.putObj (w.heap.size + 1) (.loop (rec0 .busy none))).heap[w.heap.size]? = some (.deferred (some [])) := (World.putObj_heap_other (by omega)).trans hd'
    have fin : ∀ (jump : Option Code) (W3 : World), KeepR w.heap.size hi Old (W'.putObj (w.heap.size + 1) (.loop (rec0 .busy none))) W3 →
        (Instr.endRound (w.heap.size + 1) jump).run P W3 = .ok (.bool jump.isNone) (W3.putObj (w.heap.size + 1) (.loop (rec0 (if jump.isNone then .ready else .done) jump))) ∧
        (W3.putObj (w.heap.size + 1) (.loop (rec0 (if jump.isNone then .ready else .done) jump))).heap[w.heap.size + 1]? = some (.loop (rec0 (if jump.isNone then .ready else .done) jump)) ∧
        (W3.putObj (w.heap.size + 1) (.loop (rec0 (if jump.isNone then .ready else .done) jump))).heap[w.heap.size]? = some (.deferred (some [])) ∧
        KeepR (w.heap.size + 2) hi Old W (W3.putObj (w.heap.size + 1) (.loop (rec0 (if jump.isNone then .ready else .done) jump))) := fun jump W3 hk3 => by
      have hl3 := (hk3.same (w.heap.size + 1) (.inr ⟨by omega, by omega⟩)).trans hl2
      have hd3 := (hk3.same w.heap.size (.inr ⟨by omega, by omega⟩)).trans hd2
      refine ⟨run_endRound (P := P) jump hl3, World.putObj_heap_same (Array.getElem?_eq_some_iff.1 hl3).1, (World.putObj_heap_other (by omega)).trans hd3, ?_, ?_⟩
      · have := hk3.size; have := hk.size; simp at *; omega
      · intro k hkk
        have hne : k ≠ w.heap.size + 1 := by
          rcases hkk with h | h
          · have := hOld k h; omega
          · omega
        rw [World.putObj_heap_other hne, hk3.same k (hkk.imp id fun h => by omega), World.putObj_heap_other hne, hk.same k (hkk.imp id fun h => by omega)]
    have hput : ∀ (W3 : World) (o : Obj), TurnR w.heap.size hi W3 (W3.putObj (w.heap.size + 1) o) := fun W3 o => TurnR.put _ _ ⟨by omega, by omega⟩
    rintro e a3 W3 hq
    cases e with
    | normal =>
      obtain ⟨hk3, hi3⟩ := hq
      obtain ⟨hr, hl4, hd4, hkk⟩ := fin none W3 hk3
      exact ⟨_, _, hr, .inl ⟨rfl, hI _ _ _ hi3 (hput _ _), hl4, hd4⟩, hkk⟩
    | ret =>
      obtain ⟨hk3, hi3⟩ := hq
      obtain ⟨hr, hl4, hd4, hkk⟩ := fin (some .ret) W3 hk3
      exact ⟨_, _, hr, .inr ⟨rfl, .ret, hIx _ _ _ _ hi3 (hput _ _), hl4, hd4⟩, hkk⟩
    | exit id =>
      obtain ⟨hk3, hi3⟩ := hq
      obtain ⟨hr, hl4, hd4, hkk⟩ := fin (some (.exit id)) W3 hk3
      exact ⟨_, _, hr, .inr ⟨rfl, .exit id, hIx _ _ _ _ hi3 (hput _ _), hl4, hd4⟩, hkk⟩
    | goto t => exact hq.elim
    | panic ch => exact hq.elim
    | outgrown => exact hq.elim
  · rintro e W2 ⟨⟨v, rfl⟩, (⟨xs, hS, hi', hl, hd⟩ | ⟨pre, hSp, c, hi', hl, hd⟩)⟩
    · exact ⟨none, _, run_endLoop (P := P) hl (by simp [rec0]), hdone xs _ hS (hI _ _ _ hi' (TurnR.put _ _ ⟨by omega, by omega⟩)) ((World.putObj_heap_other (by omega)).trans hd)⟩
    · exact ⟨some c, _, run_endLoop (P := P) hl (by simp [rec0]), hstop c pre _ hSp (hIx _ _ _ _ hi' (TurnR.put _ _ ⟨by omega, by omega⟩)) ((World.putObj_heap_other (by omega)).trans hd)⟩
end Go.Proofs.Ytgololmgdakigaa
