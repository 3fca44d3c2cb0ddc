/- A range over a function whose iterator writes two blocks of its own, the first that it lays. token: tokens as values; the tokens of a pattern, one by one. token: the iterator of words: its passes. -/
import Derived.Test.YtkbeiadbolihiaaM23Kt
import Derived.RangeFuncNested
import Derived.RangeFuncBound
import Derived.RangeFuncCalls
import Derived.RangeFuncLeaves
import Derived.RangeFuncBox
import Derived.Test.YtkbeiadbolihiaaM10Xa
import Derived.OwnWalkIn
import Derived.TacticsInMore
import Derived.LoopNIn
import Derived.LoopIn
import Derived.Shelf.Abstract
namespace Go.Proofs.Ytkbeiadbolihiaa
open Go.RowKit
/-- From A to B only the blocks from b to b + 3 may have turned. -/
structure Turn (b : Nat) (A B : World) : Prop where
  os : B.os = A.os
  tape : B.tape = A.tape
  output : B.output = A.output
  size : A.heap.size ≤ B.heap.size
  block : ∀ k, k < A.heap.size → (k < b ∨ b + 4 ≤ k) → B.heap[k]? = A.heap[k]?
/-- From A to B only the blocks b + 2 and b + 3 may have turned. -/
structure TurnI (b : Nat) (A B : World) : Prop where
  os : B.os = A.os
  tape : B.tape = A.tape
  output : B.output = A.output
  size : A.heap.size ≤ B.heap.size
  block : ∀ k, k < A.heap.size → k ≠ b + 2 → k ≠ b + 3 → B.heap[k]? = A.heap[k]?
theorem TurnI.turn {b : Nat} {A B : World} (h : TurnI b A B) : Turn b A B := ⟨h.os, h.tape, h.output, h.size, fun k hk hb => h.block k hk (by omega) (by omega)⟩
theorem TurnI.of_below {b : Nat} {A B : World} (h : Below A.heap.size A B) : TurnI b A B := ⟨h.os, h.tape, h.output, h.size, fun k hk _ _ => h.block k hk⟩
theorem TurnI.trans {b : Nat} {A B C : World} (h : TurnI b A B) (k : TurnI b B C) : TurnI b A C :=
  ⟨k.os.trans h.os, k.tape.trans h.tape, k.output.trans h.output, Nat.le_trans h.size k.size, fun i hi h2 h3 => (k.block i (Nat.lt_of_lt_of_le hi h.size) h2 h3).trans (h.block i hi h2 h3)⟩
theorem TurnI.of_set {b B : Nat} {A C : World} (h : Below B A C) (hs : ∀ k, k ≠ b + 2 → k ≠ b + 3 → C.heap[k]? = A.heap[k]?) : TurnI b A C := ⟨h.os, h.tape, h.output, h.size, fun k _ h2 h3 => hs k h2 h3⟩
theorem Turn.of_below {b : Nat} {A B : World} (h : Below A.heap.size A B) : Turn b A B := (TurnI.of_below h).turn
theorem Turn.put {b : Nat} {A : World} (l : Nat) (o : Obj) (hl : b ≤ l ∧ l < b + 4) : Turn b A (A.putObj l o) :=
  ⟨rfl, rfl, rfl, by simp, fun k _ hk => World.putObj_heap_other (by omega)⟩
/-- What a round of the body keeps: the old blocks, and those from b to b + 3. -/
structure KeepT (b : Nat) (Old : Nat → Prop) (A B : World) : Prop where
  size : A.heap.size ≤ B.heap.size
  same : ∀ k, (Old k ∨ (b ≤ k ∧ k < b + 4)) → B.heap[k]? = A.heap[k]?
theorem KeepT.refl (b : Nat) (Old : Nat → Prop) (A : World) : KeepT b Old A A := ⟨Nat.le_refl _, fun _ _ => rfl⟩
theorem KeepT.trans {b : Nat} {Old : Nat → Prop} {A B C : World} (h : KeepT b Old A B) (k : KeepT b Old B C) : KeepT b Old A C := ⟨Nat.le_trans h.size k.size, fun i hi => (k.same i hi).trans (h.same i hi)⟩
/-- What the iterator sees of it. -/
def KeepY (b : Nat) (Old : Nat → Prop) (A B : World) : Prop := A.heap.size ≤ B.heap.size ∧ ∀ k, (Old k ∨ k = b + 2 ∨ k = b + 3) → B.heap[k]? = A.heap[k]?
/-- How the body of a round may be left. -/
def turnPost {α : Type} (b : Nat) (Old : Nat → Prop) (I : List α → World → Prop) (Ix : Code → List α → World → Prop) (xs : List α) (W : World) : Exit → Act → World → Prop
  | .normal, _, W' => KeepT b Old W W' ∧ I xs W'
  | .ret, _, W' => KeepT b Old W W' ∧ Ix .ret xs W'
  | _, _, _ => False
/-- What such an iterator is owed, and does: it begins in a world of b + 2 blocks. -/
def SeqT {α : Type} (F : Fence) (n : Nat) (P : Program) (b : Nat) (Old : Nat → Prop) (g : Nat) (lb : Array Value) (encs : α → Array Value) (S Sp : List α → Prop) (N : Nat) (w : World) : Prop :=
  ∀ (J Jx : List α → World → Prop) (W : World), Below b w W → W.heap.size = b + 2 → (∀ s A B, J s A → TurnI b A B → J s B) → (∀ s A B, Jx s A → TurnI b A B → Jx s B) →
    (∀ pre x W1, J pre W1 → b + 4 ≤ W1.heap.size → pre.length < N → YieldAt F (n - 1) P (b + 1) (encs x) W1 fun e W' =>
      (e = .returned (.bool true) ∧ J (pre ++ [x]) W' ∧ KeepY b Old W1 W') ∨ (e = .returned (.bool false) ∧ Jx (pre ++ [x]) W')) →
    J [] W →
    CallsIn F n P g (#[.func (.yield (b + 1)) #[] #[]] ++ lb) W fun e W' => (∃ v, e = .returned v) ∧ ((∃ xs, S xs ∧ J xs W') ∨ (∃ pre, Sp pre ∧ Jx pre W'))
theorem wpIn_rangeFunc_turn {α : Type} {F : Fence} {n : Nat} {P : Program} {g : Operand} {ps : Array Tmp} {assign body : Code} {Q : Exit → Act → World → Prop} {a : Act} {w : World}
    (hro : F.round = none) (h1 : 1 ≤ n) {gf : Nat} {lb : Array Value} (hg : a.eval g = .func (.func gf) #[] lb) (hFg : F.fn gf) (eg : ∀ args w, (callFunc gf args).run P w = .ok (.enter gf args) w)
    {encs : α → Array Value} {S Sp : List α → Prop} {N : Nat} (Old : Nat → Prop) (hOld : ∀ k, Old k → k < w.heap.size) (hseq : SeqT F (n - 1) P w.heap.size Old gf lb encs S Sp N w) (hps : ∀ x, (encs x).size = ps.size)
    (I : List α → World → Prop) (Ix : Code → List α → World → Prop) (hI : ∀ s A B, I s A → Turn w.heap.size A B → I s B) (hIx : ∀ c s A B, Ix c s A → Turn w.heap.size A B → Ix c s B) (h0 : I [] w)
    (Ax : α → Act → World → Prop) (hAx : ∀ x a' A B, Ax x a' A → Turn w.heap.size A B → Ax x a' B)
    (hassign : ∀ (pre : List α) (x : α) (W : World) (K : Act → World → Prop), I pre W → w.heap.size + 4 ≤ W.heap.size → (∀ a' W', KeepT w.heap.size Old W W' → I pre W' → Ax x a' W' → K a' W') →
      assign.wpIn (F.inRound (w.heap.size + 1)) (n - 1 - 1) P (Exit.then K (fun _ _ _ => False)) { tmps := (ps.zip (encs x)).foldl (fun t (p, v) => t.setIfInBounds p v) a.tmps, defers := [] } W)
    (hbody : ∀ (pre : List α) (x : α) (a' : Act) (W : World), I pre W → Ax x a' W → w.heap.size + 4 ≤ W.heap.size → pre.length < N → body.wpIn (F.inRound (w.heap.size + 1)) (n - 1 - 1) P (turnPost w.heap.size Old I Ix (pre ++ [x]) W) a' W)
    (hdone : ∀ (xs : List α) (W : World), S xs → I xs W → W.heap[w.heap.size]? = some (.deferred (some [])) → Q .normal { a with defers := { target := .collected w.heap.size, args := #[] } :: a.defers } W)
    (hstop : ∀ (pre : List α) (W : World), Sp pre → Ix .ret pre W → W.heap[w.heap.size]? = some (.deferred (some [])) → Code.ret.wpIn F n P Q { a with defers := { target := .collected w.heap.size, args := #[] } :: a.defers } W) :
    (Code.rangeFunc g ps assign body).wpIn F n P Q a w := by
  refine wpIn_rangeFunc fun fn hfn => ?_
  rw [hro]
  let rec0 : LoopState → Option Code → Loop := fun st pe => { state := st, pending := pe, fn, tmps := a.tmps, params := ps, assign, body, defers := w.heap.size }
  let W1 := (w.alloc (.deferred (some []))).alloc (.loop (rec0 .ready none))
  have hs1 : W1.heap.size = w.heap.size + 2 := by simp [W1]
  have eL : W1.heap[w.heap.size + 1]? = some (.loop (rec0 .ready none)) := by
    have := World.alloc_heap_new (w.alloc (.deferred (some []))) (.loop (rec0 .ready none))
    rwa [World.size_alloc] at this
  have eD : W1.heap[w.heap.size]? = some (.deferred (some [])) := (Below.heap_alloc _ _ _ (by simp)).trans (World.alloc_heap_new w _)
  have hb : Below w.heap.size w W1 := ((Below.refl _ w).alloc (Nat.le_refl _) _).alloc (by simp) _
  refine ⟨w.heap.size + 1, [{ target := .collected w.heap.size, args := #[] }], W1, { target := .fn (.func gf) lb, args := #[.func (.yield (w.heap.size + 1)) #[] #[]] }, W1, gf, #[.func (.yield (w.heap.size + 1)) #[] #[]] ++ lb, W1, run_enterLoop_outer _ _ _ _ _, ?_, ?_, ?_, fun _ => h1, ?_⟩
  · simp only [resolve, hg]
    simp [go_sem]
  · intro f' hf'
    simp [Target.leads] at hf'
    subst hf'
    exact hFg
  · simp [invoke, go_sem, eg]
  refine (hseq (fun pre W => I pre W ∧ W.heap[w.heap.size + 1]? = some (.loop (rec0 .ready none)) ∧ W.heap[w.heap.size]? = some (.deferred (some [])))
    (fun pre W => Ix .ret pre W ∧ W.heap[w.heap.size + 1]? = some (.loop (rec0 .done (some .ret))) ∧ W.heap[w.heap.size]? = some (.deferred (some []))) W1 hb hs1 ?_ ?_ ?_ ⟨hI _ _ _ h0 (Turn.of_below hb), eL, eD⟩).mono ?_
  · rintro s A B ⟨hi, hl, hd⟩ ht
    exact ⟨hI _ _ _ hi ht.turn, (ht.block _ (Array.getElem?_eq_some_iff.1 hl).1 (by omega) (by omega)).trans hl, (ht.block _ (Array.getElem?_eq_some_iff.1 hd).1 (by omega) (by omega)).trans hd⟩
  · rintro s A B ⟨hi, hl, hd⟩ ht
    exact ⟨hIx _ _ _ _ hi ht.turn, (ht.block _ (Array.getElem?_eq_some_iff.1 hl).1 (by omega) (by omega)).trans hl, (ht.block _ (Array.getElem?_eq_some_iff.1 hd).1 (by omega) (by omega)).trans hd⟩
  · rintro pre x W ⟨hi, hl, hd⟩ hsz hlen
    have hy := run_yield (P := P) (args := encs x) hl (hps x)
    refine ⟨fn, _, assign, body, hy, roundIn_of_wpIn hfn (hassign pre x W _ hi hsz fun a' W' hk hi' hx => ?_)⟩
    have hl' : W'.heap[w.heap.size + 1]? = some (.loop (rec0 .ready none)) := (hk.same _ (.inr ⟨by omega, by omega⟩)).trans hl
    have hd' : W'.heap[w.heap.size]? = some (.deferred (some [])) := (hk.same _ (.inr ⟨by omega, by omega⟩)).trans hd
    have hlt := (Array.getElem?_eq_some_iff.1 hl').1
    have hsz' := Nat.le_trans hsz hk.size
    refine ⟨_, run_beginRound hl' rfl, ?_⟩
    have hp : Turn w.heap.size W' (W'.putObj (w.heap.size + 1) (.loop (rec0 .busy none))) := Turn.put _ _ ⟨by omega, by omega⟩
    refine wpIn_mono (hbody pre x a' (W'.putObj (w.heap.size + 1) (.loop (rec0 .busy none))) (hI _ _ _ hi' hp) (hAx _ _ _ _ hx hp) (by simpa using hsz') hlen) ?_
    have hl2 : (W'.putObj (w.heap.size + 1) (.loop (rec0 .busy none))).heap[w.heap.size + 1]? = some (.loop (rec0 .busy none)) := World.putObj_heap_same hlt
    have hd2 : (W'.putObj (w.heap.size + 1) (.loop (rec0 .busy none))).heap[w.heap.size]? = some (.deferred (some [])) := (World.putObj_heap_other (by omega)).trans hd'
    rintro e a3 W3 hq
    cases e with
    | normal =>
      obtain ⟨hk3, hi3⟩ := hq
      have hl3 := (hk3.same (w.heap.size + 1) (.inr ⟨by omega, by omega⟩)).trans hl2
      have hd3 := (hk3.same w.heap.size (.inr ⟨by omega, by omega⟩)).trans hd2
      refine ⟨_, _, run_endRound (P := P) none hl3, .inl ⟨rfl, ⟨hI _ _ _ hi3 (Turn.put _ _ ⟨by omega, by omega⟩), World.putObj_heap_same (Array.getElem?_eq_some_iff.1 hl3).1, (World.putObj_heap_other (by omega)).trans hd3⟩, ?_, ?_⟩⟩
      · have := hk3.size; have := hk.size; simp at *; omega
      · intro k hkk
        have hne : k ≠ w.heap.size + 1 := by
          rcases hkk with h | h | h
          · have := hOld k h; omega
          · omega
          · omega
        rw [World.putObj_heap_other hne, hk3.same k (hkk.imp id fun h => by omega), World.putObj_heap_other hne, hk.same k (hkk.imp id fun h => by omega)]
    | ret =>
      obtain ⟨hk3, hi3⟩ := hq
      have hl3 := (hk3.same (w.heap.size + 1) (.inr ⟨by omega, by omega⟩)).trans hl2
      have hd3 := (hk3.same w.heap.size (.inr ⟨by omega, by omega⟩)).trans hd2
      exact ⟨_, _, run_endRound (P := P) (some .ret) hl3, .inr ⟨rfl, hIx _ _ _ _ hi3 (Turn.put _ _ ⟨by omega, by omega⟩), World.putObj_heap_same (Array.getElem?_eq_some_iff.1 hl3).1, (World.putObj_heap_other (by omega)).trans hd3⟩⟩
    | exit id => exact hq.elim
    | goto t => exact hq.elim
    | panic ch => exact hq.elim
    | outgrown => exact hq.elim
  · rintro e W2 ⟨⟨v, rfl⟩, (⟨xs, hS, hi, hl, hd⟩ | ⟨pre, hSp, hi, hl, hd⟩)⟩
    · exact ⟨none, _, run_endLoop (P := P) hl (by simp [rec0]), hdone xs _ hS (hI _ _ _ hi (Turn.put _ _ ⟨by omega, by omega⟩)) ((World.putObj_heap_other (by omega)).trans hd)⟩
    · exact ⟨some .ret, _, run_endLoop (P := P) hl (by simp [rec0]), hstop pre _ hSp (hIx _ _ _ _ hi (Turn.put _ _ ⟨by omega, by omega⟩)) ((World.putObj_heap_other (by omega)).trans hd)⟩
end Go.Proofs.Ytkbeiadbolihiaa
namespace Go.Proofs.Ytkbeiadbolihiaa
open Go.RowKit
theorem word_d (ao : Option Addr) (n cap at_ : Nat) (z : Nat → Nat) (w : World) (hr : Rd w ao n z) (hn : (n : Int) ≤ 1024) (ha : at_ < n) : Calls Try.prog 17 #[.slice ao n cap, .int .i64 (at_ : Nat)] w (RetD w (wrd z n at_)) :=
  (word_whole ao n cap at_ z w hr hn ha).mono fun _ _ h => h.d
/-- The words from a place on, the bad one last. -/
def wl (z : Nat → Nat) (n : Nat) : Nat → Nat → List TokS
  | 0, _ => []
  | f + 1, i => if n ≤ i then [] else wrd z n i :: if (wrd z n i).er = 0 then wl z n f (wrd z n i).en else []
theorem Rd.same {w w' : World} {ao : Option Addr} {len : Nat} {z : Nat → Nat} (h : Rd w ao len z) (hs : w.heap.size ≤ w'.heap.size) (hb : ∀ k, k < w.heap.size → w'.heap[k]? = w.heap[k]?) : Rd w' ao len z := by
  refine ⟨h.small, fun hl => ?_⟩
  obtain ⟨b, off, e, hlt, hc⟩ := h.at_ hl
  exact ⟨b, off, e, Nat.lt_of_lt_of_le hlt hs, fun i hi => by rw [← hc i hi]; simp [World.cell?, hb b hlt]⟩
theorem wo8_0 : findLabel (scopeIn Try.f16) 0 = some (Code.skip.seq (labelIn Try.f16 0)) := by kernel_rfl
def fr8 (b bp : Nat) (u : Nat → Value) : Array Value := #[.func (.yield (b + 1)) #[] #[], .pointer (some ⟨bp, 0, none⟩), u 2, .pointer (some ⟨b + 1 + 1, 0, none⟩), .pointer (some ⟨b + 1 + 1 + 1, 0, none⟩), u 5, u 6, u 7, u 8, u 9, u 10, u 11, u 12, u 13, u 14, u 15, u 16, u 17, u 18, u 19, u 20, u 21, u 22, u 23, u 24, u 25]
def Fr8 (b bp : Nat) (tm : Array Value) : Prop := ∃ u, tm = fr8 b bp u
theorem Fr8.of {b bp : Nat} (tm : Array Value) (h : tm = fr8 b bp (nth tm.toList)) : Fr8 b bp tm := ⟨_, h⟩
/-- The iterator's two blocks, the box of the pattern, and what lay there ahead. -/
structure It8 (wL : World) (b bp : Nat) (ao : Option Addr) (n cap : Nat) (i : Nat) (W : World) : Prop where
  t : ∃ x0 x1 x2 x3 x4 x5 x6 x7 x8 x9 x10, Cl W (b + 1 + 1) 33 [x0, x1, x2, x3, x4, x5, x6, x7, x8, x9, x10]
  m : Cl W (b + 1 + 1 + 1) 45 [.int .i64 (i : Nat), .int .i64 0]
  p : Cl W bp 22 [.slice ao n cap]
  old : ∀ k, k < wL.heap.size → W.heap[k]? = wL.heap[k]?
  sz : wL.heap.size ≤ bp ∧ bp < b
end Go.Proofs.Ytkbeiadbolihiaa
namespace Go.Proofs.Ytkbeiadbolihiaa
open Go.RowKit Go.Shelf
attribute [local go_sem] Oper.semAt_some
theorem put11_other {w : World} {k j : Nat} (h : j ≠ k) (x0 x1 x2 x3 x4 x5 x6 x7 x8 x9 x10 : Value) : (put11 w k x0 x1 x2 x3 x4 x5 x6 x7 x8 x9 x10).heap[j]? = w.heap[j]? := by
  unfold put11
  rw [Below.heap_setCell _ ⟨k, 10, none⟩ _ _ h, Below.heap_setCell _ ⟨k, 9, none⟩ _ _ h, Below.heap_setCell _ ⟨k, 8, none⟩ _ _ h, Below.heap_setCell _ ⟨k, 7, none⟩ _ _ h, Below.heap_setCell _ ⟨k, 6, none⟩ _ _ h, Below.heap_setCell _ ⟨k, 5, none⟩ _ _ h, Below.heap_setCell _ ⟨k, 4, none⟩ _ _ h, Below.heap_setCell _ ⟨k, 3, none⟩ _ _ h, Below.heap_setCell _ ⟨k, 2, none⟩ _ _ h, Below.heap_setCell _ ⟨k, 1, none⟩ _ _ h, Below.heap_setCell _ ⟨k, 0, none⟩ _ _ h]
theorem put2_other {w : World} {k j : Nat} (h : j ≠ k) (x0 x1 : Value) : (put2 w k x0 x1).heap[j]? = w.heap[j]? := by
  unfold put2
  rw [Below.heap_setCell _ ⟨k, 1, none⟩ _ _ h, Below.heap_setCell _ ⟨k, 0, none⟩ _ _ h]
theorem Cl.same {w w' : World} {b : Nat} {t : TypeId} {vs : List Value} (h : Cl w b t vs) (e : w'.heap[b]? = w.heap[b]?) : Cl w' b t vs := e.trans h
theorem Cl.one {w : World} {b : Nat} {t : TypeId} {x0 : Value} (h : Cl w b t [x0]) : w.cell? ⟨b, 0, none⟩ = some x0 ∧ w.frozen? ⟨b, 0, none⟩ = false := ⟨h.cell 0 rfl, h.frozen 0⟩
set_option maxRecDepth 20000 in
set_option maxHeartbeats 1000000 in
theorem w8_end {K : Nat → Act → World → Prop} {Q : Exit → Act → World → Prop} (wL : World) (b bp : Nat) (ao : Option Addr) (n cap i : Nat) (u : Nat → Value) (W : World) (hI : It8 wL b bp ao n cap i W) (hi : i = n)
    (hQ : Hid (∀ tm, Q .ret ⟨tm, []⟩ W)) : Code.wp Try.prog (labelIn Try.f16 0) (jumps K Q) ⟨fr8 b bp u, []⟩ W := by
  subst hi
  obtain ⟨⟨m0, m1⟩, n0, n1⟩ := hI.m.two
  obtain ⟨p0, p1⟩ := hI.p.one
  clear hI
  unfold fr8
  conv => arg 2; whnf
  go_wp2
  rw [jumps_ret]
  exact hQ.out _
set_option maxRecDepth 20000 in
set_option maxHeartbeats 1000000 in
theorem w8_go {K : Nat → Act → World → Prop} {Q : Exit → Act → World → Prop} (mm : Nat) (hm : 1 ≤ mm) (wL : World) (b bp : Nat) (Old : Nat → Prop) (hOld : ∀ k, (k < wL.heap.size ∨ k = bp) → Old k) (ao : Option Addr) (n cap i : Nat) (u : Nat → Value) (W : World) (hI : It8 wL b bp ao n cap i W) (hi : i < n)
    (k : Int) (b0 a0 a1 a2 a3 : Nat) (nt : Bool) (l m : Int) (lz : Bool) (at' en : Nat) (X Y : World → Prop)
    (HW : Hid (Calls Try.prog 17 #[.slice ao n cap, .int .i64 (i : Nat)] W fun e w' => e = .returned (.tuple #[tokV k b0 a0 a1 a2 a3 nt l m lz at', markV en 0]) ∧ Below W.heap.size W w'))
    (HY : Hid (∀ W1, TurnI b W W1 → YieldAt Fence.wide (mm - 1) Try.prog (b + 1) #[tokV k b0 a0 a1 a2 a3 nt l m lz at', markV en 0] W1 fun e W' => (e = .returned (.bool true) ∧ X W' ∧ KeepY b Old W1 W') ∨ (e = .returned (.bool false) ∧ Y W')))
    (hK : Hid (∀ tm W', Fr8 b bp tm → It8 wL b bp ao n cap en W' → X W' → K 0 ⟨tm, []⟩ W')) (hN : Hid (∀ tm W', Y W' → Q .normal ⟨tm, []⟩ W')) : Code.wp Try.prog (labelIn Try.f16 0) (jumps K Q) ⟨fr8 b bp u, []⟩ W := by
  obtain ⟨⟨m0, m1⟩, n0, n1⟩ := hI.m.two
  obtain ⟨p0, p1⟩ := hI.p.one
  have h1 : ((i : Int) == (n : Int)) = false := by simp; omega
  have HI : Hid (It8 wL b bp ao n cap i W) := hI
  clear hI hi
  unfold fr8
  conv => arg 2; whnf
  refine (wpIn_wide (n := mm)).1 ?_
  gi_wp2_with fail
  refine ⟨trivial, ?_⟩
  refine (callsIn_wide.2 HW.out).mono ?_
  rintro e w1 ⟨rfl, hb⟩
  obtain ⟨x0, x1, x2, x3, x4, x5, x6, x7, x8, x9, x10, ht⟩ := HI.out.t
  have ht1 := ht.below hb
  have hm1 := HI.out.m.below hb
  have hp1 := HI.out.p.below hb
  obtain ⟨f0, f1, f2, f3, f4, f5, f6, f7, f8, f9, f10⟩ := ht1.eleven.2
  obtain ⟨c0, c1, c2, c3, c4, c5, c6, c7, c8, c9, c10⟩ := ht1.eleven.1
  have hm2 := hm1.others11 (k := b + 1 + 1) (by omega) (.int .i64 k) (.int .u8 (b0 : Nat)) (.int .u64 (a0 : Nat)) (.int .u64 (a1 : Nat)) (.int .u64 (a2 : Nat)) (.int .u64 (a3 : Nat)) (.bool nt) (.int .i64 l) (.int .i64 m) (.bool lz) (.int .i64 (at' : Nat))
  obtain ⟨⟨g0, g1⟩, g2, g3⟩ := hm2.two
  have ht3 := (ht1.put11 (.int .i64 k) (.int .u8 (b0 : Nat)) (.int .u64 (a0 : Nat)) (.int .u64 (a1 : Nat)) (.int .u64 (a2 : Nat)) (.int .u64 (a3 : Nat)) (.bool nt) (.int .i64 l) (.int .i64 m) (.bool lz) (.int .i64 (at' : Nat))).others2 (k := b + 1 + 1 + 1) (by omega) (.int .i64 (en : Nat)) (.int .i64 0)
  have hm3 := hm2.put2 (.int .i64 (en : Nat)) (.int .i64 0)
  have hB3 := below_put2 (B := b + 1 + 1) (b := b + 1 + 1 + 1) (below_put11 (B := b + 1 + 1) (b := b + 1 + 1) (Below.refl _ w1) (Nat.le_refl _) (.int .i64 k) (.int .u8 (b0 : Nat)) (.int .u64 (a0 : Nat)) (.int .u64 (a1 : Nat)) (.int .u64 (a2 : Nat)) (.int .u64 (a3 : Nat)) (.bool nt) (.int .i64 l) (.int .i64 m) (.bool lz) (.int .i64 (at' : Nat))) (by omega) (.int .i64 (en : Nat)) (.int .i64 0)
  have hT : TurnI b w1 (put2 (put11 w1 (b + 1 + 1) (.int .i64 k) (.int .u8 (b0 : Nat)) (.int .u64 (a0 : Nat)) (.int .u64 (a1 : Nat)) (.int .u64 (a2 : Nat)) (.int .u64 (a3 : Nat)) (.bool nt) (.int .i64 l) (.int .i64 m) (.bool lz) (.int .i64 (at' : Nat))) (b + 1 + 1 + 1) (.int .i64 (en : Nat)) (.int .i64 0)) :=
    TurnI.of_set hB3 (fun j h2 h3 => (put2_other (show j ≠ b + 1 + 1 + 1 from h3) _ _).trans (put11_other (show j ≠ b + 1 + 1 from h2) _ _ _ _ _ _ _ _ _ _ _))
  have hT2 := (TurnI.of_below hb).trans hT
  have hold : ∀ j, j < wL.heap.size → (put2 (put11 w1 (b + 1 + 1) (.int .i64 k) (.int .u8 (b0 : Nat)) (.int .u64 (a0 : Nat)) (.int .u64 (a1 : Nat)) (.int .u64 (a2 : Nat)) (.int .u64 (a3 : Nat)) (.bool nt) (.int .i64 l) (.int .i64 m) (.bool lz) (.int .i64 (at' : Nat))) (b + 1 + 1 + 1) (.int .i64 (en : Nat)) (.int .i64 0)).heap[j]? = wL.heap[j]? := fun j hj => by
    have hz := HI.out.sz
    have hlt := HI.out.m.lt
    rw [hB3.block j (by omega), hb.block j (by omega)]
    exact HI.out.old j hj
  have hp3 := (hp1.others11 (k := b + 1 + 1) (by have := HI.out.sz; omega) (.int .i64 k) (.int .u8 (b0 : Nat)) (.int .u64 (a0 : Nat)) (.int .u64 (a1 : Nat)) (.int .u64 (a2 : Nat)) (.int .u64 (a3 : Nat)) (.bool nt) (.int .i64 l) (.int .i64 m) (.bool lz) (.int .i64 (at' : Nat))).others2 (k := b + 1 + 1 + 1) (by have := HI.out.sz; omega) (.int .i64 (en : Nat)) (.int .i64 0)
  obtain ⟨fn, tmps, assign, body, hy, hR⟩ := HY.out _ hT2
  have HR : Hid (∀ R', (∀ e w', _ → R' e w') → RoundIn Fence.wide (mm - 1) Try.prog (b + 1) fn tmps assign body _ R') := fun R' h => hR.mono h
  have hc := ht3.eleven.1
  have hd := hm3.two.1
  have H3 : Hid (Cl _ _ _ _ ∧ Cl _ _ _ _ ∧ Cl _ _ _ _) := ⟨ht3, hm3, hp3⟩
  have HO : Hid (∀ j, j < wL.heap.size → _) := hold
  simp only [put2, put11, tokV, markV] at hy hc hd g0 g1 g2 g3
  obtain ⟨d0, d1, d2, d3, d4, d5, d6, d7, d8, d9, d10⟩ := hc
  obtain ⟨e0, e1⟩ := hd
  clear hR ht ht1 hm1 hp1 hm2 ht3 hm3 hB3 hT hT2 hold hp3 m0 m1 n0 n1 p0 p1 hb HY HW
  simp only [tokV, markV]
  gi_wp2_with fail
  clear c0 c1 c2 c3 c4 c5 c6 c7 c8 c9 c10 f0 f1 f2 f3 f4 f5 f6 f7 f8 f9 f10 g0 g1 g2 g3 d0 d1 d2 d3 d4 d5 d6 d7 d8 d9 d10 e0 e1 hy
  refine HR.out _ ?_
  rintro e W3 (⟨rfl, hX, hk⟩ | ⟨rfl, hY⟩)
  · have hm3 := H3.out.2.1.same (hk.2 (b + 3) (.inr (.inr rfl)))
    have ht3 := H3.out.1.same (hk.2 (b + 2) (.inr (.inl rfl)))
    have hp3 := H3.out.2.2.same (hk.2 bp (.inl (hOld _ (.inr rfl))))
    have HG : Hid (It8 wL b bp ao n cap en W3) := ⟨⟨_, _, _, _, _, _, _, _, _, _, _, ht3⟩, hm3, hp3, fun j hj => (hk.2 j (.inl (hOld _ (.inl hj)))).trans (HO.out j hj), HI.out.sz⟩
    have HX : Hid (X W3) := hX
    obtain ⟨⟨e0, e1⟩, e2, e3⟩ := hm3.two
    clear hX hm3 ht3 hp3 hk HR H3 HO HI h1
    gi_wp2
    refine wpIn_wide.2 ?_
    go_step3
    exact hK.out _ _ (Fr8.of _ rfl) HG.out HX.out
  · have HV : Hid (Y W3) := hY
    clear hY HR H3 HO HI h1
    gi_wp2
    exact hN.out _ _ HV.out
set_option maxRecDepth 20000 in
set_option maxHeartbeats 1000000 in
theorem w8_bad {K : Nat → Act → World → Prop} {Q : Exit → Act → World → Prop} (mm : Nat) (hm : 1 ≤ mm) (wL : World) (b bp : Nat) (Old : Nat → Prop) (ao : Option Addr) (n cap i : Nat) (u : Nat → Value) (W : World) (hI : It8 wL b bp ao n cap i W) (hi : i < n)
    (k : Int) (b0 a0 a1 a2 a3 : Nat) (nt : Bool) (l m : Int) (lz : Bool) (at' en : Nat) (er : Int) (her : er ≠ 0) (X Y : World → Prop)
    (HW : Hid (Calls Try.prog 17 #[.slice ao n cap, .int .i64 (i : Nat)] W fun e w' => e = .returned (.tuple #[tokV k b0 a0 a1 a2 a3 nt l m lz at', markV en er]) ∧ Below W.heap.size W w'))
    (HY : Hid (∀ W1, TurnI b W W1 → YieldAt Fence.wide (mm - 1) Try.prog (b + 1) #[tokV k b0 a0 a1 a2 a3 nt l m lz at', markV en er] W1 fun e W' => (e = .returned (.bool true) ∧ X W' ∧ KeepY b Old W1 W') ∨ (e = .returned (.bool false) ∧ Y W')))
    (hK : Hid (∀ tm W', X W' → Q .normal ⟨tm, []⟩ W')) (hN : Hid (∀ tm W', Y W' → Q .normal ⟨tm, []⟩ W')) : Code.wp Try.prog (labelIn Try.f16 0) (jumps K Q) ⟨fr8 b bp u, []⟩ W := by
  obtain ⟨⟨m0, m1⟩, n0, n1⟩ := hI.m.two
  obtain ⟨p0, p1⟩ := hI.p.one
  have h1 : ((i : Int) == (n : Int)) = false := by simp; omega
  have h9 : (er == 0) = false := by simp [her]
  clear her
  have HI : Hid (It8 wL b bp ao n cap i W) := hI
  clear hI hi
  unfold fr8
  conv => arg 2; whnf
  refine (wpIn_wide (n := mm)).1 ?_
  gi_wp2_with fail
  refine ⟨trivial, ?_⟩
  refine (callsIn_wide.2 HW.out).mono ?_
  rintro e w1 ⟨rfl, hb⟩
  obtain ⟨x0, x1, x2, x3, x4, x5, x6, x7, x8, x9, x10, ht⟩ := HI.out.t
  have ht1 := ht.below hb
  have hm1 := HI.out.m.below hb
  have hp1 := HI.out.p.below hb
  obtain ⟨f0, f1, f2, f3, f4, f5, f6, f7, f8, f9, f10⟩ := ht1.eleven.2
  obtain ⟨c0, c1, c2, c3, c4, c5, c6, c7, c8, c9, c10⟩ := ht1.eleven.1
  have hm2 := hm1.others11 (k := b + 1 + 1) (by omega) (.int .i64 k) (.int .u8 (b0 : Nat)) (.int .u64 (a0 : Nat)) (.int .u64 (a1 : Nat)) (.int .u64 (a2 : Nat)) (.int .u64 (a3 : Nat)) (.bool nt) (.int .i64 l) (.int .i64 m) (.bool lz) (.int .i64 (at' : Nat))
  obtain ⟨⟨g0, g1⟩, g2, g3⟩ := hm2.two
  have ht3 := (ht1.put11 (.int .i64 k) (.int .u8 (b0 : Nat)) (.int .u64 (a0 : Nat)) (.int .u64 (a1 : Nat)) (.int .u64 (a2 : Nat)) (.int .u64 (a3 : Nat)) (.bool nt) (.int .i64 l) (.int .i64 m) (.bool lz) (.int .i64 (at' : Nat))).others2 (k := b + 1 + 1 + 1) (by omega) (.int .i64 (en : Nat)) (.int .i64 er)
  have hm3 := hm2.put2 (.int .i64 (en : Nat)) (.int .i64 er)
  have hB3 := below_put2 (B := b + 1 + 1) (b := b + 1 + 1 + 1) (below_put11 (B := b + 1 + 1) (b := b + 1 + 1) (Below.refl _ w1) (Nat.le_refl _) (.int .i64 k) (.int .u8 (b0 : Nat)) (.int .u64 (a0 : Nat)) (.int .u64 (a1 : Nat)) (.int .u64 (a2 : Nat)) (.int .u64 (a3 : Nat)) (.bool nt) (.int .i64 l) (.int .i64 m) (.bool lz) (.int .i64 (at' : Nat))) (by omega) (.int .i64 (en : Nat)) (.int .i64 er)
  have hT : TurnI b w1 (put2 (put11 w1 (b + 1 + 1) (.int .i64 k) (.int .u8 (b0 : Nat)) (.int .u64 (a0 : Nat)) (.int .u64 (a1 : Nat)) (.int .u64 (a2 : Nat)) (.int .u64 (a3 : Nat)) (.bool nt) (.int .i64 l) (.int .i64 m) (.bool lz) (.int .i64 (at' : Nat))) (b + 1 + 1 + 1) (.int .i64 (en : Nat)) (.int .i64 er)) :=
    TurnI.of_set hB3 (fun j h2 h3 => (put2_other (show j ≠ b + 1 + 1 + 1 from h3) _ _).trans (put11_other (show j ≠ b + 1 + 1 from h2) _ _ _ _ _ _ _ _ _ _ _))
  have hT2 := (TurnI.of_below hb).trans hT
  have hold : ∀ j, j < wL.heap.size → (put2 (put11 w1 (b + 1 + 1) (.int .i64 k) (.int .u8 (b0 : Nat)) (.int .u64 (a0 : Nat)) (.int .u64 (a1 : Nat)) (.int .u64 (a2 : Nat)) (.int .u64 (a3 : Nat)) (.bool nt) (.int .i64 l) (.int .i64 m) (.bool lz) (.int .i64 (at' : Nat))) (b + 1 + 1 + 1) (.int .i64 (en : Nat)) (.int .i64 er)).heap[j]? = wL.heap[j]? := fun j hj => by
    have hz := HI.out.sz
    have hlt := HI.out.m.lt
    rw [hB3.block j (by omega), hb.block j (by omega)]
    exact HI.out.old j hj
  have hp3 := (hp1.others11 (k := b + 1 + 1) (by have := HI.out.sz; omega) (.int .i64 k) (.int .u8 (b0 : Nat)) (.int .u64 (a0 : Nat)) (.int .u64 (a1 : Nat)) (.int .u64 (a2 : Nat)) (.int .u64 (a3 : Nat)) (.bool nt) (.int .i64 l) (.int .i64 m) (.bool lz) (.int .i64 (at' : Nat))).others2 (k := b + 1 + 1 + 1) (by have := HI.out.sz; omega) (.int .i64 (en : Nat)) (.int .i64 er)
  obtain ⟨fn, tmps, assign, body, hy, hR⟩ := HY.out _ hT2
  have HR : Hid (∀ R', (∀ e w', _ → R' e w') → RoundIn Fence.wide (mm - 1) Try.prog (b + 1) fn tmps assign body _ R') := fun R' h => hR.mono h
  have hc := ht3.eleven.1
  have hd := hm3.two.1
  have H3 : Hid (Cl _ _ _ _ ∧ Cl _ _ _ _ ∧ Cl _ _ _ _) := ⟨ht3, hm3, hp3⟩
  have HO : Hid (∀ j, j < wL.heap.size → _) := hold
  simp only [put2, put11, tokV, markV] at hy hc hd g0 g1 g2 g3
  obtain ⟨d0, d1, d2, d3, d4, d5, d6, d7, d8, d9, d10⟩ := hc
  obtain ⟨e0, e1⟩ := hd
  clear hR ht ht1 hm1 hp1 hm2 ht3 hm3 hB3 hT hT2 hold hp3 m0 m1 n0 n1 p0 p1 hb HY HW
  simp only [tokV, markV]
  gi_wp2_with fail
  clear c0 c1 c2 c3 c4 c5 c6 c7 c8 c9 c10 f0 f1 f2 f3 f4 f5 f6 f7 f8 f9 f10 g0 g1 g2 g3 d0 d1 d2 d3 d4 d5 d6 d7 d8 d9 d10 e0 e1 hy
  refine HR.out _ ?_
  rintro e W3 (⟨rfl, hX, hk⟩ | ⟨rfl, hY⟩)
  · have hm3 := H3.out.2.1.same (hk.2 (b + 3) (.inr (.inr rfl)))
    have HX : Hid (X W3) := hX
    obtain ⟨⟨e0, e1⟩, e2, e3⟩ := hm3.two
    clear hX hm3 hk HR H3 HO HI h1
    gi_wp2
    exact hK.out _ _ HX.out
  · have HV : Hid (Y W3) := hY
    clear hY HR H3 HO HI h1
    gi_wp2
    exact hN.out _ _ HV.out
end Go.Proofs.Ytkbeiadbolihiaa
