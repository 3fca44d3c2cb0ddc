/- A range over a function whose iterator writes blocks of its own, those ahead of a height; it may be left by break, or by return. told: the tokens that are told, at most so many: the walk, given what the iterator does. -/
import Derived.RangeFuncNested
import Derived.RangeFuncBound
import Derived.RangeFuncCalls
import Derived.RangeFuncLeaves
import Derived.RangeFuncBox
import Derived.Test.YtkbeiadbolihiaaM26Xo
namespace Go.Proofs.Ytkbeiadbolihiaa
open Go.RowKit
/-- From A to B only the blocks from lo up to hi may have turned. -/
structure TurnR (lo hi : Nat) (A B : World) : Prop where
  os : B.os = A.os
  tape : B.tape = A.tape
  output : B.output = A.output
  size : A.heap.size ≤ B.heap.size
  block : ∀ k, k < A.heap.size → (k < lo ∨ hi ≤ k) → B.heap[k]? = A.heap[k]?
theorem TurnR.of_below {lo hi : Nat} {A B : World} (h : Below A.heap.size A B) : TurnR lo hi A B := ⟨h.os, h.tape, h.output, h.size, fun k hk _ => h.block k hk⟩
theorem TurnR.wide {lo hi lo' hi' : Nat} {A B : World} (h : TurnR lo hi A B) (h1 : lo' ≤ lo) (h2 : hi ≤ hi') : TurnR lo' hi' A B := ⟨h.os, h.tape, h.output, h.size, fun k hk hb => h.block k hk (by omega)⟩
theorem TurnR.put {lo hi : Nat} {A : World} (l : Nat) (o : Obj) (hl : lo ≤ l ∧ l < hi) : TurnR lo hi A (A.putObj l o) :=
  ⟨rfl, rfl, rfl, by simp, fun k _ hk => World.putObj_heap_other (by omega)⟩
/-- What a round of the body keeps: the old blocks, and those from lo up to hi. -/
structure KeepR (lo hi : Nat) (Old : Nat → Prop) (A B : World) : Prop where
  size : A.heap.size ≤ B.heap.size
  same : ∀ k, (Old k ∨ (lo ≤ k ∧ k < hi)) → B.heap[k]? = A.heap[k]?
theorem KeepR.trans {lo hi : Nat} {Old : Nat → Prop} {A B C : World} (h : KeepR lo hi Old A B) (k : KeepR lo hi Old B C) : KeepR lo hi Old A C := ⟨Nat.le_trans h.size k.size, fun i hi => (k.same i hi).trans (h.same i hi)⟩
/-- How the body of a round may be left. -/
def turnPostR {α : Type} (lo hi : Nat) (Old : Nat → Prop) (I : List α → World → Prop) (Ix : Code → List α → World → Prop) (xs : List α) (W : World) : Exit → Act → World → Prop
  | .normal, _, W' => KeepR lo hi Old W W' ∧ I xs W'
  | .ret, _, W' => KeepR lo hi Old W W' ∧ Ix .ret xs W'
  | .exit i, _, W' => KeepR lo hi Old W W' ∧ Ix (.exit i) xs W'
  | _, _, _ => False
/-- What such an iterator is owed, and does: it begins in a world of b + 2 blocks. -/
def SeqR {α : Type} (F : Fence) (n : Nat) (P : Program) (b hi : Nat) (Old : Nat → Prop) (g : Nat) (lb : Array Value) (encs : α → Array Value) (S Sp : List α → Prop) (N : Nat) (w : World) : Prop :=
  ∀ (J Jx : List α → World → Prop) (W : World), Below b w W → W.heap.size = b + 2 → (∀ s A B, J s A → TurnR (b + 2) hi A B → J s B) → (∀ s A B, Jx s A → TurnR (b + 2) hi A B → Jx s B) →
    (∀ pre x W1, J pre W1 → hi ≤ W1.heap.size → pre.length < N → YieldAt F (n - 1) P (b + 1) (encs x) W1 fun e W' =>
      ((e = .returned (.bool true) ∧ J (pre ++ [x]) W') ∨ (e = .returned (.bool false) ∧ Jx (pre ++ [x]) W')) ∧ KeepR (b + 2) hi Old W1 W') →
    J [] W →
    CallsIn F n P g (#[.func (.yield (b + 1)) #[] #[]] ++ lb) W fun e W' => (∃ v, e = .returned v) ∧ ((∃ xs, S xs ∧ J xs W') ∨ (∃ pre, Sp pre ∧ Jx pre W'))
theorem wpIn_rangeFunc_turnR {α : Type} {F : Fence} {n : Nat} {P : Program} {g : Operand} {ps : Array Tmp} {assign body : Code} {Q : Exit → Act → World → Prop} {a : Act} {w : World}
    (hro : F.round = none) (h1 : 1 ≤ n) {gf : Nat} {lb : Array Value} (hg : a.eval g = .func (.func gf) #[] lb) (hFg : F.fn gf) (eg : ∀ args w, (callFunc gf args).run P w = .ok (.enter gf args) w)
    {encs : α → Array Value} {S Sp : List α → Prop} {N hi : Nat} (hhi : w.heap.size + 2 ≤ hi) (Old : Nat → Prop) (hOld : ∀ k, Old k → k < w.heap.size) (hseq : SeqR F (n - 1) P w.heap.size hi Old gf lb encs S Sp N w) (hps : ∀ x, (encs x).size = ps.size)
    (I : List α → World → Prop) (Ix : Code → List α → World → Prop) (hI : ∀ s A B, I s A → TurnR w.heap.size hi A B → I s B) (hIx : ∀ c s A B, Ix c s A → TurnR w.heap.size hi A B → Ix c s B) (h0 : I [] w)
    (Ax : α → Act → World → Prop) (hAx : ∀ x a' A B, Ax x a' A → TurnR w.heap.size hi A B → Ax x a' B)
    (hassign : ∀ (pre : List α) (x : α) (W : World) (K : Act → World → Prop), I pre W → hi ≤ W.heap.size → (∀ a' W', KeepR w.heap.size hi Old W W' → I pre W' → Ax x a' W' → K a' W') →
      assign.wpIn (F.inRound (w.heap.size + 1)) (n - 1 - 1) P (Exit.then K (fun _ _ _ => False)) { tmps := (ps.zip (encs x)).foldl (fun t (p, v) => t.setIfInBounds p v) a.tmps, defers := [] } W)
    (hbody : ∀ (pre : List α) (x : α) (a' : Act) (W : World), I pre W → Ax x a' W → hi ≤ W.heap.size → pre.length < N → body.wpIn (F.inRound (w.heap.size + 1)) (n - 1 - 1) P (turnPostR w.heap.size hi Old I Ix (pre ++ [x]) W) a' W)
    (hdone : ∀ (xs : List α) (W : World), S xs → I xs W → W.heap[w.heap.size]? = some (.deferred (some [])) → Q .normal { a with defers := { target := .collected w.heap.size, args := #[] } :: a.defers } W)
    (hstop : ∀ (c : Code) (pre : List α) (W : World), Sp pre → Ix c pre W → W.heap[w.heap.size]? = some (.deferred (some [])) → c.wpIn F n P Q { a with defers := { target := .collected w.heap.size, args := #[] } :: a.defers } W) :
    (Code.rangeFunc g ps assign body).wpIn F n P Q a w := by
  refine wpIn_rangeFunc fun fn hfn => ?_
  rw [hro]
  let rec0 : LoopState → Option Code → Loop := fun st pe => { state := st, pending := pe, fn, tmps := a.tmps, params := ps, assign, body, defers := w.heap.size }
  let W1 := (w.alloc (.deferred (some []))).alloc (.loop (rec0 .ready none))
  have hs1 : W1.heap.size = w.heap.size + 2 := by simp [W1]
  have eL : W1.heap[w.heap.size + 1]? = some (.loop (rec0 .ready none)) := by
    have := World.alloc_heap_new (w.alloc (.deferred (some []))) (.loop (rec0 .ready none))
    rwa [World.size_alloc] at this
  have eD : W1.heap[w.heap.size]? = some (.deferred (some [])) := (Below.heap_alloc _ _ _ (by simp)).trans (World.alloc_heap_new w _)
  have hb : Below w.heap.size w W1 := ((Below.refl _ w).alloc (Nat.le_refl _) _).alloc (by simp) _
  refine ⟨w.heap.size + 1, [{ target := .collected w.heap.size, args := #[] }], W1, { target := .fn (.func gf) lb, args := #[.func (.yield (w.heap.size + 1)) #[] #[]] }, W1, gf, #[.func (.yield (w.heap.size + 1)) #[] #[]] ++ lb, W1, run_enterLoop_outer _ _ _ _ _, ?_, ?_, ?_, fun _ => h1, ?_⟩
  · simp only [resolve, hg]
    simp [go_sem]
  · intro f' hf'
    simp [Target.leads] at hf'
    subst hf'
    exact hFg
  · simp [invoke, go_sem, eg]
  refine (hseq (fun pre W => I pre W ∧ W.heap[w.heap.size + 1]? = some (.loop (rec0 .ready none)) ∧ W.heap[w.heap.size]? = some (.deferred (some [])))
    (fun pre W => ∃ c, Ix c pre W ∧ W.heap[w.heap.size + 1]? = some (.loop (rec0 .done (some c))) ∧ W.heap[w.heap.size]? = some (.deferred (some []))) W1 hb hs1 ?_ ?_ ?_ ⟨hI _ _ _ h0 (TurnR.of_below hb), eL, eD⟩).mono ?_
  · rintro s A B ⟨hi, hl, hd⟩ ht
    exact ⟨hI _ _ _ hi (ht.wide (by omega) (Nat.le_refl _)), (ht.block _ (Array.getElem?_eq_some_iff.1 hl).1 (by omega)).trans hl, (ht.block _ (Array.getElem?_eq_some_iff.1 hd).1 (by omega)).trans hd⟩
  · rintro s A B ⟨c, hi, hl, hd⟩ ht
    exact ⟨c, hIx _ _ _ _ hi (ht.wide (by omega) (Nat.le_refl _)), (ht.block _ (Array.getElem?_eq_some_iff.1 hl).1 (by omega)).trans hl, (ht.block _ (Array.getElem?_eq_some_iff.1 hd).1 (by omega)).trans hd⟩
  · rintro pre x W ⟨hi', hl, hd⟩ hsz hlen
    have hy := run_yield (P := P) (args := encs x) hl (hps x)
    refine ⟨fn, _, assign, body, hy, roundIn_of_wpIn hfn (hassign pre x W _ hi' hsz fun a' W' hk hi' hx => ?_)⟩
    have hl' : W'.heap[w.heap.size + 1]? = some (.loop (rec0 .ready none)) := (hk.same _ (.inr ⟨by omega, by omega⟩)).trans hl
    have hd' : W'.heap[w.heap.size]? = some (.deferred (some [])) := (hk.same _ (.inr ⟨by omega, by omega⟩)).trans hd
    have hlt := (Array.getElem?_eq_some_iff.1 hl').1
    have hsz' := Nat.le_trans hsz hk.size
    refine ⟨_, run_beginRound hl' rfl, ?_⟩
    have hp : TurnR w.heap.size hi W' (W'.putObj (w.heap.size + 1) (.loop (rec0 .busy none))) := TurnR.put _ _ ⟨by omega, by omega⟩
    refine wpIn_mono (hbody pre x a' (W'.putObj (w.heap.size + 1) (.loop (rec0 .busy none))) (hI _ _ _ hi' hp) (hAx _ _ _ _ hx hp) (by simpa using hsz') hlen) ?_
    have hl2 : (W'.putObj (w.heap.size + 1) (.loop (rec0 .busy none))).heap[w.heap.size + 1]? = some (.loop (rec0 .busy none)) := World.putObj_heap_same hlt
    have hd2 : (W'.putObj (w.heap.size + 1) (.loop (rec0 .busy none))).heap[w.heap.size]? = some (.deferred (some [])) := (World.putObj_heap_other (by omega)).trans hd'
    have fin : ∀ (jump : Option Code) (W3 : World), KeepR w.heap.size hi Old (W'.putObj (w.heap.size + 1) (.loop (rec0 .busy none))) W3 →
        (Instr.endRound (w.heap.size + 1) jump).run P W3 = .ok (.bool jump.isNone) (W3.putObj (w.heap.size + 1) (.loop (rec0 (if jump.isNone then .ready else .done) jump))) ∧
        (W3.putObj (w.heap.size + 1) (.loop (rec0 (if jump.isNone then .ready else .done) jump))).heap[w.heap.size + 1]? = some (.loop (rec0 (if jump.isNone then .ready else .done) jump)) ∧
        (W3.putObj (w.heap.size + 1) (.loop (rec0 (if jump.isNone then .ready else .done) jump))).heap[w.heap.size]? = some (.deferred (some [])) ∧
        KeepR (w.heap.size + 2) hi Old W (W3.putObj (w.heap.size + 1) (.loop (rec0 (if jump.isNone then .ready else .done) jump))) := fun jump W3 hk3 => by
      have hl3 := (hk3.same (w.heap.size + 1) (.inr ⟨by omega, by omega⟩)).trans hl2
      have hd3 := (hk3.same w.heap.size (.inr ⟨by omega, by omega⟩)).trans hd2
      refine ⟨run_endRound (P := P) jump hl3, World.putObj_heap_same (Array.getElem?_eq_some_iff.1 hl3).1, (World.putObj_heap_other (by omega)).trans hd3, ?_, ?_⟩
      · have := hk3.size; have := hk.size; simp at *; omega
      · intro k hkk
        have hne : k ≠ w.heap.size + 1 := by
          rcases hkk with h | h
          · have := hOld k h; omega
          · omega
        rw [World.putObj_heap_other hne, hk3.same k (hkk.imp id fun h => by omega), World.putObj_heap_other hne, hk.same k (hkk.imp id fun h => by omega)]
    have hput : ∀ (W3 : World) (o : Obj), TurnR w.heap.size hi W3 (W3.putObj (w.heap.size + 1) o) := fun W3 o => TurnR.put _ _ ⟨by omega, by omega⟩
    rintro e a3 W3 hq
    cases e with
    | normal =>
      obtain ⟨hk3, hi3⟩ := hq
      obtain ⟨hr, hl4, hd4, hkk⟩ := fin none W3 hk3
      exact ⟨_, _, hr, .inl ⟨rfl, hI _ _ _ hi3 (hput _ _), hl4, hd4⟩, hkk⟩
    | ret =>
      obtain ⟨hk3, hi3⟩ := hq
      obtain ⟨hr, hl4, hd4, hkk⟩ := fin (some .ret) W3 hk3
      exact ⟨_, _, hr, .inr ⟨rfl, .ret, hIx _ _ _ _ hi3 (hput _ _), hl4, hd4⟩, hkk⟩
    | exit id =>
      obtain ⟨hk3, hi3⟩ := hq
      obtain ⟨hr, hl4, hd4, hkk⟩ := fin (some (.exit id)) W3 hk3
      exact ⟨_, _, hr, .inr ⟨rfl, .exit id, hIx _ _ _ _ hi3 (hput _ _), hl4, hd4⟩, hkk⟩
    | goto t => exact hq.elim
    | panic ch => exact hq.elim
    | outgrown => exact hq.elim
  · rintro e W2 ⟨⟨v, rfl⟩, (⟨xs, hS, hi', hl, hd⟩ | ⟨pre, hSp, c, hi', hl, hd⟩)⟩
    · exact ⟨none, _, run_endLoop (P := P) hl (by simp [rec0]), hdone xs _ hS (hI _ _ _ hi' (TurnR.put _ _ ⟨by omega, by omega⟩)) ((World.putObj_heap_other (by omega)).trans hd)⟩
    · exact ⟨some c, _, run_endLoop (P := P) hl (by simp [rec0]), hstop c pre _ hSp (hIx _ _ _ _ hi' (TurnR.put _ _ ⟨by omega, by omega⟩)) ((World.putObj_heap_other (by omega)).trans hd)⟩
end Go.Proofs.Ytkbeiadbolihiaa
namespace Go.Proofs.Ytkbeiadbolihiaa
open Go.RowKit Go.Shelf
attribute [local go_sem] Oper.semAt_some
theorem TurnR.below {N lo hi : Nat} {w A B : World} (ht : TurnR lo hi A B) (h : Below N w A) (hN : N ≤ lo) (hs : N ≤ A.heap.size) : Below N w B :=
  ⟨ht.os.trans h.os, ht.tape.trans h.tape, ht.output.trans h.output, Nat.le_trans h.size ht.size, fun k hk => (ht.block k (by omega) (by omega)).trans (h.block k hk)⟩
theorem Cl.turnR {A B : World} {lo hi k : Nat} {t : TypeId} {vs : List Value} (h : Cl A k t vs) (ht : TurnR lo hi A B) (hk : k < lo ∨ hi ≤ k) : Cl B k t vs := h.same (ht.block k h.lt hk)
/-- What told holds between rounds. -/
structure ToI (w : World) (mo : Nat) (pre : List TokS) (W : World) : Prop where
  row : ∃ v, Cl W (w.heap.size + 1) 23 [v] ∧ W.ownsRow (w.heap.size + 10) 33 11 v pre.length (tokL pre)
  box : Cl W w.heap.size 3 [.int .i64 (mo : Nat)]
  bel : Below w.heap.size w W
  le : pre.length ≤ mo
theorem ToI.turn {w A B : World} {mo : Nat} {pre : List TokS} (h : ToI w mo pre A) (ht : TurnR (w.heap.size + 2) (w.heap.size + 10) A B) : ToI w mo pre B := by
  obtain ⟨⟨v, hv, hrow⟩, h0, hb, hl⟩ := h
  exact ⟨⟨v, hv.turnR ht (by omega), ownsRow_at hrow fun g hg hl => ht.block g hl (by omega)⟩, h0.turnR ht (by omega), ht.below hb (by omega) (Nat.le_of_lt h0.lt), hl⟩
/-- Where it has been told enough. -/
def ToX (w : World) (mo : Nat) (c : Code) (pre : List TokS) (W : World) : Prop := c = .exit 0 ∧ ∃ pre' x, pre = pre' ++ [x] ∧ pre'.length = mo ∧ ToI w mo pre' W
/-- What told answers. -/
def RetTl (w : World) (l : List TokS) (e : Ending) (w' : World) : Prop :=
  ∃ ao cap, e = .returned (.slice ao l.length cap) ∧ w'.ownsRow w.heap.size 33 11 (.slice ao l.length cap) l.length (tokL l) ∧ Below w.heap.size w w'
def ToA (w : World) (bp mo : Nat) (x : TokS) (a' : Act) (W : World) : Prop :=
  ∃ p, w.heap.size + 10 ≤ p ∧ a' = ⟨#[.func (.func 15) #[] #[.pointer (some ⟨bp, 0, none⟩)], .int .i64 (mo : Nat), undef, .pointer (some ⟨w.heap.size, 0, none⟩), .slice none 0 0, .pointer (some ⟨w.heap.size + 1, 0, none⟩), .pointer (some ⟨p, 0, none⟩), .func (.func 15) #[] #[.pointer (some ⟨bp, 0, none⟩)], .bool false, .func (.func 15) #[] #[.pointer (some ⟨bp, 0, none⟩)], tokOf x, undef, undef, undef, undef, undef, undef, undef, undef, undef], []⟩ ∧ Cl W p 33 [.int .i64 x.k, .int .u8 (x.b : Nat), .int .u64 (wds x.P 0 : Nat), .int .u64 (wds x.P 1 : Nat), .int .u64 (wds x.P 2 : Nat), .int .u64 (wds x.P 3 : Nat), .bool x.nt, .int .i64 x.l, .int .i64 x.m, .bool x.lz, .int .i64 (x.at_ : Nat)]
theorem to_step {w W w2 : World} {mo : Nat} {pre : List TokS} {x : TokS} {v v' : Value} {tmp : Obj} (h : ToI w mo pre W) (hlt : pre.length < mo) (hsz : w.heap.size + 10 ≤ W.heap.size) (hv : Cl W (w.heap.size + 1) 23 [v]) (hrow : W.ownsRow (w.heap.size + 10) 33 11 v pre.length (tokL pre))
    (hown' : w2.ownsRow (w.heap.size + 10) 33 11 v' (pre.length + 1) (tokL pre ++ tokC x)) (hgrow : (W.alloc tmp).grownBy w2 v.ownBlock) :
    Cl w2 (w.heap.size + 1) 23 [v] ∧ KeepR (w.heap.size + 2) (w.heap.size + 10) (fun k => k < w.heap.size) W (w2.setCell ⟨w.heap.size + 1, 0, none⟩ v') ∧ ToI w mo (pre ++ [x]) (w2.setCell ⟨w.heap.size + 1, 0, none⟩ v') := by
  have hsm : ∀ k, k < W.heap.size → k < w.heap.size + 10 → w2.heap[k]? = W.heap[k]? := fun k hk hk9 => by
    rw [hgrow.block k (by simp; omega) (fun e => by have := ownsRow_own hrow k e.symm; omega), Below.heap_alloc W tmp k hk]
  have hss : ∀ k, k ≠ w.heap.size + 1 → (w2.setCell ⟨w.heap.size + 1, 0, none⟩ v').heap[k]? = w2.heap[k]? := fun k hk => Below.heap_setCell _ _ _ _ hk
  have hv2 := hv.same (hsm _ hv.lt (by omega))
  have hsize : W.heap.size ≤ w2.heap.size := by have := hgrow.size; simp at this; omega
  have hsz2 : (w2.setCell ⟨w.heap.size + 1, 0, none⟩ v').heap.size = w2.heap.size := by simp
  refine ⟨hv2, ⟨by omega, fun k hk => ?_⟩, ⟨⟨v', ?_, ?_⟩, ?_, ?_, ?_⟩⟩
  · rw [hss k (by omega), hsm k (by omega) (by omega)]
  · exact hv2.set 0 v'
  · rw [List.length_append, List.length_singleton, tokL_snoc]
    exact ownsRow_at hown' fun g hg _ => hss g (by omega)
  · exact (h.box.same (hsm _ h.box.lt (by omega))).same (hss _ (by omega))
  · exact ⟨hgrow.os.trans h.bel.os, hgrow.tape.trans h.bel.tape, hgrow.output.trans h.bel.output, by rw [hsz2]; exact Nat.le_trans h.bel.size hsize, fun k hk => by rw [hss k (by omega), hsm k (by omega) (by omega)]; exact h.bel.block k hk⟩
  · rw [List.length_append, List.length_singleton]; omega
theorem KeepR.of_below {w A B : World} {mo : Nat} {pre : List TokS} (hI : ToI w mo pre A) (h : Below A.heap.size A B) (hs : w.heap.size + 10 ≤ A.heap.size) : KeepR (w.heap.size + 2) (w.heap.size + 10) (fun k => k < w.heap.size) A B :=
  ⟨h.size, fun k hk => h.block k (by have := hI.bel.size; omega)⟩
set_option maxRecDepth 100000 in
set_option maxHeartbeats 2000000 in
theorem told_any (bp mo : Nat) (gl : List TokS) (w : World)
    (hseq : SeqR Fence.wide 4 Try.prog (w.heap.size + 2) (w.heap.size + 10) (fun k => k < w.heap.size) 15 #[.pointer (some ⟨bp, 0, none⟩)] (fun s : TokS => #[tokOf s]) (fun ys => ys = gl) (fun pre => pre <+: gl) 1024 ((w.alloc (.cells #[.int .i64 (mo : Nat)] 3)).alloc (.cells #[.slice none 0 0] 23))) :
    Calls Try.prog 10 #[.func (.func 15) #[] #[.pointer (some ⟨bp, 0, none⟩)], .int .i64 (mo : Nat)] w (RetTl w (gl.take mo)) := by
  have heq : ∀ (fn : Fn) (a b : Array Value) (w : World), (Go.binOp BinOp.eql 38 (.func fn a b) .nilFunc).run Try.prog w = Result.ok (.bool false) w := fun _ _ _ _ => rfl
  have hB0 : Below w.heap.size w ((w.alloc (.cells #[.int .i64 (mo : Nat)] 3)).alloc (.cells #[.slice none 0 0] 23)) := bel2 _ _ _
  have hI0 : ToI w mo [] ((w.alloc (.cells #[.int .i64 (mo : Nat)] 3)).alloc (.cells #[.slice none 0 0] 23)) := by
    refine ⟨⟨.slice none 0 0, ?_, World.ownsRow_nil _ _ _ _⟩, (Cl.new w 3 [_]).alloc _, hB0, Nat.zero_le _⟩
    have := Cl.new (w.alloc (.cells #[.int .i64 (mo : Nat)] 3)) 23 [.slice none 0 0]
    simpa using this
  refine (callsIn_wide (n := 5)).1 ?_
  refine callsIn_of_wp_marks Try.func10 rfl trivial ?_ rfl
  simp only [Try.ntmps10, List.size_toArray, List.length_cons, List.length_nil, Nat.reduceAdd, Nat.reduceSub, Array.replicate_succ, Array.replicate_zero, List.push_toArray, List.append_toArray, List.nil_append, List.cons_append]
  gi_wp2
  generalize hw1 : (w.alloc (.cells #[.int .i64 (mo : Nat)] 3)).alloc (.cells #[.slice none 0 0] 23) = w1 at *
  have hs : w1.heap.size = w.heap.size + 2 := by rw [← hw1]; simp
  clear hw1
  obtain ⟨i0, hi, hz0, hz1, hz2⟩ := info_parts b_tok
  refine wpIn_rangeFunc_turnR (n := 5) rfl (by decide) (gf := 15) (lb := #[.pointer (some ⟨bp, 0, none⟩)]) rfl trivial (enters_of Try.func15 (by kernel_rfl) rfl)
    (encs := fun s : TokS => #[tokOf s]) (S := fun ys => ys = gl) (Sp := fun pre => pre <+: gl) (N := 1024) (hi := w.heap.size + 10) (by omega) (fun k => k < w.heap.size) (fun k hk => by omega)
    (by rw [hs]; exact hseq) (fun _ => rfl)
    (ToI w mo) (ToX w mo) (fun s A B h ht => h.turn (hs ▸ ht)) (fun c s A B h ht => ?_) hI0
    (ToA w bp mo) (fun x a' A B h ht => ?_) ?assign ?body ?done ?stop
  · obtain ⟨hc, p, x, e, hl, hI⟩ := h
    exact ⟨hc, p, x, e, hl, hI.turn (hs ▸ ht)⟩
  · obtain ⟨p, hp, e, h1⟩ := h
    exact ⟨p, hp, e, h1.turnR ht (by omega)⟩
  case assign =>
    intro pre x W K hI hsz hK
    have HX : Hid (ToA w bp mo x ⟨#[.func (.func 15) #[] #[.pointer (some ⟨bp, 0, none⟩)], .int .i64 (mo : Nat), undef, .pointer (some ⟨w.heap.size, 0, none⟩), .slice none 0 0, .pointer (some ⟨w.heap.size + 1, 0, none⟩), .pointer (some ⟨W.heap.size, 0, none⟩), .func (.func 15) #[] #[.pointer (some ⟨bp, 0, none⟩)], .bool false, .func (.func 15) #[] #[.pointer (some ⟨bp, 0, none⟩)], tokOf x, undef, undef, undef, undef, undef, undef, undef, undef, undef], []⟩ (W.alloc (.cells #[.int .i64 x.k, .int .u8 (x.b : Nat), .int .u64 (wds x.P 0 : Nat), .int .u64 (wds x.P 1 : Nat), .int .u64 (wds x.P 2 : Nat), .int .u64 (wds x.P 3 : Nat), .bool x.nt, .int .i64 x.l, .int .i64 x.m, .bool x.lz, .int .i64 (x.at_ : Nat)] 33))) :=
      ⟨W.heap.size, by omega, rfl, Cl.new W 33 _⟩
    have HI : Hid (ToI w mo pre (W.alloc (.cells #[.int .i64 x.k, .int .u8 (x.b : Nat), .int .u64 (wds x.P 0 : Nat), .int .u64 (wds x.P 1 : Nat), .int .u64 (wds x.P 2 : Nat), .int .u64 (wds x.P 3 : Nat), .bool x.nt, .int .i64 x.l, .int .i64 x.m, .bool x.lz, .int .i64 (x.at_ : Nat)] 33))) := hI.turn (TurnR.of_below ((Below.refl _ _).alloc (Nat.le_refl _) _))
    have HT : Hid (KeepR w1.heap.size (w.heap.size + 10) (fun k => k < w.heap.size) W (W.alloc (.cells #[.int .i64 x.k, .int .u8 (x.b : Nat), .int .u64 (wds x.P 0 : Nat), .int .u64 (wds x.P 1 : Nat), .int .u64 (wds x.P 2 : Nat), .int .u64 (wds x.P 3 : Nat), .bool x.nt, .int .i64 x.l, .int .i64 x.m, .bool x.lz, .int .i64 (x.at_ : Nat)] 33))) := by rw [hs]; exact KeepR.of_below hI ((Below.refl _ _).alloc (Nat.le_refl _) _) hsz
    clear hI hI0 hB0 hseq
    unfold tokOf tokV at *
    gi_wp2
    exact hK _ _ HT.out HI.out HX.out
  case body =>
    rintro pre x a' W hI ⟨p, hp, rfl, ht⟩ hsz hlen
    obtain ⟨v, hv, hrow⟩ := hI.row
    obtain ⟨v0, v1⟩ := hv.one
    obtain ⟨m0, m1⟩ := hI.box.one
    obtain ⟨ao', cap', rfl⟩ := ownsRow_slice hrow
    have hb : (pre.length : Int) < 1024 := by omega
    by_cases hge : (pre.length : Int) ≥ (mo : Int)
    · have HZ : Hid (KeepR w1.heap.size (w.heap.size + 10) (fun k => k < w.heap.size) W W ∧ ToX w mo (.exit 0) (pre ++ [x]) W) := ⟨⟨Nat.le_refl _, fun _ _ => rfl⟩, rfl, pre, x, rfl, by have := hI.le; omega, hI⟩
      clear hI hI0 hB0 hseq hrow hv ht
      unfold tokOf tokV
      gi_wp2
      exact HZ.out
    · have HC : Hid (Cl W p 33 [.int .i64 x.k, .int .u8 (x.b : Nat), .int .u64 (wds x.P 0 : Nat), .int .u64 (wds x.P 1 : Nat), .int .u64 (wds x.P 2 : Nat), .int .u64 (wds x.P 3 : Nat), .bool x.nt, .int .i64 x.l, .int .i64 x.m, .bool x.lz, .int .i64 (x.at_ : Nat)]) := ht
      obtain ⟨c0, c1, c2, c3, c4, c5, c6, c7, c8, c9, c10⟩ := HC.out.eleven.1
      have HS : Hid (∀ v' w2, w2.ownsRow (w.heap.size + 10) 33 11 v' (pre.length + 1) (tokL pre ++ [.int .i64 x.k, .int .u8 (x.b : Nat), .int .u64 (wds x.P 0 : Nat), .int .u64 (wds x.P 1 : Nat), .int .u64 (wds x.P 2 : Nat), .int .u64 (wds x.P 3 : Nat), .bool x.nt, .int .i64 x.l, .int .i64 x.m, .bool x.lz, .int .i64 (x.at_ : Nat)]) → (W.alloc (.cells #[.int .i64 x.k, .int .u8 (x.b : Nat), .int .u64 (wds x.P 0 : Nat), .int .u64 (wds x.P 1 : Nat), .int .u64 (wds x.P 2 : Nat), .int .u64 (wds x.P 3 : Nat), .bool x.nt, .int .i64 x.l, .int .i64 x.m, .bool x.lz, .int .i64 (x.at_ : Nat)] 33)).grownBy w2 (Value.slice ao' pre.length cap').ownBlock → _) := fun v' w2 ho hg => to_step (x := x) hI (by omega) hsz hv hrow ho hg
      clear ht hI hv hI0 hB0 hseq
      unfold tokOf tokV
      generalize wds x.P 0 = a0 at *
      generalize wds x.P 1 = a1 at *
      generalize wds x.P 2 = a2 at *
      generalize wds x.P 3 = a3 at *
      gi_wp2_with (gi_at_builtin; refine wpListIn_append_own _ rfl _ _ 23 rfl (w.heap.size + 10) 33 i0 (.agg #[.int .i64 0, .int .u8 0, .int .u64 0, .int .u64 0, .int .u64 0, .int .u64 0, .bool false, .int .i64 0, .int .i64 0, .bool false, .int .i64 0]) 11 88 Try.underlying23 hi hz0 hz1 hz2 rfl (by decide) _ _ _ rfl (hrow.alloc _) ⟨W.heap.size, 0, none⟩ 1 1 [.int .i64 x.k, .int .u8 (x.b : Nat), .int .u64 (a0 : Nat), .int .u64 (a1 : Nat), .int .u64 (a2 : Nat), .int .u64 (a3 : Nat), .bool x.nt, .int .i64 x.l, .int .i64 x.m, .bool x.lz, .int .i64 (x.at_ : Nat)] rfl rfl (eleven_new _ _ _ _ _ _ _ _ _ _ _ _ _) (by simp [Value.oneCell']) (by unfold maxLen; omega) (by omega) (by simp; omega) ?_; intro v' w2 hown' hgrow _; obtain ⟨hv2, hk2, hi2⟩ := HS.out v' w2 hown' hgrow; obtain ⟨ao2, cap2, rfl⟩ := ownsRow_slice hown'; obtain ⟨q0, q1⟩ := hv2.one; have HZ : Hid (_ ∧ _) := ⟨hk2, hi2⟩; clear hk2 hi2 hv2 hgrow)
      exact HZ.out
  case done =>
    rintro xs W rfl hI hD
    obtain ⟨v, hv, hrow⟩ := hI.row
    obtain ⟨ao', cap', rfl⟩ := ownsRow_slice hrow
    obtain ⟨v0, v1⟩ := hv.one
    have HR : Hid (RetTl w (xs.take mo) (.returned (.slice ao' xs.length cap')) (W.putObj w1.heap.size (.deferred none))) := by
      rw [List.take_of_length_le hI.le]
      exact ⟨ao', cap', rfl, ownsRow_base (ownsRow_at hrow fun g hg _ => World.putObj_heap_other (by omega)) (by omega), (TurnR.put (lo := w1.heap.size) (hi := w1.heap.size + 1) (w1.heap.size) _ ⟨Nat.le_refl _, by omega⟩).below hI.bel (by omega) (Nat.le_of_lt hI.box.lt)⟩
    clear hI hrow hv hI0 hB0 hseq
    generalize xs.length = len at *
    gi_wp2
    refine ⟨by simp, .inl ⟨_, _, rfl, run_takeDeferred hD, ?_⟩⟩
    exact ⟨.slice ao' len cap', results_tmp (t := 4) rfl _ _ _, HR.out⟩
  case stop =>
    rintro c pre W hSp ⟨rfl, pre', x, rfl, hl, hI⟩ hD
    obtain ⟨v, hv, hrow⟩ := hI.row
    obtain ⟨ao', cap', rfl⟩ := ownsRow_slice hrow
    obtain ⟨v0, v1⟩ := hv.one
    have HR : Hid (RetTl w (gl.take mo) (.returned (.slice ao' pre'.length cap')) (W.putObj w1.heap.size (.deferred none))) := by
      have e : gl.take mo = pre' := by
        obtain ⟨t, ht⟩ := hSp
        rw [← ht, ← hl, List.append_assoc, List.take_left]
      rw [e]
      exact ⟨ao', cap', rfl, ownsRow_base (ownsRow_at hrow fun g hg _ => World.putObj_heap_other (by omega)) (by omega), (TurnR.put (lo := w1.heap.size) (hi := w1.heap.size + 1) (w1.heap.size) _ ⟨Nat.le_refl _, by omega⟩).below hI.bel (by omega) (Nat.le_of_lt hI.box.lt)⟩
    clear hI hrow hv hI0 hB0 hseq hSp hl
    generalize pre'.length = len at *
    gi_wp2
    refine ⟨by simp, .inl ⟨_, _, rfl, run_takeDeferred hD, ?_⟩⟩
    exact ⟨.slice ao' len cap', results_tmp (t := 4) rfl _ _ _, HR.out⟩
end Go.Proofs.Ytkbeiadbolihiaa
