/- A region that draws its order, all of whose operations but a forced last row are quiet in a class of worlds: one walk in the text's order serves every order. Scopes in which the run jumps to several labels; a function's code. plus, times, greater: the walks. weightOf: the walk. Widths and weights of trees: plain facts. widthsOf: the walk. measure of widths, Widths: the walks. measure of numbers, Weight: the walks. -/
import Derived.StillTail
import Derived.Test.YtiiecppkabdkgabDoorGNbStSoSpSaNl
import Derived.Deep.QuietTactic
import Derived.BigQuiet
import Derived.ScopeJumps
import Derived.WalkMore
import Derived.Deep.RegionWith
import Derived.Test.YtiiecppkabdkgabDoorGMvEmGrJoRp
namespace Go.Proofs.YtiiecppkabdkgabDoor
open Go

section
variable {P : Program} {ops : Array Oper} {md : Region.Mode} {C : World → Prop}

/-- The operations below n come up in whatever order, each quiet in the class; behind f of them L holds. -/
def headQ (P : Program) (md : Region.Mode) (ops : Array Oper) (C : World → Prop) (n : Nat) (L : Array Bool → Act → Prop) : Nat → Array Bool → Act → Prop
  | 0, done, a => L done a
  | f + 1, done, a => Region.ready md ops done ≠ [] ∧ ∀ i ∈ Region.ready md ops done, i < n ∧ qOp P ops C i (headQ P md ops C n L f (done.setIfInBounds i true)) a

theorem any_of_headQ {n g : Nat} {L : Array Bool → Act → Prop} {Q : Exit → Act → World → Prop} (hL : ∀ done a w, C w → L done a → wpAny P md ops Q g done a w) :
    ∀ (f : Nat) (done : Array Bool) (a : Act) (w : World), C w → headQ P md ops C n L f done a → wpAny P md ops Q (f + g) done a w := by
  intro f
  induction f with
  | zero => intro done a w hw h; rw [Nat.zero_add]; exact hL done a w hw h
  | succ f ih =>
    intro done a w hw h
    rw [show f + 1 + g = (f + g) + 1 by omega]
    exact ⟨fun h0 => absurd h0 h.1, fun i hi => wpOp_of_qOp hw (fun a' w' hw' h' => ih _ a' w' hw' h') (h.2 i hi).2⟩

/-- One that may come up now and is quiet may be taken first. -/
theorem headQ_first {n i : Nat} {oi : Oper} {v : Value} {L : Array Bool → Act → Prop} (hi : ops[i]? = some oi) (hsel : ∀ (j : Nat) (o : Oper) cs b, ops[j]? = some o → o.op ≠ .select cs b)
    (hs : Region.sinkB md ops n = true) (hc : Region.chainB md ops n = true) (hn : n < ops.size) (hin : i < n)
    (hend : ∀ done a, L done a → ∀ j ∈ Region.ready md ops done, n ≤ j) :
    ∀ (f : Nat) (done : Array Bool) (a : Act), HeadInv md ops n done →
      (∀ j oj, ops[j]? = some oj → j ≠ i → done.getD j true = false → (∀ e ∈ oj.after, Region.binds md e = true → e.on ≠ i) → oi.apart ops oj = true) →
      i ∈ Region.ready md ops done → YieldsIn P ops C oi v a → headQ P md ops C n L f (done.setIfInBounds i true) (a.put oi.dst v) → headQ P md ops C n L (f + 1) done a := by
  intro f
  induction f with
  | zero =>
    intro done a inv _ hr hy H
    refine ⟨fun h => (by rw [h] at hr; cases hr), fun j hj => ?_⟩
    have hjn : j < n := Nat.lt_of_not_le fun h => tail_waits hs hc hn inv _ i rfl hin (mem_ready.1 hr).1 j h hj
    refine ⟨hjn, ?_⟩
    by_cases hji : j = i
    · subst hji; exact hy.qOp hi H
    · exact absurd (hend _ _ H j (ready_mono hj hji)) (by omega)
  | succ f ih =>
    intro done a inv hfree hr hy H
    have hun := (mem_ready.1 hr).1
    refine ⟨fun h => (by rw [h] at hr; cases hr), fun j hj => ?_⟩
    have hjn : j < n := Nat.lt_of_not_le fun h => tail_waits hs hc hn inv _ i rfl hin hun j h hj
    refine ⟨hjn, ?_⟩
    by_cases hji : j = i
    · subst hji; exact hy.qOp hi H
    · obtain ⟨hjun, oj, hoj, hall⟩ := mem_ready.1 hj
      have hnot : ∀ e ∈ oj.after, Region.binds md e = true → e.on ≠ i := fun e he hb heq => by
        have := hall e he hb
        rw [heq, getD_both hun] at this
        cases this
      have h2 := qOp_put hoj (hfree j oj hoj hji hjun hnot) (fun cs b => hsel i oi cs b hi) (fun cs b => hsel j oj cs b hoj) hy (H.2 j (ready_mono hj hji)).2
      refine qOp_mono (fun a' h3 => ih (done.setIfInBounds j true) a' (inv.set hj hjn) (fun k ok hk hki hu hno => hfree k ok hk hki ?_ hno) (ready_mono hr (Ne.symm hji)) h3.1 ?_) h2
      · by_cases hjk : j = k
        · subst hjk; exact hjun
        · rw [getD_set_ne true hjk] at hu; exact hu
      · rw [Array.setIfInBounds_comm _ _ hji]; exact h3.2

theorem headQ_lex {n g : Nat} {Lq : Act → Prop} (hsel : Region.noSelect ops = true) (hs : Region.sinkB md ops n = true) (hc : Region.chainB md ops n = true) (hn : n < ops.size) :
    ∀ (l : List Oper) (k : Nat) (done : Array Bool) (a : Act), (∀ j, j < l.length → l[j]? = ops[k + j]?) → k + l.length = n → HeadInv md ops n done →
      Region.lexHead md ops g l.length k done = true → wpQuiet P ops C Lq l a → headQ P md ops C n (fun d a' => Region.seqB md ops g n d = true ∧ Lq a') l.length done a := by
  intro l
  induction l with
  | nil =>
    intro k done a _ hk _ hB h
    obtain rfl : k = n := by simpa using hk
    exact ⟨by simpa [Region.lexHead] using hB, h⟩
  | cons o l ih =>
    intro k done a hl hk inv hB h
    have h0 : ops[k]? = some o := by simpa using (hl 0 (by simp)).symm
    simp only [List.length_cons, Region.lexHead, Bool.and_eq_true] at hB
    simp only [List.length_cons] at hk
    have hr : k ∈ Region.ready md ops done := by simpa using hB.1.1
    obtain ⟨v, hy, hK⟩ := yieldsIn_of_qOp (i := k) (K := wpQuiet P ops C Lq l) h0 (by unfold qOp; simp only [h0]; exact h)
    refine headQ_first h0 (Region.noSelect_spec hsel) hs hc hn (by omega) (fun d a' hL => seqB_ready hL.1) l.length done a inv (Region.free_spec h0 hB.1.2) hr hy ?_
    exact ih (k + 1) _ _ (fun j hj => by have := hl (j + 1) (by simp; omega); simpa [Nat.add_assoc, Nat.add_comm 1 j] using this) (by omega) (inv.set hr (by omega)) hB.2 hK

/-- THE LAW: the first n operations quiet in C, in the text's order; then the last ones one after another, from whatever world of C. -/
theorem wp_region_quiet_tail {id : Nat} {Q : Exit → Act → World → Prop} {a : Act} {w : World} {l : List Oper} (n : Nat) (C : World → Prop) (hm : P.follows .mixedOrders = true) (hB : Region.lexTailB .any l.toArray n = true)
    (hC : C { w with drawn := w.drawn + 1 })
    (h : wpQuiet P l.toArray C (fun a' => ∀ w', C w' → wpList P l.toArray Q (l.drop n) a' w') (l.take n) a) : (Code.region id l.toArray true).wp P Q a w := by
  simp only [Region.lexTailB, Bool.and_eq_true, decide_eq_true_eq] at hB
  obtain ⟨⟨⟨⟨hsel, hn⟩, hs⟩, hc⟩, hlex⟩ := hB
  have hn' : n < l.length := by simpa using hn
  have htl : (l.take n).length = n := by simp; omega
  have hdl : (l.drop n).length = l.toArray.size - n := by simp
  have inv0 : HeadInv .any l.toArray n (Array.replicate l.toArray.size false) :=
    ⟨by simp, fun j oj _ hl => (by rw [getD_replicate_false] at hl; cases hl), fun t _ ht => getD_in (by simpa using ht) (getD_replicate_false _ _)⟩
  have H := headQ_lex (md := .any) (g := l.toArray.size - n) hsel hs hc hn (l.take n) 0 _ a
    (fun j hj => by have hj' : j < n := by rw [htl] at hj; exact hj
                    simp [hj']) (by simpa using htl) inv0 (by rw [htl]; exact hlex) h
  have := any_of_headQ (Q := Q) (g := l.toArray.size - n) (fun d a' w' hw' hL => by
    have := wpAny_of_seq (md := .any) (Q' := Q) (l.drop n) n d a' w' (fun j => by simp [List.getElem?_drop]) (by rw [hdl]; exact hL.1) (hL.2 w' hw')
    rwa [hdl] at this) _ _ _ _ hC H
  rw [htl, show n + (l.toArray.size - n) = l.toArray.size by omega] at this
  exact wp_region_any hm this
end
open Go.RowKit
/-- u, but all that was there in W is as it was. -/
def near (W u : World) : World := { u with os := W.os, tape := W.tape, output := W.output, heap := W.heap ++ u.heap.extract W.heap.size }
theorem near_below (W u : World) : Below W.heap.size W (near W u) := by
  refine ⟨rfl, rfl, rfl, ?_, fun k hk => ?_⟩
  · show W.heap.size ≤ (W.heap ++ u.heap.extract W.heap.size).size
    rw [Array.size_append]; omega
  · show (W.heap ++ u.heap.extract W.heap.size)[k]? = _
    rw [Array.getElem?_append_left hk]
theorem near_self {W w : World} (h : Below W.heap.size W w) : near W w = w := by
  have e : W.heap ++ w.heap.extract W.heap.size = w.heap := by
    apply Array.ext_getElem?
    intro i
    by_cases hi : i < W.heap.size
    · rw [Array.getElem?_append_left hi, h.block i hi]
    · rw [Array.getElem?_append_right (by omega), Array.getElem?_extract]
      have := h.size
      by_cases h2 : i < w.heap.size
      · rw [if_pos (by omega), show W.heap.size + (i - W.heap.size) = i by omega]
      · rw [if_neg (by omega), Array.getElem?_eq_none (by omega)]
  unfold near
  rw [e, ← h.os, ← h.tape, ← h.output]
theorem Near.cell {W : World} {b o : Nat} {v : Value} (hc : W.cell? ⟨b, o, none⟩ = some v) (hb : b < W.heap.size) : ∀ u : World, (near W u).cell? ⟨b, o, none⟩ = some v := fun u => by
  rw [(near_below W u).cell (p := ⟨b, o, none⟩) hb]; exact hc
theorem Near.frozen {W : World} {b o : Nat} {v : Bool} (hc : W.frozen? ⟨b, o, none⟩ = v) (hb : b < W.heap.size) : ∀ u : World, (near W u).frozen? ⟨b, o, none⟩ = v := fun u => by
  rw [(near_below W u).frozen (p := ⟨b, o, none⟩) hb]; exact hc
theorem Near.start (W : World) : ∃ u : World, { W with drawn := W.drawn + 1 } = near W u := ⟨W.drew, (near_self (Below.refl _ _).drew).symm⟩
theorem Near.call {P : Program} {f : FuncId} {args : Array Value} {W : World} {u : World} {v : Value} (h : Calls P f args (near W u) fun e w' => e = .returned v ∧ Below (near W u).heap.size (near W u) w') :
    Calls P f args (near W u) fun e w' => e = .returned v ∧ ∃ u' : World, w' = near W u' :=
  h.mono fun _ w' h => ⟨h.1, w', (near_self ((near_below W u).trans (h.2.mono (near_below W u).size))).symm⟩
theorem Near.same {P : Program} {f : FuncId} {args : Array Value} {W : World} {u : World} {v : Value} (h : Calls P f args (near W u) fun e w' => e = .returned v ∧ w' = near W u) :
    Calls P f args (near W u) fun e w' => e = .returned v ∧ ∃ u' : World, w' = near W u' :=
  h.mono fun _ _ h => ⟨h.1, u, h.2⟩
end Go.Proofs.YtiiecppkabdkgabDoor
namespace Go.Proofs.YtiiecppkabdkgabDoor
open Go.RowKit
/-- As Q; by a goto to label l: J l. -/
def jumps (J : Nat → Act → World → Prop) (Q : Exit → Act → World → Prop) : Exit → Act → World → Prop
  | .goto l, a, w => J l a w
  | e, a, w => Q e a w
/-- A scope in which the run jumps to several labels; every jump lowers a measure. -/
theorem wp_scope_labels {P : Program} {c : Code} {Q : Exit → Act → World → Prop} {a : Act} {w : World} (J : Nat → Nat → Act → World → Prop)
    (first : c.wp P (jumps (fun l a w => ∃ m, J l m a w) Q) a w)
    (pass : ∀ l m a w, J l m a w → ∃ rest, findLabel c l = some rest ∧ rest.wp P (jumps (fun l' a' w' => ∃ m', m' < m ∧ J l' m' a' w') Q) a w) : (Code.scope c).wp P Q a w := by
  intro b k cs
  have key : ∀ n l a w, J l n a w → ∃ rest, findLabel c l = some rest ∧ ∃ e a' w', Q e a' w' ∧ Arrives P (lone (b.at a (.code rest :: .inScope c :: k)) cs w) b k cs e a' w' := by
    intro n
    induction n using Nat.strongRecOn with
    | _ n ih =>
      intro l a w hJ
      obtain ⟨rest, hf, hp⟩ := pass l n a w hJ
      refine ⟨rest, hf, ?_⟩
      obtain ⟨e, a₁, w₁, hq, harr⟩ := hp b (.inScope c :: k) cs
      cases e with
      | normal => exact ⟨.normal, a₁, w₁, hq, Steps.trans harr (.one step_inScope)⟩
      | exit id => exact ⟨.exit id, a₁, w₁, hq, fun k' hk => harr k' (by simp [exitTo, hk])⟩
      | goto l' =>
        obtain ⟨m', hlt, hJ'⟩ := hq
        obtain ⟨rest', hf', e₂, a₂, w₂, hq₂, harr₂⟩ := ih m' hlt l' a₁ w₁ hJ'
        have hg : gotoIn l' (.inScope c :: k) = some (.code rest' :: .inScope c :: k) := by simp [gotoIn, hf']
        exact ⟨e₂, a₂, w₂, hq₂, .of_steps (harr _ hg) harr₂⟩
      | ret => exact ⟨_, a₁, w₁, hq, harr⟩
      | panic ch => exact ⟨_, a₁, w₁, hq, harr⟩
      | outgrown => exact ⟨_, a₁, w₁, hq, harr⟩
  obtain ⟨e, a₁, w₁, hq, harr⟩ := first b (.inScope c :: k) cs
  cases e with
  | normal => exact ⟨.normal, a₁, w₁, hq, .head step_scope (Steps.trans harr (.one step_inScope))⟩
  | exit id => exact ⟨.exit id, a₁, w₁, hq, fun k' hk => .head step_scope (harr k' (by simp [exitTo, hk]))⟩
  | goto l' =>
    obtain ⟨m, hJ⟩ := hq
    obtain ⟨rest', hf', e₂, a₂, w₂, hq₂, harr₂⟩ := key m l' a₁ w₁ hJ
    have hg : gotoIn l' (.inScope c :: k) = some (.code rest' :: .inScope c :: k) := by simp [gotoIn, hf']
    exact ⟨e₂, a₂, w₂, hq₂, .of_steps (.head step_scope (harr _ hg)) harr₂⟩
  | ret => exact ⟨_, a₁, w₁, hq, .of_steps (.one step_scope) harr⟩
  | panic ch => exact ⟨_, a₁, w₁, hq, .of_steps (.one step_scope) harr⟩
  | outgrown => exact ⟨_, a₁, w₁, hq, .of_steps (.one step_scope) harr⟩
theorem jumps_mono {J J' : Nat → Act → World → Prop} {Q : Exit → Act → World → Prop} (h : ∀ l a w, J l a w → J' l a w) (e : Exit) (a : Act) (w : World) (hq : jumps J Q e a w) : jumps J' Q e a w := by
  cases e <;> first | exact hq | exact h _ _ _ hq
theorem wp_skip_seq {P : Program} {c : Code} {Q : Exit → Act → World → Prop} {a : Act} {w : World} (h : c.wp P Q a w) : (Code.skip.seq c).wp P Q a w := wp_seq (wp_skip h)
/-- The code inside the first scope of a code; what stands behind a code's first part. -/
def inScope : Code → Option Code
  | .scope c => some c
  | .seq a b => match inScope a with
    | some c => some c
    | none => inScope b
  | .block _ c => inScope c
  | _ => none
def behind : Code → Code
  | .seq _ b => b
  | c => c
/-- The value at a place of a frame. -/
def nth : List Value → Nat → Value
  | [], _ => undef
  | x :: _, 0 => x
  | _ :: xs, n + 1 => nth xs n
/-- The code inside a function's scope; what stands behind a label of it. -/
def scopeIn (fn : Func) : Code := ((fn.body.bind inScope).getD .skip)
def labelIn (fn : Func) (l : Nat) : Code := behind ((findLabel (scopeIn fn) l).getD .skip)
end Go.Proofs.YtiiecppkabdkgabDoor
namespace Go.Proofs.YtiiecppkabdkgabDoor
open Go.RowKit
def pl (a b : Int) : Int := if a = -1 ∨ b = -1 then -1 else a + min b (1073741824 - a)
def tm (a b : Int) : Int := if a = 0 ∨ b = 0 then 0 else if a = -1 ∨ b = -1 then -1 else if a > (1073741824 : Int).tdiv b then 1073741824 else a * b
def gr (a b : Int) : Int := if a = -1 ∨ b = -1 then -1 else max a b
end Go.Proofs.YtiiecppkabdkgabDoor
namespace Go.Proofs.YtiiecppkabdkgabDoor
open Go.RowKit
def RetI (w : World) (v : Int) (e : Ending) (w' : World) : Prop := e = .returned (.int .i64 v) ∧ Below w.heap.size w w'
end Go.Proofs.YtiiecppkabdkgabDoor
namespace Go.Proofs.YtiiecppkabdkgabDoor
open Go.RowKit
def wt : Tre → Int
  | .leaf n => if n.k = 2 then 1 else 0
  | .two _ x y => pl (wt x) (wt y)
  | .rep x l m _ => tm (if m = -1 then l + 1 else m) (wt x)
def wl : Tre → Int
  | .leaf n => if n.k = 2 then 1 else 0
  | .two k x y => if k = 3 then pl (wl x) (wl y) else min (wl x) (wl y)
  | .rep x l _ _ => tm l (wl x)
def wg : Tre → Int
  | .leaf n => if n.k = 2 then 1 else 0
  | .two k x y => if k = 3 then pl (wg x) (wg y) else gr (wg x) (wg y)
  | .rep x _ m _ => tm m (wg x)
theorem pl_nn {a b : Int} (ha : 0 ≤ a ∧ a ≤ 1073741824) (hb : 0 ≤ b ∧ b ≤ 1073741824) : 0 ≤ pl a b ∧ pl a b ≤ 1073741824 := by
  unfold pl; rw [if_neg (by omega)]; omega
theorem pl_in {a b : Int} (ha : -1 ≤ a ∧ a ≤ 1073741824) (hb : -1 ≤ b ∧ b ≤ 1073741824) : -1 ≤ pl a b ∧ pl a b ≤ 1073741824 := by
  unfold pl; split <;> omega
theorem gr_in {a b : Int} (ha : -1 ≤ a ∧ a ≤ 1073741824) (hb : -1 ≤ b ∧ b ≤ 1073741824) : -1 ≤ gr a b ∧ gr a b ≤ 1073741824 := by
  unfold gr; split <;> omega
theorem tm_in {a b : Int} (ha : -1 ≤ a) (hb : -1 ≤ b ∧ b ≤ 1073741824) : -1 ≤ tm a b ∧ tm a b ≤ 1073741824 := by
  unfold tm
  split
  · omega
  · split
    · omega
    · split
      · omega
      · rename_i h1 h2 h3
        rw [Int.tdiv_eq_ediv_of_nonneg (by omega)] at h3
        have hb0 : 0 < b := by omega
        have h4 : a ≤ 1073741824 / b := by omega
        have h5 := (Int.le_ediv_iff_mul_le hb0).1 h4
        have h6 : 0 ≤ a * b := Int.mul_nonneg (by omega) (by omega)
        omega
theorem tm_nn {a b : Int} (ha : 0 ≤ a) (hb : 0 ≤ b ∧ b ≤ 1073741824) : 0 ≤ tm a b ∧ tm a b ≤ 1073741824 := by
  refine ⟨?_, (tm_in (by omega) (by omega)).2⟩
  unfold tm
  split
  · omega
  · rw [if_neg (by omega)]
    split
    · omega
    · exact Int.mul_nonneg (by omega) (by omega)
theorem mayR_in {l m : Int} (h : Tre.mayR l m = true) : 0 ≤ l ∧ l ≤ 1000 ∧ -1 ≤ m ∧ m ≤ 1000 := by
  simp [Tre.mayR] at h; omega
theorem wt_in : ∀ t : Tre, t.ok = true → 0 ≤ wt t ∧ wt t ≤ 1073741824
  | .leaf n, _ => by unfold wt; split <;> omega
  | .two k x y, h => by
    simp [Tre.ok] at h
    exact pl_nn (wt_in x h.1.2) (wt_in y h.2)
  | .rep x l m z, h => by
    simp [Tre.ok] at h
    have := mayR_in h.1
    unfold wt
    exact tm_nn (by split <;> omega) (wt_in x h.2)
theorem wl_in : ∀ t : Tre, t.ok = true → 0 ≤ wl t ∧ wl t ≤ 1073741824
  | .leaf n, _ => by unfold wl; split <;> omega
  | .two k x y, h => by
    simp [Tre.ok] at h
    have hx := wl_in x h.1.2
    have hy := wl_in y h.2
    unfold wl
    split
    · exact pl_nn hx hy
    · omega
  | .rep x l m z, h => by
    simp [Tre.ok] at h
    have := mayR_in h.1
    exact tm_nn (by omega) (wl_in x h.2)
theorem wg_in : ∀ t : Tre, t.ok = true → -1 ≤ wg t ∧ wg t ≤ 1073741824
  | .leaf n, _ => by unfold wg; split <;> omega
  | .two k x y, h => by
    simp [Tre.ok] at h
    have hx := wg_in x h.1.2
    have hy := wg_in y h.2
    unfold wg
    split
    · exact pl_in hx hy
    · exact gr_in hx hy
  | .rep x l m z, h => by
    simp [Tre.ok] at h
    have := mayR_in h.1
    exact tm_in (by omega) (wg_in x h.2)
/-- What is told of the subtree at a place. -/
def atP (f : Tre → Int) (t : Tre) (p : Nat) : Int := f ((t.subs[p]?).getD t)
theorem atP_get {f : Tre → Int} {t : Tre} {p : Nat} {u : Tre} (h : t.subs[p]? = some u) : atP f t p = f u := by simp [atP, h]
end Go.Proofs.YtiiecppkabdkgabDoor
namespace Go.Proofs.YtiiecppkabdkgabDoor
open Go.RowKit
/-- The cells of a slice of widths can be read. -/
def RdW (w : World) (ao : Option Addr) (n : Nat) (f g : Nat → Int) : Prop := 0 < n → ∃ bb off, ao = some ⟨bb, off, none⟩ ∧ bb < w.heap.size ∧ ∀ i, i < n → w.cell? ⟨bb, off + i * 2, none⟩ = some (.int .i64 (f i)) ∧ w.cell? ⟨bb, off + i * 2 + 1, none⟩ = some (.int .i64 (g i))
def RetW (w : World) (x y : Int) (e : Ending) (w' : World) : Prop := e = .returned (.agg #[.int .i64 x, .int .i64 y]) ∧ Below w.heap.size w w'
end Go.Proofs.YtiiecppkabdkgabDoor
namespace Go.Proofs.YtiiecppkabdkgabDoor
open Go.RowKit
theorem RdW.below {w w' : World} {ao : Option Addr} {n : Nat} {f g : Nat → Int} (h : RdW w ao n f g) (hb : Below w.heap.size w w') : RdW w' ao n f g := by
  intro hn
  obtain ⟨bb, off, e, hlt, hc⟩ := h hn
  refine ⟨bb, off, e, Nat.lt_of_lt_of_le hlt hb.size, fun i hi => ?_⟩
  have := hc i hi
  simpa only [hb.cell (p := ⟨bb, _, none⟩) hlt] using this
/-- Pairs of numbers as cells. -/
def prs (f g : Nat → Int) : Nat → List Value
  | 0 => []
  | n + 1 => prs f g n ++ [.int .i64 (f n), .int .i64 (g n)]
theorem prs_snoc (f g : Nat → Int) (n : Nat) : prs f g (n + 1) = prs f g n ++ [.int .i64 (f n), .int .i64 (g n)] := rfl
theorem prs_length (f g : Nat → Int) : ∀ n, (prs f g n).length = n * 2
  | 0 => rfl
  | n + 1 => by rw [prs, List.length_append, prs_length f g n]; simp; omega
theorem prs_get0 (f g : Nat → Int) : ∀ {n i : Nat}, i < n → (prs f g n)[i * 2]? = some (.int .i64 (f i))
  | 0, i, h => by omega
  | n + 1, i, h => by
    have hl := prs_length f g n
    rw [prs]
    by_cases hi : i < n
    · rw [List.getElem?_append_left (by omega)]; exact prs_get0 f g hi
    · have : i = n := by omega
      subst this
      rw [List.getElem?_append_right (by omega), hl, Nat.sub_self]; rfl
theorem prs_get1 (f g : Nat → Int) : ∀ {n i : Nat}, i < n → (prs f g n)[i * 2 + 1]? = some (.int .i64 (g i))
  | 0, i, h => by omega
  | n + 1, i, h => by
    have hl := prs_length f g n
    rw [prs]
    by_cases hi : i < n
    · rw [List.getElem?_append_left (by omega)]; exact prs_get1 f g hi
    · have : i = n := by omega
      subst this
      rw [List.getElem?_append_right (by omega), hl, show i * 2 + 1 - i * 2 = 1 by omega]; rfl
end Go.Proofs.YtiiecppkabdkgabDoor
namespace Go.Proofs.YtiiecppkabdkgabDoor
open Go.RowKit
theorem make_room50 (n : Nat) (hn : n ≤ 2048) (w : World) : (Instr.makeSlice 38 (.int .i64 0) (.int .i64 (n : Nat))).run Tryd.prog w = .ok (.slice (some ⟨w.heap.size, 0, none⟩) 0 n) (w.alloc (.cells (ints (fun _ => 0) n).toArray 3)) := by
  obtain ⟨i, hi, hz, hs, hb⟩ := info_parts b_int
  have := run_make (P := Tryd.prog) w 38 3 i (.int .i64 0) Tryd.underlying38 hi hz .i64 .i64 0 (n : Int) (by omega) (by omega) (by rw [hb]; omega) (by omega)
  rw [this, hs]
  simp [← made_ints, Value.cells]
theorem ints_snoc (f : Nat → Int) (n : Nat) : ints f (n + 1) = ints f n ++ [.int .i64 (f n)] := by simp [ints, List.range_succ]
theorem row_rdI {W : World} {base n cap : Nat} {ao : Option Addr} {f : Nat → Int} (h : W.ownsRow base 3 1 (.slice ao n cap) n (ints f n)) : RdI W ao n f := by
  intro hn
  obtain ⟨g, e, hl, _, hc, _⟩ := row_cell h hn
  refine ⟨g, 0, e, hl, fun i hi => ?_⟩
  rw [Nat.zero_add]
  exact hc i _ (ints_get f hi)
end Go.Proofs.YtiiecppkabdkgabDoor
