/- Ported: Tva. -/
import Derived.WalkKit
import Derived.WalkSpells
import Derived.WalkLawsBesides
import Derived.ChangeKeysEq
import Derived.Laws.StructEq
import Derived.Deep.QuietTactic
import Derived.BigQuiet
import Derived.Deep.RegionWith
import Derived.Laws.AppendOwn
import Derived.Laws.OwnMore
import Derived.Lib.SliceRun
import Derived.RangeFuncNested
import Derived.RangeFuncBound
import Derived.RangeFuncCalls
import Derived.RangeFuncLeaves
import Derived.RangeFuncBox
import Derived.Shelf.Abstract
import Derived.Shelf.RegionOpen
import Derived.OwnWalkIn
import Derived.TacticsInMore
import Derived.LoopNIn
import Derived.LoopIn
import Derived.Lib.AppendZeros
import Derived.Laws.AppendOwnNone
import Derived.Deep.RegionHeld3
import Derived.Deep.AppendLies
import Derived.StillTail
import Derived.ScopeJumps
import Derived.WalkMore
import Derived.Deep.DeepCutAuto
import Derived.OrdersIn
import Derived.Sort.CutIn
import Derived.Sort.BigQuietIn
import Derived.BigRegionIn
import Derived.Deep.RegionLaw
import Derived.Laws.CopyOwn
import Derived.Shelf.Bits.Mul64
import Derived.Lib.SlBytesConst
import Derived.Deep.CutBlock
import Derived.Orders
import Derived.BigRegion
import Derived.Test.YtobgmgpclcfkcaaTtL
namespace Go.Proofs.Ytobgmgpclcfkcaa.T
open Go.RowKit

section
variable {P : Program} {ops : Array Oper} {md : Region.Mode} {C : World → Prop}

/-- The operations below n come up in whatever order, each quiet in the class; behind f of them L holds. -/
def headQ (P : Program) (md : Region.Mode) (ops : Array Oper) (C : World → Prop) (n : Nat) (L : Array Bool → Act → Prop) : Nat → Array Bool → Act → Prop
  | 0, done, a => L done a
  | f + 1, done, a => Region.ready md ops done ≠ [] ∧ ∀ i ∈ Region.ready md ops done, i < n ∧ qOp P ops C i (headQ P md ops C n L f (done.setIfInBounds i true)) a

theorem any_of_headQ {n g : Nat} {L : Array Bool → Act → Prop} {Q : Exit → Act → World → Prop} (hL : ∀ done a w, C w → L done a → wpAny P md ops Q g done a w) :
    ∀ (f : Nat) (done : Array Bool) (a : Act) (w : World), C w → headQ P md ops C n L f done a → wpAny P md ops Q (f + g) done a w := by
  intro f
  induction f with
  | zero => intro done a w hw h; rw [Nat.zero_add]; exact hL done a w hw h
  | succ f ih =>
    intro done a w hw h
    rw [show f + 1 + g = (f + g) + 1 by omega]
    exact ⟨fun h0 => absurd h0 h.1, fun i hi => wpOp_of_qOp hw (fun a' w' hw' h' => ih _ a' w' hw' h') (h.2 i hi).2⟩

/-- One that may come up now and is quiet may be taken first. -/
theorem headQ_first {n i : Nat} {oi : Oper} {v : Value} {L : Array Bool → Act → Prop} (hi : ops[i]? = some oi) (hsel : ∀ (j : Nat) (o : Oper) cs b, ops[j]? = some o → o.op ≠ .select cs b)
    (hs : Region.sinkB md ops n = true) (hc : Region.chainB md ops n = true) (hn : n < ops.size) (hin : i < n)
    (hend : ∀ done a, L done a → ∀ j ∈ Region.ready md ops done, n ≤ j) :
    ∀ (f : Nat) (done : Array Bool) (a : Act), HeadInv md ops n done →
      (∀ j oj, ops[j]? = some oj → j ≠ i → done.getD j true = false → (∀ e ∈ oj.after, Region.binds md e = true → e.on ≠ i) → oi.apart ops oj = true) →
      i ∈ Region.ready md ops done → YieldsIn P ops C oi v a → headQ P md ops C n L f (done.setIfInBounds i true) (a.put oi.dst v) → headQ P md ops C n L (f + 1) done a := by
  intro f
  induction f with
  | zero =>
    intro done a inv _ hr hy H
    refine ⟨fun h => (by rw [h] at hr; cases hr), fun j hj => ?_⟩
    have hjn : j < n := Nat.lt_of_not_le fun h => tail_waits hs hc hn inv _ i rfl hin (mem_ready.1 hr).1 j h hj
    refine ⟨hjn, ?_⟩
    by_cases hji : j = i
    · subst hji; exact hy.qOp hi H
    · exact absurd (hend _ _ H j (ready_mono hj hji)) (by omega)
  | succ f ih =>
    intro done a inv hfree hr hy H
    have hun := (mem_ready.1 hr).1
    refine ⟨fun h => (by rw [h] at hr; cases hr), fun j hj => ?_⟩
    have hjn : j < n := Nat.lt_of_not_le fun h => tail_waits hs hc hn inv _ i rfl hin hun j h hj
    refine ⟨hjn, ?_⟩
    by_cases hji : j = i
    · subst hji; exact hy.qOp hi H
    · obtain ⟨hjun, oj, hoj, hall⟩ := mem_ready.1 hj
      have hnot : ∀ e ∈ oj.after, Region.binds md e = true → e.on ≠ i := fun e he hb heq => by
        have := hall e he hb
        rw [heq, getD_both hun] at this
        cases this
      have h2 := qOp_put hoj (hfree j oj hoj hji hjun hnot) (fun cs b => hsel i oi cs b hi) (fun cs b => hsel j oj cs b hoj) hy (H.2 j (ready_mono hj hji)).2
      refine qOp_mono (fun a' h3 => ih (done.setIfInBounds j true) a' (inv.set hj hjn) (fun k ok hk hki hu hno => hfree k ok hk hki ?_ hno) (ready_mono hr (Ne.symm hji)) h3.1 ?_) h2
      · by_cases hjk : j = k
        · subst hjk; exact hjun
        · rw [getD_set_ne true hjk] at hu; exact hu
      · rw [Array.setIfInBounds_comm _ _ hji]; exact h3.2

theorem headQ_lex {n g : Nat} {Lq : Act → Prop} (hsel : Region.noSelect ops = true) (hs : Region.sinkB md ops n = true) (hc : Region.chainB md ops n = true) (hn : n < ops.size) :
    ∀ (l : List Oper) (k : Nat) (done : Array Bool) (a : Act), (∀ j, j < l.length → l[j]? = ops[k + j]?) → k + l.length = n → HeadInv md ops n done →
      Region.lexHead md ops g l.length k done = true → wpQuiet P ops C Lq l a → headQ P md ops C n (fun d a' => Region.seqB md ops g n d = true ∧ Lq a') l.length done a := by
  intro l
  induction l with
  | nil =>
    intro k done a _ hk _ hB h
    obtain rfl : k = n := by simpa using hk
    exact ⟨by simpa [Region.lexHead] using hB, h⟩
  | cons o l ih =>
    intro k done a hl hk inv hB h
    have h0 : ops[k]? = some o := by simpa using (hl 0 (by simp)).symm
    simp only [List.length_cons, Region.lexHead, Bool.and_eq_true] at hB
    simp only [List.length_cons] at hk
    have hr : k ∈ Region.ready md ops done := by simpa using hB.1.1
    obtain ⟨v, hy, hK⟩ := yieldsIn_of_qOp (i := k) (K := wpQuiet P ops C Lq l) h0 (by unfold qOp; simp only [h0]; exact h)
    refine headQ_first h0 (Region.noSelect_spec hsel) hs hc hn (by omega) (fun d a' hL => seqB_ready hL.1) l.length done a inv (Region.free_spec h0 hB.1.2) hr hy ?_
    exact ih (k + 1) _ _ (fun j hj => by have := hl (j + 1) (by simp; omega); simpa [Nat.add_assoc, Nat.add_comm 1 j] using this) (by omega) (inv.set hr (by omega)) hB.2 hK

/-- THE LAW: the first n operations quiet in C, in the text's order; then the last ones one after another, from whatever world of C. -/
theorem wp_region_quiet_tail {id : Nat} {Q : Exit → Act → World → Prop} {a : Act} {w : World} {l : List Oper} (n : Nat) (C : World → Prop) (hm : P.follows .mixedOrders = true) (hB : Region.lexTailB .any l.toArray n = true)
    (hC : C { w with drawn := w.drawn + 1 })
    (h : wpQuiet P l.toArray C (fun a' => ∀ w', C w' → wpList P l.toArray Q (l.drop n) a' w') (l.take n) a) : (Code.region id l.toArray true).wp P Q a w := by
  simp only [Region.lexTailB, Bool.and_eq_true, decide_eq_true_eq] at hB
  obtain ⟨⟨⟨⟨hsel, hn⟩, hs⟩, hc⟩, hlex⟩ := hB
  have hn' : n < l.length := by simpa using hn
  have htl : (l.take n).length = n := by simp; omega
  have hdl : (l.drop n).length = l.toArray.size - n := by simp
  have inv0 : HeadInv .any l.toArray n (Array.replicate l.toArray.size false) :=
    ⟨by simp, fun j oj _ hl => (by rw [getD_replicate_false] at hl; cases hl), fun t _ ht => getD_in (by simpa using ht) (getD_replicate_false _ _)⟩
  have H := headQ_lex (md := .any) (g := l.toArray.size - n) hsel hs hc hn (l.take n) 0 _ a
    (fun j hj => by have hj' : j < n := by rw [htl] at hj; exact hj
                    simp [hj']) (by simpa using htl) inv0 (by rw [htl]; exact hlex) h
  have := any_of_headQ (Q := Q) (g := l.toArray.size - n) (fun d a' w' hw' hL => by
    have := wpAny_of_seq (md := .any) (Q' := Q) (l.drop n) n d a' w' (fun j => by simp [List.getElem?_drop]) (by rw [hdl]; exact hL.1) (hL.2 w' hw')
    rwa [hdl] at this) _ _ _ _ hC H
  rw [htl, show n + (l.toArray.size - n) = l.toArray.size by omega] at this
  exact wp_region_any hm this
end
def RetI (w : World) (v : Int) (e : Ending) (w' : World) : Prop := e = .returned (.int .i64 v) ∧ Below w.heap.size w w'
def okA : Tre → Bool × Bool → Bool
  | .leaf n, h => if n.k = 6 then h.1 else if n.k = 7 then h.2 else true
  | _, _ => true
def anc : Tre → Bool × Bool → Bool
  | .leaf n, h => if n.k = 6 then h.1 else if n.k = 7 then h.2 else true
  | .two k x y, h => anc x (hdA k h) && anc y (hdB k h)
  | .rep x _ _ _, _ => anc x (false, false)
theorem wy_root : ∀ (t : Tre) (h : Bool × Bool), wy t h (t.size - 1) = h
  | .leaf _, h => rfl
  | .two k x y, h => by
    simp only [wy, Tre.size, Nat.add_sub_cancel]
    rw [if_neg (by omega), if_neg (by omega)]
  | .rep x _ _ _, h => by
    simp only [wy, Tre.size, Nat.add_sub_cancel]
    rw [if_neg (by omega)]
theorem anc_iff : ∀ (t : Tre) (h : Bool × Bool), anc t h = true ↔ ∀ p u, t.subs[p]? = some u → okA u (wy t h p) = true
  | .leaf n, h => by
    constructor
    · intro ha p u hu
      have hp := (List.getElem?_eq_some_iff.1 hu).1
      simp [Tre.subs] at hp
      subst hp
      simp [Tre.subs] at hu
      subst hu
      exact ha
    · intro ha
      exact ha 0 (.leaf n) rfl
  | .two k x y, h => by
    have lx := Tre.subs_length x
    have ly := Tre.subs_length y
    have ix := anc_iff x (hdA k h)
    have iy := anc_iff y (hdB k h)
    simp only [anc, Bool.and_eq_true]
    rw [ix, iy]
    constructor
    · rintro ⟨h1, h2⟩ p u hu
      have hp := (List.getElem?_eq_some_iff.1 hu).1
      rw [Tre.subs_length] at hp
      simp only [Tre.size] at hp
      unfold wy
      by_cases c1 : p < x.size
      · rw [if_pos c1]
        exact h1 p u (by rw [Tre.subs, List.append_assoc, List.getElem?_append_left (by omega)] at hu; exact hu)
      · rw [if_neg c1]
        by_cases c2 : p < x.size + y.size
        · rw [if_pos c2]
          exact h2 _ u (by rw [Tre.subs, List.append_assoc, List.getElem?_append_right (by omega), List.getElem?_append_left (by omega), lx] at hu; exact hu)
        · have : p = x.size + y.size := by omega
          subst this
          have := Tre.subs_last (.two k x y)
          simp only [Tre.size, Nat.add_sub_cancel] at this
          rw [this] at hu
          obtain rfl := Option.some.inj hu
          rfl
    · intro h0
      refine ⟨fun p u hu => ?_, fun p u hu => ?_⟩
      · have hp := (List.getElem?_eq_some_iff.1 hu).1
        have := h0 p u (by rw [Tre.subs, List.append_assoc, List.getElem?_append_left (by omega)]; exact hu)
        unfold wy at this
        rw [if_pos (by omega)] at this
        exact this
      · have hp := (List.getElem?_eq_some_iff.1 hu).1
        have := h0 (x.size + p) u (by rw [Tre.subs, List.append_assoc, List.getElem?_append_right (by omega), List.getElem?_append_left (by omega), lx, Nat.add_sub_cancel_left]; exact hu)
        unfold wy at this
        rw [if_neg (by omega), if_pos (by omega), Nat.add_sub_cancel_left] at this
        exact this
  | .rep x l m z, h => by
    have lx := Tre.subs_length x
    have ix := anc_iff x (false, false)
    simp only [anc]
    rw [ix]
    constructor
    · intro h1 p u hu
      have hp := (List.getElem?_eq_some_iff.1 hu).1
      rw [Tre.subs_length] at hp
      simp only [Tre.size] at hp
      unfold wy
      by_cases c1 : p < x.size
      · rw [if_pos c1]
        exact h1 p u (by rw [Tre.subs, List.getElem?_append_left (by omega)] at hu; exact hu)
      · have : p = x.size := by omega
        subst this
        have := Tre.subs_last (.rep x l m z)
        simp only [Tre.size, Nat.add_sub_cancel] at this
        rw [this] at hu
        obtain rfl := Option.some.inj hu
        rfl
    · intro h0 p u hu
      have hp := (List.getElem?_eq_some_iff.1 hu).1
      have := h0 p u (by rw [Tre.subs, List.getElem?_append_left (by omega)]; exact hu)
      unfold wy at this
      rw [if_pos (by omega)] at this
      exact this
/-- The ways of the parts of a node. -/
theorem wy_parts : ∀ (t : Tre) (h : Bool × Bool) (p : Nat) (u : Tre), t.subs[p]? = some u → ∀ i, i < u.size → wy t h (p + 1 - u.size + i) = wy u (wy t h p) i
  | .leaf n, h, p, u, hu, i, hi => by
    have hp := (List.getElem?_eq_some_iff.1 hu).1
    simp [Tre.subs] at hp
    subst hp
    simp [Tre.subs] at hu
    subst hu
    rfl
  | .two k x y, h, p, u, hu, i, hi => by
    have lx := Tre.subs_length x
    have ly := Tre.subs_length y
    have hp := (List.getElem?_eq_some_iff.1 hu).1
    rw [Tre.subs_length] at hp
    have hp' : p < x.size + y.size + 1 := hp
    by_cases c1 : p < x.size
    · have hx : x.subs[p]? = some u := by rw [Tre.subs, List.append_assoc, List.getElem?_append_left (by omega)] at hu; exact hu
      have hs := (subs_sub x p u hx).1
      have := wy_parts x (hdA k h) p u hx i hi
      have e1 : wy (.two k x y) h (p + 1 - u.size + i) = wy x (hdA k h) (p + 1 - u.size + i) := by
        simp only [wy]
        rw [if_pos (by omega)]
      have e2 : wy (.two k x y) h p = wy x (hdA k h) p := by
        simp only [wy]
        rw [if_pos c1]
      rw [e1, e2]; exact this
    · by_cases c2 : p < x.size + y.size
      · have hy : y.subs[p - x.size]? = some u := by rw [Tre.subs, List.append_assoc, List.getElem?_append_right (by omega), List.getElem?_append_left (by omega), lx] at hu; exact hu
        have hs := (subs_sub y _ u hy).1
        have := wy_parts y (hdB k h) _ u hy i hi
        have e1 : wy (.two k x y) h (p + 1 - u.size + i) = wy y (hdB k h) (p - x.size + 1 - u.size + i) := by
          simp only [wy]
          rw [if_neg (by omega), if_pos (by omega)]
          congr 1; omega
        have e2 : wy (.two k x y) h p = wy y (hdB k h) (p - x.size) := by
          simp only [wy]
          rw [if_neg c1, if_pos c2]
        rw [e1, e2]; exact this
      · have : p = x.size + y.size := by omega
        subst this
        have e := Tre.subs_last (.two k x y)
        simp only [Tre.size, Nat.add_sub_cancel] at e
        rw [e] at hu
        obtain rfl := Option.some.inj hu
        have e2 : wy (.two k x y) h (x.size + y.size) = h := by
          have := wy_root (.two k x y) h
          simpa [Tre.size] using this
        rw [e2]
        congr 1; simp [Tre.size]
  | .rep x l m z, h, p, u, hu, i, hi => by
    have lx := Tre.subs_length x
    have hp := (List.getElem?_eq_some_iff.1 hu).1
    rw [Tre.subs_length] at hp
    have hp' : p < x.size + 1 := hp
    by_cases c1 : p < x.size
    · have hx : x.subs[p]? = some u := by rw [Tre.subs, List.getElem?_append_left (by omega)] at hu; exact hu
      have hs := (subs_sub x p u hx).1
      have := wy_parts x (false, false) p u hx i hi
      have e1 : wy (.rep x l m z) h (p + 1 - u.size + i) = wy x (false, false) (p + 1 - u.size + i) := by
        simp only [wy]
        rw [if_pos (by omega)]
      have e2 : wy (.rep x l m z) h p = wy x (false, false) p := by
        simp only [wy]
        rw [if_pos c1]
      rw [e1, e2]; exact this
    · have : p = x.size := by omega
      subst this
      have e := Tre.subs_last (.rep x l m z)
      simp only [Tre.size, Nat.add_sub_cancel] at e
      rw [e] at hu
      obtain rfl := Option.some.inj hu
      have e2 : wy (.rep x l m z) h x.size = h := by
        have := wy_root (.rep x l m z) h
        simpa [Tre.size] using this
      rw [e2]
      congr 1; simp [Tre.size]
theorem wy_two {t : Tre} {h : Bool × Bool} {p : Nat} {k : Int} {x y : Tre} (hu : t.subs[p]? = some (.two k x y)) : wy t h (p - 1) = hdB k (wy t h p) ∧ wy t h (p - 1 - y.size) = hdA k (wy t h p) := by
  have sx := x.size_pos
  have sy := y.size_pos
  obtain ⟨h1, _, _⟩ := subs_two hu
  constructor
  · have := wy_parts t h p _ hu (x.size + y.size - 1) (by simp only [Tre.size]; omega)
    rw [show p + 1 - (Tre.two k x y).size + (x.size + y.size - 1) = p - 1 by simp only [Tre.size]; omega] at this
    rw [this]
    simp only [wy]
    rw [if_neg (by omega), if_pos (by omega), show x.size + y.size - 1 - x.size = y.size - 1 by omega, wy_root]
  · have := wy_parts t h p _ hu (x.size - 1) (by simp only [Tre.size]; omega)
    rw [show p + 1 - (Tre.two k x y).size + (x.size - 1) = p - 1 - y.size by simp only [Tre.size]; omega] at this
    rw [this]
    simp only [wy]
    rw [if_pos (by omega), wy_root]
theorem wy_rep {t : Tre} {h : Bool × Bool} {p : Nat} {l m : Int} {z : Bool} {x : Tre} (hu : t.subs[p]? = some (.rep x l m z)) : wy t h (p - 1) = (false, false) := by
  have sx := x.size_pos
  obtain ⟨h1, _⟩ := subs_rep hu
  have := wy_parts t h p _ hu (x.size - 1) (by simp only [Tre.size]; omega)
  rw [show p + 1 - (Tre.rep x l m z).size + (x.size - 1) = p - 1 by simp only [Tre.size]; omega] at this
  rw [this]
  simp only [wy]
  rw [if_pos (by omega), wy_root]
/-- The ways behind which all nodes from k + 1 on were met. -/
def stW (t : Tre) (k : Nat) (q : Nat) : Bool × Bool := if pr t q > k then wy t (true, true) q else (false, false)
theorem stW_start (t : Tre) (q : Nat) (hq : q < t.size) : stW t (t.size - 1) q = if q = t.size - 1 then (true, true) else (false, false) := by
  unfold stW
  by_cases h : q = t.size - 1
  · subst h
    rw [pr_root, wy_root, if_pos (by omega), if_pos rfl]
  · have := pr_le t q (by omega)
    rw [if_neg (by omega), if_neg h]
theorem stW_self (t : Tre) (k : Nat) (hk : k < t.size) : stW t k k = wy t (true, true) k := by
  unfold stW
  rw [if_pos (pr_gt t k hk)]
theorem stW_leaf {t : Tre} {k : Nat} {n : Nd} (h : t.subs[k]? = some (.leaf n)) (hk : 0 < k) (q : Nat) (hq : q < t.size) : stW t k q = stW t (k - 1) q := by
  have hkl := (List.getElem?_eq_some_iff.1 h).1
  rw [Tre.subs_length] at hkl
  unfold stW
  by_cases e : pr t q = k
  · exfalso
    have hq1 : q + 1 < t.size := by
      rcases Nat.lt_or_ge (q + 1) t.size with h' | h'
      · exact h'
      · have : q = t.size - 1 := by omega
        subst this
        rw [pr_root] at e; omega
    rcases pr_is t q hq1 with ⟨_, _, _, h1, _⟩ | ⟨_, _, _, _, h1, _⟩ <;> rw [e, h] at h1 <;> cases h1
  · by_cases e2 : pr t q > k
    · rw [if_pos e2, if_pos (by omega)]
    · rw [if_neg e2, if_neg (by omega)]
theorem stW_rep {t : Tre} {k : Nat} {x : Tre} {l m : Int} {z : Bool} (h : t.subs[k]? = some (.rep x l m z)) (hk : 0 < k) (q : Nat) (hq : q < t.size) : stW t k q = stW t (k - 1) q := by
  have hkl := (List.getElem?_eq_some_iff.1 h).1
  rw [Tre.subs_length] at hkl
  unfold stW
  by_cases e : pr t q = k
  · have hq1 : q + 1 < t.size := by
      rcases Nat.lt_or_ge (q + 1) t.size with h' | h'
      · exact h'
      · have : q = t.size - 1 := by omega
        subst this
        rw [pr_root] at e; omega
    rw [if_neg (by omega), if_pos (by omega)]
    rcases pr_is t q hq1 with ⟨_, _, _, h1, _⟩ | ⟨_, _, _, _, h1, h2⟩
    · rw [e, h] at h1; cases h1
    · rw [e] at h2
      rw [h2, wy_rep h]
  · by_cases e2 : pr t q > k
    · rw [if_pos e2, if_pos (by omega)]
    · rw [if_neg e2, if_neg (by omega)]
theorem stW_two {t : Tre} {p : Nat} {k : Int} {x y : Tre} (h : t.subs[p]? = some (.two k x y)) (q : Nat) (hq : q < t.size) : stW t (p - 1) q = if q = p - 1 then hdB k (wy t (true, true) p) else if q = p - 1 - y.size then hdA k (wy t (true, true) p) else stW t p q := by
  have hkl := (List.getElem?_eq_some_iff.1 h).1
  rw [Tre.subs_length] at hkl
  have sx := x.size_pos
  have sy := y.size_pos
  obtain ⟨h1, _, _⟩ := subs_two h
  obtain ⟨w1, w2⟩ := wy_two (h := (true, true)) h
  have hp := pr_two h q hq
  unfold stW
  by_cases e1 : q = p - 1
  · have : pr t q = p := hp.2 (.inl e1)
    rw [if_pos (by omega), if_pos e1, e1, w1]
  · rw [if_neg e1]
    by_cases e2 : q = p - 1 - y.size
    · have : pr t q = p := hp.2 (.inr e2)
      rw [if_pos (by omega), if_pos e2, e2, w2]
    · rw [if_neg e2]
      have : pr t q ≠ p := fun e => by rcases hp.1 e with h | h <;> contradiction
      by_cases e3 : pr t q > p
      · rw [if_pos e3, if_pos (by omega)]
      · rw [if_neg e3, if_neg (by omega)]
/-- Before they are met, the ways of the parts are not set. -/
theorem stW_unset {t : Tre} {p : Nat} {k : Int} {x y : Tre} (h : t.subs[p]? = some (.two k x y)) : stW t p (p - 1) = (false, false) ∧ stW t p (p - 1 - y.size) = (false, false) := by
  have hkl := (List.getElem?_eq_some_iff.1 h).1
  rw [Tre.subs_length] at hkl
  have e1 := (pr_two h (p - 1) (by omega)).2 (.inl rfl)
  have e2 := (pr_two h (p - 1 - y.size) (by omega)).2 (.inr rfl)
  unfold stW
  rw [e1, e2, if_neg (by omega), if_neg (by omega)]
  exact ⟨rfl, rfl⟩
/-- Each place of the turned tree is some node's. -/
theorem bg_all : ∀ (t : Tre) (o i : Nat), i < t.size → ∃ p u, t.subs[p]? = some u ∧ bg t o p + u.size = o + i + 1
  | .leaf n, o, i, h => ⟨0, .leaf n, rfl, by simp [Tre.size] at h; simp [bg, Tre.size, h]⟩
  | .two k x y, o, i, h => by
    simp only [Tre.size] at h
    have last : (Tre.two k x y).subs[x.size + y.size]? = some (.two k x y) := Tre.subs_last (.two k x y)
    by_cases hk : k = 3
    · by_cases h1 : i < y.size
      · obtain ⟨p, u, hp, e⟩ := bg_all y o i h1
        have hl := (List.getElem?_eq_some_iff.1 hp).1
        rw [Tre.subs_length] at hl
        refine ⟨x.size + p, u, (subs_two_r hl).trans hp, ?_⟩
        simp only [bg, if_pos hk, if_neg (show ¬ x.size + p < x.size by omega), if_pos (show x.size + p < x.size + y.size by omega), Nat.add_sub_cancel_left]
        exact e
      · by_cases h2 : i < x.size + y.size
        · obtain ⟨p, u, hp, e⟩ := bg_all x (o + y.size) (i - y.size) (by omega)
          have hl := (List.getElem?_eq_some_iff.1 hp).1
          rw [Tre.subs_length] at hl
          refine ⟨p, u, (subs_two_l hl).trans hp, ?_⟩
          simp only [bg, if_pos hk, if_pos hl]
          omega
        · refine ⟨_, _, last, ?_⟩
          simp only [bg, if_pos hk, if_neg (show ¬ x.size + y.size < x.size by omega), if_neg (show ¬ x.size + y.size < x.size + y.size by omega), Tre.size]
          omega
    · by_cases h1 : i < x.size
      · obtain ⟨p, u, hp, e⟩ := bg_all x o i h1
        have hl := (List.getElem?_eq_some_iff.1 hp).1
        rw [Tre.subs_length] at hl
        refine ⟨p, u, (subs_two_l hl).trans hp, ?_⟩
        simp only [bg, if_neg hk, if_pos hl]
        exact e
      · by_cases h2 : i < x.size + y.size
        · obtain ⟨p, u, hp, e⟩ := bg_all y (o + x.size) (i - x.size) (by omega)
          have hl := (List.getElem?_eq_some_iff.1 hp).1
          rw [Tre.subs_length] at hl
          refine ⟨x.size + p, u, (subs_two_r hl).trans hp, ?_⟩
          simp only [bg, if_neg hk, if_neg (show ¬ x.size + p < x.size by omega), if_pos (show x.size + p < x.size + y.size by omega), Nat.add_sub_cancel_left]
          omega
        · refine ⟨_, _, last, ?_⟩
          simp only [bg, if_neg hk, if_neg (show ¬ x.size + y.size < x.size by omega), if_neg (show ¬ x.size + y.size < x.size + y.size by omega), Tre.size]
          omega
  | .rep x l m z, o, i, h => by
    simp only [Tre.size] at h
    have last : (Tre.rep x l m z).subs[x.size]? = some (.rep x l m z) := Tre.subs_last (.rep x l m z)
    by_cases h1 : i < x.size
    · obtain ⟨p, u, hp, e⟩ := bg_all x o i h1
      have hl := (List.getElem?_eq_some_iff.1 hp).1
      rw [Tre.subs_length] at hl
      refine ⟨p, u, (subs_rep_l hl).trans hp, ?_⟩
      simp only [bg, if_pos hl]
      exact e
    · refine ⟨_, _, last, ?_⟩
      simp only [bg, if_neg (show ¬ x.size < x.size by omega), Tre.size]
      omega
theorem Inv.done {t : Tre} {T : Nat → Nd} {g : Nat → Int} (h : Inv t t.size T g) : ∀ j, j < t.size → T j = nodes (mir t) j := by
  intro j hj
  obtain ⟨p, u, hp, e⟩ := bg_all t 0 j hj
  have := h.2 p u (by omega) hp
  rwa [show bg t 0 p + u.size - 1 = j by omega] at this
end Go.Proofs.Ytobgmgpclcfkcaa.T
