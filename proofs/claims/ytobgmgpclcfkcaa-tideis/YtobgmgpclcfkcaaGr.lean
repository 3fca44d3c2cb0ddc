/- A region that draws its order, by what is known of all answers together: each operation is looked at once, by the walk itself, whatever the order. -/
import Derived.Orders
import Derived.BigRegion
import Derived.Test.YtobgmgpclcfkcaaKf
namespace Go.Proofs.Ytobgmgpclcfkcaa
open Go Go.RowKit
section
variable {P : Program} {ops : Array Oper} {Q : Exit → Act → World → Prop}
/-- How many operations are left. -/
def left (ops : Array Oper) (listed : Array Bool) : Nat := ((List.range ops.size).filter fun j => !listed.getD j true).length
theorem filter_lt {p q : Nat → Bool} : ∀ (l : List Nat) (i : Nat), i ∈ l → (∀ j, q j = true → p j = true) → p i = true → q i = false → (l.filter q).length < (l.filter p).length
  | [], i, hi, _, _, _ => by cases hi
  | x :: l, i, hi, h, hp, hq => by
    have le : (l.filter q).length ≤ (l.filter p).length := by
      clear hi
      induction l with
      | nil => exact Nat.le_refl _
      | cons y l ih =>
        by_cases hy : q y = true
        · rw [List.filter_cons_of_pos hy, List.filter_cons_of_pos (h y hy)]; simpa using ih
        · rw [List.filter_cons_of_neg hy]
          by_cases hz : p y = true
          · rw [List.filter_cons_of_pos hz, List.length_cons]; omega
          · rw [List.filter_cons_of_neg hz]; exact ih
    by_cases hx : x = i
    · subst hx
      rw [List.filter_cons_of_pos hp, List.filter_cons_of_neg (by simp [hq]), List.length_cons]; omega
    · have hil : i ∈ l := by
        rcases List.mem_cons.1 hi with e | e
        · exact absurd e.symm hx
        · exact e
      have ih := filter_lt l i hil h hp hq
      by_cases hy : q x = true
      · rw [List.filter_cons_of_pos hy, List.filter_cons_of_pos (h x hy)]; simpa using ih
      · rw [List.filter_cons_of_neg hy]
        by_cases hz : p x = true
        · rw [List.filter_cons_of_pos hz, List.length_cons]; omega
        · rw [List.filter_cons_of_neg hz]; exact ih
/-- What is known: g tells each operation's answer. -/
structure KnownG (ops : Array Oper) (V : Nat → (Nat → Value) → World → Prop) (F : Act → Prop) (listed : Array Bool) (g : Nat → Value) (a : Act) (w : World) : Prop where
  fix : F a
  slot : ∀ (j : Nat) (o : Oper) (d : Tmp), ops[j]? = some o → o.dst = some d → listed.getD j false = true → a.tmps.getD d undef = g j
  val : ∀ (j : Nat) (o : Oper), ops[j]? = some o → listed.getD j false = true → V j g w
  shut : ∀ (j : Nat) (o : Oper), ops[j]? = some o → listed.getD j false = true → ∀ e ∈ o.after, Region.binds .any e = true → listed.getD e.on false = true
/-- What is asked of a region. -/
structure AskG (P : Program) (ops : Array Oper) (Q : Exit → Act → World → Prop) (C : World → Prop) (V : Nat → (Nat → Value) → World → Prop) (F : Act → Prop) (G : World → World → Prop) : Prop where
  keep : ∀ j g w w', V j g w → G w w' → V j g w'
  same : ∀ (j : Nat) (o : Oper) (g g' : Nat → Value) (w : World), ops[j]? = some o → g' j = g j → (∀ e ∈ o.after, Region.binds .any e = true → g' e.on = g e.on) → V j g w → V j g' w
  put : ∀ (i : Nat) (o : Oper) (d : Tmp) (v : Value) (a : Act), ops[i]? = some o → o.dst = some d → F a → F (a.put (some d) v) ∧ d < a.tmps.size
  apart : ∀ (i j : Nat) (oi oj : Oper) (d : Tmp), ops[i]? = some oi → ops[j]? = some oj → oi.dst = some d → oj.dst = some d → i = j
  back : ∀ (i : Nat) (o : Oper), ops[i]? = some o → ∀ e ∈ o.after, Region.binds .any e = true → e.on < i
  step : ∀ (i : Nat) (o : Oper), ops[i]? = some o → ∀ (a : Act) (w : World) (g : Nat → Value), C w → F a → (∀ e ∈ o.after, Region.binds .any e = true → V e.on g w ∧ ∀ (oj : Oper) (d : Tmp), ops[e.on]? = some oj → oj.dst = some d → a.tmps.getD d undef = g e.on) →
      wpOp P ops Q i (fun a' w' => ∃ v, a' = a.put o.dst v ∧ (∀ g' : Nat → Value, g' i = v → (∀ e ∈ o.after, Region.binds .any e = true → g' e.on = g e.on) → V i g' w') ∧ C w' ∧ G w w') a w
  done : ∀ (a : Act) (w : World) (g : Nat → Value), C w → F a → (∀ (j : Nat) (o : Oper) (d : Tmp), ops[j]? = some o → o.dst = some d → a.tmps.getD d undef = g j) → (∀ (j : Nat) (o : Oper), ops[j]? = some o → V j g w) → Q .normal a w
theorem any_ghost {C : World → Prop} {V : Nat → (Nat → Value) → World → Prop} {F : Act → Prop} {G : World → World → Prop} (H : AskG P ops Q C V F G) :
    ∀ fuel listed g a w, listed.size = ops.size → left ops listed ≤ fuel → C w → KnownG ops V F listed g a w → wpAny P .any ops Q fuel listed a w := by
  have hnone : ∀ listed : Array Bool, listed.size = ops.size → Region.ready .any ops listed = [] → ∀ j, j < ops.size → listed.getD j false = true := by
    intro listed hs hr j
    induction j using Nat.strongRecOn with
    | ind j ih =>
      intro hj
      apply Classical.byContradiction
      intro hl
      have hm : j ∈ Region.ready .any ops listed := by
        refine mem_ready.2 ⟨?_, ops[j], by simp [hj], fun e he' hb => ih e.on (H.back j ops[j] (by simp [hj]) e he' hb) (Nat.lt_trans (H.back j ops[j] (by simp [hj]) e he' hb) hj)⟩
        rw [Array.getD_eq_getD_getElem?] at hl ⊢
        rw [Array.getElem?_eq_getElem (by omega)] at hl ⊢
        simpa using hl
      rw [hr] at hm
      cases hm
  have hfin : ∀ listed g a w, listed.size = ops.size → C w → KnownG ops V F listed g a w → Region.ready .any ops listed = [] → Q .normal a w := fun listed g a w hs hC hK hr =>
    H.done a w g hC hK.fix (fun j oj d hj hdj => hK.slot j oj d hj hdj (hnone listed hs hr j (Array.getElem?_eq_some_iff.1 hj).1)) fun j oj hj => hK.val j oj hj (hnone listed hs hr j (Array.getElem?_eq_some_iff.1 hj).1)
  intro fuel
  induction fuel with
  | zero =>
    intro listed g a w hs hl hC hK
    have hr : Region.ready .any ops listed = [] := by
      rcases h : Region.ready .any ops listed with _ | ⟨j, t⟩
      · rfl
      · have hj : j ∈ Region.ready .any ops listed := by rw [h]; simp
        obtain ⟨hu, o, ho, _⟩ := mem_ready.1 hj
        have hm : j ∈ (List.range ops.size).filter fun j => !listed.getD j true := by
          rw [List.mem_filter]
          exact ⟨List.mem_range.2 (Array.getElem?_eq_some_iff.1 ho).1, by simp [hu]⟩
        have : ((List.range ops.size).filter fun j => !listed.getD j true) = [] := List.eq_nil_of_length_eq_zero (by unfold left at hl; omega)
        rw [this] at hm
        cases hm
    exact ⟨hr, hfin listed g a w hs hC hK hr⟩
  | succ fuel ih =>
    intro listed g a w hs hl hC hK
    refine ⟨hfin listed g a w hs hC hK, fun i hi => ?_⟩
    obtain ⟨hu, o, ho, hall⟩ := mem_ready.1 hi
    have hio := (Array.getElem?_eq_some_iff.1 ho).1
    have hnl : listed.getD i false = false := by
      rw [Array.getD_eq_getD_getElem?] at hu ⊢
      rw [Array.getElem?_eq_getElem (by omega)] at hu ⊢
      simpa using hu
    refine wpOp_mono ?_ (H.step i o ho a w g hC hK.fix fun e he' hb => ⟨?_, fun oj d hj hdj => hK.slot e.on oj d hj hdj (hall e he' hb)⟩)
    · rintro a' w' ⟨v, rfl, hv, hC', hG⟩
      have hne : ∀ j, listed.getD j false = true → j ≠ i := fun j hj e => by rw [e, hnl] at hj; cases hj
      have hset : ∀ j, (listed.setIfInBounds i true).getD j false = true → j = i ∨ listed.getD j false = true := fun j hj => by
        by_cases e : i = j
        · exact .inl e.symm
        · exact .inr (by rwa [getD_set_ne false e] at hj)
      refine ih (listed.setIfInBounds i true) (fun k => if k = i then v else g k) _ _ (by simpa using hs) ?_ hC' ⟨?_, fun j oj d hj hdj hjl => ?_, fun j oj hj hjl => ?_, fun j oj hj hjl e he' hb => ?_⟩
      · have : left ops (listed.setIfInBounds i true) < left ops listed := by
          refine filter_lt (List.range ops.size) i (List.mem_range.2 hio) (fun j hj => ?_) (by simp [hu]) ?_
          · by_cases hji : i = j
            · subst hji; simp [hu]
            · rwa [getD_set_ne true hji] at hj
          · have : (listed.setIfInBounds i true).getD i true = true := by
              rw [Array.getD_eq_getD_getElem?, Array.getElem?_setIfInBounds_self_of_lt (by omega)]; rfl
            simp [this]
        omega
      · cases hod : o.dst with
        | none => exact hK.fix
        | some d => exact (H.put i o d v a ho hod hK.fix).1
      · rcases hset j hjl with e | hjl2
        · subst e
          rw [ho] at hj
          obtain rfl := Option.some.inj hj
          rw [hdj]
          have hlt := (H.put j o d v a ho hdj hK.fix).2
          simp only [Act.put, Array.getD_eq_getD_getElem?, Array.getElem?_setIfInBounds_self_of_lt hlt]
          simp
        · have hji := hne j hjl2
          rw [if_neg hji, ← hK.slot j oj d hj hdj hjl2]
          cases hod : o.dst with
          | none => rfl
          | some d' =>
            have hdd : d' ≠ d := fun e => hji (H.apart j i oj o d hj ho hdj (by rw [hod, e]))
            simp only [Act.put, Array.getD_eq_getD_getElem?, Array.getElem?_setIfInBounds_ne hdd]
      · rcases hset j hjl with e | hjl2
        · subst e
          refine hv _ (by simp) fun e he' hb => ?_
          rw [ho] at hj
          have := hall e he' hb
          rw [if_neg (hne _ this)]
        · refine H.same j oj g _ w' hj (by rw [if_neg (hne j hjl2)]) (fun e he' hb => by rw [if_neg (hne _ (hK.shut j oj hj hjl2 e he' hb))]) (H.keep _ _ _ _ (hK.val j oj hj hjl2) hG)
      · rcases hset j hjl with e' | hjl2
        · subst e'
          rw [ho] at hj
          obtain rfl := Option.some.inj hj
          exact getD_set_true (hall e he' hb)
        · exact getD_set_true (hK.shut j oj hj hjl2 e he' hb)
    · obtain ⟨oj, hoj⟩ : ∃ oj, ops[e.on]? = some oj := ⟨ops[e.on]'(Nat.lt_trans (H.back i o ho e he' hb) hio), by simp⟩
      exact hK.val e.on oj hoj (hall e he' hb)
/-- THE LAW. -/
theorem wp_region_ghost {id : Nat} {a : Act} {w : World} (hm : P.follows .mixedOrders = true) {C : World → Prop} {V : Nat → (Nat → Value) → World → Prop} {F : Act → Prop} {G : World → World → Prop} (H : AskG P ops Q C V F G) (hC : C { w with drawn := w.drawn + 1 }) (hF : F a) : (Code.region id ops true).wp P Q a w := by
  have hz : ∀ j, (Array.replicate ops.size false).getD j false = false := fun j => by
    rw [Array.getD_eq_getD_getElem?, Array.getElem?_replicate]
    split <;> rfl
  refine wp_region_any hm (any_ghost H _ _ (fun _ => undef) _ _ (by simp) ?_ hC ⟨hF, fun j o d _ _ hl => ?_, fun j o _ hl => ?_, fun j o _ hl => ?_⟩)
  · unfold left
    have := List.length_filter_le (fun j => !(Array.replicate ops.size false).getD j true) (List.range ops.size)
    simpa using this
  · rw [hz] at hl; cases hl
  · rw [hz] at hl; cases hl
  · rw [hz] at hl; cases hl
end
/-- The act with other values in the slots that are marked. -/
def mp : List Bool → (Nat → Value) → Nat → List Value → List Value
  | _, _, _, [] => []
  | [], _, _, x :: l => x :: l
  | true :: ms, u, k, _ :: l => u k :: mp ms u (k + 1) l
  | false :: ms, u, k, x :: l => x :: mp ms u (k + 1) l
theorem mp_len (u : Nat → Value) : ∀ (ms : List Bool) (l : List Value) (k : Nat), (mp ms u k l).length = l.length
  | [], [], _ => rfl
  | [], _ :: _, _ => rfl
  | true :: ms, [], _ => rfl
  | false :: ms, [], _ => rfl
  | true :: ms, _ :: l, k => by simp [mp, mp_len u ms l (k + 1)]
  | false :: ms, _ :: l, k => by simp [mp, mp_len u ms l (k + 1)]
theorem mp_get (u : Nat → Value) : ∀ (ms : List Bool) (l : List Value) (k i : Nat), (mp ms u k l)[i]? = (l[i]?).map fun x => if ms.getD i false = true then u (k + i) else x
  | [], [], _, _ => by simp [mp]
  | [], x :: l, k, i => by
    simp only [mp, List.getD_nil, Bool.false_eq_true, if_false]
    cases (x :: l)[i]? <;> rfl
  | true :: ms, [], _, _ => by simp [mp]
  | false :: ms, [], _, _ => by simp [mp]
  | true :: ms, x :: l, k, 0 => by simp [mp]
  | false :: ms, x :: l, k, 0 => by simp [mp]
  | true :: ms, x :: l, k, i + 1 => by
    simp only [mp, List.getElem?_cons_succ, mp_get u ms l (k + 1) i, List.getD_cons_succ, show k + 1 + i = k + (i + 1) by omega]
  | false :: ms, x :: l, k, i + 1 => by
    simp only [mp, List.getElem?_cons_succ, mp_get u ms l (k + 1) i, List.getD_cons_succ, show k + 1 + i = k + (i + 1) by omega]
def puts (a : Act) (ms : List Bool) (u : Nat → Value) : Act := { a with tmps := (mp ms u 0 a.tmps.toList).toArray }
theorem puts_self (a : Act) (ms : List Bool) : a = puts a ms fun k => a.tmps.getD k undef := by
  unfold puts
  have e : (mp ms (fun k => a.tmps.getD k undef) 0 a.tmps.toList).toArray = a.tmps := by
    apply Array.ext_getElem?
    intro i
    rw [List.getElem?_toArray, mp_get, Array.getElem?_toList]
    rcases h : a.tmps[i]? with _ | x
    · rfl
    · simp only [Option.map_some, Nat.zero_add]
      split
      · simp [Array.getD_eq_getD_getElem?, h]
      · rfl
  rw [e]
theorem puts_put (a : Act) (ms : List Bool) (u : Nat → Value) (d : Nat) (v : Value) (hd : ms.getD d false = true) : (puts a ms u).put (some d) v = puts a ms fun k => if k = d then v else u k := by
  have e : ((mp ms u 0 a.tmps.toList).toArray).setIfInBounds d v = (mp ms (fun k => if k = d then v else u k) 0 a.tmps.toList).toArray := ?_
  · unfold puts Act.put
    simp only [e]
  apply Array.ext_getElem?
  intro i
  rw [Array.getElem?_setIfInBounds, List.getElem?_toArray, List.getElem?_toArray, mp_get, mp_get, Nat.zero_add]
  by_cases e : d = i
  · subst e
    simp only [List.size_toArray, mp_len, Array.length_toList, if_true]
    by_cases hlt : d < a.tmps.size
    · rw [if_pos hlt, Array.getElem?_toList, Array.getElem?_eq_getElem hlt]
      simp only [Option.map_some, hd, if_true]
    · rw [if_neg hlt, Array.getElem?_toList, Array.getElem?_eq_none (by omega)]
      rfl
  · rw [if_neg e]
    simp only [if_neg (Ne.symm e)]
theorem puts_size (a : Act) (ds : List Bool) (u : Nat → Value) : (puts a ds u).tmps.size = a.tmps.size := by simp [puts, mp_len]
/-- One operation, walked as a list. -/
def Qk (Q : Exit → Act → World → Prop) (K : Act → World → Prop) : Exit → Act → World → Prop := fun e a w => match e with
  | .normal => K a w
  | e => Q e a w
theorem Qk_normal {Q : Exit → Act → World → Prop} {K : Act → World → Prop} {a : Act} {w : World} (h : K a w) : Qk Q K .normal a w := h
theorem op_list {P : Program} {ops : Array Oper} {Q : Exit → Act → World → Prop} {i : Nat} {o : Oper} {K : Act → World → Prop} {a : Act} {w : World} (hi : ops[i]? = some o) (h : wpList P ops (Qk Q K) [o] a w) : wpOp P ops Q i K a w := by
  unfold wpOp
  simp only [hi]
  unfold wpList at h
  by_cases hw : Region.wanted o (yielded ops a.tmps) = true
  · rw [if_pos hw] at h ⊢
    rcases h with h | ⟨h1, h2⟩
    · left
      unfold Oper.wp at h ⊢
      generalize (execOp a.eval o).run P w = r at *
      cases r with
      | ok n w' =>
        cases n with
        | value v => exact h
        | skip => exact h
        | defer d => exact h
        | enter f args => exact h
        | row row args => exact h
        | _ => exact h
      | halt hh w' =>
        cases hh <;> exact h
    · exact .inr ⟨h1, h2⟩
  · rw [if_neg hw] at h ⊢
    exact h
/-- What an operation may do to the blocks: those of a type of chg may change, those of a type of frz may be marked. -/
structure Gx (chg frz : TypeId → Bool) (w w' : World) : Prop where
  same : ∀ (k : Nat) (cs : Array Value) (t : TypeId) (fz : Nat × Nat), w.heap[k]? = some (.cells cs t fz) → chg t = false → frz t = false → w'.heap[k]? = some (.cells cs t fz)
  froz : ∀ (k : Nat) (cs : Array Value) (t : TypeId) (fz : Nat × Nat), w.heap[k]? = some (.cells cs t fz) → chg t = false → ∃ fz', w'.heap[k]? = some (.cells cs t fz')
  chgd : ∀ (k : Nat) (cs : Array Value) (t : TypeId) (fz : Nat × Nat), w.heap[k]? = some (.cells cs t fz) → frz t = false → ∃ cs' : Array Value, cs'.size = cs.size ∧ w'.heap[k]? = some (.cells cs' t fz)
theorem Gx.of_same {chg frz : TypeId → Bool} {w w' : World} (h : ∀ k, k < w.heap.size → w'.heap[k]? = w.heap[k]?) : Gx chg frz w w' := by
  have hl : ∀ {k o}, w.heap[k]? = some o → w'.heap[k]? = some o := fun {k o} hk => by rw [h k (Array.getElem?_eq_some_iff.1 hk).1]; exact hk
  exact ⟨fun k cs t fz hk _ _ => hl hk, fun k cs t fz hk _ => ⟨fz, hl hk⟩, fun k cs t fz hk _ => ⟨cs, rfl, hl hk⟩⟩
theorem Gx.of_below {chg frz : TypeId → Bool} {w w' : World} (h : Below w.heap.size w w') : Gx chg frz w w' := Gx.of_same h.block
theorem Gx.refl {chg frz : TypeId → Bool} (w : World) : Gx chg frz w w := Gx.of_same fun _ _ => rfl
theorem Gx.set {chg frz : TypeId → Bool} {w : World} {b i : Nat} {t : TypeId} {cs : Array Value} {fz : Nat × Nat} {v : Value} (h : w.heap[b]? = some (.cells cs t fz)) (hc : chg t = true) : Gx chg frz w (w.setCell ⟨b, i, none⟩ v) := by
  have hk : ∀ k, k ≠ b → (w.setCell ⟨b, i, none⟩ v).heap[k]? = w.heap[k]? := fun k hk => Below.heap_setCell _ _ _ _ hk
  have hb : ∃ cs' : Array Value, cs'.size = cs.size ∧ (w.setCell ⟨b, i, none⟩ v).heap[b]? = some (.cells cs' t fz) := by
    refine ⟨cs.setIfInBounds i v, by simp, ?_⟩
    unfold World.setCell
    simp only [Array.getElem?_modify, if_true, h, Option.map_some]
    rfl
  refine ⟨fun k cs' t' fz' hh h1 _ => ?_, fun k cs' t' fz' hh h1 => ?_, fun k cs' t' fz' hh h1 => ?_⟩
  · by_cases e : k = b
    · subst e; rw [h] at hh; cases hh; rw [hc] at h1; cases h1
    · rw [hk k e]; exact hh
  · by_cases e : k = b
    · subst e; rw [h] at hh; cases hh; rw [hc] at h1; cases h1
    · exact ⟨fz', by rw [hk k e]; exact hh⟩
  · by_cases e : k = b
    · subst e; rw [h] at hh; cases hh; exact hb
    · exact ⟨cs', rfl, by rw [hk k e]; exact hh⟩
theorem Gx.mark {chg frz : TypeId → Bool} {w w' : World} {b : Nat} {t : TypeId} {cs : Array Value} {fz fz' : Nat × Nat} (h : w.heap[b]? = some (.cells cs t fz)) (h' : w'.heap[b]? = some (.cells cs t fz')) (hk : ∀ k, k ≠ b → w'.heap[k]? = w.heap[k]?) (hf : frz t = true) : Gx chg frz w w' := by
  refine ⟨fun k cs' t' f hh _ h2 => ?_, fun k cs' t' f hh _ => ?_, fun k cs' t' f hh h1 => ?_⟩
  · by_cases e : k = b
    · subst e; rw [h] at hh; cases hh; rw [hf] at h2; cases h2
    · rw [hk k e]; exact hh
  · by_cases e : k = b
    · subst e; rw [h] at hh; cases hh; exact ⟨fz', h'⟩
    · exact ⟨f, by rw [hk k e]; exact hh⟩
  · by_cases e : k = b
    · subst e; rw [h] at hh; cases hh; rw [hf] at h1; cases h1
    · exact ⟨cs', rfl, by rw [hk k e]; exact hh⟩
/-- A block of one's own, marked or not. -/
def Bk (B : Nat) (w : World) (b : Nat) (t : TypeId) (cs : Array Value) : Prop := B ≤ b ∧ ∃ fz, w.heap[b]? = some (.cells cs t fz)
theorem Bk.keep {chg frz : TypeId → Bool} {B : Nat} {w w' : World} {b : Nat} {t : TypeId} {cs : Array Value} (h : Bk B w b t cs) (g : Gx chg frz w w') (hc : chg t = false) : Bk B w' b t cs := by
  obtain ⟨hb, fz, hh⟩ := h
  exact ⟨hb, g.froz b cs t fz hh hc⟩
theorem ownsRow_gx {chg frz : TypeId → Bool} {W W' : World} {base e size k : Nat} {v : Value} {xs : List Value} (h : W.ownsRow base e size v k xs) (g : Gx chg frz W W') (hc : chg e = false) (hf : frz e = false) : W'.ownsRow base e size v k xs :=
  ⟨h.1, h.2.imp id fun ⟨b, cap, cur, hv, hg, hh, r⟩ => ⟨b, cap, cur, hv, hg, g.same b cur e (0, 0) hh hc hf, r⟩⟩
/-- A box of one cell, whatever it holds. -/
def Bo (B : Nat) (w : World) (b : Nat) (t : TypeId) (n : Nat) : Prop := B ≤ b ∧ ∃ cs : Array Value, cs.size = n ∧ w.heap[b]? = some (.cells cs t (0, 0))
theorem Bo.keep {chg frz : TypeId → Bool} {B : Nat} {w w' : World} {b : Nat} {t : TypeId} {n : Nat} (h  : Bo B w b t n) (g : Gx chg frz w w') (hf : frz t = false)  : Bo B w' b t n := by
  obtain ⟨hb, cs, hs, hh⟩ := h
  obtain ⟨cs', h1, h2⟩ := g.chgd b cs t (0, 0) hh hf
  exact ⟨hb, cs', h1.trans hs, h2⟩
/-- What a program looks over. -/
def backB (ops : Array Oper) : Bool := (List.range ops.size).all fun i => match ops[i]? with | some o => o.after.all (fun e => !Region.binds .any e || decide (e.on < i)) | none => true
theorem back_of {ops : Array Oper} (h : backB ops = true) : ∀ (i : Nat) (o : Oper), ops[i]? = some o → ∀ e ∈ o.after, Region.binds .any e = true → e.on < i := by
  intro i o ho e he hb
  have hi := (Array.getElem?_eq_some_iff.1 ho).1
  have := List.all_eq_true.1 h i (List.mem_range.2 hi)
  rw [ho] at this
  have := Array.all_eq_true'.1 this e he
  rw [hb] at this
  simpa using this
def apartB (ops : Array Oper) : Bool := (List.range ops.size).all fun i => (List.range ops.size).all fun j => match ops[i]?, ops[j]? with | some a, some b => decide (i = j) || !(a.dst.isSome && a.dst == b.dst) | _, _ => true
theorem apart_of {ops : Array Oper} (h : apartB ops = true) : ∀ (i j : Nat) (oi oj : Oper) (d : Tmp), ops[i]? = some oi → ops[j]? = some oj → oi.dst = some d → oj.dst = some d → i = j := by
  intro i j oi oj d hi hj h1 h2
  have li := (Array.getElem?_eq_some_iff.1 hi).1
  have lj := (Array.getElem?_eq_some_iff.1 hj).1
  have := List.all_eq_true.1 (List.all_eq_true.1 h i (List.mem_range.2 li)) j (List.mem_range.2 lj)
  rw [hi, hj] at this
  simp only [h1, h2, Option.isSome_some, Bool.true_and, Bool.or_eq_true, decide_eq_true_eq, Bool.not_eq_true', beq_eq_false_iff_ne, ne_eq, not_true_eq_false, or_false] at this
  exact this
def putB (ops : Array Oper) (ds : List Bool) (n : Nat) : Bool := (List.range ops.size).all fun i => match ops[i]? with | some o => (match o.dst with | some d => ds.getD d false && decide (d < n) | none => true) | none => true
theorem put_of {ops : Array Oper} {ds : List Bool} {n : Nat} (h : putB ops ds n = true) : ∀ (i : Nat) (o : Oper) (d : Tmp), ops[i]? = some o → o.dst = some d → ds.getD d false = true ∧ d < n := by
  intro i o d hi hd
  have li := (Array.getElem?_eq_some_iff.1 hi).1
  have := List.all_eq_true.1 h i (List.mem_range.2 li)
  rw [hi] at this
  simp only [hd, Bool.and_eq_true, decide_eq_true_eq] at this
  exact this
/-- What is owed behind one operation. -/
def Ans (V : Nat → (Nat → Value) → World → Prop) (C : World → Prop) (G : World → World → Prop) (o : Oper) (i : Nat) (g : Nat → Value) (w : World) (b a' : Act) (w' : World) : Prop :=
  ∃ v, a' = b.put o.dst v ∧ (∀ g' : Nat → Value, g' i = v → (∀ e ∈ o.after, Region.binds .any e = true → g' e.on = g e.on) → V i g' w') ∧ C w' ∧ G w w'
theorem Ans.mk {V : Nat → (Nat → Value) → World → Prop} {C : World → Prop} {G : World → World → Prop} {o : Oper} {i : Nat} {g : Nat → Value} {w : World} {b a' : Act} {w' : World} {Q : Exit → Act → World → Prop} (v : Value) (h1 : a' = b.put o.dst v) (h2 : ∀ g' : Nat → Value, g' i = v → V i g' w') (hC : C w') (hG : G w w') : Qk Q (Ans V C G o i g w b) .normal a' w' :=
  ⟨v, h1, fun g' h _ => h2 g' h, hC, hG⟩
/-- THE LAW: what is known of each operation's answer, out of those that it waits for. -/
theorem wp_region_ops {P : Program} {ops : Array Oper} {Q : Exit → Act → World → Prop} {id : Nat} {a : Act} {w : World} (ds : List Bool) (n : Nat) (C : World → Prop) (V : Nat → (Nat → Value) → World → Prop) (G : World → World → Prop) (hm : P.follows .mixedOrders = true)
    (hn : a.tmps.size = n) (hp : putB ops ds n = true) (ha : apartB ops = true) (hb : backB ops = true) (hC : C w.drew)
    (hkeep : ∀ j g w w', V j g w → G w w' → V j g w')
    (hsame : ∀ (j : Nat) (o : Oper) (g g' : Nat → Value) (w : World), ops[j]? = some o → g' j = g j → (∀ e ∈ o.after, Region.binds .any e = true → g' e.on = g e.on) → V j g w → V j g' w)
    (hstep : ∀ (i : Nat) (o : Oper), ops[i]? = some o → ∀ (u : Nat → Value) (w : World) (g : Nat → Value), C w → (∀ e ∈ o.after, Region.binds .any e = true → V e.on g w ∧ ∀ (oj : Oper) (d : Tmp), ops[e.on]? = some oj → oj.dst = some d → u d = g e.on) →
      wpOp P ops Q i (Ans V C G o i g w (puts a ds u)) (puts a ds u) w)
    (hdone : ∀ (u : Nat → Value) (w : World) (g : Nat → Value), C w → (∀ (j : Nat) (o : Oper) (d : Tmp), ops[j]? = some o → o.dst = some d → u d = g j) → (∀ (j : Nat) (o : Oper), ops[j]? = some o → V j g w) → Q .normal (puts a ds u) w) :
    (Code.region id ops true).wp P Q a w := by
  subst hn
  have hget : ∀ (u : Nat → Value) (i : Nat) (o : Oper) (d : Tmp), ops[i]? = some o → o.dst = some d → (puts a ds u).tmps.getD d undef = u d := by
    intro u i o d hi hd
    obtain ⟨h1, h2⟩ := put_of hp i o d hi hd
    unfold puts
    rw [Array.getD_eq_getD_getElem?]
    simp only [List.getElem?_toArray, mp_get, Nat.zero_add, Array.getElem?_toList, Array.getElem?_eq_getElem h2, Option.map_some, h1, if_true, Option.getD_some]
  refine wp_region_ghost hm (C := C) (V := V) (F := fun a' => ∃ u, a' = puts a ds u) (G := G) ⟨hkeep, hsame, ?_, apart_of ha, back_of hb, ?_, ?_⟩ hC ⟨_, puts_self a ds⟩
  · rintro i o d v a' hi hd ⟨u, rfl⟩
    obtain ⟨h1, h2⟩ := put_of hp i o d hi hd
    exact ⟨⟨_, puts_put a ds u d v h1⟩, by rw [puts_size]; exact h2⟩
  · rintro i o hi a' w' g hC' ⟨u, rfl⟩ hdep
    exact hstep i o hi u w' g hC' fun e he hbe => ⟨(hdep e he hbe).1, fun oj d hj hd => by rw [← hget u e.on oj d hj hd]; exact (hdep e he hbe).2 oj d hj hd⟩
  · rintro a' w' g hC' ⟨u, rfl⟩ hu hV
    exact hdone u w' g hC' (fun j o d hj hd => by rw [← hget u j o d hj hd]; exact hu j o d hj hd) hV
end Go.Proofs.Ytobgmgpclcfkcaa
