/- A region that draws its order, inside a fence, by what is known of each operation's answer: each operation is looked at once, whatever the order; what holds of the world may hang on which operations are done. -/
import Derived.Orders
import Derived.OrdersIn
import Derived.Test.YtgedhjflminlbaaNb
namespace Go.Proofs.Ytgedhjflminlbaa
open Go
section
variable {Fe : Fence} {nF : Nat} {P : Program} {ops : Array Oper} {Q : Exit → Act → World → Prop}
/-- How many operations are left. -/
def left (ops : Array Oper) (listed : Array Bool) : Nat := ((List.range ops.size).filter fun j => !listed.getD j true).length
theorem filter_lt {p q : Nat → Bool} : ∀ (l : List Nat) (i : Nat), i ∈ l → (∀ j, q j = true → p j = true) → p i = true → q i = false → (l.filter q).length < (l.filter p).length
  | [], i, hi, _, _, _ => by cases hi
  | x :: l, i, hi, h, hp, hq => by
    have le : (l.filter q).length ≤ (l.filter p).length := by
      clear hi
      induction l with
      | nil => exact Nat.le_refl _
      | cons y l ih =>
        by_cases hy : q y = true
        · rw [List.filter_cons_of_pos hy, List.filter_cons_of_pos (h y hy)]; simpa using ih
        · rw [List.filter_cons_of_neg hy]
          by_cases hz : p y = true
          · rw [List.filter_cons_of_pos hz, List.length_cons]; omega
          · rw [List.filter_cons_of_neg hz]; exact ih
    by_cases hx : x = i
    · subst hx
      rw [List.filter_cons_of_pos hp, List.filter_cons_of_neg (by simp [hq]), List.length_cons]; omega
    · have hil : i ∈ l := by
        rcases List.mem_cons.1 hi with e | e
        · exact absurd e.symm hx
        · exact e
      have ih := filter_lt l i hil h hp hq
      by_cases hy : q x = true
      · rw [List.filter_cons_of_pos hy, List.filter_cons_of_pos (h x hy)]; simpa using ih
      · rw [List.filter_cons_of_neg hy]
        by_cases hz : p x = true
        · rw [List.filter_cons_of_pos hz, List.length_cons]; omega
        · rw [List.filter_cons_of_neg hz]; exact ih
/-- What is known of the slots. -/
structure Known (ops : Array Oper) (V : Nat → Value → Array Bool → World → Prop) (F : Act → Prop) (listed : Array Bool) (a : Act) (w : World) : Prop where
  fix : F a
  val : ∀ (j : Nat) (o : Oper) (d : Tmp), ops[j]? = some o → o.dst = some d → listed.getD j false = true → V j (a.tmps.getD d undef) listed w
theorem anyIn_inv (C : Array Bool → World → Prop) (V : Nat → Value → Array Bool → World → Prop) (F : Act → Prop) (G : Array Bool → World → Array Bool → World → Prop)
    (hV : ∀ j v d w d' w', V j v d w → G d w d' w' → V j v d' w')
    (hF : ∀ (i : Nat) (o : Oper) (d : Tmp) (v : Value) (a : Act), ops[i]? = some o → o.dst = some d → F a → F (a.put (some d) v) ∧ d < a.tmps.size)
    (hd : ∀ (i j : Nat) (oi oj : Oper) (d : Tmp), ops[i]? = some oi → ops[j]? = some oj → oi.dst = some d → oj.dst = some d → i = j)
    (he : ∀ (i : Nat) (o : Oper), ops[i]? = some o → ∀ e ∈ o.after, e.on < i)
    (hstep : ∀ (i : Nat) (o : Oper), ops[i]? = some o → ∀ (dn : Array Bool) (a : Act) (w : World), dn.size = ops.size → dn.getD i true = false → C dn w → F a → (∀ (j : Nat) (oj : Oper) (d : Tmp), ops[j]? = some oj → oj.dst = some d → (∃ e ∈ o.after, Region.binds .any e = true ∧ e.on = j) → V j (a.tmps.getD d undef) dn w) →
      wpOpIn Fe nF P ops Q i (fun a' w' => ∃ v, a' = a.put o.dst v ∧ V i v (dn.setIfInBounds i true) w' ∧ C (dn.setIfInBounds i true) w' ∧ G dn w (dn.setIfInBounds i true) w') a w)
    (hend : ∀ (dn : Array Bool) (a : Act) (w : World), (∀ j, j < ops.size → dn.getD j false = true) → C dn w → F a → (∀ (j : Nat) (oj : Oper) (d : Tmp), ops[j]? = some oj → oj.dst = some d → V j (a.tmps.getD d undef) dn w) → Q .normal a w) :
    ∀ fuel listed a w, listed.size = ops.size → left ops listed ≤ fuel → C listed w → Known ops V F listed a w → wpAnyIn Fe nF P .any ops Q fuel listed a w := by
  have hnone : ∀ listed : Array Bool, listed.size = ops.size → Region.ready .any ops listed = [] → ∀ j, j < ops.size → listed.getD j false = true := by
    intro listed hs hr j
    induction j using Nat.strongRecOn with
    | ind j ih =>
      intro hj
      apply Classical.byContradiction
      intro hl
      have hm : j ∈ Region.ready .any ops listed := by
        refine mem_ready.2 ⟨?_, ops[j], by simp [hj], fun e he' _ => ih e.on (he j ops[j] (by simp [hj]) e he') (Nat.lt_trans (he j ops[j] (by simp [hj]) e he') hj)⟩
        rw [Array.getD_eq_getD_getElem?] at hl ⊢
        rw [Array.getElem?_eq_getElem (by omega)] at hl ⊢
        simpa using hl
      rw [hr] at hm
      cases hm
  have hfin : ∀ listed a w, listed.size = ops.size → C listed w → Known ops V F listed a w → Region.ready .any ops listed = [] → Q .normal a w := fun listed a w hs hC hK hr =>
    hend listed a w (hnone listed hs hr) hC hK.fix fun j oj d hj hdj => hK.val j oj d hj hdj (hnone listed hs hr j (Array.getElem?_eq_some_iff.1 hj).1)
  intro fuel
  induction fuel with
  | zero =>
    intro listed a w hs hl hC hK
    have hr : Region.ready .any ops listed = [] := by
      rcases h : Region.ready .any ops listed with _ | ⟨j, t⟩
      · rfl
      · have hj : j ∈ Region.ready .any ops listed := by rw [h]; simp
        obtain ⟨hu, o, ho, _⟩ := mem_ready.1 hj
        have hm : j ∈ (List.range ops.size).filter fun j => !listed.getD j true := by
          rw [List.mem_filter]
          exact ⟨List.mem_range.2 (Array.getElem?_eq_some_iff.1 ho).1, by simp [hu]⟩
        have : ((List.range ops.size).filter fun j => !listed.getD j true) = [] := List.eq_nil_of_length_eq_zero (by unfold left at hl; omega)
        rw [this] at hm
        cases hm
    exact ⟨hr, hfin listed a w hs hC hK hr⟩
  | succ fuel ih =>
    intro listed a w hs hl hC hK
    refine ⟨hfin listed a w hs hC hK, fun i hi => ?_⟩
    obtain ⟨hu, o, ho, hall⟩ := mem_ready.1 hi
    have hio := (Array.getElem?_eq_some_iff.1 ho).1
    refine wpOpIn_mono ?_ (hstep i o ho listed a w hs hu hC hK.fix fun j oj d hj hdj ⟨e, he', hb, hon⟩ => hK.val j oj d hj hdj (by rw [← hon]; exact hall e he' hb))
    rintro a' w' ⟨v, rfl, hv, hC', hG⟩
    refine ih _ _ _ (by simpa using hs) ?_ hC' ⟨?_, fun j oj d hj hdj hjl => ?_⟩
    · have : left ops (listed.setIfInBounds i true) < left ops listed := by
        refine filter_lt (List.range ops.size) i (List.mem_range.2 hio) (fun j hj => ?_) (by simp [hu]) ?_
        · by_cases hji : i = j
          · subst hji; simp [hu]
          · rwa [getD_set_ne true hji] at hj
        · have : (listed.setIfInBounds i true).getD i true = true := by
            rw [Array.getD_eq_getD_getElem?, Array.getElem?_setIfInBounds_self_of_lt (by omega)]; rfl
          simp [this]
      omega
    · cases hod : o.dst with
      | none => exact hK.fix
      | some d => exact (hF i o d v a ho hod hK.fix).1
    · by_cases hji : i = j
      · subst hji
        rw [ho] at hj
        obtain rfl := Option.some.inj hj
        rw [hdj]
        have hlt := (hF i o d v a ho hdj hK.fix).2
        simp only [Act.put, Array.getD_eq_getD_getElem?, Array.getElem?_setIfInBounds_self_of_lt hlt]
        exact hv
      · have hjl2 : listed.getD j false = true := by rwa [getD_set_ne false hji] at hjl
        have hw := hV j _ _ w _ w' (hK.val j oj d hj hdj hjl2) hG
        cases hod : o.dst with
        | none => exact hw
        | some d' =>
          have hne : d' ≠ d := fun e => hji (hd i j o oj d ho hj (by rw [hod, e]) hdj)
          simp only [Act.put, Array.getD_eq_getD_getElem?, Array.getElem?_setIfInBounds_ne hne]
          rw [← Array.getD_eq_getD_getElem?]
          exact hw
theorem wpIn_region_inv {id : Nat} {a : Act} {w : World} (hm : P.follows .mixedOrders = true) (C : Array Bool → World → Prop) (V : Nat → Value → Array Bool → World → Prop) (F : Act → Prop) (G : Array Bool → World → Array Bool → World → Prop)
    (hV : ∀ j v d w d' w', V j v d w → G d w d' w' → V j v d' w')
    (hF : ∀ (i : Nat) (o : Oper) (d : Tmp) (v : Value) (a : Act), ops[i]? = some o → o.dst = some d → F a → F (a.put (some d) v) ∧ d < a.tmps.size)
    (hd : ∀ (i j : Nat) (oi oj : Oper) (d : Tmp), ops[i]? = some oi → ops[j]? = some oj → oi.dst = some d → oj.dst = some d → i = j)
    (he : ∀ (i : Nat) (o : Oper), ops[i]? = some o → ∀ e ∈ o.after, e.on < i)
    (hC : C (Array.replicate ops.size false) { w with drawn := w.drawn + 1 }) (hFa : F a)
    (hstep : ∀ (i : Nat) (o : Oper), ops[i]? = some o → ∀ (dn : Array Bool) (a : Act) (w : World), dn.size = ops.size → dn.getD i true = false → C dn w → F a → (∀ (j : Nat) (oj : Oper) (d : Tmp), ops[j]? = some oj → oj.dst = some d → (∃ e ∈ o.after, Region.binds .any e = true ∧ e.on = j) → V j (a.tmps.getD d undef) dn w) →
      wpOpIn Fe nF P ops Q i (fun a' w' => ∃ v, a' = a.put o.dst v ∧ V i v (dn.setIfInBounds i true) w' ∧ C (dn.setIfInBounds i true) w' ∧ G dn w (dn.setIfInBounds i true) w') a w)
    (hend : ∀ (dn : Array Bool) (a : Act) (w : World), (∀ j, j < ops.size → dn.getD j false = true) → C dn w → F a → (∀ (j : Nat) (oj : Oper) (d : Tmp), ops[j]? = some oj → oj.dst = some d → V j (a.tmps.getD d undef) dn w) → Q .normal a w) :
    (Code.region id ops true).wpIn Fe nF P Q a w := by
  refine wpIn_region_any hm (anyIn_inv C V F G hV hF hd he hstep hend _ _ _ _ (by simp) ?_ hC ⟨hFa, fun j o d _ _ hl => ?_⟩)
  · unfold left
    have := List.length_filter_le (fun j => !(Array.replicate ops.size false).getD j true) (List.range ops.size)
    simpa using this
  · have : (Array.replicate ops.size false).getD j false = false := by
      rw [Array.getD_eq_getD_getElem?, Array.getElem?_replicate]
      split <;> rfl
    rw [this] at hl
    cases hl
end
end Go.Proofs.Ytgedhjflminlbaa
