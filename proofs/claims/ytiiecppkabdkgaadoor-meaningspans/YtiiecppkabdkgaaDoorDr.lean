/- A region that draws its order, all of whose answers are known by codes: looked over by a program, each operation once, whatever the order. -/
import Derived.Orders
import Derived.BigRegion
import Derived.Test.YtiiecppkabdkgaaDoorMt
namespace Go.Proofs.YtiiecppkabdkgaaDoor
open Go Go.RowKit
section
variable {P : Program} {ops : Array Oper} {Q : Exit → Act → World → Prop}
/-- How many operations are left. -/
def left (ops : Array Oper) (listed : Array Bool) : Nat := ((List.range ops.size).filter fun j => !listed.getD j true).length
theorem filter_lt {p q : Nat → Bool} : ∀ (l : List Nat) (i : Nat), i ∈ l → (∀ j, q j = true → p j = true) → p i = true → q i = false → (l.filter q).length < (l.filter p).length
  | [], i, hi, _, _, _ => by cases hi
  | x :: l, i, hi, h, hp, hq => by
    have le : (l.filter q).length ≤ (l.filter p).length := by
      clear hi
      induction l with
      | nil => exact Nat.le_refl _
      | cons y l ih =>
        by_cases hy : q y = true
        · rw [List.filter_cons_of_pos hy, List.filter_cons_of_pos (h y hy)]; simpa using ih
        · rw [List.filter_cons_of_neg hy]
          by_cases hz : p y = true
          · rw [List.filter_cons_of_pos hz, List.length_cons]; omega
          · rw [List.filter_cons_of_neg hz]; exact ih
    by_cases hx : x = i
    · subst hx
      rw [List.filter_cons_of_pos hp, List.filter_cons_of_neg (by simp [hq]), List.length_cons]; omega
    · have hil : i ∈ l := by
        rcases List.mem_cons.1 hi with e | e
        · exact absurd e.symm hx
        · exact e
      have ih := filter_lt l i hil h hp hq
      by_cases hy : q x = true
      · rw [List.filter_cons_of_pos hy, List.filter_cons_of_pos (h x hy)]; simpa using ih
      · rw [List.filter_cons_of_neg hy]
        by_cases hz : p x = true
        · rw [List.filter_cons_of_pos hz, List.length_cons]; omega
        · rw [List.filter_cons_of_neg hz]; exact ih
/-- What is known of the slots. -/
structure Known (ops : Array Oper) (V : Nat → Value → World → Prop) (F : Act → Prop) (listed : Array Bool) (a : Act) (w : World) : Prop where
  fix : F a
  val : ∀ (j : Nat) (o : Oper) (d : Tmp), ops[j]? = some o → o.dst = some d → listed.getD j false = true → V j (a.tmps.getD d undef) w
theorem any_inv (C : World → Prop) (V : Nat → Value → World → Prop) (F : Act → Prop) (G : World → World → Prop)
    (hV : ∀ j v w w', V j v w → G w w' → V j v w')
    (hF : ∀ (i : Nat) (o : Oper) (d : Tmp) (v : Value) (a : Act), ops[i]? = some o → o.dst = some d → F a → F (a.put (some d) v) ∧ d < a.tmps.size)
    (hd : ∀ (i j : Nat) (oi oj : Oper) (d : Tmp), ops[i]? = some oi → ops[j]? = some oj → oi.dst = some d → oj.dst = some d → i = j)
    (he : ∀ (i : Nat) (o : Oper), ops[i]? = some o → ∀ e ∈ o.after, e.on < i)
    (hstep : ∀ (i : Nat) (o : Oper), ops[i]? = some o → ∀ (a : Act) (w : World), C w → F a → (∀ (j : Nat) (oj : Oper) (d : Tmp), ops[j]? = some oj → oj.dst = some d → (∃ e ∈ o.after, Region.binds .any e = true ∧ e.on = j) → V j (a.tmps.getD d undef) w) →
      wpOp P ops Q i (fun a' w' => ∃ v, a' = a.put o.dst v ∧ V i v w' ∧ C w' ∧ G w w') a w)
    (hend : ∀ (a : Act) (w : World), C w → F a → (∀ (j : Nat) (oj : Oper) (d : Tmp), ops[j]? = some oj → oj.dst = some d → V j (a.tmps.getD d undef) w) → Q .normal a w) :
    ∀ fuel listed a w, listed.size = ops.size → left ops listed ≤ fuel → C w → Known ops V F listed a w → wpAny P .any ops Q fuel listed a w := by
  have hnone : ∀ listed : Array Bool, listed.size = ops.size → Region.ready .any ops listed = [] → ∀ j, j < ops.size → listed.getD j false = true := by
    intro listed hs hr j
    induction j using Nat.strongRecOn with
    | ind j ih =>
      intro hj
      apply Classical.byContradiction
      intro hl
      have hm : j ∈ Region.ready .any ops listed := by
        refine mem_ready.2 ⟨?_, ops[j], by simp [hj], fun e he' _ => ih e.on (he j ops[j] (by simp [hj]) e he') (Nat.lt_trans (he j ops[j] (by simp [hj]) e he') hj)⟩
        rw [Array.getD_eq_getD_getElem?] at hl ⊢
        rw [Array.getElem?_eq_getElem (by omega)] at hl ⊢
        simpa using hl
      rw [hr] at hm
      cases hm
  have hfin : ∀ listed a w, listed.size = ops.size → C w → Known ops V F listed a w → Region.ready .any ops listed = [] → Q .normal a w := fun listed a w hs hC hK hr =>
    hend a w hC hK.fix fun j oj d hj hdj => hK.val j oj d hj hdj (hnone listed hs hr j (Array.getElem?_eq_some_iff.1 hj).1)
  intro fuel
  induction fuel with
  | zero =>
    intro listed a w hs hl hC hK
    have hr : Region.ready .any ops listed = [] := by
      rcases h : Region.ready .any ops listed with _ | ⟨j, t⟩
      · rfl
      · have hj : j ∈ Region.ready .any ops listed := by rw [h]; simp
        obtain ⟨hu, o, ho, _⟩ := mem_ready.1 hj
        have hm : j ∈ (List.range ops.size).filter fun j => !listed.getD j true := by
          rw [List.mem_filter]
          exact ⟨List.mem_range.2 (Array.getElem?_eq_some_iff.1 ho).1, by simp [hu]⟩
        have : ((List.range ops.size).filter fun j => !listed.getD j true) = [] := List.eq_nil_of_length_eq_zero (by unfold left at hl; omega)
        rw [this] at hm
        cases hm
    exact ⟨hr, hfin listed a w hs hC hK hr⟩
  | succ fuel ih =>
    intro listed a w hs hl hC hK
    refine ⟨hfin listed a w hs hC hK, fun i hi => ?_⟩
    obtain ⟨hu, o, ho, hall⟩ := mem_ready.1 hi
    have hio := (Array.getElem?_eq_some_iff.1 ho).1
    refine wpOp_mono ?_ (hstep i o ho a w hC hK.fix fun j oj d hj hdj ⟨e, he', hb, hon⟩ => hK.val j oj d hj hdj (by rw [← hon]; exact hall e he' hb))
    rintro a' w' ⟨v, rfl, hv, hC', hG⟩
    refine ih _ _ _ (by simpa using hs) ?_ hC' ⟨?_, fun j oj d hj hdj hjl => ?_⟩
    · have : left ops (listed.setIfInBounds i true) < left ops listed := by
        refine filter_lt (List.range ops.size) i (List.mem_range.2 hio) (fun j hj => ?_) (by simp [hu]) ?_
        · by_cases hji : i = j
          · subst hji; simp [hu]
          · rwa [getD_set_ne true hji] at hj
        · have : (listed.setIfInBounds i true).getD i true = true := by
            rw [Array.getD_eq_getD_getElem?, Array.getElem?_setIfInBounds_self_of_lt (by omega)]; rfl
          simp [this]
      omega
    · cases hod : o.dst with
      | none => exact hK.fix
      | some d => exact (hF i o d v a ho hod hK.fix).1
    · by_cases hji : i = j
      · subst hji
        rw [ho] at hj
        obtain rfl := Option.some.inj hj
        rw [hdj]
        have hlt := (hF i o d v a ho hdj hK.fix).2
        simp only [Act.put, Array.getD_eq_getD_getElem?, Array.getElem?_setIfInBounds_self_of_lt hlt]
        exact hv
      · have hjl2 : listed.getD j false = true := by rwa [getD_set_ne false hji] at hjl
        have hw := hV j _ w w' (hK.val j oj d hj hdj hjl2) hG
        cases hod : o.dst with
        | none => exact hw
        | some d' =>
          have hne : d' ≠ d := fun e => hji (hd i j o oj d ho hj (by rw [hod, e]) hdj)
          simp only [Act.put, Array.getD_eq_getD_getElem?, Array.getElem?_setIfInBounds_ne hne]
          rw [← Array.getD_eq_getD_getElem?]
          exact hw
theorem wp_region_inv {id : Nat} {a : Act} {w : World} (hm : P.follows .mixedOrders = true) (C : World → Prop) (V : Nat → Value → World → Prop) (F : Act → Prop) (G : World → World → Prop)
    (hV : ∀ j v w w', V j v w → G w w' → V j v w')
    (hF : ∀ (i : Nat) (o : Oper) (d : Tmp) (v : Value) (a : Act), ops[i]? = some o → o.dst = some d → F a → F (a.put (some d) v) ∧ d < a.tmps.size)
    (hd : ∀ (i j : Nat) (oi oj : Oper) (d : Tmp), ops[i]? = some oi → ops[j]? = some oj → oi.dst = some d → oj.dst = some d → i = j)
    (he : ∀ (i : Nat) (o : Oper), ops[i]? = some o → ∀ e ∈ o.after, e.on < i)
    (hC : C { w with drawn := w.drawn + 1 }) (hFa : F a)
    (hstep : ∀ (i : Nat) (o : Oper), ops[i]? = some o → ∀ (a : Act) (w : World), C w → F a → (∀ (j : Nat) (oj : Oper) (d : Tmp), ops[j]? = some oj → oj.dst = some d → (∃ e ∈ o.after, Region.binds .any e = true ∧ e.on = j) → V j (a.tmps.getD d undef) w) →
      wpOp P ops Q i (fun a' w' => ∃ v, a' = a.put o.dst v ∧ V i v w' ∧ C w' ∧ G w w') a w)
    (hend : ∀ (a : Act) (w : World), C w → F a → (∀ (j : Nat) (oj : Oper) (d : Tmp), ops[j]? = some oj → oj.dst = some d → V j (a.tmps.getD d undef) w) → Q .normal a w) :
    (Code.region id ops true).wp P Q a w := by
  refine wp_region_any hm (any_inv C V F G hV hF hd he hstep hend _ _ _ _ (by simp) ?_ hC ⟨hFa, fun j o d _ _ hl => ?_⟩)
  · unfold left
    have := List.length_filter_le (fun j => !(Array.replicate ops.size false).getD j true) (List.range ops.size)
    simpa using this
  · have : (Array.replicate ops.size false).getD j false = false := by
      rw [Array.getD_eq_getD_getElem?, Array.getElem?_replicate]
      split <;> rfl
    rw [this] at hl
    cases hl
end
section
variable {P : Program}
theorem ex_pickT {o : Oper} {a : Act} {w : World} {x y : Operand} (h : o.op = .pick x y (.const (.bool false))) (hx : a.eval x = .bool true) (hy : a.eval y = .bool true) : (execOp a.eval o).run P w = .ok (.value (.bool true)) w := by
  unfold execOp
  rw [h]
  generalize a.eval = ρ at *
  simp [go_sem, hx, hy]
theorem ex_eqlB {o : Oper} {a : Act} {w : World} {x y : Operand} {B : Bool} (h4 : P.underlying 4 = some .bool) (h : o.op = .binOp .eql 4 x y 4) (hx : a.eval x = .bool B) (hy : a.eval y = .bool B) : (execOp a.eval o).run P w = .ok (.value (.bool true)) w := by
  unfold execOp
  rw [h]
  generalize a.eval = ρ at *
  simp [go_sem, hx, hy, h4]
theorem ex_callC {o : Oper} {a : Act} {w : World} {f : Operand} {args : Array Operand} {ts : Array TypeId} {g : Nat} {cap : Array Value} (h : o.op = .call { callee := .value f, args := args, argTypes := ts }) (hf : a.eval f = .func (.func g) #[] cap) (eg : ∀ args w, (callFunc g args).run P w = .ok (.enter g args) w) : (execOp a.eval o).run P w = .ok (.enter g (args.map a.eval ++ cap)) w := by
  unfold execOp
  rw [h]
  generalize a.eval = ρ at *
  simp [go_sem, hf, resolve, invoke, eg]
end
/-- Values, each as its code says. -/
def Fits (sem : Nat → Value → World → Prop) (w : World) : List Nat → List Value → Prop
  | [], [] => True
  | c :: cs, v :: vs => sem c v w ∧ Fits sem w cs vs
  | _, _ => False
/-- What is told of a region: the codes of the slots ahead of it, of its loads, its calls. Code 0: true; 1: false; 2: the number -1; 9: anything; 2000 + n: the number n. -/
structure Look where
  base : Nat
  res : Nat
  num : Nat
  fixed : List (Nat × Nat)
  loads : List (Nat × Nat × Nat)
  calls : List (Nat × List Nat × Nat)
  bools : List Nat
  L : List Nat
def kst : Value → Nat
  | .bool false => 1
  | .bool true => 0
  | .int .i64 n => if 0 ≤ n then 2000 + n.toNat else if n = -1 then 2 else 9
  | _ => 9
def Look.get (K : Look) (j : Nat) : Nat := K.L.getD j 9
def fixAt (l : List (Nat × Nat)) (t : Nat) : Nat := match l with
  | [] => 9
  | (s, c) :: r => if s = t then c else fixAt r t
def Look.ent (K : Look) (after : Array Edge) : Operand → Nat
  | .tmp t => if K.base ≤ t then (if after.any (fun e => Region.binds .any e && e.on == t - K.base) then K.get (t - K.base) else 9) else fixAt K.fixed t
  | .func f => 1000 + f
  | .const v => kst v
  | _ => 9
def eqL : List Nat → List Nat → Bool
  | [], [] => true
  | x :: xs, y :: ys => x == y && eqL xs ys
  | _, _ => false
theorem eqL_iff : ∀ {l m : List Nat}, eqL l m = true → l = m
  | [], [], _ => rfl
  | x :: xs, y :: ys, h => by
    simp only [eqL, Bool.and_eq_true, beq_iff_eq] at h
    rw [h.1, eqL_iff h.2]
  | [], _ :: _, h => by simp [eqL] at h
  | _ :: _, [], h => by simp [eqL] at h
def Look.opB (K : Look) (after : Array Edge) (r : Nat) : Op → Bool
  | .move x => r == K.ent after x
  | .assign x => r == K.ent after x
  | .load k (.tmp t) => K.loads.any fun e => e.1 == t && e.2.1 == k && e.2.2 == r
  | .binOp .eql k x y m => k == 4 && m == 4 && K.ent after x == K.ent after y && K.bools.any (fun c => c == K.ent after x) && r == 0
  | .pick x y (.const (.bool b)) => !b && K.ent after x == 0 && K.ent after y == 0 && r == 0
  | .call { callee := .value f, args := xs, argTypes := _ } => K.calls.any fun e => e.1 == K.ent after f && eqL e.2.1 (xs.toList.map (K.ent after)) && e.2.2 == r
  | _ => false
def Look.guardB (K : Look) (o : Oper) : Bool :=
  match o.guard with
  | none => true
  | some (j, b) => b && K.get j == 0 && o.after.any (fun e => Region.binds .any e && e.on == j)
def Look.slot (K : Look) (i : Nat) : Nat := if i + 1 = K.num then K.res else K.base + i
def Look.operB (K : Look) (i : Nat) (o : Oper) : Bool := K.guardB o && K.opB o.after (K.get i) o.op && o.dst == some (K.slot i) && o.after.all (fun e => e.on < i)
def Look.allB (K : Look) (ops : List Oper) : Nat → Bool
  | 0 => true
  | n + 1 => (match ops[n]? with | some o => K.operB n o | none => false) && K.allB ops n
theorem Look.allB_get {K : Look} {ops : List Oper} {i : Nat} {o : Oper} (ho : ops[i]? = some o) (n : Nat) (h : K.allB ops n = true) (hi : i < n) : K.operB i o = true := by
  induction n with
  | zero => omega
  | succ n ih =>
    unfold Look.allB at h
    rw [Bool.and_eq_true] at h
    by_cases e : i = n
    · subst e; rw [ho] at h; exact h.1
    · exact ih h.2 (by omega)
/-- What the codes mean, and what is owed. -/
structure Owed (P : Program) (K : Look) (sem : Nat → Value → World → Prop) (C : World → Prop) (S : Nat) (fv : Nat → Value) : Prop where
  bool4 : P.underlying 4 = some .bool
  grow : ∀ c v w w', sem c v w → Below w.heap.size w w' → sem c v w'
  next : ∀ w w', C w → Below w.heap.size w w' → C w'
  yes : ∀ v w, sem 0 v w ↔ v = .bool true
  no : ∀ v w, sem 1 v w ↔ v = .bool false
  neg : ∀ v w, sem 2 v w ↔ v = .int .i64 (-1)
  any : ∀ v w, sem 9 v w
  num : ∀ n v w, sem (2000 + n) v w ↔ v = .int .i64 (n : Nat)
  fn : ∀ f v w, f < 1000 → (sem (1000 + f) v w ↔ v = .func (.func f) #[] #[])
  few : ∀ c cs r, (c, cs, r) ∈ K.calls → (c < 2000)
  fix : ∀ t c, (t, c) ∈ K.fixed → ∀ w, C w → sem c (fv t) w
  load : ∀ t k r, (t, k, r) ∈ K.loads → (t < K.base ∧ t ≠ K.res) ∧ ∀ (o : Oper) (a : Act) (w : World), o.op = .load k (.tmp t) → a.eval (.tmp t) = fv t → C w → ∃ v, (execOp a.eval o).run P w = .ok (.value v) w ∧ sem r v w
  bools : ∀ c, c ∈ K.bools → ∃ B : Bool, ∀ v w, sem c v w → v = .bool B
  call : ∀ c cs r, (c, cs, r) ∈ K.calls → ∃ (g : Nat) (cap : Array Value), (∀ v w, sem c v w → v = .func (.func g) #[] cap) ∧ (∀ args w, (callFunc g args).run P w = .ok (.enter g args) w) ∧ ∀ (w : World) (vs : List Value), C w → Fits sem w cs vs → Calls P g (vs.toArray ++ cap) w fun e w' => ∃ v, e = .returned v ∧ sem r v w' ∧ Below w.heap.size w w'
/-- The slots that the region finds. -/
structure Found (K : Look) (S : Nat) (fv : Nat → Value) (a : Act) : Prop where
  size : a.tmps.size = S
  defers : a.defers = []
  at_ : ∀ t, t < K.base → t ≠ K.res → a.tmps.getD t undef = fv t
theorem getD_put' {a : Act} {d t : Nat} {v : Value} (h : d ≠ t) : (a.put (some d) v).tmps.getD t undef = a.tmps.getD t undef := by
  simp only [Act.put, Array.getD_eq_getD_getElem?, Array.getElem?_setIfInBounds_ne h]
section
variable {P : Program} {ops : Array Oper} {Q : Exit → Act → World → Prop} {i : Nat} {o : Oper} {a : Act} {w : World} {K : Act → World → Prop}
theorem op_valueD {v : Value} {w' : World} (hi : ops[i]? = some o) (hw : Region.wanted o (yielded ops a.tmps) = true) (hr : (execOp a.eval o).run P w = .ok (.value v) w') (hK : K (a.put o.dst v) w') : wpOp P ops Q i K a w := by
  unfold wpOp
  simp only [hi, hw, if_true]
  left
  unfold Oper.wp
  rw [hr]
  exact hK
theorem op_callD {f : FuncId} {args : Array Value} {R : Value → World → Prop} (hi : ops[i]? = some o) (hw : Region.wanted o (yielded ops a.tmps) = true) (hr : (execOp a.eval o).run P w = .ok (.enter f args) w) (hc : Calls P f args w fun e w' => ∃ v, e = .returned v ∧ R v w') (hK : ∀ v w', R v w' → K (a.put o.dst v) w') : wpOp P ops Q i K a w := by
  unfold wpOp
  simp only [hi, hw, if_true]
  left
  unfold Oper.wp
  rw [hr, Oper.upon_enter]
  refine hc.mono ?_
  rintro e w' ⟨v, rfl, hb⟩
  exact hK v w' hb
end
theorem fixAt_mem {l : List (Nat × Nat)} {t : Nat} : fixAt l t = 9 ∨ (t, fixAt l t) ∈ l := by
  induction l with
  | nil => exact .inl rfl
  | cons e r ih =>
    obtain ⟨s, c⟩ := e
    unfold fixAt
    split
    · rename_i h; subst h; exact .inr (by simp)
    · rcases ih with h | h
      · exact .inl h
      · exact .inr (by simp [h])
section
variable {P : Program} {K : Look} {sem : Nat → Value → World → Prop} {C : World → Prop} {S : Nat} {fv : Nat → Value} {ops : Array Oper} {Q : Exit → Act → World → Prop}
theorem ent_says' (H : Owed P K sem C S fv) {a : Act} {w : World} {after : Array Edge} (hF : Found K S fv a) (hC : C w) (hrs : ∀ c, (K.res, c) ∉ K.fixed) (hdep : ∀ j, (∃ e ∈ after, Region.binds .any e = true ∧ e.on = j) → sem (K.get j) (a.tmps.getD (K.base + j) undef) w) (x : Operand) : (∀ f, x = .func f → f < 1000) → sem (K.ent after x) (a.eval x) w := by
  intro hfn
  cases x with
  | tmp t =>
    simp only [Look.ent, Act.eval]
    split
    · rename_i h
      split
      · rename_i hany
        have := hdep (t - K.base) (by
          rw [Array.any_eq_true'] at hany
          obtain ⟨e, he, hb⟩ := hany
          rw [Bool.and_eq_true] at hb
          exact ⟨e, he, hb.1, by simpa using hb.2⟩)
        rwa [show K.base + (t - K.base) = t from Nat.add_sub_of_le h] at this
      · exact H.any _ _
    · rename_i h
      rcases fixAt_mem (l := K.fixed) (t := t) with e | e
      · rw [e]; exact H.any _ _
      · by_cases hr : t = K.res
        · subst hr; exact absurd e (hrs _)
        · rw [hF.at_ t (by omega) hr]; exact H.fix _ _ e w hC
  | func f => exact (H.fn f _ _ (hfn f rfl)).2 rfl
  | const v =>
    simp only [Look.ent, Act.eval]
    unfold kst
    split
    · exact (H.no _ _).2 rfl
    · exact (H.yes _ _).2 rfl
    · rename_i n
      split
      · rename_i h
        exact (H.num _ _ _).2 (by rw [Int.toNat_of_nonneg h])
      · split
        · rename_i h; subst h; exact (H.neg _ _).2 rfl
        · exact H.any _ _
    · exact H.any _ _
  | global g => exact H.any _ _
theorem fits_map (H : Owed P K sem C S fv) {a : Act} {w : World} {after : Array Edge} (hE : ∀ x, (∀ f, x = Operand.func f → f < 1000) → sem (K.ent after x) (a.eval x) w) : ∀ xs : List Operand, (∀ x ∈ xs, ∀ f, x = Operand.func f → f < 1000) → Fits sem w (xs.map (K.ent after)) (xs.map a.eval)
  | [], _ => trivial
  | x :: xs, h => ⟨hE x (h x (by simp)), fits_map H hE xs fun y hy => h y (by simp [hy])⟩
/-- No function is named by a number of 1000 and more. -/
def fnB : Operand → Bool
  | .func f => f < 1000
  | _ => true
def opFn : Op → Bool
  | .move x => fnB x
  | .assign x => fnB x
  | .binOp _ _ x y _ => fnB x && fnB y
  | .pick x y _ => fnB x && fnB y
  | .call { callee := .value f, args := xs, argTypes := _ } => fnB f && xs.all fnB
  | _ => true
theorem fnB_iff {x : Operand} (h : fnB x = true) : ∀ f, x = .func f → f < 1000 := by
  rintro f rfl
  simpa [fnB] using h
def Look.fineB (_K : Look) (ops : List Oper) : Bool := ops.all fun o => opFn o.op
theorem step_ok' (H : Owed P K sem C S fv) (hrs : ∀ c, (K.res, c) ∉ K.fixed) (hn : ops.size = K.num) (hS : K.base + K.num ≤ S + 1) (hdst : ∀ (j : Nat) (oj : Oper), ops[j]? = some oj → oj.dst = some (K.slot j)) {i : Nat} {o : Oper} (ho : ops[i]? = some o) (hB : K.operB i o = true) (hfn : opFn o.op = true) (a : Act) (w : World) (hC : C w) (hF : Found K S fv a)
    (hd : ∀ (j : Nat) (oj : Oper) (d : Tmp), ops[j]? = some oj → oj.dst = some d → (∃ e ∈ o.after, Region.binds .any e = true ∧ e.on = j) → sem (K.get j) (a.tmps.getD d undef) w) :
    wpOp P ops Q i (fun a' w' => ∃ v, a' = a.put o.dst v ∧ sem (K.get i) v w' ∧ C w' ∧ Below w.heap.size w w') a w := by
  have hi : i < K.num := by have := (Array.getElem?_eq_some_iff.1 ho).1; omega
  unfold Look.operB at hB
  simp only [Bool.and_eq_true] at hB
  obtain ⟨⟨⟨hg, hop⟩, _⟩, haf⟩ := hB
  have hon : ∀ e ∈ o.after, e.on < i := fun e he => by
    rw [Array.all_eq_true'] at haf
    simpa using haf e he
  have hdep : ∀ j, (∃ e ∈ o.after, Region.binds .any e = true ∧ e.on = j) → sem (K.get j) (a.tmps.getD (K.base + j) undef) w := fun j hj => by
    obtain ⟨e, he, hb, rfl⟩ := hj
    have hlt := hon e he
    have hoj : ops[e.on]? = some (ops[e.on]'(by omega)) := by simp
    exact hd e.on _ (K.base + e.on) hoj (by rw [hdst _ _ hoj]; unfold Look.slot; rw [if_neg (by omega)]) ⟨e, he, hb, rfl⟩
  have hE := fun x hx => ent_says' H hF hC hrs hdep x hx
  have hw : Region.wanted o (yielded ops a.tmps) = true := by
    unfold Look.guardB at hg
    unfold Region.wanted
    cases hgo : o.guard with
    | none => rfl
    | some p =>
      obtain ⟨j, b⟩ := p
      rw [hgo] at hg
      simp only [Bool.and_eq_true] at hg
      obtain ⟨⟨rfl, hL⟩, hany⟩ := hg
      rw [Array.any_eq_true'] at hany
      obtain ⟨e, he, hb⟩ := hany
      rw [Bool.and_eq_true] at hb
      obtain rfl : e.on = j := by simpa using hb.2
      have hlt := hon e he
      have hv0 := hdep e.on ⟨e, he, hb.1, rfl⟩
      rw [show K.get e.on = 0 by simpa using hL] at hv0
      have hv := (H.yes _ _).1 hv0
      have hoj : ops[e.on]? = some (ops[e.on]'(by omega)) := by simp
      have hdj := hdst _ _ hoj
      rw [show K.slot e.on = K.base + e.on by unfold Look.slot; rw [if_neg (by omega)]] at hdj
      have hsz := hF.size
      have : yielded ops a.tmps e.on = some true := by
        unfold yielded
        rw [hoj]
        simp only [Option.bind_some, hdj]
        have hl2 : K.base + e.on < a.tmps.size := by omega
        rw [Array.getD_eq_getD_getElem?, Array.getElem?_eq_getElem hl2] at hv
        rw [Array.getElem?_eq_getElem hl2]
        simp only [Option.getD_some] at hv
        rw [hv]
      simp [this]
  have hbr : Below w.heap.size w w := Below.refl _ _
  generalize hr : K.get i = r at *
  unfold Look.opB at hop
  split at hop
  · rename_i x hx
    have e : r = K.ent o.after x := by simpa using hop
    rw [hx] at hfn
    exact op_valueD ho hw (BigFrame.run_move x hx w) ⟨_, rfl, e ▸ hE x (fnB_iff hfn), hC, hbr⟩
  · rename_i x hx
    have e : r = K.ent o.after x := by simpa using hop
    rw [hx] at hfn
    exact op_valueD ho hw (BigFrame.run_assign x hx w) ⟨_, rfl, e ▸ hE x (fnB_iff hfn), hC, hbr⟩
  · rename_i k t hx
    rw [List.any_eq_true] at hop
    obtain ⟨⟨t', k', r'⟩, hm, he⟩ := hop
    simp only [Bool.and_eq_true, beq_iff_eq] at he
    obtain ⟨⟨rfl, rfl⟩, rfl⟩ := he
    obtain ⟨⟨hlt, hne⟩, hld⟩ := H.load _ _ _ hm
    obtain ⟨v, hv, hs⟩ := hld o a w hx (hF.at_ _ hlt hne) hC
    exact op_valueD ho hw hv ⟨v, rfl, hs, hC, hbr⟩
  · rename_i k x y m hx
    rw [hx] at hfn
    simp only [opFn, Bool.and_eq_true] at hfn
    simp only [Bool.and_eq_true, beq_iff_eq] at hop
    obtain ⟨⟨⟨⟨rfl, rfl⟩, h1⟩, h2⟩, rfl⟩ := hop
    rw [List.any_eq_true] at h2
    obtain ⟨c, hc, he⟩ := h2
    obtain ⟨B, hBB⟩ := H.bools c hc
    have he : c = K.ent o.after x := by simpa using he
    have e1 := hBB _ _ (he ▸ hE x (fnB_iff hfn.1))
    have e2 := hBB _ _ ((he.trans h1) ▸ hE y (fnB_iff hfn.2))
    exact op_valueD ho hw (ex_eqlB H.bool4 hx e1 e2) ⟨_, rfl, (H.yes _ _).2 rfl, hC, hbr⟩
  · rename_i x y b hx
    rw [hx] at hfn
    simp only [opFn, Bool.and_eq_true] at hfn
    simp only [Bool.and_eq_true, beq_iff_eq, Bool.not_eq_true'] at hop
    obtain ⟨⟨⟨rfl, h1⟩, h2⟩, rfl⟩ := hop
    exact op_valueD ho hw (ex_pickT hx ((H.yes _ _).1 (h1 ▸ hE x (fnB_iff hfn.1))) ((H.yes _ _).1 (h2 ▸ hE y (fnB_iff hfn.2)))) ⟨_, rfl, (H.yes _ _).2 rfl, hC, hbr⟩
  · rename_i f xs ts hx
    rw [hx] at hfn
    simp only [opFn, Bool.and_eq_true] at hfn
    rw [List.any_eq_true] at hop
    obtain ⟨⟨c, cs, r'⟩, hm, he⟩ := hop
    simp only [Bool.and_eq_true, beq_iff_eq] at he
    obtain ⟨⟨h1, h2⟩, rfl⟩ := he
    obtain ⟨g, cap, hval, heg, hcall⟩ := H.call _ _ _ hm
    have hf := hval _ _ (h1 ▸ hE f (fnB_iff hfn.1))
    have hfit := fits_map H hE xs.toList (fun x hx' => fnB_iff (by
      have := hfn.2
      rw [Array.all_eq_true'] at this
      exact this x (by simpa using hx')))
    rw [← eqL_iff h2] at hfit
    have hcc := hcall w _ hC hfit
    rw [show (xs.toList.map a.eval).toArray = xs.map a.eval by cases xs; simp] at hcc
    exact op_callD (R := fun v w' => sem r' v w' ∧ Below w.heap.size w w') ho hw (ex_callC hx hf heg) hcc fun v w' ⟨h3, h4⟩ => ⟨v, rfl, h3, H.next _ _ hC h4, h4⟩
  · cases hop
/-- The region, looked over. -/
theorem region_codes {id : Nat} {a : Act} {w : World} (hm : P.follows .mixedOrders = true) (H : Owed P K sem C S fv) (hrs : ∀ c, (K.res, c) ∉ K.fixed) (hrb : K.res < K.base) (hn : ops.size = K.num) (hS : K.base + K.num ≤ S + 1) (hB : K.allB ops.toList K.num = true) (hfn : K.fineB ops.toList = true) (hC : C w) (hF : Found K S fv a) (h0 : 0 < K.num) (hlast : K.get (K.num - 1) = 0)
    (hend : ∀ (a' : Act) (w' : World), C w' → Found K S fv a' → a'.tmps.getD K.res undef = .bool true → Q .normal a' w') : (Code.region id ops true).wp P Q a w := by
  have hop : ∀ (j : Nat) (oj : Oper), ops[j]? = some oj → K.operB j oj = true := fun j oj hj => by
    have hlt := (Array.getElem?_eq_some_iff.1 hj).1
    exact Look.allB_get (by rw [Array.getElem?_toList]; exact hj) K.num hB (by omega)
  have hdst : ∀ (j : Nat) (oj : Oper), ops[j]? = some oj → oj.dst = some (K.slot j) := fun j oj hj => by
    have := hop j oj hj
    unfold Look.operB at this
    simp only [Bool.and_eq_true] at this
    simpa using this.1.2
  refine wp_region_inv hm C (fun j v w => sem (K.get j) v w) (Found K S fv) (fun w w' => Below w.heap.size w w') (fun j v w w' h1 h2 => H.grow _ _ _ _ h1 h2) ?_ ?_ ?_ ?_ hF ?_ ?_
  · intro i o d v a ho hd hFa
    have hlt := (Array.getElem?_eq_some_iff.1 ho).1
    rw [hdst i o ho] at hd
    injection hd with hd
    have hsz := hFa.size
    have hlt' : i < K.num := by omega
    have hsl : K.slot i < S ∧ (K.slot i = K.res ∨ K.base ≤ K.slot i) := by
      unfold Look.slot
      split
      · exact ⟨by omega, .inl rfl⟩
      · exact ⟨by omega, .inr (by omega)⟩
    rw [hd] at hsl
    have hdl : d < S := hsl.1
    refine ⟨⟨by simpa [Act.put] using hsz, hFa.defers, fun t ht hne => ?_⟩, by rw [hsz]; exact hdl⟩
    rw [getD_put' (by rcases hsl.2 with h | h; (exact fun e => hne (e ▸ h)); (exact fun e => absurd (e ▸ h : K.base ≤ t) (by omega)))]
    exact hFa.at_ t ht hne
  · intro i j oi oj d hi hj h1 h2
    have hli := (Array.getElem?_eq_some_iff.1 hi).1
    have hlj := (Array.getElem?_eq_some_iff.1 hj).1
    rw [hdst i oi hi] at h1
    rw [hdst j oj hj, ← h1] at h2
    injection h2 with h2
    unfold Look.slot at h2
    split at h2 <;> split at h2 <;> omega
  · intro i o ho e he
    have := hop i o ho
    unfold Look.operB at this
    simp only [Bool.and_eq_true] at this
    rw [Array.all_eq_true'] at this
    simpa using this.2 e he
  · exact H.next w _ hC ((Below.refl _ _).drew)
  · intro i o ho a w hCw hFa hd
    refine step_ok' H hrs hn hS hdst ho (hop i o ho) ?_ a w hCw hFa hd
    unfold Look.fineB at hfn
    rw [List.all_eq_true] at hfn
    exact hfn o (List.mem_of_getElem? (by rw [Array.getElem?_toList]; exact ho))
  · intro a' w' hCw hFa hd
    have hoj : ops[K.num - 1]? = some (ops[K.num - 1]'(by omega)) := by simp
    have h1 := hd (K.num - 1) _ K.res hoj (by rw [hdst _ _ hoj]; unfold Look.slot; rw [if_pos (by omega)])
    rw [hlast] at h1
    exact hend a' w' hCw hFa ((H.yes _ _).1 h1)
end
end Go.Proofs.YtiiecppkabdkgaaDoor
