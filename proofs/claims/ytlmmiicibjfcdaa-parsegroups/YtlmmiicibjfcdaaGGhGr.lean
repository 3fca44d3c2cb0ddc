/- parse: the tokens of a pattern in a group. A region that draws its order, by what is known of all answers together: each operation is looked at once, whatever the order. -/
import Derived.Test.YtlmmiicibjfcdaaPz
import Derived.Test.YtlmmiicibjfcdaaGGtAnGaGg
import Derived.Orders
import Derived.BigRegion
namespace Go.Proofs.Ytlmmiicibjfcdaa
open Go.RowKit
theorem fwd_r (a : Nat) (s : TokS) (fl : Fg) (h : s.er = 0) : (s.r.tp fl).Like ((s.fwd a).r.tp fl) := by
  unfold TokS.fwd
  rw [if_pos h]
  refine ⟨rfl, rfl, rfl, rfl, rfl, ?_⟩
  show chk s.k s.b s.P s.nt s.l s.m s.lz ((a + s.at_ : Nat) : Int) = chk s.k s.b s.P s.nt s.l s.m s.lz ((s.at_ : Nat) : Int)
  unfold chk
  rw [decide_eq_true (Int.natCast_nonneg _), decide_eq_true (Int.natCast_nonneg _)]
theorem close_word {z : Nat → Nat} {n : Nat} (hz : z n = 41) (d : Nat) : wl z (n + 1) (d + 1) n = [TokS.sgn 5 0 n (n + 1)] := by
  have e : wrd z (n + 1) n = TokS.sgn 5 0 n (n + 1) := by
    unfold wrd wrdS
    rw [hz, if_neg (by omega), if_neg (by omega), if_neg (by omega), if_neg (by omega)]
    unfold sgnS
    rw [hz]
    rfl
  rw [wl, if_neg (by omega), e]
  have e2 : wl z (n + 1) d (n + 1) = [] := by
    cases d with
    | zero => rfl
    | succ d => rw [wl, if_pos (by omega)]
  show _ :: (if (0 : Int) = 0 then wl z (n + 1) d (n + 1) else []) = _
  rw [if_pos rfl, e2]
/-- The words of a pattern in a group. -/
theorem grp_words {z y : Nat → Nat} {n a : Nat} (hz : z n = 41) (hy : (fun i => y (a + i)) = z) (ha : 0 < a) (hN : a + (n + 1) ≤ 1024) (hg : ∀ s, s ∈ wl z n 1100 0 → s.er = 0) (ho : wrd y (a + (n + 1)) 0 = TokS.sgn 4 0 0 a) :
    wl y (a + (n + 1)) 1100 0 = TokS.sgn 4 0 0 a :: ((wl z n 1100 0 ++ [TokS.sgn 5 0 n (n + 1)]).map (TokS.fwd a)) := by
  have e0 : wl y (a + (n + 1)) 1100 0 = TokS.sgn 4 0 0 a :: wl y (a + (n + 1)) 1099 a := by
    rw [wl, if_neg (by omega), ho]
    show _ :: (if (0 : Int) = 0 then wl y (a + (n + 1)) 1099 a else []) = _
    rw [if_pos rfl]
  have e1 : wl y (a + (n + 1)) 1099 a = (wl (fun i => y (a + i)) (n + 1) 1099 0).map (TokS.fwd a) := wl_sh (z := y) (n := n + 1) (a := a) 1099 0
  rw [hy] at e1
  have e2 := wl_app (z := z) (n := n + 1) (n' := n) (by omega) (by rw [hz]; decide) 1100 0 (by omega) (by omega) hg 1099 (0 + 1) (by omega) (by omega)
  rw [close_word hz] at e2
  rw [e0, e1, e2]
theorem nS_get {l : List TokS} {i : Nat} {s : TokS} (h : l[i]? = some s) : nS l i = s := by
  unfold nS
  rw [List.getD_eq_getElem?_getD, h]; rfl
theorem sgn_ok (fl : Fg) (k : Nat) (a b : Nat) (h : k = 4 ∨ k = 5) : ((TokS.sgn k 0 a b).r.tp fl).ok = true := by
  have h1 : (TokS.sgn k 0 a b).may = true := chk_sgn (.inr ⟨rfl, by omega⟩)
  exact h1
/-- A pattern that can be read can be read in a group, and is the same tree. -/
theorem grp_ok {z y : Nat → Nat} {n a : Nat} {fl : Fg} {l : List Nd} (hz : z n = 41) (hy : (fun i => y (a + i)) = z) (ha : 0 < a) (hN : a + (n + 1) ≤ 1024) (ho : wrd y (a + (n + 1)) 0 = TokS.sgn 4 0 0 a) (h : OkP z n fl l) : OkP y (a + (n + 1)) fl l := by
  have hw := grp_words hz hy ha hN h.2.1 ho
  have hm : ∀ i, i < (wl z n 1100 0).length → (wl z n 1100 0)[i]? = some (nS (wl z n 1100 0) i) := fun i hi => by
    rw [nS_get (List.getElem?_eq_getElem hi), List.getElem?_eq_getElem hi]
  refine ⟨hN, ?_, ?_⟩
  · rw [hw]
    intro s hs
    rcases List.mem_cons.1 hs with rfl | hs
    · rfl
    · obtain ⟨s', hs', rfl⟩ := List.mem_map.1 hs
      rw [fwd_er]
      rcases List.mem_append.1 hs' with h1 | h1
      · exact h.2.1 s' h1
      · obtain rfl : s' = TokS.sgn 5 0 n (n + 1) := by simpa using h1
        rfl
  · rw [hw]
    have hlen : (TokS.sgn 4 0 0 a :: ((wl z n 1100 0 ++ [TokS.sgn 5 0 n (n + 1)]).map (TokS.fwd a))).length = (wl z n 1100 0).length + 2 := by simp
    rw [hlen]
    refine toks_group (X := fun i => (nS (wl z n 1100 0) i).r.tp fl) ⟨?_, ?_, ?_, ?_, fun i hi => ?_⟩ (fun i _ => Int.natCast_nonneg _) h.2.2
    · rw [nS_get (s := TokS.sgn 4 0 0 a) rfl]; rfl
    · rw [nS_get (s := TokS.sgn 4 0 0 a) rfl]; exact sgn_ok fl 4 0 a (.inl rfl)
    · rw [nS_get (s := (TokS.sgn 5 0 n (n + 1)).fwd a) (by simp)]; rfl
    · rw [nS_get (s := (TokS.sgn 5 0 n (n + 1)).fwd a) (by simp)]; exact sgn_ok fl 5 (a + n) (a + (n + 1)) (.inr rfl)
    · rw [nS_get (i := i + 1) (s := (nS (wl z n 1100 0) i).fwd a) (by
        rw [List.getElem?_cons_succ, List.map_append, List.getElem?_append_left (by simpa using hi), List.getElem?_map, hm i hi]; rfl)]
      exact fwd_r a _ fl (h.2.1 _ (List.mem_of_getElem? (hm i hi)))
/-- A pattern that can be read does not begin with a ? . -/
theorem okp_head {z : Nat → Nat} {n : Nat} {fl : Fg} {l : List Nd} (hn : 0 < n) (h : OkP z n fl l) : z 0 ≠ 63 := by
  intro hz
  have hn' := h.1
  obtain ⟨cl, hp, _⟩ := toksS_parts h.2.2
  obtain ⟨ah, hr⟩ := prsE_run hp
  have e0 : wl z n 1100 0 = wrd z n 0 :: if (wrd z n 0).er = 0 then wl z n 1099 (wrd z n 0).en else [] := by rw [wl, if_neg (by omega)]
  have hk : (wrd z n 0).k = 7 := by
    have he := h.2.1 (wrd z n 0) (by rw [e0]; simp)
    unfold wrd wrdS at he ⊢
    rw [hz, if_neg (by omega), if_neg (by omega), if_neg (by omega), if_pos (by omega)] at he ⊢
    unfold rptS at he ⊢
    split at he
    · rename_i h1; exact absurd he h1
    · rename_i h1
      rw [if_neg h1]
      split <;> rfl
  have h1 : 1 ≤ (wl z n 1100 0).length := by rw [e0]; simp
  have hX : nS (wl z n 1100 0) 0 = wrd z n 0 := nS_get (by rw [e0]; rfl)
  have hk' : ((fun i => (nS (wl z n 1100 0) i).r.tp fl) 0).k = 7 := by
    show (nS (wl z n 1100 0) 0).k = 7
    rw [hX]; exact hk
  generalize (fun i => (nS (wl z n 1100 0) i).r.tp fl) = X at *
  obtain ⟨p, hp1⟩ := runP_le hr 1 h1
  obtain ⟨q, hq, hs⟩ := runP_prev hp1
  cases hq
  unfold stepP at hs
  split at hs
  · cases hs
  rw [if_neg (by omega), if_neg (by omega), if_neg (by omega)] at hs
  first
    | (rw [if_pos hk'] at hs; cases hs)
    | cases hs
end Go.Proofs.Ytlmmiicibjfcdaa
namespace Go.Proofs.Ytlmmiicibjfcdaa
open Go
section
variable {P : Program} {ops : Array Oper} {Q : Exit → Act → World → Prop}
/-- How many operations are left. -/
def left (ops : Array Oper) (listed : Array Bool) : Nat := ((List.range ops.size).filter fun j => !listed.getD j true).length
theorem filter_lt {p q : Nat → Bool} : ∀ (l : List Nat) (i : Nat), i ∈ l → (∀ j, q j = true → p j = true) → p i = true → q i = false → (l.filter q).length < (l.filter p).length
  | [], i, hi, _, _, _ => by cases hi
  | x :: l, i, hi, h, hp, hq => by
    have le : (l.filter q).length ≤ (l.filter p).length := by
      clear hi
      induction l with
      | nil => exact Nat.le_refl _
      | cons y l ih =>
        by_cases hy : q y = true
        · rw [List.filter_cons_of_pos hy, List.filter_cons_of_pos (h y hy)]; simpa using ih
        · rw [List.filter_cons_of_neg hy]
          by_cases hz : p y = true
          · rw [List.filter_cons_of_pos hz, List.length_cons]; omega
          · rw [List.filter_cons_of_neg hz]; exact ih
    by_cases hx : x = i
    · subst hx
      rw [List.filter_cons_of_pos hp, List.filter_cons_of_neg (by simp [hq]), List.length_cons]; omega
    · have hil : i ∈ l := by
        rcases List.mem_cons.1 hi with e | e
        · exact absurd e.symm hx
        · exact e
      have ih := filter_lt l i hil h hp hq
      by_cases hy : q x = true
      · rw [List.filter_cons_of_pos hy, List.filter_cons_of_pos (h x hy)]; simpa using ih
      · rw [List.filter_cons_of_neg hy]
        by_cases hz : p x = true
        · rw [List.filter_cons_of_pos hz, List.length_cons]; omega
        · rw [List.filter_cons_of_neg hz]; exact ih
/-- What is known: g tells each operation's answer. -/
structure KnownG (ops : Array Oper) (V : Nat → (Nat → Value) → World → Prop) (F : Act → Prop) (listed : Array Bool) (g : Nat → Value) (a : Act) (w : World) : Prop where
  fix : F a
  slot : ∀ (j : Nat) (o : Oper) (d : Tmp), ops[j]? = some o → o.dst = some d → listed.getD j false = true → a.tmps.getD d undef = g j
  val : ∀ (j : Nat) (o : Oper), ops[j]? = some o → listed.getD j false = true → V j g w
  shut : ∀ (j : Nat) (o : Oper), ops[j]? = some o → listed.getD j false = true → ∀ e ∈ o.after, Region.binds .any e = true → listed.getD e.on false = true
/-- What is asked of a region. -/
structure AskG (P : Program) (ops : Array Oper) (Q : Exit → Act → World → Prop) (C : World → Prop) (V : Nat → (Nat → Value) → World → Prop) (F : Act → Prop) (G : World → World → Prop) : Prop where
  keep : ∀ j g w w', V j g w → G w w' → V j g w'
  same : ∀ (j : Nat) (o : Oper) (g g' : Nat → Value) (w : World), ops[j]? = some o → g' j = g j → (∀ e ∈ o.after, Region.binds .any e = true → g' e.on = g e.on) → V j g w → V j g' w
  put : ∀ (i : Nat) (o : Oper) (d : Tmp) (v : Value) (a : Act), ops[i]? = some o → o.dst = some d → F a → F (a.put (some d) v) ∧ d < a.tmps.size
  apart : ∀ (i j : Nat) (oi oj : Oper) (d : Tmp), ops[i]? = some oi → ops[j]? = some oj → oi.dst = some d → oj.dst = some d → i = j
  back : ∀ (i : Nat) (o : Oper), ops[i]? = some o → ∀ e ∈ o.after, Region.binds .any e = true → e.on < i
  step : ∀ (i : Nat) (o : Oper), ops[i]? = some o → ∀ (a : Act) (w : World) (g : Nat → Value), C w → F a → (∀ e ∈ o.after, Region.binds .any e = true → V e.on g w ∧ ∀ (oj : Oper) (d : Tmp), ops[e.on]? = some oj → oj.dst = some d → a.tmps.getD d undef = g e.on) →
      wpOp P ops Q i (fun a' w' => ∃ v, a' = a.put o.dst v ∧ (∀ g' : Nat → Value, g' i = v → (∀ e ∈ o.after, Region.binds .any e = true → g' e.on = g e.on) → V i g' w') ∧ C w' ∧ G w w') a w
  done : ∀ (a : Act) (w : World) (g : Nat → Value), C w → F a → (∀ (j : Nat) (o : Oper) (d : Tmp), ops[j]? = some o → o.dst = some d → a.tmps.getD d undef = g j) → (∀ (j : Nat) (o : Oper), ops[j]? = some o → V j g w) → Q .normal a w
theorem any_ghost {C : World → Prop} {V : Nat → (Nat → Value) → World → Prop} {F : Act → Prop} {G : World → World → Prop} (H : AskG P ops Q C V F G) :
    ∀ fuel listed g a w, listed.size = ops.size → left ops listed ≤ fuel → C w → KnownG ops V F listed g a w → wpAny P .any ops Q fuel listed a w := by
  have hnone : ∀ listed : Array Bool, listed.size = ops.size → Region.ready .any ops listed = [] → ∀ j, j < ops.size → listed.getD j false = true := by
    intro listed hs hr j
    induction j using Nat.strongRecOn with
    | ind j ih =>
      intro hj
      apply Classical.byContradiction
      intro hl
      have hm : j ∈ Region.ready .any ops listed := by
        refine mem_ready.2 ⟨?_, ops[j], by simp [hj], fun e he' hb => ih e.on (H.back j ops[j] (by simp [hj]) e he' hb) (Nat.lt_trans (H.back j ops[j] (by simp [hj]) e he' hb) hj)⟩
        rw [Array.getD_eq_getD_getElem?] at hl ⊢
        rw [Array.getElem?_eq_getElem (by omega)] at hl ⊢
        simpa using hl
      rw [hr] at hm
      cases hm
  have hfin : ∀ listed g a w, listed.size = ops.size → C w → KnownG ops V F listed g a w → Region.ready .any ops listed = [] → Q .normal a w := fun listed g a w hs hC hK hr =>
    H.done a w g hC hK.fix (fun j oj d hj hdj => hK.slot j oj d hj hdj (hnone listed hs hr j (Array.getElem?_eq_some_iff.1 hj).1)) fun j oj hj => hK.val j oj hj (hnone listed hs hr j (Array.getElem?_eq_some_iff.1 hj).1)
  intro fuel
  induction fuel with
  | zero =>
    intro listed g a w hs hl hC hK
    have hr : Region.ready .any ops listed = [] := by
      rcases h : Region.ready .any ops listed with _ | ⟨j, t⟩
      · rfl
      · have hj : j ∈ Region.ready .any ops listed := by rw [h]; simp
        obtain ⟨hu, o, ho, _⟩ := mem_ready.1 hj
        have hm : j ∈ (List.range ops.size).filter fun j => !listed.getD j true := by
          rw [List.mem_filter]
          exact ⟨List.mem_range.2 (Array.getElem?_eq_some_iff.1 ho).1, by simp [hu]⟩
        have : ((List.range ops.size).filter fun j => !listed.getD j true) = [] := List.eq_nil_of_length_eq_zero (by unfold left at hl; omega)
        rw [this] at hm
        cases hm
    exact ⟨hr, hfin listed g a w hs hC hK hr⟩
  | succ fuel ih =>
    intro listed g a w hs hl hC hK
    refine ⟨hfin listed g a w hs hC hK, fun i hi => ?_⟩
    obtain ⟨hu, o, ho, hall⟩ := mem_ready.1 hi
    have hio := (Array.getElem?_eq_some_iff.1 ho).1
    have hnl : listed.getD i false = false := by
      rw [Array.getD_eq_getD_getElem?] at hu ⊢
      rw [Array.getElem?_eq_getElem (by omega)] at hu ⊢
      simpa using hu
    refine wpOp_mono ?_ (H.step i o ho a w g hC hK.fix fun e he' hb => ⟨?_, fun oj d hj hdj => hK.slot e.on oj d hj hdj (hall e he' hb)⟩)
    · rintro a' w' ⟨v, rfl, hv, hC', hG⟩
      have hne : ∀ j, listed.getD j false = true → j ≠ i := fun j hj e => by rw [e, hnl] at hj; cases hj
      have hset : ∀ j, (listed.setIfInBounds i true).getD j false = true → j = i ∨ listed.getD j false = true := fun j hj => by
        by_cases e : i = j
        · exact .inl e.symm
        · exact .inr (by rwa [getD_set_ne false e] at hj)
      refine ih (listed.setIfInBounds i true) (fun k => if k = i then v else g k) _ _ (by simpa using hs) ?_ hC' ⟨?_, fun j oj d hj hdj hjl => ?_, fun j oj hj hjl => ?_, fun j oj hj hjl e he' hb => ?_⟩
      · have : left ops (listed.setIfInBounds i true) < left ops listed := by
          refine filter_lt (List.range ops.size) i (List.mem_range.2 hio) (fun j hj => ?_) (by simp [hu]) ?_
          · by_cases hji : i = j
            · subst hji; simp [hu]
            · rwa [getD_set_ne true hji] at hj
          · have : (listed.setIfInBounds i true).getD i true = true := by
              rw [Array.getD_eq_getD_getElem?, Array.getElem?_setIfInBounds_self_of_lt (by omega)]; rfl
            simp [this]
        omega
      · cases hod : o.dst with
        | none => exact hK.fix
        | some d => exact (H.put i o d v a ho hod hK.fix).1
      · rcases hset j hjl with e | hjl2
        · subst e
          rw [ho] at hj
          obtain rfl := Option.some.inj hj
          rw [hdj]
          have hlt := (H.put j o d v a ho hdj hK.fix).2
          simp only [Act.put, Array.getD_eq_getD_getElem?, Array.getElem?_setIfInBounds_self_of_lt hlt]
          simp
        · have hji := hne j hjl2
          rw [if_neg hji, ← hK.slot j oj d hj hdj hjl2]
          cases hod : o.dst with
          | none => rfl
          | some d' =>
            have hdd : d' ≠ d := fun e => hji (H.apart j i oj o d hj ho hdj (by rw [hod, e]))
            simp only [Act.put, Array.getD_eq_getD_getElem?, Array.getElem?_setIfInBounds_ne hdd]
      · rcases hset j hjl with e | hjl2
        · subst e
          refine hv _ (by simp) fun e he' hb => ?_
          rw [ho] at hj
          have := hall e he' hb
          rw [if_neg (hne _ this)]
        · refine H.same j oj g _ w' hj (by rw [if_neg (hne j hjl2)]) (fun e he' hb => by rw [if_neg (hne _ (hK.shut j oj hj hjl2 e he' hb))]) (H.keep _ _ _ _ (hK.val j oj hj hjl2) hG)
      · rcases hset j hjl with e' | hjl2
        · subst e'
          rw [ho] at hj
          obtain rfl := Option.some.inj hj
          exact getD_set_true (hall e he' hb)
        · exact getD_set_true (hK.shut j oj hj hjl2 e he' hb)
    · obtain ⟨oj, hoj⟩ : ∃ oj, ops[e.on]? = some oj := ⟨ops[e.on]'(Nat.lt_trans (H.back i o ho e he' hb) hio), by simp⟩
      exact hK.val e.on oj hoj (hall e he' hb)
/-- THE LAW. -/
theorem wp_region_ghost {id : Nat} {a : Act} {w : World} (hm : P.follows .mixedOrders = true) {C : World → Prop} {V : Nat → (Nat → Value) → World → Prop} {F : Act → Prop} {G : World → World → Prop} (H : AskG P ops Q C V F G) (hC : C { w with drawn := w.drawn + 1 }) (hF : F a) : (Code.region id ops true).wp P Q a w := by
  have hz : ∀ j, (Array.replicate ops.size false).getD j false = false := fun j => by
    rw [Array.getD_eq_getD_getElem?, Array.getElem?_replicate]
    split <;> rfl
  refine wp_region_any hm (any_ghost H _ _ (fun _ => undef) _ _ (by simp) ?_ hC ⟨hF, fun j o d _ _ hl => ?_, fun j o _ hl => ?_, fun j o _ hl => ?_⟩)
  · unfold left
    have := List.length_filter_le (fun j => !(Array.replicate ops.size false).getD j true) (List.range ops.size)
    simpa using this
  · rw [hz] at hl; cases hl
  · rw [hz] at hl; cases hl
  · rw [hz] at hl; cases hl
end
section
variable {P : Program} {ops : Array Oper} {Q : Exit → Act → World → Prop} {i : Nat} {o : Oper} {a : Act} {w : World} {K : Act → World → Prop}
theorem op_value {v : Value} {w' : World} (hi : ops[i]? = some o) (hw : Region.wanted o (yielded ops a.tmps) = true) (hr : (execOp a.eval o).run P w = .ok (.value v) w') (hK : K (a.put o.dst v) w') : wpOp P ops Q i K a w := by
  unfold wpOp
  simp only [hi, hw, if_true]
  left
  unfold Oper.wp
  rw [hr]
  exact hK
end
end Go.Proofs.Ytlmmiicibjfcdaa
