/- A region that draws its order, inside a fence, by what is known of each operation's answer: each operation is looked at once, whatever the order; what holds of the world may hang on which operations are done. Parts, joined: what they make. A region that draws its order, in a round of a range over a function: by its plain walk. The round of Parts' iterator: its region. -/
import Derived.Orders
import Derived.OrdersIn
import Derived.Test.YthbmfnibgjlkhaaDoorNb
import Derived.Test.YthbmfnibgjlkhaaDoorJx
import Derived.Test.YthbmfnibgjlkhaaDoorGCnMoSu
import Derived.Deep.DeepCutAuto
import Derived.Test.YthbmfnibgjlkhaaDoorTail
import Derived.OwnWalkIn
import Derived.RangeFuncCalls
namespace Go.Proofs.YthbmfnibgjlkhaaDoor
open Go
section
variable {Fe : Fence} {nF : Nat} {P : Program} {ops : Array Oper} {Q : Exit → Act → World → Prop}
/-- How many operations are left. -/
def left (ops : Array Oper) (listed : Array Bool) : Nat := ((List.range ops.size).filter fun j => !listed.getD j true).length
theorem filter_lt {p q : Nat → Bool} : ∀ (l : List Nat) (i : Nat), i ∈ l → (∀ j, q j = true → p j = true) → p i = true → q i = false → (l.filter q).length < (l.filter p).length
  | [], i, hi, _, _, _ => by cases hi
  | x :: l, i, hi, h, hp, hq => by
    have le : (l.filter q).length ≤ (l.filter p).length := by
      clear hi
      induction l with
      | nil => exact Nat.le_refl _
      | cons y l ih =>
        by_cases hy : q y = true
        · rw [List.filter_cons_of_pos hy, List.filter_cons_of_pos (h y hy)]; simpa using ih
        · rw [List.filter_cons_of_neg hy]
          by_cases hz : p y = true
          · rw [List.filter_cons_of_pos hz, List.length_cons]; omega
          · rw [List.filter_cons_of_neg hz]; exact ih
    by_cases hx : x = i
    · subst hx
      rw [List.filter_cons_of_pos hp, List.filter_cons_of_neg (by simp [hq]), List.length_cons]; omega
    · have hil : i ∈ l := by
        rcases List.mem_cons.1 hi with e | e
        · exact absurd e.symm hx
        · exact e
      have ih := filter_lt l i hil h hp hq
      by_cases hy : q x = true
      · rw [List.filter_cons_of_pos hy, List.filter_cons_of_pos (h x hy)]; simpa using ih
      · rw [List.filter_cons_of_neg hy]
        by_cases hz : p x = true
        · rw [List.filter_cons_of_pos hz, List.length_cons]; omega
        · rw [List.filter_cons_of_neg hz]; exact ih
/-- What is known of the slots. -/
structure Known (ops : Array Oper) (V : Nat → Value → Array Bool → World → Prop) (F : Act → Prop) (listed : Array Bool) (a : Act) (w : World) : Prop where
  fix : F a
  val : ∀ (j : Nat) (o : Oper) (d : Tmp), ops[j]? = some o → o.dst = some d → listed.getD j false = true → V j (a.tmps.getD d undef) listed w
theorem anyIn_inv (C : Array Bool → World → Prop) (V : Nat → Value → Array Bool → World → Prop) (F : Act → Prop) (G : Array Bool → World → Array Bool → World → Prop)
    (hV : ∀ j v d w d' w', V j v d w → G d w d' w' → V j v d' w')
    (hF : ∀ (i : Nat) (o : Oper) (d : Tmp) (v : Value) (a : Act), ops[i]? = some o → o.dst = some d → F a → F (a.put (some d) v) ∧ d < a.tmps.size)
    (hd : ∀ (i j : Nat) (oi oj : Oper) (d : Tmp), ops[i]? = some oi → ops[j]? = some oj → oi.dst = some d → oj.dst = some d → i = j)
    (he : ∀ (i : Nat) (o : Oper), ops[i]? = some o → ∀ e ∈ o.after, e.on < i)
    (hstep : ∀ (i : Nat) (o : Oper), ops[i]? = some o → ∀ (dn : Array Bool) (a : Act) (w : World), dn.size = ops.size → dn.getD i true = false → C dn w → F a → (∀ (j : Nat) (oj : Oper) (d : Tmp), ops[j]? = some oj → oj.dst = some d → (∃ e ∈ o.after, Region.binds .any e = true ∧ e.on = j) → V j (a.tmps.getD d undef) dn w) →
      wpOpIn Fe nF P ops Q i (fun a' w' => ∃ v, a' = a.put o.dst v ∧ V i v (dn.setIfInBounds i true) w' ∧ C (dn.setIfInBounds i true) w' ∧ G dn w (dn.setIfInBounds i true) w') a w)
    (hend : ∀ (dn : Array Bool) (a : Act) (w : World), (∀ j, j < ops.size → dn.getD j false = true) → C dn w → F a → (∀ (j : Nat) (oj : Oper) (d : Tmp), ops[j]? = some oj → oj.dst = some d → V j (a.tmps.getD d undef) dn w) → Q .normal a w) :
    ∀ fuel listed a w, listed.size = ops.size → left ops listed ≤ fuel → C listed w → Known ops V F listed a w → wpAnyIn Fe nF P .any ops Q fuel listed a w := by
  have hnone : ∀ listed : Array Bool, listed.size = ops.size → Region.ready .any ops listed = [] → ∀ j, j < ops.size → listed.getD j false = true := by
    intro listed hs hr j
    induction j using Nat.strongRecOn with
    | ind j ih =>
      intro hj
      apply Classical.byContradiction
      intro hl
      have hm : j ∈ Region.ready .any ops listed := by
        refine mem_ready.2 ⟨?_, ops[j], by simp [hj], fun e he' _ => ih e.on (he j ops[j] (by simp [hj]) e he') (Nat.lt_trans (he j ops[j] (by simp [hj]) e he') hj)⟩
        rw [Array.getD_eq_getD_getElem?] at hl ⊢
        rw [Array.getElem?_eq_getElem (by omega)] at hl ⊢
        simpa using hl
      rw [hr] at hm
      cases hm
  have hfin : ∀ listed a w, listed.size = ops.size → C listed w → Known ops V F listed a w → Region.ready .any ops listed = [] → Q .normal a w := fun listed a w hs hC hK hr =>
    hend listed a w (hnone listed hs hr) hC hK.fix fun j oj d hj hdj => hK.val j oj d hj hdj (hnone listed hs hr j (Array.getElem?_eq_some_iff.1 hj).1)
  intro fuel
  induction fuel with
  | zero =>
    intro listed a w hs hl hC hK
    have hr : Region.ready .any ops listed = [] := by
      rcases h : Region.ready .any ops listed with _ | ⟨j, t⟩
      · rfl
      · have hj : j ∈ Region.ready .any ops listed := by rw [h]; simp
        obtain ⟨hu, o, ho, _⟩ := mem_ready.1 hj
        have hm : j ∈ (List.range ops.size).filter fun j => !listed.getD j true := by
          rw [List.mem_filter]
          exact ⟨List.mem_range.2 (Array.getElem?_eq_some_iff.1 ho).1, by simp [hu]⟩
        have : ((List.range ops.size).filter fun j => !listed.getD j true) = [] := List.eq_nil_of_length_eq_zero (by unfold left at hl; omega)
        rw [this] at hm
        cases hm
    exact ⟨hr, hfin listed a w hs hC hK hr⟩
  | succ fuel ih =>
    intro listed a w hs hl hC hK
    refine ⟨hfin listed a w hs hC hK, fun i hi => ?_⟩
    obtain ⟨hu, o, ho, hall⟩ := mem_ready.1 hi
    have hio := (Array.getElem?_eq_some_iff.1 ho).1
    refine wpOpIn_mono ?_ (hstep i o ho listed a w hs hu hC hK.fix fun j oj d hj hdj ⟨e, he', hb, hon⟩ => hK.val j oj d hj hdj (by rw [← hon]; exact hall e he' hb))
    rintro a' w' ⟨v, rfl, hv, hC', hG⟩
    refine ih _ _ _ (by simpa using hs) ?_ hC' ⟨?_, fun j oj d hj hdj hjl => ?_⟩
    · have : left ops (listed.setIfInBounds i true) < left ops listed := by
        refine filter_lt (List.range ops.size) i (List.mem_range.2 hio) (fun j hj => ?_) (by simp [hu]) ?_
        · by_cases hji : i = j
          · subst hji; simp [hu]
          · rwa [getD_set_ne true hji] at hj
        · have : (listed.setIfInBounds i true).getD i true = true := by
            rw [Array.getD_eq_getD_getElem?, Array.getElem?_setIfInBounds_self_of_lt (by omega)]; rfl
          simp [this]
      omega
    · cases hod : o.dst with
      | none => exact hK.fix
      | some d => exact (hF i o d v a ho hod hK.fix).1
    · by_cases hji : i = j
      · subst hji
        rw [ho] at hj
        obtain rfl := Option.some.inj hj
        rw [hdj]
        have hlt := (hF i o d v a ho hdj hK.fix).2
        simp only [Act.put, Array.getD_eq_getD_getElem?, Array.getElem?_setIfInBounds_self_of_lt hlt]
        exact hv
      · have hjl2 : listed.getD j false = true := by rwa [getD_set_ne false hji] at hjl
        have hw := hV j _ _ w _ w' (hK.val j oj d hj hdj hjl2) hG
        cases hod : o.dst with
        | none => exact hw
        | some d' =>
          have hne : d' ≠ d := fun e => hji (hd i j o oj d ho hj (by rw [hod, e]) hdj)
          simp only [Act.put, Array.getD_eq_getD_getElem?, Array.getElem?_setIfInBounds_ne hne]
          rw [← Array.getD_eq_getD_getElem?]
          exact hw
theorem wpIn_region_inv {id : Nat} {a : Act} {w : World} (hm : P.follows .mixedOrders = true) (C : Array Bool → World → Prop) (V : Nat → Value → Array Bool → World → Prop) (F : Act → Prop) (G : Array Bool → World → Array Bool → World → Prop)
    (hV : ∀ j v d w d' w', V j v d w → G d w d' w' → V j v d' w')
    (hF : ∀ (i : Nat) (o : Oper) (d : Tmp) (v : Value) (a : Act), ops[i]? = some o → o.dst = some d → F a → F (a.put (some d) v) ∧ d < a.tmps.size)
    (hd : ∀ (i j : Nat) (oi oj : Oper) (d : Tmp), ops[i]? = some oi → ops[j]? = some oj → oi.dst = some d → oj.dst = some d → i = j)
    (he : ∀ (i : Nat) (o : Oper), ops[i]? = some o → ∀ e ∈ o.after, e.on < i)
    (hC : C (Array.replicate ops.size false) { w with drawn := w.drawn + 1 }) (hFa : F a)
    (hstep : ∀ (i : Nat) (o : Oper), ops[i]? = some o → ∀ (dn : Array Bool) (a : Act) (w : World), dn.size = ops.size → dn.getD i true = false → C dn w → F a → (∀ (j : Nat) (oj : Oper) (d : Tmp), ops[j]? = some oj → oj.dst = some d → (∃ e ∈ o.after, Region.binds .any e = true ∧ e.on = j) → V j (a.tmps.getD d undef) dn w) →
      wpOpIn Fe nF P ops Q i (fun a' w' => ∃ v, a' = a.put o.dst v ∧ V i v (dn.setIfInBounds i true) w' ∧ C (dn.setIfInBounds i true) w' ∧ G dn w (dn.setIfInBounds i true) w') a w)
    (hend : ∀ (dn : Array Bool) (a : Act) (w : World), (∀ j, j < ops.size → dn.getD j false = true) → C dn w → F a → (∀ (j : Nat) (oj : Oper) (d : Tmp), ops[j]? = some oj → oj.dst = some d → V j (a.tmps.getD d undef) dn w) → Q .normal a w) :
    (Code.region id ops true).wpIn Fe nF P Q a w := by
  refine wpIn_region_any hm (anyIn_inv C V F G hV hF hd he hstep hend _ _ _ _ (by simp) ?_ hC ⟨hFa, fun j o d _ _ hl => ?_⟩)
  · unfold left
    have := List.length_filter_le (fun j => !(Array.replicate ops.size false).getD j true) (List.range ops.size)
    simpa using this
  · have : (Array.replicate ops.size false).getD j false = false := by
      rw [Array.getD_eq_getD_getElem?, Array.getElem?_replicate]
      split <;> rfl
    rw [this] at hl
    cases hl
end
end Go.Proofs.YthbmfnibgjlkhaaDoor
namespace Go.Proofs.YthbmfnibgjlkhaaDoor
open Go.RowKit Go.Shelf
set_option maxHeartbeats 400000 in
theorem joined_mk (ao : Option Addr) (n cap : Nat) (c : Int) (w : World) : Calls Tryd.prog 81 #[.slice ao n cap, .int .i64 c] w fun e w' => e = .returned (.func (.func 97) #[] #[.pointer (some ⟨w.heap.size, 0, none⟩), .pointer (some ⟨w.heap.size + 1, 0, none⟩)]) ∧ w' = (w.alloc (.cells #[.slice ao n cap] 46)).alloc (.cells #[.int .i64 c] 3) := by
  have hmf := mk_func
  go_enter Tryd.func81, Tryd.ntmps81
  go_wp2
  go_ret
  exact ⟨rfl, rfl⟩
/-- What Parts answers. -/
def RetPa (w : World) (x : Tre) (c : Int) (e : Ending) (w' : World) : Prop := ∃ (b2 b3 b5 bf : Nat) (ac : Addr) (ca : Nat), e = .returned (.func (.func 80) #[] #[.pointer (some ⟨b2, 0, none⟩), .pointer (some ⟨b3, 0, none⟩), .pointer (some ⟨b5, 0, none⟩)]) ∧ Cl w' b2 48 [.slice (some ac) x.size ca] ∧ RdN w' (some ac) x.size (nodes x) ∧ x.size ≤ ca ∧ Cl w' b3 3 [.int .i64 c] ∧ Cl w' b5 42 [.slice (some ⟨bf, 0, none⟩) x.size x.size] ∧ Cl w' bf 3 (ints (stF x) x.size) ∧ (w.heap.size ≤ b2 ∧ w.heap.size ≤ b3 ∧ w.heap.size ≤ b5 ∧ w.heap.size ≤ bf ∧ w.heap.size ≤ ac.block) ∧ Below w.heap.size w w'
set_option maxRecDepth 10000 in
set_option maxHeartbeats 2000000 in
theorem tparts_any (a : Option Addr) (n c : Nat) (F : Nat → Nd) (k : Int) (w : World) (ha : RdN w a n F) (hn : (n : Int) ≤ 9223372036854775807) (hca : n ≤ c) : Calls Tryd.prog 48 #[.agg #[.slice a n c], .int .i64 k] w (RetPa w (snd F n) k) := by
  obtain ⟨ox, sx⟩ := snd_ok F n
  have px := (snd F n).size_pos
  have hW0 := below2 w (.cells #[.slice a n c] 48) (.cells #[.int .i64 k] 3)
  have HA := sound_any a n c F _ (ha.below hW0) hn hca
  have ka : Cl ((w.alloc (.cells #[.slice a n c] 48)).alloc (.cells #[.int .i64 k] 3)) w.heap.size 48 [.slice a n c] := (Cl.new w 48 [.slice a n c]).alloc _
  have kk : Cl ((w.alloc (.cells #[.slice a n c] 48)).alloc (.cells #[.int .i64 k] 3)) (w.heap.size + 1) 3 [.int .i64 k] := by
    have := Cl.new (w.alloc (.cells #[.slice a n c] 48)) 3 [.int .i64 k]
    simpa only [World.size_alloc] using this
  have d0 := ka.cell 0 rfl
  have HC : Hid (∀ W (ad : Addr) cap, RdN W (some ad) (snd F n).size (nodes (snd F n)) → Calls Tryd.prog 79 #[.agg #[.slice (some ad) (snd F n).size cap]] W (RetT W (snd F n).size (nodes (snd F n)))) := fun W ad cap h => tclone_any (some ad) _ cap _ W h (by omega) (.inr ⟨ad, rfl⟩)
  have hmf := mk_func
  clear ha
  generalize snd F n = x at *
  go_enter Tryd.func48, Tryd.ntmps48
  go_upto_region 2 with (go_at_call 78; refine HA.mono ?_; rintro e w1 ⟨a1, cap1, b1, rfl, hr1, ⟨hb1, hcap1⟩, hc1, hB1⟩; have hsz1 := hB1.size; simp only [World.size_alloc] at hsz1 hb1; have kx := (ka.below hB1).alloc (.cells #[.slice none 0 0] 42); obtain ⟨d1, d2⟩ := kx.one; have ky := (Cl.new w1 42 [.slice none 0 0]).other (k := w.heap.size) (by omega) 0 (.slice (some a1) x.size cap1); obtain ⟨d3, d4⟩ := ky.one)
  have hbb1 := hc1.lt
  have k1 := (kx.set 0 (.slice (some a1) x.size cap1)).other (k := w1.heap.size) (by omega) 0 (.slice (some ⟨b1, 0, none⟩) x.size x.size)
  have k2 := (((kk.below hB1).alloc (.cells #[.slice none 0 0] 42)).other (k := w.heap.size) (by omega) 0 (.slice (some a1) x.size cap1)).other (k := w1.heap.size) (by omega) 0 (.slice (some ⟨b1, 0, none⟩) x.size x.size)
  have k3 := ky.set 0 (.slice (some ⟨b1, 0, none⟩) x.size x.size)
  have kF := ((hc1.alloc (.cells #[.slice none 0 0] 42)).other (k := w.heap.size) (by omega) 0 (.slice (some a1) x.size cap1)).other (k := w1.heap.size) (by omega) 0 (.slice (some ⟨b1, 0, none⟩) x.size x.size)
  have hrd := ((hr1.below (below1 w1 (.cells #[.slice none 0 0] 42))).put kx (.slice (some a1) x.size cap1)).put ky (.slice (some ⟨b1, 0, none⟩) x.size x.size)
  have hBV : Below w.heap.size w (((w1.alloc (.cells #[.slice none 0 0] 42)).setCell ⟨w.heap.size, 0, none⟩ (.slice (some a1) x.size cap1)).setCell ⟨w1.heap.size, 0, none⟩ (.slice (some ⟨b1, 0, none⟩) x.size x.size)) := (((hW0.trans (hB1.mono (by simp; omega))).alloc (by omega) _).setCell (p := ⟨w.heap.size, 0, none⟩) (Nat.le_refl _) _).setCell (p := ⟨w1.heap.size, 0, none⟩) (by simp; omega) _
  have hszV : (((w1.alloc (.cells #[.slice none 0 0] 42)).setCell ⟨w.heap.size, 0, none⟩ (.slice (some a1) x.size cap1)).setCell ⟨w1.heap.size, 0, none⟩ (.slice (some ⟨b1, 0, none⟩) x.size x.size)).heap.size = w1.heap.size + 1 := by simp
  simp only [List.set_cons_zero] at k1 k3
  clear d1 d2 d3 d4 kx ky hc1 hr1 hB1 ka kk hW0 HA d0
  generalize ((w1.alloc (.cells #[.slice none 0 0] 42)).setCell ⟨w.heap.size, 0, none⟩ (.slice (some a1) x.size cap1)).setCell ⟨w1.heap.size, 0, none⟩ (.slice (some ⟨b1, 0, none⟩) x.size x.size) = V at *
  generalize w1.heap.size = N1 at *
  have e0 := k1.cell 0 rfl
  have hC := HC.out V a1 cap1 hrd
  go_wp2_with (go_at_call 79; refine hC.mono ?_; rintro e w2 ⟨a2, c2, rfl, o2, b2⟩; have j1 := k1.below b2; obtain ⟨d1, d2⟩ := j1.one; obtain ⟨g, rfl, hgl, hgB, _⟩ := o2.cells px)
  go_ret
  have cc2 := ownsRow_cap o2
  have j1' := j1.set 0 (.slice (some ⟨g, 0, none⟩) x.size c2)
  simp only [List.set_cons_zero] at j1'
  exact ⟨w.heap.size, w.heap.size + 1, N1, b1, ⟨g, 0, none⟩, c2, rfl, j1', o2.rd.put j1 _, cc2, (k2.below b2).other (by omega) _ _, (k3.below b2).other (by omega) _ _, (kF.below b2).other (by omega) _ _, ⟨Nat.le_refl _, by omega, by omega, by omega, by have := hBV.size; dsimp only; omega⟩, (hBV.trans (b2.mono hBV.size)).setCell (p := ⟨w.heap.size, 0, none⟩) (Nat.le_refl _) _⟩
end Go.Proofs.YthbmfnibgjlkhaaDoor
namespace Go.Proofs.YthbmfnibgjlkhaaDoor
open Go
section
variable {P : Program} {ops : Array Oper} {md : Region.Mode} {C : World → Prop}
def Op.defers : Op → Bool
  | .defer _ => true
  | _ => false
def noDefer (l : List Oper) : Bool := l.all fun o => !Op.defers o.op
theorem noDefer_spec {l : List Oper} (h : noDefer l = true) {i : Nat} {o : Oper} (hi : l.toArray[i]? = some o) : ∀ c, o.op ≠ .defer c := by
  intro c e
  have hm : o ∈ l := by simpa using Array.mem_of_getElem? hi
  have := List.all_eq_true.1 h o hm
  rw [e] at this
  cases this
theorem rows_round {r n : Nat} {row : String} {args : Array Value} {w : World} {R : Value → World → Prop} (h : Rows P row args w R) : RowsIn (Fence.wide.inRound r) n P row args w R :=
  fun c cs _ => let ⟨v, w', x, s⟩ := h c cs; ⟨v, w', x, stepsIn_wide.2 s⟩
theorem calls_round {r n : Nat} {f : FuncId} {args : Array Value} {w : World} {R : Ending → World → Prop} (h : Calls P f args w R) : CallsIn (Fence.wide.inRound r) n P f args w R := CallsIn.inRound r (callsIn_wide.2 h)
theorem upon_round {r n : Nat} {o : Oper} {a : Act} {next next' : Act → World → Prop} {Q : Exit → Act → World → Prop} (hn : ∀ a w, next a w → next' a w) : ∀ res, o.upon P a next Q res → o.uponIn (Fence.wide.inRound r) n P a next' Q res := by
  intro res h
  cases res with
  | ok x w =>
    cases x with
    | enter f args => exact ⟨fun hd => (by cases hd), calls_round (Calls.mono h fun e w he => by cases e <;> first | exact hn _ _ he | exact he)⟩
    | row row args => exact ⟨fun hd => (by cases hd), rows_round (Rows.mono h fun _ _ he => hn _ _ he)⟩
    | round l f tmps assign body => exact h.elim
    | value v => exact hn _ _ h
    | skip => exact hn _ _ h
    | defer d => exact hn _ _ h
    | _ => exact h.elim
  | halt x w => cases x <;> exact h
theorem any_round {r n : Nat} {l : List Oper} {Q : Exit → Act → World → Prop} (hnd : noDefer l = true) (hL : ¬ LetsOut Q) : ∀ (fuel : Nat) (listed : Array Bool) (a : Act) (w : World), wpAny P md l.toArray Q fuel listed a w → wpAnyIn (Fence.wide.inRound r) n P md l.toArray Q fuel listed a w
  | 0, _, _, _, h => h
  | fuel + 1, listed, a, w, h => by
    refine ⟨h.1, fun i hi => ?_⟩
    have h2 := h.2 i hi
    unfold wpOp at h2
    unfold wpOpIn
    cases ho : l.toArray[i]? with
    | none => rw [ho] at h2; exact any_round hnd hL fuel _ _ _ h2
    | some o =>
      rw [ho] at h2
      dsimp only at h2 ⊢
      split
      · rename_i hw
        rw [if_pos hw] at h2
        rcases h2 with h2 | ⟨_, h2⟩
        · refine ⟨fun _ _ => trivial, ?_⟩
          rw [Oper.semAt_plain _ _ _ (noDefer_spec hnd ho)]
          exact upon_round (fun a w h => any_round hnd hL fuel _ a w h) _ h2
        · exact absurd h2 hL
      · rename_i hw
        rw [if_neg hw] at h2
        exact ⟨fun _ _ => trivial, any_round hnd hL fuel _ _ _ h2⟩
theorem round_quiet_tail {id r m : Nat} {Q : Exit → Act → World → Prop} {a : Act} {w : World} {l : List Oper} (n : Nat) (C : World → Prop) (hm : P.follows .mixedOrders = true) (hB : Region.lexTailB .any l.toArray n = true)
    (hnd : noDefer l = true) (hL : ¬ LetsOut Q) (hC : C { w with drawn := w.drawn + 1 })
    (h : wpQuiet P l.toArray C (fun a' => ∀ w', C w' → wpList P l.toArray Q (l.drop n) a' w') (l.take n) a) : (Code.region id l.toArray true).wpIn (Fence.wide.inRound r) m P Q a w := by
  simp only [Region.lexTailB, Bool.and_eq_true, decide_eq_true_eq] at hB
  obtain ⟨⟨⟨⟨hsel, hn⟩, hs⟩, hc⟩, hlex⟩ := hB
  have hn' : n < l.length := by simpa using hn
  have htl : (l.take n).length = n := by simp; omega
  have hdl : (l.drop n).length = l.toArray.size - n := by simp
  have inv0 : HeadInv .any l.toArray n (Array.replicate l.toArray.size false) :=
    ⟨by simp, fun j oj _ hl => (by rw [getD_replicate_false] at hl; cases hl), fun t _ ht => getD_in (by simpa using ht) (getD_replicate_false _ _)⟩
  have H := headQ_lex (md := .any) (g := l.toArray.size - n) hsel hs hc hn (l.take n) 0 _ a
    (fun j hj => by have hj' : j < n := by rw [htl] at hj; exact hj
                    simp [hj']) (by simpa using htl) inv0 (by rw [htl]; exact hlex) h
  have := any_of_headQ (Q := Q) (g := l.toArray.size - n) (fun d a' w' hw' hL => by
    have := wpAny_of_seq (md := .any) (Q' := Q) (l.drop n) n d a' w' (fun j => by simp [List.getElem?_drop]) (by rw [hdl]; exact hL.1) (hL.2 w' hw')
    rwa [hdl] at this) _ _ _ _ hC H
  rw [htl, show n + (l.toArray.size - n) = l.toArray.size by omega] at this
  exact wpIn_region_any hm (any_round hnd hL _ _ _ _ this)
end
end Go.Proofs.YthbmfnibgjlkhaaDoor
namespace Go.Proofs.YthbmfnibgjlkhaaDoor
open Go.RowKit Go.Shelf
theorem opIn_value {r n : Nat} {P : Program} {ops : Array Oper} {Q : Exit → Act → World → Prop} {i : Nat} {o : Oper} {a : Act} {w w' : World} {K : Act → World → Prop} {v : Value} (ho : ops[i]? = some o) (hg : o.guard = none) (hnd : ∀ c, o.op ≠ .defer c) (hrun : (execOp a.eval o).run P w = .ok (.value v) w') (hK : K (a.put o.dst v) w') : wpOpIn (Fence.wide.inRound r) n P ops Q i K a w := by
  unfold wpOpIn
  simp only [ho]
  rw [if_pos (by simp [Region.wanted, hg])]
  refine ⟨fun _ _ => trivial, ?_⟩
  rw [Oper.semAt_plain _ _ _ hnd, hrun]
  exact hK
theorem opIn_enter {r n : Nat} {P : Program} {ops : Array Oper} {Q : Exit → Act → World → Prop} {i : Nat} {o : Oper} {a : Act} {w w' : World} {K : Act → World → Prop} {f : FuncId} {args : Array Value} {R : Ending → World → Prop} (ho : ops[i]? = some o) (hg : o.guard = none) (hnd : ∀ c, o.op ≠ .defer c) (hrun : (execOp a.eval o).run P w = .ok (.enter f args) w') (hC : Calls P f args w' R) (hR : ∀ e w2, R e w2 → ∃ v, e = .returned v ∧ K (a.put o.dst v) w2) : wpOpIn (Fence.wide.inRound r) n P ops Q i K a w := by
  unfold wpOpIn
  simp only [ho]
  rw [if_pos (by simp [Region.wanted, hg])]
  refine ⟨fun _ _ => trivial, ?_⟩
  rw [Oper.semAt_plain _ _ _ hnd, hrun]
  refine ⟨fun hd => (by cases hd), calls_round (hC.mono fun e w2 h => ?_)⟩
  obtain ⟨v, rfl, hk⟩ := hR e w2 h
  exact hk
theorem opIn_round {r n l : Nat} {P : Program} {ops : Array Oper} {Q : Exit → Act → World → Prop} {i : Nat} {o : Oper} {a : Act} {w w' : World} {K : Act → World → Prop} {fn : FuncId} {tmps : Array Value} {assign body : Code} {R : Ending → World → Prop} (ho : ops[i]? = some o) (hg : o.guard = none) (hnd : ∀ c, o.op ≠ .defer c) (hrun : (execOp a.eval o).run P w = .ok (.round l fn tmps assign body) w') (hC : ∀ n', RoundIn (Fence.wide.inRound r) n' P l fn tmps assign body w' R) (hR : ∀ e w2, R e w2 → ∃ v, e = .returned v ∧ K (a.put o.dst v) w2) : wpOpIn (Fence.wide.inRound r) n P ops Q i K a w := by
  unfold wpOpIn
  simp only [ho]
  rw [if_pos (by simp [Region.wanted, hg])]
  refine ⟨fun _ _ => trivial, ?_⟩
  rw [Oper.semAt_plain _ _ _ hnd, hrun]
  refine ⟨fun hd => (by cases hd), (hC _).mono fun e w2 h => ?_⟩
  obtain ⟨v, rfl, hk⟩ := hR e w2 h
  exact hk
theorem round_any {n n' : Nat} {P : Program} {l r : Nat} {f : FuncId} {tmps : Array Value} {assign body : Code} {w : World} {R : Ending → World → Prop} (h : RoundIn Fence.wide n P l f tmps assign body w R) : RoundIn (Fence.wide.inRound r) n' P l f tmps assign body w R :=
  ⟨h.1, fun c cs _ => h.2 c cs (room_wide _)⟩
end Go.Proofs.YthbmfnibgjlkhaaDoor
