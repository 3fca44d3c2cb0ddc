/- A region that draws its order, in a round of a range over a function: by its plain walk. What is left of Mirror's texts here. Rows of values. Trees in blocks of their own, and what a write into one leaves of the others. -/
import Derived.Test.YtiiecppkabdkgabDoorGTailScWaWoWmWwMwMe
import Derived.OrdersIn
import Derived.OwnWalkIn
import Derived.RangeFuncCalls
import Derived.Test.YtiiecppkabdkgabDoorGTqBw
import Derived.Test.YtiiecppkabdkgabDoorGAnAqMiMj
import Derived.Test.YtiiecppkabdkgabDoorGMvEmGrJoRp
import Derived.Sort.CutIn
import Derived.Sort.BigQuietIn
import Derived.BigRegionIn
namespace Go.Proofs.YtiiecppkabdkgabDoor
open Go
section
variable {P : Program} {ops : Array Oper} {md : Region.Mode} {C : World → Prop}
def Op.defers : Op → Bool
  | .defer _ => true
  | _ => false
def noDefer (l : List Oper) : Bool := l.all fun o => !Op.defers o.op
theorem noDefer_spec {l : List Oper} (h : noDefer l = true) {i : Nat} {o : Oper} (hi : l.toArray[i]? = some o) : ∀ c, o.op ≠ .defer c := by
  intro c e
  have hm : o ∈ l := by simpa using Array.mem_of_getElem? hi
  have := List.all_eq_true.1 h o hm
  rw [e] at this
  cases this
theorem rows_round {r n : Nat} {row : String} {args : Array Value} {w : World} {R : Value → World → Prop} (h : Rows P row args w R) : RowsIn (Fence.wide.inRound r) n P row args w R :=
  fun c cs _ => let ⟨v, w', x, s⟩ := h c cs; ⟨v, w', x, stepsIn_wide.2 s⟩
theorem calls_round {r n : Nat} {f : FuncId} {args : Array Value} {w : World} {R : Ending → World → Prop} (h : Calls P f args w R) : CallsIn (Fence.wide.inRound r) n P f args w R := CallsIn.inRound r (callsIn_wide.2 h)
theorem upon_round {r n : Nat} {o : Oper} {a : Act} {next next' : Act → World → Prop} {Q : Exit → Act → World → Prop} (hn : ∀ a w, next a w → next' a w) : ∀ res, o.upon P a next Q res → o.uponIn (Fence.wide.inRound r) n P a next' Q res := by
  intro res h
  cases res with
  | ok x w =>
    cases x with
    | enter f args => exact ⟨fun hd => (by cases hd), calls_round (Calls.mono h fun e w he => by cases e <;> first | exact hn _ _ he | exact he)⟩
    | row row args => exact ⟨fun hd => (by cases hd), rows_round (Rows.mono h fun _ _ he => hn _ _ he)⟩
    | round l f tmps assign body => exact h.elim
    | value v => exact hn _ _ h
    | skip => exact hn _ _ h
    | defer d => exact hn _ _ h
    | _ => exact h.elim
  | halt x w => cases x <;> exact h
theorem any_round {r n : Nat} {l : List Oper} {Q : Exit → Act → World → Prop} (hnd : noDefer l = true) (hL : ¬ LetsOut Q) : ∀ (fuel : Nat) (listed : Array Bool) (a : Act) (w : World), wpAny P md l.toArray Q fuel listed a w → wpAnyIn (Fence.wide.inRound r) n P md l.toArray Q fuel listed a w
  | 0, _, _, _, h => h
  | fuel + 1, listed, a, w, h => by
    refine ⟨h.1, fun i hi => ?_⟩
    have h2 := h.2 i hi
    unfold wpOp at h2
    unfold wpOpIn
    cases ho : l.toArray[i]? with
    | none => rw [ho] at h2; exact any_round hnd hL fuel _ _ _ h2
    | some o =>
      rw [ho] at h2
      dsimp only at h2 ⊢
      split
      · rename_i hw
        rw [if_pos hw] at h2
        rcases h2 with h2 | ⟨_, h2⟩
        · refine ⟨fun _ _ => trivial, ?_⟩
          rw [Oper.semAt_plain _ _ _ (noDefer_spec hnd ho)]
          exact upon_round (fun a w h => any_round hnd hL fuel _ a w h) _ h2
        · exact absurd h2 hL
      · rename_i hw
        rw [if_neg hw] at h2
        exact ⟨fun _ _ => trivial, any_round hnd hL fuel _ _ _ h2⟩
theorem round_quiet_tail {id r m : Nat} {Q : Exit → Act → World → Prop} {a : Act} {w : World} {l : List Oper} (n : Nat) (C : World → Prop) (hm : P.follows .mixedOrders = true) (hB : Region.lexTailB .any l.toArray n = true)
    (hnd : noDefer l = true) (hL : ¬ LetsOut Q) (hC : C { w with drawn := w.drawn + 1 })
    (h : wpQuiet P l.toArray C (fun a' => ∀ w', C w' → wpList P l.toArray Q (l.drop n) a' w') (l.take n) a) : (Code.region id l.toArray true).wpIn (Fence.wide.inRound r) m P Q a w := by
  simp only [Region.lexTailB, Bool.and_eq_true, decide_eq_true_eq] at hB
  obtain ⟨⟨⟨⟨hsel, hn⟩, hs⟩, hc⟩, hlex⟩ := hB
  have hn' : n < l.length := by simpa using hn
  have htl : (l.take n).length = n := by simp; omega
  have hdl : (l.drop n).length = l.toArray.size - n := by simp
  have inv0 : HeadInv .any l.toArray n (Array.replicate l.toArray.size false) :=
    ⟨by simp, fun j oj _ hl => (by rw [getD_replicate_false] at hl; cases hl), fun t _ ht => getD_in (by simpa using ht) (getD_replicate_false _ _)⟩
  have H := headQ_lex (md := .any) (g := l.toArray.size - n) hsel hs hc hn (l.take n) 0 _ a
    (fun j hj => by have hj' : j < n := by rw [htl] at hj; exact hj
                    simp [hj']) (by simpa using htl) inv0 (by rw [htl]; exact hlex) h
  have := any_of_headQ (Q := Q) (g := l.toArray.size - n) (fun d a' w' hw' hL => by
    have := wpAny_of_seq (md := .any) (Q' := Q) (l.drop n) n d a' w' (fun j => by simp [List.getElem?_drop]) (by rw [hdl]; exact hL.1) (hL.2 w' hw')
    rwa [hdl] at this) _ _ _ _ hC H
  rw [htl, show n + (l.toArray.size - n) = l.toArray.size by omega] at this
  exact wpIn_region_any hm (any_round hnd hL _ _ _ _ this)
end
end Go.Proofs.YtiiecppkabdkgabDoor
namespace Go.Proofs.YtiiecppkabdkgabDoor
open Go.RowKit Go.Shelf
def zN : Nd := ⟨0, 0, 0, 0, 0, 0, 0, 0, 0, false⟩
theorem set_heap (A : World) (a : Addr) (v : Value) (k : Nat) (h : k ≠ a.block) : (A.setCell a v).heap[k]? = A.heap[k]? := Below.heap_setCell _ _ _ _ h
end Go.Proofs.YtiiecppkabdkgabDoor
namespace Go.Proofs.YtiiecppkabdkgabDoor
open Go.RowKit
def vals (M : Nat → Value) (n : Nat) : List Value := (List.range n).map M
theorem vals_len (M : Nat → Value) (n : Nat) : (vals M n).length = n := by simp [vals]
theorem vals_get (M : Nat → Value) {n i : Nat} (h : i < n) : (vals M n)[i]? = some (M i) := by simp [vals, h]
def updV (M : Nat → Value) (i : Nat) (v : Value) : Nat → Value := fun j => if j = i then v else M j
theorem vals_set (M : Nat → Value) (n i : Nat) (v : Value) : (vals M n).set i v = vals (updV M i v) n := by
  apply List.ext_getElem?
  intro q
  by_cases hq : q < n
  · rw [vals_get _ hq, List.getElem?_set]
    by_cases e : i = q
    · subst e; simp [vals_len, hq, updV]
    · rw [if_neg e, vals_get _ hq]; simp [updV, Ne.symm e]
  · rw [List.getElem?_eq_none (by simp [vals_len]; omega), List.getElem?_eq_none (by simp [vals_len]; omega)]
theorem b_tree : (Tryd.prog.info? 24).map (fun i => (i.zero, i.size, i.bytes)) = some (some (.agg #[.slice none 0 0]), 1, 24) := by kernel_rfl
end Go.Proofs.YtiiecppkabdkgabDoor
namespace Go.Proofs.YtiiecppkabdkgabDoor
open Go.RowKit
theorem own_block {W : World} {B : Nat} {ao : Option Addr} {n cap : Nat} {F : Nat → Nd} (h : OwN W B ao n cap F) {g : Nat} (hg : (Value.slice ao n cap).ownBlock = some g) : B ≤ g ∧ g < W.heap.size ∧ ao = some ⟨g, 0, none⟩ := by
  rcases h.2 with ⟨h', _⟩ | ⟨g', cap', cur, e, hB, hc, _⟩
  · rw [h'] at hg; simp [Value.ownBlock] at hg
  · rw [e] at hg
    have e2 : g' = g := by simpa [Value.ownBlock] using hg
    subst e2
    exact ⟨hB, (Array.getElem?_eq_some_iff.1 hc).1, by simpa using (show Value.slice ao n cap = Value.slice (some ⟨g', 0, none⟩) n cap' from e) |> fun h => by injection h⟩
theorem own_flip {W : World} {B g n cap : Nat} {F : Nat → Nd} (h : OwN W B (some ⟨g, 0, none⟩) n cap F) {j : Nat} (hj : j < n) (x : Int) : OwN (W.setCell ⟨g, j * 10, none⟩ (.int .i64 x)) B (some ⟨g, 0, none⟩) n cap (updN F j { F j with k := x }) ∧ W.cell? ⟨g, j * 10, none⟩ = some (.int .i64 (F j).k) ∧ W.frozen? ⟨g, j * 10, none⟩ = false := by
  rcases h.2 with ⟨h', _⟩ | ⟨g', cap', cur, e, hB, hc, hle, hmx, hsz, ht⟩
  · cases h'
  · obtain ⟨rfl, rfl⟩ : g = g' ∧ cap = cap' := by
      injection e with e1 e2 e3
      injection e1 with e1
      injection e1 with e1
      exact ⟨e1, e3⟩
    have hcl : Cl W g 43 cur.toList := by unfold Cl; simpa using hc
    have hlen : j * 10 < cur.toList.length := by simp; omega
    have h0 : (ndsL F n)[j * 10]? = some (.int .i64 (F j).k) := by
      have := ndsL_get F n j 0 hj (by decide)
      simpa [ndL] using this
    have hcell : cur.toList[j * 10]? = some (.int .i64 (F j).k) := by
      rw [← ht, List.getElem?_take_of_lt (by omega)] at h0
      exact h0
    refine ⟨⟨ndsL_len _ n, .inr ⟨g, cap, (cur.toList.set (j * 10) (.int .i64 x)).toArray, rfl, hB, ?_, hle, hmx, by simpa using hsz, ?_⟩⟩, hcl.cell _ hcell, hcl.frozen _⟩
    · exact hcl.set (j * 10) (.int .i64 x)
    · have := ndsL_set F n j 0 (.int .i64 x) { F j with k := x } hj (by decide) (by simp [ndL])
      rw [Nat.add_zero] at this
      rw [← this, ← ht]
      simp [List.take_set]
theorem own_other {W : World} {B : Nat} {ao : Option Addr} {n cap : Nat} {F : Nat → Nd} (h : OwN W B ao n cap F) {g : Nat} (hg : ∀ g', (Value.slice ao n cap).ownBlock = some g' → g' ≠ g) (i : Nat) (v : Value) : OwN (W.setCell ⟨g, i, none⟩ v) B ao n cap F := by
  refine ⟨h.1, ?_⟩
  rcases h.2 with h' | ⟨g', cap', cur, e, hB, hc, r⟩
  · exact .inl h'
  · refine .inr ⟨g', cap', cur, e, hB, ?_, r⟩
    rw [set_heap _ _ _ _ (hg g' (by rw [e]; simp [Value.ownBlock]))]
    exact hc
theorem own_below {W W' : World} {B : Nat} {ao : Option Addr} {n cap : Nat} {F : Nat → Nd} (h : OwN W B ao n cap F) (hb : Below W.heap.size W W') : OwN W' B ao n cap F := ownsRow_below h hb
/-- A list of trees, each in a block of its own. -/
structure Sv (LB B : Nat) (L : List Value) (W : World) : Prop where
  list : Cl W LB 24 L
  own : ∀ v ∈ L, ∃ ao n cap F, v = .slice ao n cap ∧ OwN W B ao n cap F ∧ (n : Int) ≤ 9223372036854775806
  rise : L.Pairwise fun v u => ∀ g g', v.ownBlock = some g → u.ownBlock = some g' → g < g'
  lt : ∀ v ∈ L, ∀ g, v.ownBlock = some g → g < LB
theorem Sv.below {LB B : Nat} {L : List Value} {W W' : World} (h : Sv LB B L W) (hb : Below W.heap.size W W') : Sv LB B L W' :=
  ⟨h.list.below hb, fun v hv => let ⟨ao, n, cap, F, e, ho, hn⟩ := h.own v hv; ⟨ao, n, cap, F, e, own_below ho hb, hn⟩, h.rise, h.lt⟩
theorem Sv.flip {LB B : Nat} {L : List Value} {W : World} (h : Sv LB B L W) {k g n cap : Nat} (hk : L[k]? = some (.slice (some ⟨g, 0, none⟩) n cap)) {j : Nat} (hj : j < n) (x : Int) : Sv LB B L (W.setCell ⟨g, j * 10, none⟩ (.int .i64 x)) := by
  have hmem : Value.slice (some ⟨g, 0, none⟩) n cap ∈ L := List.mem_of_getElem? hk
  have hgb : (Value.slice (some ⟨g, 0, none⟩) n cap).ownBlock = some g := by simp [Value.ownBlock]
  have hlt := h.lt _ hmem g hgb
  refine ⟨h.list.other (by omega) _ _, fun v hv => ?_, h.rise, h.lt⟩
  obtain ⟨ao, n', cap', F, rfl, ho, hn⟩ := h.own v hv
  by_cases e : (Value.slice ao n' cap').ownBlock = some g
  · obtain ⟨i, hi⟩ := List.getElem?_of_mem hv
    have hil := (List.getElem?_eq_some_iff.1 hi)
    have hkl := (List.getElem?_eq_some_iff.1 hk)
    have hik : i = k := by
      have hp := List.pairwise_iff_getElem.1 h.rise
      rcases Nat.lt_trichotomy i k with hlt' | heq | hlt'
      · have := hp i k hil.1 hkl.1 hlt' g g (by rw [hil.2]; exact e) (by rw [hkl.2]; exact hgb)
        omega
      · exact heq
      · have := hp k i hkl.1 hil.1 hlt' g g (by rw [hkl.2]; exact hgb) (by rw [hil.2]; exact e)
        omega
    subst hik
    rw [hk] at hi
    have hi' := Option.some.inj hi
    injection hi' with e1 e2 e3
    subst e1 e2 e3
    exact ⟨_, _, _, _, rfl, (own_flip ho hj x).1, hn⟩
  · exact ⟨_, _, _, F, rfl, own_other ho (fun g' hg' => by rintro rfl; exact e hg') _ _, hn⟩
end Go.Proofs.YtiiecppkabdkgabDoor
