/- A region that draws its order, whose first operation is a move that nothing but its end waits for: that one first, then as in Tail. parse: wrongAnchor: the walk. -/
import Derived.Test.YtlmmiicibjfcdaaQ01
import Derived.Test.YtlmmiicibjfcdaaQ20
namespace Go.Proofs.Ytlmmiicibjfcdaa
open Go
section
variable {P : Program} {ops : Array Oper} {md : Region.Mode} {C : World → Prop}
def sinkFrom (md : Region.Mode) (ops : Array Oper) (m n : Nat) : Bool :=
  (List.range n).all fun i => decide (i < m) || (List.range (n + 1)).any fun j => decide (i < j) && Region.waitsFor md ops j i
theorem tail_from {m n : Nat} {listed : Array Bool} (hs : sinkFrom md ops m n = true) (hc : Region.chainB md ops n = true) (hn : n < ops.size) (inv : HeadInv md ops n listed) :
    ∀ (d i : Nat), n - i = d → m ≤ i → i < n → listed.getD i true = false → ∀ t, n ≤ t → t ∉ Region.ready md ops listed := by
  intro d
  induction d using Nat.strongRecOn with
  | _ d ih =>
    intro i hd hmi hi hun t ht hr
    obtain ⟨_, ot, hot, hall⟩ := mem_ready.1 hr
    have htlt : t < ops.size := (Array.getElem?_eq_some_iff.1 hot).1
    by_cases htn : t = n
    · subst htn
      have h0 := List.all_eq_true.1 hs i (List.mem_range.2 hi)
      simp only [Bool.or_eq_true, decide_eq_true_eq] at h0
      have h1 : ((List.range (t + 1)).any fun j => decide (i < j) && Region.waitsFor md ops j i) = true := by
        rcases h0 with h0 | h0
        · omega
        · exact h0
      obtain ⟨j, hj, hj2⟩ := List.any_eq_true.1 h1
      simp only [Bool.and_eq_true, decide_eq_true_eq] at hj2
      obtain ⟨oj, hoj, e, he, hb, hon⟩ := Region.waitsFor_spec hj2.2
      have hjle : j ≤ t := by have := List.mem_range.1 hj; omega
      by_cases hjt : j = t
      · subst hjt
        have : oj = ot := Option.some.inj (hoj.symm.trans hot)
        subst this
        have h2 := hall e he hb
        rw [hon, getD_both hun] at h2
        cases h2
      · cases hl : listed.getD j false with
        | true =>
          have h2 := inv.closed j oj hoj hl e he hb
          rw [hon, getD_both hun] at h2
          cases h2
        | false =>
          have hjs : j < listed.size := by rw [inv.size]; omega
          exact ih (t - j) (by omega) j rfl (by omega) (by omega) (getD_in hjs hl) t (Nat.le_refl _) hr
    · have h1 := List.all_eq_true.1 hc t (List.mem_range.2 htlt)
      simp only [Bool.or_eq_true, decide_eq_true_eq] at h1
      rcases h1 with h1 | h1
      · omega
      · obtain ⟨o', ho', e, he, hb, hon⟩ := Region.waitsFor_spec h1
        have : o' = ot := Option.some.inj (ho'.symm.trans hot)
        subst this
        have h2 := hall e he hb
        rw [hon, getD_both (inv.tail (t - 1) (by omega) (by omega))] at h2
        cases h2
theorem headQ_from {m n i : Nat} {oi : Oper} {v : Value} {L : Array Bool → Act → Prop} (hi : ops[i]? = some oi) (hsel : ∀ (j : Nat) (o : Oper) cs b, ops[j]? = some o → o.op ≠ .select cs b)
    (hs : sinkFrom md ops m n = true) (hc : Region.chainB md ops n = true) (hn : n < ops.size) (hmi : m ≤ i) (hin : i < n)
    (hend : ∀ done a, L done a → ∀ j ∈ Region.ready md ops done, n ≤ j) :
    ∀ (f : Nat) (done : Array Bool) (a : Act), HeadInv md ops n done →
      (∀ j oj, ops[j]? = some oj → j ≠ i → done.getD j true = false → (∀ e ∈ oj.after, Region.binds md e = true → e.on ≠ i) → oi.apart ops oj = true) →
      i ∈ Region.ready md ops done → YieldsIn P ops C oi v a → headQ P md ops C n L f (done.setIfInBounds i true) (a.put oi.dst v) → headQ P md ops C n L (f + 1) done a := by
  intro f
  induction f with
  | zero =>
    intro done a inv _ hr hy H
    refine ⟨fun h => (by rw [h] at hr; cases hr), fun j hj => ?_⟩
    have hjn : j < n := Nat.lt_of_not_le fun h => tail_from hs hc hn inv _ i rfl hmi hin (mem_ready.1 hr).1 j h hj
    refine ⟨hjn, ?_⟩
    by_cases hji : j = i
    · subst hji; exact hy.qOp hi H
    · exact absurd (hend _ _ H j (ready_mono hj hji)) (by omega)
  | succ f ih =>
    intro done a inv hfree hr hy H
    have hun := (mem_ready.1 hr).1
    refine ⟨fun h => (by rw [h] at hr; cases hr), fun j hj => ?_⟩
    have hjn : j < n := Nat.lt_of_not_le fun h => tail_from hs hc hn inv _ i rfl hmi hin hun j h hj
    refine ⟨hjn, ?_⟩
    by_cases hji : j = i
    · subst hji; exact hy.qOp hi H
    · obtain ⟨hjun, oj, hoj, hall⟩ := mem_ready.1 hj
      have hnot : ∀ e ∈ oj.after, Region.binds md e = true → e.on ≠ i := fun e he hb heq => by
        have := hall e he hb
        rw [heq, getD_both hun] at this
        cases this
      have h2 := qOp_put hoj (hfree j oj hoj hji hjun hnot) (fun cs b => hsel i oi cs b hi) (fun cs b => hsel j oj cs b hoj) hy (H.2 j (ready_mono hj hji)).2
      refine qOp_mono (fun a' h3 => ih (done.setIfInBounds j true) a' (inv.set hj hjn) (fun k ok hk hki hu hno => hfree k ok hk hki ?_ hno) (ready_mono hr (Ne.symm hji)) h3.1 ?_) h2
      · by_cases hjk : j = k
        · subst hjk; exact hjun
        · rw [getD_set_ne true hjk] at hu; exact hu
      · rw [Array.setIfInBounds_comm _ _ hji]; exact h3.2
theorem headQ_lexf {m n g : Nat} {Lq : Act → Prop} (hsel : Region.noSelect ops = true) (hs : sinkFrom md ops m n = true) (hc : Region.chainB md ops n = true) (hn : n < ops.size) :
    ∀ (l : List Oper) (k : Nat) (done : Array Bool) (a : Act), m ≤ k → (∀ j, j < l.length → l[j]? = ops[k + j]?) → k + l.length = n → HeadInv md ops n done →
      Region.lexHead md ops g l.length k done = true → wpQuiet P ops C Lq l a → headQ P md ops C n (fun d a' => Region.seqB md ops g n d = true ∧ Lq a') l.length done a := by
  intro l
  induction l with
  | nil =>
    intro k done a _ _ hk _ hB h
    obtain rfl : k = n := by simpa using hk
    exact ⟨by simpa [Region.lexHead] using hB, h⟩
  | cons o l ih =>
    intro k done a hmk hl hk inv hB h
    have h0 : ops[k]? = some o := by simpa using (hl 0 (by simp)).symm
    simp only [List.length_cons, Region.lexHead, Bool.and_eq_true] at hB
    simp only [List.length_cons] at hk
    have hr : k ∈ Region.ready md ops done := by simpa using hB.1.1
    obtain ⟨v, hy, hK⟩ := yieldsIn_of_qOp (i := k) (K := wpQuiet P ops C Lq l) h0 (by unfold qOp; simp only [h0]; exact h)
    refine headQ_from h0 (Region.noSelect_spec hsel) hs hc hn hmk (by omega) (fun d a' hL => seqB_ready hL.1) l.length done a inv (Region.free_spec h0 hB.1.2) hr hy ?_
    exact ih (k + 1) _ _ (by omega) (fun j hj => by have := hl (j + 1) (by simp; omega); simpa [Nat.add_assoc, Nat.add_comm 1 j] using this) (by omega) (inv.set hr (by omega)) hB.2 hK
def lexTail1B (ops : Array Oper) (n : Nat) : Bool :=
  Region.noSelect ops && decide (0 < n) && decide (n < ops.size) && sinkFrom .any ops 1 n && Region.chainB .any ops n && (Region.ready .any ops (Array.replicate ops.size false)).contains 0 && Region.free .any ops (Array.replicate ops.size false) 0 &&
    Region.lexHead .any ops (ops.size - n) (n - 1) 1 ((Array.replicate ops.size false).setIfInBounds 0 true)
/-- THE LAW: the first operation, whatever the world; those up to n quiet in C, in the text's order; then the last ones. -/
theorem wp_region_quiet_tail1 {id : Nat} {Q : Exit → Act → World → Prop} {a : Act} {w : World} {o0 : Oper} {v0 : Value} {l : List Oper} (n : Nat) (C : World → Prop) (hm : P.follows .mixedOrders = true) (hB : lexTail1B (o0 :: l).toArray n = true)
    (hy : Yields P (o0 :: l).toArray o0 v0 a) (hQ : ∀ c a w, Q (.panic c) (a.put o0.dst v0) w → Q (.panic c) a w)
    (hC : C { w with drawn := w.drawn + 1 })
    (h : wpQuiet P (o0 :: l).toArray C (fun a' => ∀ w', C w' → wpList P (o0 :: l).toArray Q (l.drop (n - 1)) a' w') (l.take (n - 1)) (a.put o0.dst v0)) : (Code.region id (o0 :: l).toArray true).wp P Q a w := by
  simp only [lexTail1B, Bool.and_eq_true, decide_eq_true_eq] at hB
  obtain ⟨⟨⟨⟨⟨⟨⟨hsel, hn0⟩, hn⟩, hs⟩, hc⟩, hr0⟩, hf0⟩, hlex⟩ := hB
  have hn' : n < l.length + 1 := by simpa using hn
  have htl : (l.take (n - 1)).length = n - 1 := by simp; omega
  have hsz : (o0 :: l).toArray.size = l.length + 1 := by simp
  have hdl : (l.drop (n - 1)).length = (o0 :: l).toArray.size - n := by simp; omega
  have inv0 : HeadInv .any (o0 :: l).toArray n (Array.replicate (o0 :: l).toArray.size false) :=
    ⟨by simp, fun j oj _ hl => (by rw [getD_replicate_false] at hl; cases hl), fun t _ ht => getD_in (by simpa using ht) (getD_replicate_false _ _)⟩
  have hr0' : 0 ∈ Region.ready .any (o0 :: l).toArray (Array.replicate (o0 :: l).toArray.size false) := by simpa using hr0
  have inv1 := inv0.set hr0' hn0
  have H := headQ_lexf (md := .any) (g := (o0 :: l).toArray.size - n) (m := 1) hsel hs hc hn (l.take (n - 1)) 1 _ (a.put o0.dst v0) (Nat.le_refl 1)
    (fun j hj => by
      have hj' : j < n - 1 := by rw [htl] at hj; exact hj
      rw [List.getElem?_take_of_lt hj']
      simp [Nat.add_comm 1 j]) (by rw [htl]; omega) inv1 (by rw [htl]; exact hlex) h
  have hA := any_of_headQ (Q := Q) (g := (o0 :: l).toArray.size - n) (fun d a' w' hw' hL => by
    have := wpAny_of_seq (md := .any) (Q' := Q) (l.drop (n - 1)) n d a' w' (fun j => by
      rw [List.getElem?_drop]
      have : n + j = (n - 1 + j) + 1 := by omega
      simp [this]) (by rw [hdl]; exact hL.1) (hL.2 w' hw')
    rwa [hdl] at this) _ _ _ _ hC H
  rw [htl, show n - 1 + ((o0 :: l).toArray.size - n) = l.length by rw [hsz]; omega] at hA
  refine wp_region_any hm ?_
  rw [hsz]
  exact wpAny_take (i := 0) (by simp) hsel hf0 hr0 hQ hy hA
end
end Go.Proofs.Ytlmmiicibjfcdaa
namespace Go.Proofs.Ytlmmiicibjfcdaa
open Go.RowKit
set_option maxRecDepth 10000 in
set_option maxHeartbeats 8000000 in
theorem wrong_any (ao : Option Addr) (n cap : Nat) (F : Nat → TkR) (fl : Fg) (w : World) (hr : RdK w ao n F) (hn : n ≤ 3000) (cl : Nat → Int) (hp : prsE (fun i => (F i).tp fl) n = .ok cl) (cb : Nat) (hcb : Cl w cb 3 (clC cl n)) : Calls Try.prog 23 #[.slice ao n cap, .slice (some ⟨cb, 0, none⟩) n n] w (RetI3 w (wrgA (fun i => (F i).tp fl) n cl)) := by
  obtain ⟨⟨sE, hsE⟩, hcl⟩ := prsE_cl hp
  have hR0 : RM w [(true, true)] (.slice (some ⟨w.heap.size, 0, none⟩) 1 1) (w.alloc (.cells #[.bool true, .bool true] 83)) := ⟨bel1 w _, World.ownsRow_lit w _ 1 (Nat.le_refl _) (by decide) rfl⟩
  clear hp
  go_enter Try.func23, Try.ntmps23
  go_wp2_with fail
  go_loopw [5, 14] (fun ov i wr => ∃ k rs, k ≤ n ∧ i = .int .i64 (k : Nat) ∧ Hid (runA (fun i => (F i).tp fl) n cl k = .ok rs) ∧ Hid (RM w rs ov wr)) (fun _ i _ => n - (intOf i).toNat)
  case atStart => exact ⟨0, _, Nat.zero_le _, rfl, (rfl : runA (fun i => (F i).tp fl) n cl 0 = .ok [(true, true)]), hR0⟩
  case round =>
    clear hR0
    obtain ⟨k, rs, hk, rfl, hA, hI⟩ := hrel
    by_cases hlt : k < n
    · obtain ⟨bb, off, rfl, hbb, hc⟩ := hr.at_ (by omega)
      have hki : (k : Int) < (n : Int) := by omega
      have hcs := hc k hlt
      obtain ⟨p, hpk⟩ := runP_le hsE k (by omega)
      have hln := runA_len hpk hA.out
      have hopl := (runP_op hpk).1
      obtain ⟨a, b, r, rfl⟩ : ∃ a b r, rs = (a, b) :: r := by
        cases rs with
        | nil => simp at hln
        | cons x r => exact ⟨x.1, x.2, r, rfl⟩
      obtain ⟨g, oc, rfl⟩ : ∃ g oc, u5 = .slice (some ⟨g, 0, none⟩) ((a, b) :: r).length oc := by
        rcases hI.out.row.2 with ⟨hv, h0⟩ | ⟨g, cp, cur, hv, _⟩
        · cases h0
        · exact ⟨g, cp, hv⟩
      have hcap : ((a, b) :: r).length ≤ oc := by
        rcases hI.out.row.2 with ⟨hv, _⟩ | ⟨g', cap', cur, hv, _, _, hn', _⟩
        · cases hv
        · cases hv; exact hn'
      have hst := runA_step hA.out
      have hI1 := hI.out.below (bel1 wr (.cells #[.int .i64 (F k).k, .int .u8 ((F k).b : Nat), .int .u64 ((F k).a0 : Nat), .int .u64 ((F k).a1 : Nat), .int .u64 ((F k).a2 : Nat), .int .u64 ((F k).a3 : Nat), .bool (F k).nt, .int .i64 (F k).l, .int .i64 (F k).m, .bool (F k).lz, .int .i64 (F k).t] 42))
      have hI2 := hI1.below (bel1 (wr.alloc (.cells #[.int .i64 (F k).k, .int .u8 ((F k).b : Nat), .int .u64 ((F k).a0 : Nat), .int .u64 ((F k).a1 : Nat), .int .u64 ((F k).a2 : Nat), .int .u64 ((F k).a3 : Nat), .bool (F k).nt, .int .i64 (F k).l, .int .i64 (F k).m, .bool (F k).lz, .int .i64 (F k).t] 42)) (.cells #[.bool a, .bool b] 83))
      have t0 : (wr.alloc (.cells #[.int .i64 (F k).k, .int .u8 ((F k).b : Nat), .int .u64 ((F k).a0 : Nat), .int .u64 ((F k).a1 : Nat), .int .u64 ((F k).a2 : Nat), .int .u64 ((F k).a3 : Nat), .bool (F k).nt, .int .i64 (F k).l, .int .i64 (F k).m, .bool (F k).lz, .int .i64 (F k).t] 42)).cell? ⟨g, r.length * 2, none⟩ = some (.bool a) := by
        rw [hI1.row.cellAt _ (by simp), rmC_cons, List.getElem?_append_right (by rw [rmC_len]; omega), rmC_len]
        simp [rmL]
      have t1 : (wr.alloc (.cells #[.int .i64 (F k).k, .int .u8 ((F k).b : Nat), .int .u64 ((F k).a0 : Nat), .int .u64 ((F k).a1 : Nat), .int .u64 ((F k).a2 : Nat), .int .u64 ((F k).a3 : Nat), .bool (F k).nt, .int .i64 (F k).l, .int .i64 (F k).m, .bool (F k).lz, .int .i64 (F k).t] 42)).cell? ⟨g, r.length * 2 + 1, none⟩ = some (.bool b) := by
        rw [hI1.row.cellAt _ (by simp; omega), rmC_cons, List.getElem?_append_right (by rw [rmC_len]; omega), rmC_len]
        simp [rmL]
      obtain ⟨c0, c1, c2, c3, c4, c5, c6, c7, c8, c9, c10⟩ := hcs
      rw [← hI.out.bel.cell (p := ⟨bb, off + k * 11, none⟩) hbb] at c0
      rw [← hI.out.bel.cell (p := ⟨bb, off + k * 11 + 1, none⟩) hbb] at c1
      rw [← hI.out.bel.cell (p := ⟨bb, off + k * 11 + 2, none⟩) hbb] at c2
      rw [← hI.out.bel.cell (p := ⟨bb, off + k * 11 + 3, none⟩) hbb] at c3
      rw [← hI.out.bel.cell (p := ⟨bb, off + k * 11 + 4, none⟩) hbb] at c4
      rw [← hI.out.bel.cell (p := ⟨bb, off + k * 11 + 5, none⟩) hbb] at c5
      rw [← hI.out.bel.cell (p := ⟨bb, off + k * 11 + 6, none⟩) hbb] at c6
      rw [← hI.out.bel.cell (p := ⟨bb, off + k * 11 + 7, none⟩) hbb] at c7
      rw [← hI.out.bel.cell (p := ⟨bb, off + k * 11 + 8, none⟩) hbb] at c8
      rw [← hI.out.bel.cell (p := ⟨bb, off + k * 11 + 9, none⟩) hbb] at c9
      rw [← hI.out.bel.cell (p := ⟨bb, off + k * 11 + 10, none⟩) hbb] at c10
      have hr2 := hr.below hI2.bel
      have hcc : ((wr.alloc (.cells #[.int .i64 (F k).k, .int .u8 ((F k).b : Nat), .int .u64 ((F k).a0 : Nat), .int .u64 ((F k).a1 : Nat), .int .u64 ((F k).a2 : Nat), .int .u64 ((F k).a3 : Nat), .bool (F k).nt, .int .i64 (F k).l, .int .i64 (F k).m, .bool (F k).lz, .int .i64 (F k).t] 42)).alloc (.cells #[.bool a, .bool b] 83)).cell? ⟨cb, k, none⟩ = some (.int .i64 (cl k)) := by
        rw [hI2.bel.cell (p := ⟨cb, k, none⟩) hcb.lt]
        exact hcb.cell k (by simp [clC, hlt])
      have kT : Cl ((wr.alloc (.cells #[.int .i64 (F k).k, .int .u8 ((F k).b : Nat), .int .u64 ((F k).a0 : Nat), .int .u64 ((F k).a1 : Nat), .int .u64 ((F k).a2 : Nat), .int .u64 ((F k).a3 : Nat), .bool (F k).nt, .int .i64 (F k).l, .int .i64 (F k).m, .bool (F k).lz, .int .i64 (F k).t] 42)).alloc (.cells #[.bool a, .bool b] 83)) wr.heap.size 42 [.int .i64 (F k).k, .int .u8 ((F k).b : Nat), .int .u64 ((F k).a0 : Nat), .int .u64 ((F k).a1 : Nat), .int .u64 ((F k).a2 : Nat), .int .u64 ((F k).a3 : Nat), .bool (F k).nt, .int .i64 (F k).l, .int .i64 (F k).m, .bool (F k).lz, .int .i64 (F k).t] := (Cl.new wr 42 [.int .i64 (F k).k, .int .u8 ((F k).b : Nat), .int .u64 ((F k).a0 : Nat), .int .u64 ((F k).a1 : Nat), .int .u64 ((F k).a2 : Nat), .int .u64 ((F k).a3 : Nat), .bool (F k).nt, .int .i64 (F k).l, .int .i64 (F k).m, .bool (F k).lz, .int .i64 (F k).t]).alloc _
      have kH : Cl ((wr.alloc (.cells #[.int .i64 (F k).k, .int .u8 ((F k).b : Nat), .int .u64 ((F k).a0 : Nat), .int .u64 ((F k).a1 : Nat), .int .u64 ((F k).a2 : Nat), .int .u64 ((F k).a3 : Nat), .bool (F k).nt, .int .i64 (F k).l, .int .i64 (F k).m, .bool (F k).lz, .int .i64 (F k).t] 42)).alloc (.cells #[.bool a, .bool b] 83)) (wr.heap.size + 1) 83 [.bool a, .bool b] := by
        have := Cl.new (wr.alloc (.cells #[.int .i64 (F k).k, .int .u8 ((F k).b : Nat), .int .u64 ((F k).a0 : Nat), .int .u64 ((F k).a1 : Nat), .int .u64 ((F k).a2 : Nat), .int .u64 ((F k).a3 : Nat), .bool (F k).nt, .int .i64 (F k).l, .int .i64 (F k).m, .bool (F k).lz, .int .i64 (F k).t] 42)) 83 [.bool a, .bool b]
        rw [World.size_alloc] at this
        exact this
      have HB2 : Hid (Below w.heap.size w ((wr.alloc (.cells #[.int .i64 (F k).k, .int .u8 ((F k).b : Nat), .int .u64 ((F k).a0 : Nat), .int .u64 ((F k).a1 : Nat), .int .u64 ((F k).a2 : Nat), .int .u64 ((F k).a3 : Nat), .bool (F k).nt, .int .i64 (F k).l, .int .i64 (F k).m, .bool (F k).lz, .int .i64 (F k).t] 42)).alloc (.cells #[.bool a, .bool b] 83))) := hI2.bel
      have hF46 := isFirst_any (some ⟨bb, off, none⟩) n cap F fl ((wr.alloc (.cells #[.int .i64 (F k).k, .int .u8 ((F k).b : Nat), .int .u64 ((F k).a0 : Nat), .int .u64 ((F k).a1 : Nat), .int .u64 ((F k).a2 : Nat), .int .u64 ((F k).a3 : Nat), .bool (F k).nt, .int .i64 (F k).l, .int .i64 (F k).m, .bool (F k).lz, .int .i64 (F k).t] 42)).alloc (.cells #[.bool a, .bool b] 83)) hr2 hlt hn
      have hF48 := isLast_any (some ⟨bb, off, none⟩) n cap F fl ((wr.alloc (.cells #[.int .i64 (F k).k, .int .u8 ((F k).b : Nat), .int .u64 ((F k).a0 : Nat), .int .u64 ((F k).a1 : Nat), .int .u64 ((F k).a2 : Nat), .int .u64 ((F k).a3 : Nat), .bool (F k).nt, .int .i64 (F k).l, .int .i64 (F k).m, .bool (F k).lz, .int .i64 (F k).t] 42)).alloc (.cells #[.bool a, .bool b] 83)) hr2 hlt hn
      obtain ⟨L, hL⟩ : ∃ L, ((a, b) :: r).length = L := ⟨_, rfl⟩
      obtain ⟨q, hq⟩ : ∃ q, r.length = q := ⟨_, rfl⟩
      have hLq : L = q + 1 := by rw [← hL, ← hq]; rfl
      have hLn : L ≤ 3001 := by rw [← hL]; omega
      rw [hL] at hcap
      rw [hq] at t0 t1
      have wq : IntKind.i64.wrap ((L : Int) - 1) = (q : Nat) := by rw [IntKind.wrap_i64]; omega
      have hql : (q : Int) < (L : Int) := by omega
      have hsl := fun W => slice_rm (some ⟨g, 0, none⟩) L oc q (by omega) W
      have HIp : Hid (RM w r (.slice (some ⟨g, 0, none⟩) q oc) ((wr.alloc (.cells #[.int .i64 (F k).k, .int .u8 ((F k).b : Nat), .int .u64 ((F k).a0 : Nat), .int .u64 ((F k).a1 : Nat), .int .u64 ((F k).a2 : Nat), .int .u64 ((F k).a3 : Nat), .bool (F k).nt, .int .i64 (F k).l, .int .i64 (F k).m, .bool (F k).lz, .int .i64 (F k).t] 42)).alloc (.cells #[.bool a, .bool b] 83))) := ⟨hI2.bel, by
        have hrw := hI2.row
        rw [rmC_cons] at hrw
        rw [← hq]
        exact ownsRow_pop (rmC_len r) hrw⟩
      have HI2 : Hid (RM w ((a, b) :: r) (.slice (some ⟨g, 0, none⟩) L oc) ((wr.alloc (.cells #[.int .i64 (F k).k, .int .u8 ((F k).b : Nat), .int .u64 ((F k).a0 : Nat), .int .u64 ((F k).a1 : Nat), .int .u64 ((F k).a2 : Nat), .int .u64 ((F k).a3 : Nat), .bool (F k).nt, .int .i64 (F k).l, .int .i64 (F k).m, .bool (F k).lz, .int .i64 (F k).t] 42)).alloc (.cells #[.bool a, .bool b] 83))) := by rw [← hL]; exact hI2
      rw [hL]
      clear hLq hq
      unfold stepA at hst
      have hXk : ((fun i => (F i).tp fl) k).k = (F k).k := rfl
      have hXt : ((fun i => (F i).tp fl) k).t = (F k).t := rfl
      simp only [List.headD_cons, List.tail_cons, hXk, hXt] at hst
      have k0 := kT.cell 0 rfl
      have k10 := kT.cell 10 rfl
      have m0 := kH.cell 0 rfl
      have m1 := kH.cell 1 rfl
      cases k5 : ((F k).k == 5) with
      | true =>
        have k4 : ((F k).k == 4) = false := by simp at k5 ⊢; omega
        rw [if_neg (by simpa using k4), if_pos (by simpa using k5)] at hst
        have HS : Hid (runA (fun i => (F i).tp fl) n cl (k + 1) = .ok r) := hst
        clear hst hI hI1 hI2 hr2 hcc hF46 hF48 kT kH hr hc hA hpk hsE hcl hcb HI2
        generalize F k = x at *
        go_wp2_with fail
        go_roundw
        case rel => exact ⟨k + 1, _, by omega, by go_num, HS, HIp⟩
        case measure => simp [intOf]; omega
      | false =>
      cases k4 : ((F k).k == 4) with
      | true =>
        obtain ⟨c, hc1, hc2⟩ := hcl k hlt (by show (F k).k = 4; simpa using k4)
        rw [if_pos (by simpa using k4), hc1, Int.toNat_natCast] at hst
        rw [hc1] at hcc
        have hci : (c : Int) < (n : Int) := by omega
        obtain ⟨i0, hi0, hz0, hz1, hz2⟩ := info_parts b_room
        clear hF46 hF48 hI hI1 kT hA hpk hsE hcl hcb HIp hc1
        go_upto_region 8 with fail
        clear c0 c1 c2 c3 c4 c5 c6 c7 c8 c9 c10 t0 t1
        generalize (wr.alloc (.cells #[.int .i64 (F k).k, .int .u8 ((F k).b : Nat), .int .u64 ((F k).a0 : Nat), .int .u64 ((F k).a1 : Nat), .int .u64 ((F k).a2 : Nat), .int .u64 ((F k).a3 : Nat), .bool (F k).nt, .int .i64 (F k).l, .int .i64 (F k).m, .bool (F k).lz, .int .i64 (F k).t] 42)).alloc (.cells #[.bool a, .bool b] 83) = V at *
        have hF46 : ∀ u : World, Calls Try.prog 46 #[.slice (some ⟨bb, off, none⟩) n cap, .int .i64 (k : Nat)] (near V u) fun e w' => e = .returned (.bool (fstA (fun i => (F i).tp fl) k)) ∧ ∃ u' : World, w' = near V u' := fun u => (isFirst_any (some ⟨bb, off, none⟩) n cap F fl (near V u) (hr2.below (near_below V u)) hlt hn).mono fun _ _ h => ⟨h.1, u, h.2.symm⟩
        have hF47 : ∀ u : World, Calls Try.prog 47 #[.slice (some ⟨bb, off, none⟩) n cap, .int .i64 (c : Nat)] (near V u) fun e w' => e = .returned (.bool (repA (fun i => (F i).tp fl) n c)) ∧ ∃ u' : World, w' = near V u' := fun u => (hasRepeat_any (some ⟨bb, off, none⟩) n cap F fl (near V u) (hr2.below (near_below V u)) hc2 hn).mono fun _ _ h => ⟨h.1, u, h.2.symm⟩
        have hF48 : ∀ u : World, Calls Try.prog 48 #[.slice (some ⟨bb, off, none⟩) n cap, .int .i64 (c : Nat)] (near V u) fun e w' => e = .returned (.bool (lstA (fun i => (F i).tp fl) n c)) ∧ ∃ u' : World, w' = near V u' := fun u => (isLast_any (some ⟨bb, off, none⟩) n cap F fl (near V u) (hr2.below (near_below V u)) hc2 hn).mono fun _ _ h => ⟨h.1, u, h.2.symm⟩
        generalize fstA (fun i => (F i).tp fl) k = f1 at *
        generalize repA (fun i => (F i).tp fl) n c = f2 at *
        generalize lstA (fun i => (F i).tp fl) n c = f3 at *
        have p0 := Near.cell (W := V) m0 kH.lt
        have p1 := Near.cell (W := V) m1 kH.lt
        have HX : Hid (∀ (u : World) x y g2 c2 w2, w2.ownsRow w.heap.size 83 2 (.slice (some ⟨g2, 0, none⟩) (L + 1) c2) (L + 1) (rmC ((a, b) :: r) ++ rmL (x, y)) → ((near V u).alloc (.cells #[.bool x, .bool y] 83)).grownBy w2 (Value.slice (some ⟨g, 0, none⟩) L oc).ownBlock → Hid (RM w ((x, y) :: (a, b) :: r) (.slice (some ⟨g2, 0, none⟩) (L + 1) c2) w2)) := fun u x y g2 c2 w2 ho hg => by
          have hv := (HI2.out.below (near_below V u)).below (bel1 (near V u) (.cells #[.bool x, .bool y] 83))
          exact ⟨hv.bel.grown hg hv.bel.size fun q hq => (own_block hv.row hq).1, by
            rw [rmC_cons]
            show w2.ownsRow _ _ _ _ (((a, b) :: r).length + 1) _
            rw [hL]
            exact ho⟩
        have HRW : Hid (∀ (u : World) x y, ((near V u).alloc (.cells #[.bool x, .bool y] 83)).ownsRow w.heap.size 83 2 (.slice (some ⟨g, 0, none⟩) L oc) L (rmC ((a, b) :: r)) ∧ w.heap.size ≤ ((near V u).alloc (.cells #[.bool x, .bool y] 83)).heap.size ∧ (∀ j v, (rmL (x, y))[j]? = some v → ((near V u).alloc (.cells #[.bool x, .bool y] 83)).cell? (Addr.add ⟨(near V u).heap.size, 0, none⟩ j) = some v) ∧ ∀ v ∈ rmL (x, y), v.oneCell' = true) := fun u x y => by
          have hv := (HI2.out.below (near_below V u)).below (bel1 (near V u) (.cells #[.bool x, .bool y] 83))
          refine ⟨?_, hv.bel.size, new_cells (near V u) 83 [.bool x, .bool y], fun v hu => ?_⟩
          · have := hv.row
            rw [hL] at this
            exact this
          · simp only [rmL, List.mem_cons, List.not_mem_nil, or_false] at hu
            rcases hu with rfl | rfl <;> rfl
        clear hI2 hr2 kH HB2 HI2 hr hc hL hsl m0 m1
        generalize F k = x at *
        have HRA : Hid (runA (fun i => (F i).tp fl) n cl (k + 1) = .ok ((a && f1 && !f2, b && f3) :: (a, b) :: r)) := hst
        clear hst
        go_wp2_with fail
        cases a with
        | false =>
          cases b with
          | false =>
            refine wp_region_quiet_tail1 (v0 := .slice (some ⟨g, 0, none⟩) L oc) 22 (fun w' => ∃ u : World, w' = near V u) (by kernel_rfl) (by kernel_rfl) (Or.inl ⟨by rfl, fun w => by go_simp⟩) (fun _ _ _ h => h) (Near.start _) ?_
            simp only [List.take_succ_cons, List.take_zero, List.drop_succ_cons, List.drop_zero, Nat.reduceSub, Act.put, List.setIfInBounds_toArray, List.set_cons_succ, List.set_cons_zero]
            repeat (go_big_quiet_step (first | (go_at_call 46; exact hF46 _) | (go_at_call 47; exact hF47 _) | (go_at_call 48; exact hF48 _)))
            refine wpQuiet_nil ?_
            rintro _ ⟨u, rfl⟩
            obtain ⟨q1, q2, q3, q4⟩ := HRW.out u false false
            have HXu := HX.out u false false
            clear HRW HX hF46 hF47 hF48 p0 p1
            generalize near V u = N at *
            go_wp2_with (at_builtin; refine wpList_append_lies _ rfl _ _ 84 rfl w.heap.size 83 i0 _ 2 2 Try.underlying84 hi0 hz0 hz1 hz2 rfl (by decide) _ _ _ rfl q1 ⟨N.heap.size, 0, none⟩ 1 1 (rmL (false, false)) rfl rfl q3 q4 (by decide) (by unfold maxLen; omega) (by omega) q2 _ rfl ?_; intro g9 c9 w4 hown hgr _ _; have HY := HXu g9 c9 w4 hown hgr; clear hown hgr HXu)
            go_roundw
            case rel => exact ⟨k + 1, _, by omega, by go_num, HRA, HY⟩
            case measure => simp [intOf]; omega
          | true =>
            cases f3 with
            | false =>
              refine wp_region_quiet_tail1 (v0 := .slice (some ⟨g, 0, none⟩) L oc) 22 (fun w' => ∃ u : World, w' = near V u) (by kernel_rfl) (by kernel_rfl) (Or.inl ⟨by rfl, fun w => by go_simp⟩) (fun _ _ _ h => h) (Near.start _) ?_
              simp only [List.take_succ_cons, List.take_zero, List.drop_succ_cons, List.drop_zero, Nat.reduceSub, Act.put, List.setIfInBounds_toArray, List.set_cons_succ, List.set_cons_zero]
              repeat (go_big_quiet_step (first | (go_at_call 46; exact hF46 _) | (go_at_call 47; exact hF47 _) | (go_at_call 48; exact hF48 _)))
              refine wpQuiet_nil ?_
              rintro _ ⟨u, rfl⟩
              obtain ⟨q1, q2, q3, q4⟩ := HRW.out u false false
              have HXu := HX.out u false false
              clear HRW HX hF46 hF47 hF48 p0 p1
              generalize near V u = N at *
              go_wp2_with (at_builtin; refine wpList_append_lies _ rfl _ _ 84 rfl w.heap.size 83 i0 _ 2 2 Try.underlying84 hi0 hz0 hz1 hz2 rfl (by decide) _ _ _ rfl q1 ⟨N.heap.size, 0, none⟩ 1 1 (rmL (false, false)) rfl rfl q3 q4 (by decide) (by unfold maxLen; omega) (by omega) q2 _ rfl ?_; intro g9 c9 w4 hown hgr _ _; have HY := HXu g9 c9 w4 hown hgr; clear hown hgr HXu)
              go_roundw
              case rel => exact ⟨k + 1, _, by omega, by go_num, HRA, HY⟩
              case measure => simp [intOf]; omega
            | true =>
              refine wp_region_quiet_tail1 (v0 := .slice (some ⟨g, 0, none⟩) L oc) 22 (fun w' => ∃ u : World, w' = near V u) (by kernel_rfl) (by kernel_rfl) (Or.inl ⟨by rfl, fun w => by go_simp⟩) (fun _ _ _ h => h) (Near.start _) ?_
              simp only [List.take_succ_cons, List.take_zero, List.drop_succ_cons, List.drop_zero, Nat.reduceSub, Act.put, List.setIfInBounds_toArray, List.set_cons_succ, List.set_cons_zero]
              repeat (go_big_quiet_step (first | (go_at_call 46; exact hF46 _) | (go_at_call 47; exact hF47 _) | (go_at_call 48; exact hF48 _)))
              refine wpQuiet_nil ?_
              rintro _ ⟨u, rfl⟩
              obtain ⟨q1, q2, q3, q4⟩ := HRW.out u false true
              have HXu := HX.out u false true
              clear HRW HX hF46 hF47 hF48 p0 p1
              generalize near V u = N at *
              go_wp2_with (at_builtin; refine wpList_append_lies _ rfl _ _ 84 rfl w.heap.size 83 i0 _ 2 2 Try.underlying84 hi0 hz0 hz1 hz2 rfl (by decide) _ _ _ rfl q1 ⟨N.heap.size, 0, none⟩ 1 1 (rmL (false, true)) rfl rfl q3 q4 (by decide) (by unfold maxLen; omega) (by omega) q2 _ rfl ?_; intro g9 c9 w4 hown hgr _ _; have HY := HXu g9 c9 w4 hown hgr; clear hown hgr HXu)
              go_roundw
              case rel => exact ⟨k + 1, _, by omega, by go_num, HRA, HY⟩
              case measure => simp [intOf]; omega
        | true =>
          cases f1 with
          | false =>
            cases b with
            | false =>
              refine wp_region_quiet_tail1 (v0 := .slice (some ⟨g, 0, none⟩) L oc) 22 (fun w' => ∃ u : World, w' = near V u) (by kernel_rfl) (by kernel_rfl) (Or.inl ⟨by rfl, fun w => by go_simp⟩) (fun _ _ _ h => h) (Near.start _) ?_
              simp only [List.take_succ_cons, List.take_zero, List.drop_succ_cons, List.drop_zero, Nat.reduceSub, Act.put, List.setIfInBounds_toArray, List.set_cons_succ, List.set_cons_zero]
              repeat (go_big_quiet_step (first | (go_at_call 46; exact hF46 _) | (go_at_call 47; exact hF47 _) | (go_at_call 48; exact hF48 _)))
              refine wpQuiet_nil ?_
              rintro _ ⟨u, rfl⟩
              obtain ⟨q1, q2, q3, q4⟩ := HRW.out u false false
              have HXu := HX.out u false false
              clear HRW HX hF46 hF47 hF48 p0 p1
              generalize near V u = N at *
              go_wp2_with (at_builtin; refine wpList_append_lies _ rfl _ _ 84 rfl w.heap.size 83 i0 _ 2 2 Try.underlying84 hi0 hz0 hz1 hz2 rfl (by decide) _ _ _ rfl q1 ⟨N.heap.size, 0, none⟩ 1 1 (rmL (false, false)) rfl rfl q3 q4 (by decide) (by unfold maxLen; omega) (by omega) q2 _ rfl ?_; intro g9 c9 w4 hown hgr _ _; have HY := HXu g9 c9 w4 hown hgr; clear hown hgr HXu)
              go_roundw
              case rel => exact ⟨k + 1, _, by omega, by go_num, HRA, HY⟩
              case measure => simp [intOf]; omega
            | true =>
              cases f3 with
              | false =>
                refine wp_region_quiet_tail1 (v0 := .slice (some ⟨g, 0, none⟩) L oc) 22 (fun w' => ∃ u : World, w' = near V u) (by kernel_rfl) (by kernel_rfl) (Or.inl ⟨by rfl, fun w => by go_simp⟩) (fun _ _ _ h => h) (Near.start _) ?_
                simp only [List.take_succ_cons, List.take_zero, List.drop_succ_cons, List.drop_zero, Nat.reduceSub, Act.put, List.setIfInBounds_toArray, List.set_cons_succ, List.set_cons_zero]
                repeat (go_big_quiet_step (first | (go_at_call 46; exact hF46 _) | (go_at_call 47; exact hF47 _) | (go_at_call 48; exact hF48 _)))
                refine wpQuiet_nil ?_
                rintro _ ⟨u, rfl⟩
                obtain ⟨q1, q2, q3, q4⟩ := HRW.out u false false
                have HXu := HX.out u false false
                clear HRW HX hF46 hF47 hF48 p0 p1
                generalize near V u = N at *
                go_wp2_with (at_builtin; refine wpList_append_lies _ rfl _ _ 84 rfl w.heap.size 83 i0 _ 2 2 Try.underlying84 hi0 hz0 hz1 hz2 rfl (by decide) _ _ _ rfl q1 ⟨N.heap.size, 0, none⟩ 1 1 (rmL (false, false)) rfl rfl q3 q4 (by decide) (by unfold maxLen; omega) (by omega) q2 _ rfl ?_; intro g9 c9 w4 hown hgr _ _; have HY := HXu g9 c9 w4 hown hgr; clear hown hgr HXu)
                go_roundw
                case rel => exact ⟨k + 1, _, by omega, by go_num, HRA, HY⟩
                case measure => simp [intOf]; omega
              | true =>
                refine wp_region_quiet_tail1 (v0 := .slice (some ⟨g, 0, none⟩) L oc) 22 (fun w' => ∃ u : World, w' = near V u) (by kernel_rfl) (by kernel_rfl) (Or.inl ⟨by rfl, fun w => by go_simp⟩) (fun _ _ _ h => h) (Near.start _) ?_
                simp only [List.take_succ_cons, List.take_zero, List.drop_succ_cons, List.drop_zero, Nat.reduceSub, Act.put, List.setIfInBounds_toArray, List.set_cons_succ, List.set_cons_zero]
                repeat (go_big_quiet_step (first | (go_at_call 46; exact hF46 _) | (go_at_call 47; exact hF47 _) | (go_at_call 48; exact hF48 _)))
                refine wpQuiet_nil ?_
                rintro _ ⟨u, rfl⟩
                obtain ⟨q1, q2, q3, q4⟩ := HRW.out u false true
                have HXu := HX.out u false true
                clear HRW HX hF46 hF47 hF48 p0 p1
                generalize near V u = N at *
                go_wp2_with (at_builtin; refine wpList_append_lies _ rfl _ _ 84 rfl w.heap.size 83 i0 _ 2 2 Try.underlying84 hi0 hz0 hz1 hz2 rfl (by decide) _ _ _ rfl q1 ⟨N.heap.size, 0, none⟩ 1 1 (rmL (false, true)) rfl rfl q3 q4 (by decide) (by unfold maxLen; omega) (by omega) q2 _ rfl ?_; intro g9 c9 w4 hown hgr _ _; have HY := HXu g9 c9 w4 hown hgr; clear hown hgr HXu)
                go_roundw
                case rel => exact ⟨k + 1, _, by omega, by go_num, HRA, HY⟩
                case measure => simp [intOf]; omega
          | true =>
            cases f2 with
            | false =>
              cases b with
              | false =>
                refine wp_region_quiet_tail1 (v0 := .slice (some ⟨g, 0, none⟩) L oc) 22 (fun w' => ∃ u : World, w' = near V u) (by kernel_rfl) (by kernel_rfl) (Or.inl ⟨by rfl, fun w => by go_simp⟩) (fun _ _ _ h => h) (Near.start _) ?_
                simp only [List.take_succ_cons, List.take_zero, List.drop_succ_cons, List.drop_zero, Nat.reduceSub, Act.put, List.setIfInBounds_toArray, List.set_cons_succ, List.set_cons_zero]
                repeat (go_big_quiet_step (first | (go_at_call 46; exact hF46 _) | (go_at_call 47; exact hF47 _) | (go_at_call 48; exact hF48 _)))
                refine wpQuiet_nil ?_
                rintro _ ⟨u, rfl⟩
                obtain ⟨q1, q2, q3, q4⟩ := HRW.out u true false
                have HXu := HX.out u true false
                clear HRW HX hF46 hF47 hF48 p0 p1
                generalize near V u = N at *
                go_wp2_with (at_builtin; refine wpList_append_lies _ rfl _ _ 84 rfl w.heap.size 83 i0 _ 2 2 Try.underlying84 hi0 hz0 hz1 hz2 rfl (by decide) _ _ _ rfl q1 ⟨N.heap.size, 0, none⟩ 1 1 (rmL (true, false)) rfl rfl q3 q4 (by decide) (by unfold maxLen; omega) (by omega) q2 _ rfl ?_; intro g9 c9 w4 hown hgr _ _; have HY := HXu g9 c9 w4 hown hgr; clear hown hgr HXu)
                go_roundw
                case rel => exact ⟨k + 1, _, by omega, by go_num, HRA, HY⟩
                case measure => simp [intOf]; omega
              | true =>
                cases f3 with
                | false =>
                  refine wp_region_quiet_tail1 (v0 := .slice (some ⟨g, 0, none⟩) L oc) 22 (fun w' => ∃ u : World, w' = near V u) (by kernel_rfl) (by kernel_rfl) (Or.inl ⟨by rfl, fun w => by go_simp⟩) (fun _ _ _ h => h) (Near.start _) ?_
                  simp only [List.take_succ_cons, List.take_zero, List.drop_succ_cons, List.drop_zero, Nat.reduceSub, Act.put, List.setIfInBounds_toArray, List.set_cons_succ, List.set_cons_zero]
                  repeat (go_big_quiet_step (first | (go_at_call 46; exact hF46 _) | (go_at_call 47; exact hF47 _) | (go_at_call 48; exact hF48 _)))
                  refine wpQuiet_nil ?_
                  rintro _ ⟨u, rfl⟩
                  obtain ⟨q1, q2, q3, q4⟩ := HRW.out u true false
                  have HXu := HX.out u true false
                  clear HRW HX hF46 hF47 hF48 p0 p1
                  generalize near V u = N at *
                  go_wp2_with (at_builtin; refine wpList_append_lies _ rfl _ _ 84 rfl w.heap.size 83 i0 _ 2 2 Try.underlying84 hi0 hz0 hz1 hz2 rfl (by decide) _ _ _ rfl q1 ⟨N.heap.size, 0, none⟩ 1 1 (rmL (true, false)) rfl rfl q3 q4 (by decide) (by unfold maxLen; omega) (by omega) q2 _ rfl ?_; intro g9 c9 w4 hown hgr _ _; have HY := HXu g9 c9 w4 hown hgr; clear hown hgr HXu)
                  go_roundw
                  case rel => exact ⟨k + 1, _, by omega, by go_num, HRA, HY⟩
                  case measure => simp [intOf]; omega
                | true =>
                  refine wp_region_quiet_tail1 (v0 := .slice (some ⟨g, 0, none⟩) L oc) 22 (fun w' => ∃ u : World, w' = near V u) (by kernel_rfl) (by kernel_rfl) (Or.inl ⟨by rfl, fun w => by go_simp⟩) (fun _ _ _ h => h) (Near.start _) ?_
                  simp only [List.take_succ_cons, List.take_zero, List.drop_succ_cons, List.drop_zero, Nat.reduceSub, Act.put, List.setIfInBounds_toArray, List.set_cons_succ, List.set_cons_zero]
                  repeat (go_big_quiet_step (first | (go_at_call 46; exact hF46 _) | (go_at_call 47; exact hF47 _) | (go_at_call 48; exact hF48 _)))
                  refine wpQuiet_nil ?_
                  rintro _ ⟨u, rfl⟩
                  obtain ⟨q1, q2, q3, q4⟩ := HRW.out u true true
                  have HXu := HX.out u true true
                  clear HRW HX hF46 hF47 hF48 p0 p1
                  generalize near V u = N at *
                  go_wp2_with (at_builtin; refine wpList_append_lies _ rfl _ _ 84 rfl w.heap.size 83 i0 _ 2 2 Try.underlying84 hi0 hz0 hz1 hz2 rfl (by decide) _ _ _ rfl q1 ⟨N.heap.size, 0, none⟩ 1 1 (rmL (true, true)) rfl rfl q3 q4 (by decide) (by unfold maxLen; omega) (by omega) q2 _ rfl ?_; intro g9 c9 w4 hown hgr _ _; have HY := HXu g9 c9 w4 hown hgr; clear hown hgr HXu)
                  go_roundw
                  case rel => exact ⟨k + 1, _, by omega, by go_num, HRA, HY⟩
                  case measure => simp [intOf]; omega
            | true =>
              cases b with
              | false =>
                refine wp_region_quiet_tail1 (v0 := .slice (some ⟨g, 0, none⟩) L oc) 22 (fun w' => ∃ u : World, w' = near V u) (by kernel_rfl) (by kernel_rfl) (Or.inl ⟨by rfl, fun w => by go_simp⟩) (fun _ _ _ h => h) (Near.start _) ?_
                simp only [List.take_succ_cons, List.take_zero, List.drop_succ_cons, List.drop_zero, Nat.reduceSub, Act.put, List.setIfInBounds_toArray, List.set_cons_succ, List.set_cons_zero]
                repeat (go_big_quiet_step (first | (go_at_call 46; exact hF46 _) | (go_at_call 47; exact hF47 _) | (go_at_call 48; exact hF48 _)))
                refine wpQuiet_nil ?_
                rintro _ ⟨u, rfl⟩
                obtain ⟨q1, q2, q3, q4⟩ := HRW.out u false false
                have HXu := HX.out u false false
                clear HRW HX hF46 hF47 hF48 p0 p1
                generalize near V u = N at *
                go_wp2_with (at_builtin; refine wpList_append_lies _ rfl _ _ 84 rfl w.heap.size 83 i0 _ 2 2 Try.underlying84 hi0 hz0 hz1 hz2 rfl (by decide) _ _ _ rfl q1 ⟨N.heap.size, 0, none⟩ 1 1 (rmL (false, false)) rfl rfl q3 q4 (by decide) (by unfold maxLen; omega) (by omega) q2 _ rfl ?_; intro g9 c9 w4 hown hgr _ _; have HY := HXu g9 c9 w4 hown hgr; clear hown hgr HXu)
                go_roundw
                case rel => exact ⟨k + 1, _, by omega, by go_num, HRA, HY⟩
                case measure => simp [intOf]; omega
              | true =>
                cases f3 with
                | false =>
                  refine wp_region_quiet_tail1 (v0 := .slice (some ⟨g, 0, none⟩) L oc) 22 (fun w' => ∃ u : World, w' = near V u) (by kernel_rfl) (by kernel_rfl) (Or.inl ⟨by rfl, fun w => by go_simp⟩) (fun _ _ _ h => h) (Near.start _) ?_
                  simp only [List.take_succ_cons, List.take_zero, List.drop_succ_cons, List.drop_zero, Nat.reduceSub, Act.put, List.setIfInBounds_toArray, List.set_cons_succ, List.set_cons_zero]
                  repeat (go_big_quiet_step (first | (go_at_call 46; exact hF46 _) | (go_at_call 47; exact hF47 _) | (go_at_call 48; exact hF48 _)))
                  refine wpQuiet_nil ?_
                  rintro _ ⟨u, rfl⟩
                  obtain ⟨q1, q2, q3, q4⟩ := HRW.out u false false
                  have HXu := HX.out u false false
                  clear HRW HX hF46 hF47 hF48 p0 p1
                  generalize near V u = N at *
                  go_wp2_with (at_builtin; refine wpList_append_lies _ rfl _ _ 84 rfl w.heap.size 83 i0 _ 2 2 Try.underlying84 hi0 hz0 hz1 hz2 rfl (by decide) _ _ _ rfl q1 ⟨N.heap.size, 0, none⟩ 1 1 (rmL (false, false)) rfl rfl q3 q4 (by decide) (by unfold maxLen; omega) (by omega) q2 _ rfl ?_; intro g9 c9 w4 hown hgr _ _; have HY := HXu g9 c9 w4 hown hgr; clear hown hgr HXu)
                  go_roundw
                  case rel => exact ⟨k + 1, _, by omega, by go_num, HRA, HY⟩
                  case measure => simp [intOf]; omega
                | true =>
                  refine wp_region_quiet_tail1 (v0 := .slice (some ⟨g, 0, none⟩) L oc) 22 (fun w' => ∃ u : World, w' = near V u) (by kernel_rfl) (by kernel_rfl) (Or.inl ⟨by rfl, fun w => by go_simp⟩) (fun _ _ _ h => h) (Near.start _) ?_
                  simp only [List.take_succ_cons, List.take_zero, List.drop_succ_cons, List.drop_zero, Nat.reduceSub, Act.put, List.setIfInBounds_toArray, List.set_cons_succ, List.set_cons_zero]
                  repeat (go_big_quiet_step (first | (go_at_call 46; exact hF46 _) | (go_at_call 47; exact hF47 _) | (go_at_call 48; exact hF48 _)))
                  refine wpQuiet_nil ?_
                  rintro _ ⟨u, rfl⟩
                  obtain ⟨q1, q2, q3, q4⟩ := HRW.out u false true
                  have HXu := HX.out u false true
                  clear HRW HX hF46 hF47 hF48 p0 p1
                  generalize near V u = N at *
                  go_wp2_with (at_builtin; refine wpList_append_lies _ rfl _ _ 84 rfl w.heap.size 83 i0 _ 2 2 Try.underlying84 hi0 hz0 hz1 hz2 rfl (by decide) _ _ _ rfl q1 ⟨N.heap.size, 0, none⟩ 1 1 (rmL (false, true)) rfl rfl q3 q4 (by decide) (by unfold maxLen; omega) (by omega) q2 _ rfl ?_; intro g9 c9 w4 hown hgr _ _; have HY := HXu g9 c9 w4 hown hgr; clear hown hgr HXu)
                  go_roundw
                  case rel => exact ⟨k + 1, _, by omega, by go_num, HRA, HY⟩
                  case measure => simp [intOf]; omega
      | false =>
      rw [if_neg (by simpa using k4), if_neg (by simpa using k5)] at hst
      cases k8 : ((F k).k == 8) with
      | true =>
        rw [if_pos (by simpa using k8)] at hst
        have HE : (a && fstA (fun i => (F i).tp fl) k) = false → Hid (∀ W3, Below w.heap.size w W3 → RetI3 w (wrgA (fun i => (F i).tp fl) n cl) (.returned (.int .i64 (F k).t)) W3) := fun h W3 hb => by
          rw [if_neg (by rw [h]; decide)] at hst
          rw [wrg_err hst (by omega)]
          exact ⟨rfl, hb⟩
        have HS : (a && fstA (fun i => (F i).tp fl) k) = true → Hid (runA (fun i => (F i).tp fl) n cl (k + 1) = .ok ((a, b) :: r)) := fun h => by
          rw [if_pos h] at hst
          exact hst
        clear hst hI hI1 hI2 hr2 hcc hF48 kT kH hr hc hA hpk hsE hcl hcb HIp
        generalize fstA (fun i => (F i).tp fl) k = f1 at *
        generalize F k = x at *
        cases a with
        | false =>
          have HR := HE rfl
          clear HE HS
          go_wp2_with fail
          go_ret
          exact HR.out _ HB2.out
        | true =>
          cases f1 with
          | false =>
            have HR := HE rfl
            clear HE HS
            go_wp2_with fail
            refine hF46.mono ?_
            rintro e w3 ⟨rfl, rfl⟩
            go_wp2_with fail
            go_ret
            exact HR.out _ HB2.out
          | true =>
            have HS2 := HS rfl
            clear HE HS
            go_wp2_with fail
            refine hF46.mono ?_
            rintro e w3 ⟨rfl, rfl⟩
            go_wp2_with fail
            go_roundw
            case rel => exact ⟨k + 1, _, by omega, by go_num, HS2, HI2⟩
            case measure => simp [intOf]; omega
      | false =>
      rw [if_neg (by simpa using k8)] at hst
      cases k9 : ((F k).k == 9) with
      | true =>
        rw [if_pos (by simpa using k9)] at hst
        have HE : (b && lstA (fun i => (F i).tp fl) n k) = false → Hid (∀ W3, Below w.heap.size w W3 → RetI3 w (wrgA (fun i => (F i).tp fl) n cl) (.returned (.int .i64 (F k).t)) W3) := fun h W3 hb => by
          rw [if_neg (by rw [h]; decide)] at hst
          rw [wrg_err hst (by omega)]
          exact ⟨rfl, hb⟩
        have HS : (b && lstA (fun i => (F i).tp fl) n k) = true → Hid (runA (fun i => (F i).tp fl) n cl (k + 1) = .ok ((a, b) :: r)) := fun h => by
          rw [if_pos h] at hst
          exact hst
        clear hst hI hI1 hI2 hr2 hcc hF46 kT kH hr hc hA hpk hsE hcl hcb HIp
        generalize lstA (fun i => (F i).tp fl) n k = f1 at *
        generalize F k = x at *
        cases b with
        | false =>
          have HR := HE rfl
          clear HE HS
          go_wp2_with fail
          go_ret
          exact HR.out _ HB2.out
        | true =>
          cases f1 with
          | false =>
            have HR := HE rfl
            clear HE HS
            go_wp2_with fail
            refine hF48.mono ?_
            rintro e w3 ⟨rfl, rfl⟩
            go_wp2_with fail
            go_ret
            exact HR.out _ HB2.out
          | true =>
            have HS2 := HS rfl
            clear HE HS
            go_wp2_with fail
            refine hF48.mono ?_
            rintro e w3 ⟨rfl, rfl⟩
            go_wp2_with fail
            go_roundw
            case rel => exact ⟨k + 1, _, by omega, by go_num, HS2, HI2⟩
            case measure => simp [intOf]; omega
      | false =>
        rw [if_neg (by simpa using k9)] at hst
        have HS : Hid (runA (fun i => (F i).tp fl) n cl (k + 1) = .ok ((a, b) :: r)) := hst
        clear hst hI hI1 hI2 hr2 hcc hF46 hF48 kT kH hr hc hA hpk hsE hcl hcb HIp
        generalize F k = x at *
        go_wp2_with fail
        go_roundw
        case rel => exact ⟨k + 1, _, by omega, by go_num, HS, HI2⟩
        case measure => simp [intOf]; omega
    · obtain rfl : k = n := by omega
      have hki : ¬ (k : Int) < (k : Int) := by omega
      have hE : wrgA (fun i => (F i).tp fl) k cl = -1 := by unfold wrgA; rw [hA.out]
      have HR : Hid (RetI3 w (wrgA (fun i => (F i).tp fl) k cl) (.returned (.int .i64 (-1))) wr) := by rw [hE]; exact ⟨rfl, hI.out.bel⟩
      clear hr hI hA hsE hcl hcb hE
      go_wp2_with fail
      go_ret
      exact HR.out
end Go.Proofs.Ytlmmiicibjfcdaa
