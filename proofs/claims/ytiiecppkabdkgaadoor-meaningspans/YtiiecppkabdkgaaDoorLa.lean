/- MeaningAlgebra's region, by codes. -/
import Derived.Test.YtiiecppkabdkgaaDoorJn
namespace Go.Proofs.YtiiecppkabdkgaaDoor
open Go.RowKit
def denA (ta tb tc : Tre) : Nat → Tre
  | 10 => ta
  | 11 => tb
  | 12 => tc
  | 13 => emp
  | 14 => (.two 4 ta tb)
  | 15 => (.two 4 tb ta)
  | 16 => (.two 4 tb tc)
  | 17 => (.two 4 ta (.two 4 tb tc))
  | 18 => (.two 4 (.two 4 ta tb) tc)
  | 19 => (.two 3 tb tc)
  | 20 => (.two 3 ta (.two 3 tb tc))
  | 21 => (.two 3 ta tb)
  | 22 => (.two 3 (.two 3 ta tb) tc)
  | 23 => (.two 3 ta (.two 4 tb tc))
  | 24 => (.two 3 ta tc)
  | 25 => (.two 4 (.two 3 ta tb) (.two 3 ta tc))
  | 26 => (.two 3 (.two 4 ta tb) tc)
  | 27 => (.two 4 (.two 3 ta tc) (.two 3 tb tc))
  | 28 => (.two 3 ta emp)
  | 29 => (.two 3 emp ta)
  | _ => emp
theorem denA_fine {ta tb tc : Tre} (oa : ta.ok = true) (ob : tb.ok = true) (oc : tc.ok = true) (na : noA ta = true) (nb' : noA tb = true) (nc : noA tc = true) (wa : wfT ta) (wb : wfT tb) (wc : wfT tc) (hs : ta.size + tb.size + tc.size ≤ 40) (c : Nat) : (denA ta tb tc c).ok = true ∧ noA (denA ta tb tc c) = true ∧ wfT (denA ta tb tc c) ∧ (denA ta tb tc c).size ≤ 2048 := by
  have e1 : emp.ok = true := emp_ok
  have e2 : noA emp = true := by kernel_rfl
  have e3 : wfT emp := wfN_zero
  have e4 : emp.size = 1 := rfl
  unfold denA
  split <;> (refine ⟨by simp [Tre.ok, oa, ob, oc, e1], by simp [noA, na, nb', nc, e2], by simp [wfT, wa, wb, wc, e3], by first | omega | (simp only [Tre.size, e4]; omega)⟩)
def semA (ta tb tc : Tre) (wb : Nat) (c : Nat) (v : Value) (w : World) : Prop := if c = 50 then v = .func (.func 25) #[] #[.pointer (some ⟨wb, 0, none⟩)] else TV w v (denA ta tb tc c)
def lookA : Look := { base := 71, res := 8, num := 88, fixed := [(9, 50)], loads := [(4, 24, 10), (5, 24, 11), (6, 24, 12)], calls := [(1010, [], 0), (1026, [10, 11], 14), (1026, [11, 10], 15), (50, [14, 15], 0), (1026, [11, 12], 16), (1026, [10, 16], 17), (1026, [14, 12], 18), (50, [17, 18], 0), (1027, [11, 12], 19), (1027, [10, 19], 20), (1027, [10, 11], 21), (1027, [21, 12], 22), (50, [20, 22], 0), (1027, [10, 16], 23), (1027, [10, 12], 24), (1026, [21, 24], 25), (50, [23, 25], 0), (1027, [14, 12], 26), (1026, [24, 19], 27), (50, [26, 27], 0), (1028, [], 13), (1027, [10, 13], 28), (50, [28, 10], 0), (1027, [13, 10], 29), (50, [29, 10], 0)], bools := [], L := [0, 0, 50, 10, 11, 14, 11, 10, 15, 0, 0, 0, 50, 10, 11, 12, 16, 17, 10, 11, 14, 12, 18, 0, 0, 0, 50, 10, 11, 12, 19, 20, 10, 11, 21, 12, 22, 0, 0, 0, 50, 10, 11, 12, 16, 23, 10, 11, 21, 10, 12, 24, 25, 0, 0, 0, 50, 10, 11, 14, 12, 26, 10, 12, 24, 11, 12, 19, 27, 0, 0, 0, 50, 10, 13, 28, 10, 0, 0, 0, 50, 13, 10, 29, 10, 0, 0, 0] }
theorem eg10 (args : Array Value) (w : World) : (callFunc 10 args).run Tryd.prog w = .ok (.enter 10 args) w := enters_of Tryd.func10 (by kernel_rfl) rfl args w
theorem eg25 (args : Array Value) (w : World) : (callFunc 25 args).run Tryd.prog w = .ok (.enter 25 args) w := enters_of Tryd.func25 (by kernel_rfl) rfl args w
theorem eg26 (args : Array Value) (w : World) : (callFunc 26 args).run Tryd.prog w = .ok (.enter 26 args) w := enters_of Tryd.func26 (by kernel_rfl) rfl args w
theorem eg27 (args : Array Value) (w : World) : (callFunc 27 args).run Tryd.prog w = .ok (.enter 27 args) w := enters_of Tryd.func27 (by kernel_rfl) rfl args w
theorem eg28 (args : Array Value) (w : World) : (callFunc 28 args).run Tryd.prog w = .ok (.enter 28 args) w := enters_of Tryd.func28 (by kernel_rfl) rfl args w
/-- What is owed of a call. -/
def CallOk (sem : Nat → Value → World → Prop) (C : World → Prop) (c : Nat) (cs : List Nat) (r : Nat) : Prop := ∃ (g : Nat) (cap : Array Value), (∀ v w, sem c v w → v = .func (.func g) #[] cap) ∧ (∀ args w, (callFunc g args).run Tryd.prog w = .ok (.enter g args) w) ∧ ∀ (w : World) (vs : List Value), C w → Fits sem w cs vs → Calls Tryd.prog g (vs.toArray ++ cap) w fun e w' => ∃ v, e = .returned v ∧ sem r v w' ∧ Below w.heap.size w w'
section
variable {ta tb tc : Tre} {wb : Nat} {C : World → Prop}
theorem midA {c : Nat} (h1 : 10 ≤ c) (h2 : c < 50) {v : Value} {w : World} : semB (semA ta tb tc wb) c v w ↔ TV w v (denA ta tb tc c) := by
  rw [semB_mid h1 (by omega)]
  unfold semA
  rw [if_neg (by omega)]
theorem join26 {x y z : Nat} (hx : 10 ≤ x ∧ x < 50) (hy : 10 ≤ y ∧ y < 50) (hz : 10 ≤ z ∧ z < 50) (he : denA ta tb tc z = .two 4 (denA ta tb tc x) (denA ta tb tc y)) (hf : ∀ c, (denA ta tb tc c).ok = true ∧ noA (denA ta tb tc c) = true ∧ wfT (denA ta tb tc c) ∧ (denA ta tb tc c).size ≤ 2048) : CallOk (semB (semA ta tb tc wb)) C 1026 [x, y] z := by
  refine ⟨26, #[], fun v w h => (semB_fn 26 v w (by decide)).1 h, eg26, fun w vs _ hv => ?_⟩
  obtain ⟨v0, vs0, rfl, h0, hv⟩ := hv.cons
  obtain ⟨v1, vs1, rfl, h1, hv⟩ := hv.cons
  obtain rfl := hv.nil
  refine (alt26_any v0 v1 _ _ w ((midA hx.1 hx.2).1 h0) ((midA hy.1 hy.2).1 h1) (hf x).1 (hf y).1 (hf x).2.2.2 (hf y).2.2.2).mono ?_
  rintro e w' ⟨v, rfl, hv, hb⟩
  exact ⟨v, rfl, (midA hz.1 hz.2).2 (by rw [he]; exact hv), hb⟩
theorem join27 {x y z : Nat} (hx : 10 ≤ x ∧ x < 50) (hy : 10 ≤ y ∧ y < 50) (hz : 10 ≤ z ∧ z < 50) (he : denA ta tb tc z = .two 3 (denA ta tb tc x) (denA ta tb tc y)) (hf : ∀ c, (denA ta tb tc c).ok = true ∧ noA (denA ta tb tc c) = true ∧ wfT (denA ta tb tc c) ∧ (denA ta tb tc c).size ≤ 2048) : CallOk (semB (semA ta tb tc wb)) C 1027 [x, y] z := by
  refine ⟨27, #[], fun v w h => (semB_fn 27 v w (by decide)).1 h, eg27, fun w vs _ hv => ?_⟩
  obtain ⟨v0, vs0, rfl, h0, hv⟩ := hv.cons
  obtain ⟨v1, vs1, rfl, h1, hv⟩ := hv.cons
  obtain rfl := hv.nil
  refine (cat27_any v0 v1 _ _ w ((midA hx.1 hx.2).1 h0) ((midA hy.1 hy.2).1 h1) (hf x).1 (hf y).1 (hf x).2.2.2 (hf y).2.2.2).mono ?_
  rintro e w' ⟨v, rfl, hv, hb⟩
  exact ⟨v, rfl, (midA hz.1 hz.2).2 (by rw [he]; exact hv), hb⟩
theorem same50 {x y : Nat} {ao : Option Addr} {n cap : Nat} {f : Nat → Nat} {w0 : World} (hr : RdB w0 ao n f) (hn : n ≤ 24) (hT : TabZ w0) (kw : Cl w0 wb 25 [.slice ao n cap]) (hx : 10 ≤ x ∧ x < 50) (hy : 10 ≤ y ∧ y < 50) (he : mean f n false (denA ta tb tc x) = mean f n false (denA ta tb tc y)) (hf : ∀ c, (denA ta tb tc c).ok = true ∧ noA (denA ta tb tc c) = true ∧ wfT (denA ta tb tc c) ∧ (denA ta tb tc c).size ≤ 2048) : CallOk (semB (semA ta tb tc wb)) (fun w => Below w0.heap.size w0 w) 50 [x, y] 0 := by
  refine ⟨25, #[.pointer (some ⟨wb, 0, none⟩)], fun v w h => ?_, eg25, fun w vs hC hv => ?_⟩
  · have := (semB_mid (by decide) (by decide)).1 h
    unfold semA at this
    rwa [if_pos rfl] at this
  obtain ⟨v0, vs0, rfl, h0, hv⟩ := hv.cons
  obtain ⟨v1, vs1, rfl, h1, hv⟩ := hv.cons
  obtain rfl := hv.nil
  obtain ⟨xo, xc, rfl, hX, _⟩ := (midA hx.1 hx.2).1 h0
  obtain ⟨yo, yc, rfl, hY, _⟩ := (midA hy.1 hy.2).1 h1
  refine (same25_any xo _ xc _ yo _ yc _ ao n cap f wb w hX (by have := (hf x).2.2.2; omega) (fun i _ => wfT_nodes (hf x).2.2.1 i) hY (by have := (hf y).2.2.2; omega) (fun i _ => wfT_nodes (hf y).2.2.1 i) (hr.below hC) hn (hT.below hC) (kw.below hC) ?_).mono ?_
  · intro i j _ _
    rw [mTab_nodes rfl (hf x).1 (hf x).2.2.2 (noA_anc _ _ (hf x).2.1), mTab_nodes rfl (hf y).1 (hf y).2.2.2 (noA_anc _ _ (hf y).2.1), he]
  · rintro e w' ⟨rfl, hb⟩
    exact ⟨_, rfl, (semB_yes _ _).2 rfl, hb⟩
end
theorem mean_alt (f : Nat → Nat) (n : Nat) (mu : Bool) (x y : Tre) : mean f n mu (.two 4 x y) = tAlt (mean f n mu x) (mean f n mu y) := by rw [mean, if_neg (by decide)]
theorem mean_cat (f : Nat → Nat) (n : Nat) (mu : Bool) (x y : Tre) : mean f n mu (.two 3 x y) = tCat (mean f n mu x) (mean f n mu y) := by rw [mean, if_pos rfl]
set_option maxHeartbeats 1000000 in
theorem owedA {ta tb tc : Tre} {ao : Option Addr} {n cap : Nat} {f : Nat → Nat} {wb : Nat} {w0 : World} {fv : Nat → Value} {p q s : Nat} {va vb vc : Value} (hr : RdB w0 ao n f) (hn : n ≤ 24) (hT : TabZ w0) (kw : Cl w0 wb 25 [.slice ao n cap])
    (ka : Cl w0 p 24 [va]) (hva : TV w0 (.agg #[va]) ta) (kb : Cl w0 q 24 [vb]) (hvb : TV w0 (.agg #[vb]) tb) (kc : Cl w0 s 24 [vc]) (hvc : TV w0 (.agg #[vc]) tc)
    (h4 : fv 4 = .pointer (some ⟨p, 0, none⟩)) (h5 : fv 5 = .pointer (some ⟨q, 0, none⟩)) (h6 : fv 6 = .pointer (some ⟨s, 0, none⟩)) (h9 : fv 9 = .func (.func 25) #[] #[.pointer (some ⟨wb, 0, none⟩)])
    (hf : ∀ c, (denA ta tb tc c).ok = true ∧ noA (denA ta tb tc c) = true ∧ wfT (denA ta tb tc c) ∧ (denA ta tb tc c).size ≤ 2048) :
    Owed Tryd.prog lookA (semB (semA ta tb tc wb)) (fun w => Below w0.heap.size w0 w) 158 fv := by
  refine ⟨Tryd.underlying4, semB_grow ?_, fun w w' h1 h2 => h1.trans (h2.mono h1.size), semB_yes, semB_no, semB_neg, semB_any, semB_num, semB_fn, ?_, ?_, ?_, ?_, ?_⟩
  · intro c v w w' hs hb
    unfold semA at *
    split
    · rename_i e; simpa [e] using hs
    · rename_i e; rw [if_neg e] at hs; exact hs.below hb
  · intro c cs r hm
    simp only [lookA, List.mem_cons, List.not_mem_nil, or_false, Prod.mk.injEq] at hm
    omega
  · intro t c hm w hC
    simp only [lookA, List.mem_cons, List.not_mem_nil, or_false, Prod.mk.injEq] at hm
    obtain ⟨rfl, rfl⟩ := hm
    rw [h9]
    refine (semB_mid (by decide) (by decide)).2 ?_
    unfold semA
    rw [if_pos rfl]
  · intro t k r hm
    simp only [lookA, List.mem_cons, List.not_mem_nil, or_false, Prod.mk.injEq] at hm
    rcases hm with ⟨rfl, rfl, rfl⟩ | ⟨rfl, rfl, rfl⟩ | ⟨rfl, rfl, rfl⟩
    · exact ⟨by decide, fun o a w ho ha hC => ⟨_, ex_load24 ho (ha.trans h4) ((ka.below hC).cell 0 rfl), (midA (by decide) (by decide)).2 (hva.below hC)⟩⟩
    · exact ⟨by decide, fun o a w ho ha hC => ⟨_, ex_load24 ho (ha.trans h5) ((kb.below hC).cell 0 rfl), (midA (by decide) (by decide)).2 (hvb.below hC)⟩⟩
    · exact ⟨by decide, fun o a w ho ha hC => ⟨_, ex_load24 ho (ha.trans h6) ((kc.below hC).cell 0 rfl), (midA (by decide) (by decide)).2 (hvc.below hC)⟩⟩
  · intro c hm
    simp [lookA] at hm
  · intro c cs r hm
    show CallOk _ _ c cs r
    simp only [lookA, List.mem_cons, List.not_mem_nil, or_false, Prod.mk.injEq] at hm
    rcases hm with ⟨rfl, rfl, rfl⟩ | ⟨rfl, rfl, rfl⟩ | ⟨rfl, rfl, rfl⟩ | ⟨rfl, rfl, rfl⟩ | ⟨rfl, rfl, rfl⟩ | ⟨rfl, rfl, rfl⟩ | ⟨rfl, rfl, rfl⟩ | ⟨rfl, rfl, rfl⟩ | ⟨rfl, rfl, rfl⟩ | ⟨rfl, rfl, rfl⟩ | ⟨rfl, rfl, rfl⟩ | ⟨rfl, rfl, rfl⟩ | ⟨rfl, rfl, rfl⟩ | ⟨rfl, rfl, rfl⟩ | ⟨rfl, rfl, rfl⟩ | ⟨rfl, rfl, rfl⟩ | ⟨rfl, rfl, rfl⟩ | ⟨rfl, rfl, rfl⟩ | ⟨rfl, rfl, rfl⟩ | ⟨rfl, rfl, rfl⟩ | ⟨rfl, rfl, rfl⟩ | ⟨rfl, rfl, rfl⟩ | ⟨rfl, rfl, rfl⟩ | ⟨rfl, rfl, rfl⟩ | ⟨rfl, rfl, rfl⟩
    · refine ⟨10, #[], fun v w h => (semB_fn 10 v w (by decide)).1 h, eg10, fun w vs hC hv => ?_⟩
      obtain rfl := hv.nil
      refine (begun_any w (hT.below hC)).mono ?_
      rintro e w' ⟨rfl, hb⟩
      exact ⟨_, rfl, (semB_yes _ _).2 rfl, hb⟩
    · exact join26 (by decide) (by decide) (by decide) rfl hf
    · exact join26 (by decide) (by decide) (by decide) rfl hf
    · exact same50 hr hn hT kw (by decide) (by decide) (by simp only [denA, mean_alt]; exact alt_comm _ _) hf
    · exact join26 (by decide) (by decide) (by decide) rfl hf
    · exact join26 (by decide) (by decide) (by decide) rfl hf
    · exact join26 (by decide) (by decide) (by decide) rfl hf
    · exact same50 hr hn hT kw (by decide) (by decide) (by simp only [denA, mean_alt]; exact alt_assoc _ _ _) hf
    · exact join27 (by decide) (by decide) (by decide) rfl hf
    · exact join27 (by decide) (by decide) (by decide) rfl hf
    · exact join27 (by decide) (by decide) (by decide) rfl hf
    · exact join27 (by decide) (by decide) (by decide) rfl hf
    · exact same50 hr hn hT kw (by decide) (by decide) (by simp only [denA, mean_cat]; exact cat_assoc _ _ _) hf
    · exact join27 (by decide) (by decide) (by decide) rfl hf
    · exact join27 (by decide) (by decide) (by decide) rfl hf
    · exact join26 (by decide) (by decide) (by decide) rfl hf
    · exact same50 hr hn hT kw (by decide) (by decide) (by simp only [denA, mean_alt, mean_cat]; exact cat_alt _ _ _) hf
    · exact join27 (by decide) (by decide) (by decide) rfl hf
    · exact join26 (by decide) (by decide) (by decide) rfl hf
    · exact same50 hr hn hT kw (by decide) (by decide) (by simp only [denA, mean_alt, mean_cat]; exact alt_cat _ _ _) hf
    · refine ⟨28, #[], fun v w h => (semB_fn 28 v w (by decide)).1 h, eg28, fun w vs hC hv => ?_⟩
      obtain rfl := hv.nil
      refine (rempty_any w).mono ?_
      intro e w' h
      obtain ⟨v, rfl, hv, hb⟩ := retT_V (t := emp) h rfl (fun _ _ => rfl)
      exact ⟨v, rfl, (midA (by decide) (by decide)).2 hv, hb⟩
    · exact join27 (by decide) (by decide) (by decide) rfl hf
    · exact same50 hr hn hT kw (by decide) (by decide) (by simp only [denA, mean_cat, mean_emp]; exact stay_cat _) hf
    · exact join27 (by decide) (by decide) (by decide) rfl hf
    · exact same50 hr hn hT kw (by decide) (by decide) (by simp only [denA, mean_cat, mean_emp]; exact cat_stay _) hf
end Go.Proofs.YtiiecppkabdkgaaDoor
