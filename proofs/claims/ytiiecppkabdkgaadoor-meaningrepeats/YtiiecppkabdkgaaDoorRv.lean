/- MeaningRepeats' last region, by codes. -/
import Derived.Test.YtiiecppkabdkgaaDoorRw
namespace Go.Proofs.YtiiecppkabdkgaaDoor
open Go.RowKit
def denR (t : Tre) (l k : Nat) : Nat → Tre
  | 11 => manyT t l
  | 12 => upT t k
  | 13 => .rep t 0 (-1) false
  | 16 => .rep t (l : Int) ((l + k : Nat) : Int) true
  | 17 => .two 3 (manyT t l) (upT t k)
  | 19 => .two 3 t (.rep t 0 (-1) false)
  | 20 => .two 4 emp (.two 3 t (.rep t 0 (-1) false))
  | 21 => .rep t (l : Int) (-1) false
  | 22 => .two 3 (manyT t l) (.rep t 0 (-1) false)
  | _ => emp
theorem denR_fine {t : Tre} {l k : Nat} (h : Fine t 12) (hl : l ≤ 3) (hk : k ≤ 3) (c : Nat) : Fine (denR t l k c) 200 := by
  have m := (h.many l).mono (show 1 + l * 13 ≤ 40 by omega)
  have u := (h.up k).mono (show 1 + k * 15 ≤ 46 by omega)
  have s : Fine (.rep t 0 (-1) false) 13 := h.rep (by decide)
  have r1 : Fine (.rep t (l : Int) ((l + k : Nat) : Int) true) 13 := h.rep (by simp [Tre.mayR]; omega)
  have r2 : Fine (.rep t (l : Int) (-1) false) 13 := h.rep (by simp [Tre.mayR]; omega)
  unfold denR
  split
  · exact m.mono (by omega)
  · exact u.mono (by omega)
  · exact s.mono (by omega)
  · exact r1.mono (by omega)
  · exact (m.two (.inl rfl) u).mono (by omega)
  · exact (h.two (.inl rfl) s).mono (by omega)
  · exact (fine_emp.two (.inr rfl) (h.two (.inl rfl) s)).mono (by omega)
  · exact r2.mono (by omega)
  · exact (m.two (.inl rfl) s).mono (by omega)
  · exact fine_emp.mono (by omega)
def semR (t : Tre) (l k wb : Nat) (c : Nat) (v : Value) (w : World) : Prop := if c = 10 then TW w v t else if c = 14 then v = .int .i64 (l : Nat) else if c = 15 then v = .int .i64 ((l + k : Nat) : Int) else if c = 50 then v = .func (.func 30) #[] #[.pointer (some ⟨wb, 0, none⟩)] else TV w v (denR t l k c)
def lookR : Look := { base := 64, res := 8, num := 33, fixed := [(9, 14), (10, 15), (14, 50)], loads := [(4, 24, 10), (11, 24, 11), (12, 24, 12), (13, 24, 13)], calls := [(1010, [], 0), (1029, [10, 14, 15, 0], 16), (1027, [11, 12], 17), (50, [16, 17], 0), (1028, [], 18), (1027, [10, 13], 19), (1026, [18, 19], 20), (50, [13, 20], 0), (1029, [10, 14, 2, 1], 21), (1027, [11, 13], 22), (50, [21, 22], 0)], bools := [], L := [0, 0, 50, 10, 14, 15, 16, 11, 12, 17, 0, 0, 0, 50, 13, 18, 10, 13, 19, 20, 0, 0, 0, 50, 10, 14, 21, 11, 13, 22, 0, 0, 0] }
theorem eg29 (args : Array Value) (w : World) : (callFunc 29 args).run Tryd.prog w = .ok (.enter 29 args) w := enters_of Tryd.func29 (by kernel_rfl) rfl args w
theorem eg30 (args : Array Value) (w : World) : (callFunc 30 args).run Tryd.prog w = .ok (.enter 30 args) w := enters_of Tryd.func30 (by kernel_rfl) rfl args w
section
variable {t : Tre} {l k wb : Nat} {C : World → Prop}
theorem midR {c : Nat} (h1 : 10 < c) (h2 : c < 50) (h3 : c ≠ 14) (h4 : c ≠ 15) {v : Value} {w : World} : semB (semR t l k wb) c v w ↔ TV w v (denR t l k c) := by
  rw [semB_mid (by omega) (by omega)]
  unfold semR
  rw [if_neg (by omega), if_neg h3, if_neg h4, if_neg (by omega)]
theorem midR10 {v : Value} {w : World} : semB (semR t l k wb) 10 v w ↔ TW w v t := by
  rw [semB_mid (by omega) (by omega)]
  unfold semR
  rw [if_pos rfl]
theorem midR14 {v : Value} {w : World} : semB (semR t l k wb) 14 v w ↔ v = .int .i64 (l : Nat) := by
  rw [semB_mid (by omega) (by omega)]
  unfold semR
  rw [if_neg (by omega), if_pos rfl]
theorem midR15 {v : Value} {w : World} : semB (semR t l k wb) 15 v w ↔ v = .int .i64 ((l + k : Nat) : Int) := by
  rw [semB_mid (by omega) (by omega)]
  unfold semR
  rw [if_neg (by omega), if_neg (by omega), if_pos rfl]
theorem joinR27 {x y z : Nat} {tx ty : Tre} (hx : ∀ v w, semB (semR t l k wb) x v w → TW w v tx) (hy : ∀ v w, semB (semR t l k wb) y v w → TW w v ty) (hz : ∀ v w, TV w v (.two 3 tx ty) → semB (semR t l k wb) z v w) : CallOk (semB (semR t l k wb)) C 1027 [x, y] z := by
  refine ⟨27, #[], fun v w h => (semB_fn 27 v w (by decide)).1 h, eg27, fun w vs _ hv => ?_⟩
  obtain ⟨v0, vs0, rfl, h0, hv⟩ := hv.cons
  obtain ⟨v1, vs1, rfl, h1, hv⟩ := hv.cons
  obtain rfl := hv.nil
  refine (cat27W v0 v1 _ _ w (hx _ _ h0) (hy _ _ h1)).mono ?_
  rintro e w' ⟨v, rfl, hv, hb⟩
  exact ⟨v, rfl, hz _ _ hv, hb⟩
theorem joinR26 {x y z : Nat} {tx ty : Tre} (hx : ∀ v w, semB (semR t l k wb) x v w → TW w v tx) (hy : ∀ v w, semB (semR t l k wb) y v w → TW w v ty) (hz : ∀ v w, TV w v (.two 4 tx ty) → semB (semR t l k wb) z v w) : CallOk (semB (semR t l k wb)) C 1026 [x, y] z := by
  refine ⟨26, #[], fun v w h => (semB_fn 26 v w (by decide)).1 h, eg26, fun w vs _ hv => ?_⟩
  obtain ⟨v0, vs0, rfl, h0, hv⟩ := hv.cons
  obtain ⟨v1, vs1, rfl, h1, hv⟩ := hv.cons
  obtain rfl := hv.nil
  refine (alt26W v0 v1 _ _ w (hx _ _ h0) (hy _ _ h1)).mono ?_
  rintro e w' ⟨v, rfl, hv, hb⟩
  exact ⟨v, rfl, hz _ _ hv, hb⟩
theorem sameR {x y : Nat} {ao : Option Addr} {n cap : Nat} {f : Nat → Nat} {w0 : World} (hr : RdB w0 ao n f) (hn : n ≤ 24) (hT : TabZ w0) (kw : Cl w0 wb 25 [.slice ao n cap]) (hx : 10 < x ∧ x < 50 ∧ x ≠ 14 ∧ x ≠ 15) (hy : 10 < y ∧ y < 50 ∧ y ≠ 14 ∧ y ≠ 15) (he : mean f n false (denR t l k x) = mean f n false (denR t l k y)) (hf : ∀ c, Fine (denR t l k c) 200) : CallOk (semB (semR t l k wb)) (fun w => Below w0.heap.size w0 w) 50 [x, y] 0 := by
  refine ⟨30, #[.pointer (some ⟨wb, 0, none⟩)], fun v w h => ?_, eg30, fun w vs hC hv => ?_⟩
  · have := (semB_mid (by decide) (by decide)).1 h
    unfold semR at this
    rwa [if_neg (by omega), if_neg (by omega), if_neg (by omega), if_pos rfl] at this
  obtain ⟨v0, vs0, rfl, h0, hv⟩ := hv.cons
  obtain ⟨v1, vs1, rfl, h1, hv⟩ := hv.cons
  obtain rfl := hv.nil
  obtain ⟨xo, xc, rfl, hX, _⟩ := (midR hx.1 hx.2.1 hx.2.2.1 hx.2.2.2).1 h0
  obtain ⟨yo, yc, rfl, hY, _⟩ := (midR hy.1 hy.2.1 hy.2.2.1 hy.2.2.2).1 h1
  refine (same30_any xo _ xc _ yo _ yc _ ao n cap f wb w hX (by have := (hf x).sz; omega) (fun i _ => wfT_nodes (hf x).wf i) hY (by have := (hf y).sz; omega) (fun i _ => wfT_nodes (hf y).wf i) (hr.below hC) hn (hT.below hC) (kw.below hC) ?_).mono ?_
  · intro i j _ _
    rw [(hf x).tab (by omega), (hf y).tab (by omega), he]
  · rintro e w' ⟨rfl, hb⟩
    exact ⟨_, rfl, (semB_yes _ _).2 rfl, hb⟩
theorem twR (hf : ∀ c, Fine (denR t l k c) 200) {c : Nat} (h1 : 10 < c) (h2 : c < 50) (h3 : c ≠ 14) (h4 : c ≠ 15) (v : Value) (w : World) (h : semB (semR t l k wb) c v w) : TW w v (denR t l k c) :=
  ((midR h1 h2 h3 h4).1 h).tw (hf c).ok (by have := (hf c).sz; omega)
end
set_option maxHeartbeats 1000000 in
theorem owedR {t : Tre} {l k : Nat} {ao : Option Addr} {n cap : Nat} {f : Nat → Nat} {wb : Nat} {w0 : World} {fv : Nat → Value} {p q s u : Nat} {va vb vc vd : Value} (hr : RdB w0 ao n f) (hn : n ≤ 24) (hT : TabZ w0) (kw : Cl w0 wb 25 [.slice ao n cap])
    (ka : Cl w0 p 24 [va]) (hva : TW w0 (.agg #[va]) t) (kb : Cl w0 q 24 [vb]) (hvb : TV w0 (.agg #[vb]) (manyT t l)) (kc : Cl w0 s 24 [vc]) (hvc : TV w0 (.agg #[vc]) (upT t k)) (kd : Cl w0 u 24 [vd]) (hvd : TV w0 (.agg #[vd]) (.rep t 0 (-1) false))
    (h4 : fv 4 = .pointer (some ⟨p, 0, none⟩)) (h9 : fv 9 = .int .i64 (l : Nat)) (h10 : fv 10 = .int .i64 ((l + k : Nat) : Int)) (h11 : fv 11 = .pointer (some ⟨q, 0, none⟩)) (h12 : fv 12 = .pointer (some ⟨s, 0, none⟩)) (h13 : fv 13 = .pointer (some ⟨u, 0, none⟩)) (h14 : fv 14 = .func (.func 30) #[] #[.pointer (some ⟨wb, 0, none⟩)])
    (hf : ∀ c, Fine (denR t l k c) 200) :
    Owed Tryd.prog lookR (semB (semR t l k wb)) (fun w => Below w0.heap.size w0 w) 96 fv := by
  refine ⟨Tryd.underlying4, semB_grow ?_, fun w w' h1 h2 => h1.trans (h2.mono h1.size), semB_yes, semB_no, semB_neg, semB_any, semB_num, semB_fn, ?_, ?_, ?_, ?_, ?_⟩
  · intro c v w w' hs hb
    unfold semR at *
    split
    · rename_i e; rw [if_pos e] at hs; exact hs.below hb
    rename_i e1
    rw [if_neg e1] at hs
    split
    · rename_i e; rw [if_pos e] at hs; exact hs
    rename_i e2
    rw [if_neg e2] at hs
    split
    · rename_i e; rw [if_pos e] at hs; exact hs
    rename_i e3
    rw [if_neg e3] at hs
    split
    · rename_i e; rw [if_pos e] at hs; exact hs
    rename_i e4
    rw [if_neg e4] at hs
    exact hs.below hb
  · intro c cs r hm
    simp only [lookR, List.mem_cons, List.not_mem_nil, or_false, Prod.mk.injEq] at hm
    omega
  · intro j c hm w hC
    simp only [lookR, List.mem_cons, List.not_mem_nil, or_false, Prod.mk.injEq] at hm
    rcases hm with ⟨rfl, rfl⟩ | ⟨rfl, rfl⟩ | ⟨rfl, rfl⟩
    · exact midR14.2 h9
    · exact midR15.2 h10
    · rw [h14]
      refine (semB_mid (by decide) (by decide)).2 ?_
      unfold semR
      rw [if_neg (by omega), if_neg (by omega), if_neg (by omega), if_pos rfl]
  · intro j kk r hm
    simp only [lookR, List.mem_cons, List.not_mem_nil, or_false, Prod.mk.injEq] at hm
    rcases hm with ⟨rfl, rfl, rfl⟩ | ⟨rfl, rfl, rfl⟩ | ⟨rfl, rfl, rfl⟩ | ⟨rfl, rfl, rfl⟩
    · exact ⟨by decide, fun o a w ho ha hC => ⟨_, ex_load24 ho (ha.trans h4) ((ka.below hC).cell 0 rfl), midR10.2 (hva.below hC)⟩⟩
    · exact ⟨by decide, fun o a w ho ha hC => ⟨_, ex_load24 ho (ha.trans h11) ((kb.below hC).cell 0 rfl), (midR (by decide) (by decide) (by decide) (by decide)).2 (hvb.below hC)⟩⟩
    · exact ⟨by decide, fun o a w ho ha hC => ⟨_, ex_load24 ho (ha.trans h12) ((kc.below hC).cell 0 rfl), (midR (by decide) (by decide) (by decide) (by decide)).2 (hvc.below hC)⟩⟩
    · exact ⟨by decide, fun o a w ho ha hC => ⟨_, ex_load24 ho (ha.trans h13) ((kd.below hC).cell 0 rfl), (midR (by decide) (by decide) (by decide) (by decide)).2 (hvd.below hC)⟩⟩
  · intro c hm
    simp [lookR] at hm
  · intro c cs r hm
    show CallOk _ _ c cs r
    simp only [lookR, List.mem_cons, List.not_mem_nil, or_false, Prod.mk.injEq] at hm
    rcases hm with ⟨rfl, rfl, rfl⟩ | ⟨rfl, rfl, rfl⟩ | ⟨rfl, rfl, rfl⟩ | ⟨rfl, rfl, rfl⟩ | ⟨rfl, rfl, rfl⟩ | ⟨rfl, rfl, rfl⟩ | ⟨rfl, rfl, rfl⟩ | ⟨rfl, rfl, rfl⟩ | ⟨rfl, rfl, rfl⟩ | ⟨rfl, rfl, rfl⟩ | ⟨rfl, rfl, rfl⟩
    · refine ⟨10, #[], fun v w h => (semB_fn 10 v w (by decide)).1 h, eg10, fun w vs hC hv => ?_⟩
      obtain rfl := hv.nil
      refine (begun_any w (hT.below hC)).mono ?_
      rintro e w' ⟨rfl, hb⟩
      exact ⟨_, rfl, (semB_yes _ _).2 rfl, hb⟩
    · refine ⟨29, #[], fun v w h => (semB_fn 29 v w (by decide)).1 h, eg29, fun w vs hC hv => ?_⟩
      obtain ⟨v0, vs0, rfl, h0, hv⟩ := hv.cons
      obtain ⟨v1, vs1, rfl, h1, hv⟩ := hv.cons
      obtain ⟨v2, vs2, rfl, h2, hv⟩ := hv.cons
      obtain ⟨v3, vs3, rfl, h3, hv⟩ := hv.cons
      obtain rfl := hv.nil
      obtain rfl := midR14.1 h1
      obtain rfl := midR15.1 h2
      obtain rfl := (semB_yes _ _).1 h3
      refine (rep29W v0 t _ _ _ w (midR10.1 h0)).mono ?_
      rintro e w' ⟨v, rfl, hv, hb⟩
      exact ⟨v, rfl, (midR (by decide) (by decide) (by decide) (by decide)).2 hv, hb⟩
    · exact joinR27 (fun v w h => twR hf (by decide) (by decide) (by decide) (by decide) v w h) (fun v w h => twR hf (by decide) (by decide) (by decide) (by decide) v w h) (fun v w h => (midR (by decide) (by decide) (by decide) (by decide)).2 h)
    · exact sameR hr hn hT kw (by decide) (by decide) (rep_mean f n false t l k true) hf
    · refine ⟨28, #[], fun v w h => (semB_fn 28 v w (by decide)).1 h, eg28, fun w vs hC hv => ?_⟩
      obtain rfl := hv.nil
      refine (rempty_any w).mono ?_
      intro e w' h
      obtain ⟨v, rfl, hv, hb⟩ := retT_V (t := emp) h rfl (fun _ _ => rfl)
      exact ⟨v, rfl, (midR (by decide) (by decide) (by decide) (by decide)).2 hv, hb⟩
    · exact joinR27 (fun v w h => midR10.1 h) (fun v w h => twR hf (by decide) (by decide) (by decide) (by decide) v w h) (fun v w h => (midR (by decide) (by decide) (by decide) (by decide)).2 h)
    · exact joinR26 (fun v w h => twR hf (by decide) (by decide) (by decide) (by decide) v w h) (fun v w h => twR hf (by decide) (by decide) (by decide) (by decide) v w h) (fun v w h => (midR (by decide) (by decide) (by decide) (by decide)).2 h)
    · exact sameR hr hn hT kw (by decide) (by decide) (star_mean f n false t false) hf
    · refine ⟨29, #[], fun v w h => (semB_fn 29 v w (by decide)).1 h, eg29, fun w vs hC hv => ?_⟩
      obtain ⟨v0, vs0, rfl, h0, hv⟩ := hv.cons
      obtain ⟨v1, vs1, rfl, h1, hv⟩ := hv.cons
      obtain ⟨v2, vs2, rfl, h2, hv⟩ := hv.cons
      obtain ⟨v3, vs3, rfl, h3, hv⟩ := hv.cons
      obtain rfl := hv.nil
      obtain rfl := midR14.1 h1
      obtain rfl := (semB_neg _ _).1 h2
      obtain rfl := (semB_no _ _).1 h3
      refine (rep29W v0 t _ _ _ w (midR10.1 h0)).mono ?_
      rintro e w' ⟨v, rfl, hv, hb⟩
      exact ⟨v, rfl, (midR (by decide) (by decide) (by decide) (by decide)).2 hv, hb⟩
    · exact joinR27 (fun v w h => twR hf (by decide) (by decide) (by decide) (by decide) v w h) (fun v w h => twR hf (by decide) (by decide) (by decide) (by decide) v w h) (fun v w h => (midR (by decide) (by decide) (by decide) (by decide)).2 h)
    · exact sameR hr hn hT kw (by decide) (by decide) (rep_star f n false t l false) hf
end Go.Proofs.YtiiecppkabdkgaaDoor
