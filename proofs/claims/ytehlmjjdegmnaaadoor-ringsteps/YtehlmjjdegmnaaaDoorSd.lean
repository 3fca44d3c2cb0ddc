/- RingSteps: the walk. -/
import Derived.Test.YtehlmjjdegmnaaaDoorSc
import Derived.Deep.RegionHeld3
namespace Go.Proofs.YtehlmjjdegmnaaaDoor
open Go.RowKit Go.Shelf
/-- What the law holds on to. -/
structure TSt (w : World) (a b c d : Nat) (lo hi m : Int) (xo : Option Addr) (xl xc N : Nat) (Q : Nat → Bool) (ao : Option Addr) (n : Nat) (t : Nat → Nat) (W : World) : Prop where
  rg : RgAt W w.heap.size a b c d lo hi
  bs : Box W (w.heap.size + 1) (.int .i64 m) (.slice xo xl xc)
  st : Sta W (.agg #[.int .i64 m, .slice xo xl xc]) N Q
  byt : RdB W ao n t
  tab : Tab W
  bel : Below w.heap.size w W
theorem TSt.next {w : World} {a b c d : Nat} {lo hi m : Int} {xo : Option Addr} {xl xc N : Nat} {Q : Nat → Bool} {ao : Option Addr} {n : Nat} {t : Nat → Nat} {W W' : World} (h : TSt w a b c d lo hi m xo xl xc N Q ao n t W) (hb : Below W.heap.size W W') : TSt w a b c d lo hi m xo xl xc N Q ao n t W' :=
  ⟨h.rg.below hb, h.bs.below hb, h.st.below hb, h.byt.below hb, h.tab.below hb, h.bel.trans (hb.mono h.bel.size)⟩
/-- What a call answers that makes a set: it can be read. -/
def RetS (w : World) (N : Nat) (P : Nat → Bool) (e : Ending) (w' : World) : Prop := ∃ ao len cap, e = .returned (.agg #[.int .i64 (N : Nat), .slice ao len cap]) ∧ SetAt w' (.agg #[.int .i64 (N : Nat), .slice ao len cap]) N P ∧ Below w.heap.size w w'
theorem RetSt.rs {w w' : World} {N : Nat} {P : Nat → Bool} {e : Ending} (h : RetSt w N P e w') : RetS w N P e w' := by
  obtain ⟨ao, len, cap, f, he, hr, hs, hb⟩ := h
  exact ⟨ao, len, cap, he, ⟨ao, len, cap, f, rfl, hr, hs⟩, hb⟩
set_option maxRecDepth 100000 in
set_option maxHeartbeats 16000000 in
theorem steps_given {a b c d a' b' c' d' lo' hi' : Nat} {lo hi m : Int} {P Q : Nat → Bool} (w : World) (xo : Option Addr) (xl xc : Nat) (ao : Option Addr) (n cap : Nat) (t : Nat → Nat) (hT : Tab w)
    (HS : ∀ w, Calls Tryd.prog 24 #[rgV a b c d lo hi] w fun e w' => e = .returned (rgV a' b' c' d' lo' hi') ∧ Below w.heap.size w w') (HM : ∀ w, Calls Tryd.prog 29 #[rgV a b c d lo hi] w fun e w' => e = .returned (rgV a' b' c' d' lo' hi') ∧ Below w.heap.size w w') (hP : C4 P a' b' c' d') (hhi : hi' ≤ 1000)
    (hx : Sta w (.agg #[.int .i64 m, .slice xo xl xc]) (hi' + 1) Q) (hQ : ∀ i, hi' + 1 ≤ i → Q i = false) (ht : RdB w ao n t) (hn : (n : Int) ≤ 9223372036854775807) :
    Calls Tryd.prog 3 #[rgV a b c d lo hi, .agg #[.int .i64 m, .slice xo xl xc], .slice ao n cap] w fun e w' => e = .returned (.bool true) ∧ Below w.heap.size w w' := by
  have hB0 := below_two w (.cells #[.int .u64 (a : Nat), .int .u64 (b : Nat), .int .u64 (c : Nat), .int .u64 (d : Nat), .int .i64 lo, .int .i64 hi] 26) (.cells #[.int .i64 m, .slice xo xl xc] 29)
  obtain ⟨N, hN⟩ : ∃ N, hi' + 1 = N := ⟨_, rfl⟩
  rw [hN] at hx
  have hI : TSt w a b c d lo hi m xo xl xc N Q ao n t ((w.alloc (.cells #[.int .u64 (a : Nat), .int .u64 (b : Nat), .int .u64 (c : Nat), .int .u64 (d : Nat), .int .i64 lo, .int .i64 hi] 26)).alloc (.cells #[.int .i64 m, .slice xo xl xc] 29)) :=
    ⟨(RgAt.new w a b c d lo hi).below ((Below.refl _ _).alloc (Nat.le_refl _) _), Box.new1 w _ _ _, hx.below hB0, ht.below hB0, hT.below hB0, hB0⟩
  obtain ⟨K, hK⟩ : ∃ K : Int, (if okR lo hi = true then (0 : Int) else 130) = K := ⟨_, rfl⟩
  have H4 : Hid (∀ W, Calls Tryd.prog 4 #[] W fun e w' => e = .returned (.bool true) ∧ Below W.heap.size W w') := fun W => live_any W
  have H7 : Hid (∀ W, Calls Tryd.prog 7 #[.agg #[.int .u64 (a : Nat), .int .u64 (b : Nat), .int .u64 (c : Nat), .int .u64 (d : Nat), .int .i64 lo, .int .i64 hi]] W fun e w' => e = .returned (.int .i64 K) ∧ Below W.heap.size W w') := fun W => by rw [← hK]; exact check_r a b c d lo hi W
  have H8 : Hid (∀ W, Calls Tryd.prog 8 #[.agg #[.int .u64 (a : Nat), .int .u64 (b : Nat), .int .u64 (c : Nat), .int .u64 (d : Nat), .int .i64 lo, .int .i64 hi]] W fun e w' => e = .returned (.int .i64 K) ∧ Below W.heap.size W w') := fun W => by rw [← hK]; exact rck_r a b c d lo hi W
  have H5 : Hid (∀ W, Sta W (.agg #[.int .i64 m, .slice xo xl xc]) N Q → Calls Tryd.prog 5 #[.agg #[.int .u64 (a : Nat), .int .u64 (b : Nat), .int .u64 (c : Nat), .int .u64 (d : Nat), .int .i64 lo, .int .i64 hi], .agg #[.int .i64 m, .slice xo xl xc]] W (RetM W Q N)) := fun W h => by rw [← hN] at h ⊢; exact oldest_any W HS hhi h
  have H6 : Hid (∀ W, Sta W (.agg #[.int .i64 m, .slice xo xl xc]) N Q → Calls Tryd.prog 6 #[.agg #[.int .u64 (a : Nat), .int .u64 (b : Nat), .int .u64 (c : Nat), .int .u64 (d : Nat), .int .i64 lo, .int .i64 hi], .agg #[.int .i64 m, .slice xo xl xc]] W (RetM W Q N)) := fun W h => by rw [← hN] at h ⊢; exact roldest_any W HM hhi h
  have H10 : Hid (∀ W, Calls Tryd.prog 10 #[.agg #[.int .u64 (a : Nat), .int .u64 (b : Nat), .int .u64 (c : Nat), .int .u64 (d : Nat), .int .i64 lo, .int .i64 hi]] W (RetS W N fun _ => false)) := fun W => by rw [← hN]; exact (pnone_any W HS hhi).mono fun e w' h => RetSt.rs (RetFr.st h)
  have H11 : Hid (∀ W, Calls Tryd.prog 11 #[.agg #[.int .u64 (a : Nat), .int .u64 (b : Nat), .int .u64 (c : Nat), .int .u64 (d : Nat), .int .i64 lo, .int .i64 hi]] W (RetS W N fun _ => false)) := fun W => by rw [← hN]; exact (rnone_any W HM hhi).mono fun e w' h => RetSt.rs (RetFr.st h)
  have H12 : Hid (∀ W, Sta W (.agg #[.int .i64 m, .slice xo xl xc]) N Q → Calls Tryd.prog 12 #[.agg #[.int .u64 (a : Nat), .int .u64 (b : Nat), .int .u64 (c : Nat), .int .u64 (d : Nat), .int .i64 lo, .int .i64 hi], .agg #[.int .i64 m, .slice xo xl xc]] W (RetS W N fun i => Q i || decide ((i : Int) = 0 ∧ i < hi' + 1))) := fun W h => by rw [← hN] at h ⊢; exact (trigger_any W HS hhi h).mono fun e w' h => RetSt.rs (RetFr.st h)
  have H13 : Hid (∀ W, Sta W (.agg #[.int .i64 m, .slice xo xl xc]) N Q → Calls Tryd.prog 13 #[.agg #[.int .u64 (a : Nat), .int .u64 (b : Nat), .int .u64 (c : Nat), .int .u64 (d : Nat), .int .i64 lo, .int .i64 hi], .agg #[.int .i64 m, .slice xo xl xc]] W (RetS W N fun i => Q i || decide ((i : Int) = 0 ∧ i < hi' + 1))) := fun W h => by rw [← hN] at h ⊢; exact (rtrig_any W HM hhi h).mono fun e w' h => RetSt.rs (RetFr.st h)
  obtain ⟨y, hy⟩ : ∃ y, (if n = 0 then 0 else t 0) = y := ⟨_, rfl⟩
  have hy8 : y < 256 := by
    rw [← hy]
    split
    · omega
    · exact ht.small 0 (by omega)
  have H14 : Hid (∀ W, Sta W (.agg #[.int .i64 m, .slice xo xl xc]) N Q → Calls Tryd.prog 14 #[.agg #[.int .u64 (a : Nat), .int .u64 (b : Nat), .int .u64 (c : Nat), .int .u64 (d : Nat), .int .i64 lo, .int .i64 hi], .agg #[.int .i64 m, .slice xo xl xc], .int .u8 (y : Nat)] W (RetS W N fun i => P y && decide (1 ≤ i) && Q (i - 1) && decide (i < hi' + 1))) := fun W h => by rw [← hN] at h ⊢; exact (next_any W y hy8 HS hP hhi h).mono fun e w' h => RetSt.rs (RetFr.st h)
  have H15 : Hid (∀ W, Sta W (.agg #[.int .i64 m, .slice xo xl xc]) N Q → Calls Tryd.prog 15 #[.agg #[.int .u64 (a : Nat), .int .u64 (b : Nat), .int .u64 (c : Nat), .int .u64 (d : Nat), .int .i64 lo, .int .i64 hi], .agg #[.int .i64 m, .slice xo xl xc], .int .u8 (y : Nat)] W (RetS W N fun i => P y && decide (1 ≤ i) && Q (i - 1) && decide (i < hi' + 1))) := fun W h => by rw [← hN] at h ⊢; exact (rnext_any W y hy8 HM hP hhi h).mono fun e w' h => RetSt.rs (RetFr.st h)
  have H16 : Hid (∀ W, Sta W (.agg #[.int .i64 m, .slice xo xl xc]) N Q → RdB W ao n t → Calls Tryd.prog 16 #[.agg #[.int .u64 (a : Nat), .int .u64 (b : Nat), .int .u64 (c : Nat), .int .u64 (d : Nat), .int .i64 lo, .int .i64 hi], .agg #[.int .i64 m, .slice xo xl xc], .slice ao n cap] W (RetS W N (rP P t n (hi' + 1) Q))) := fun W h h2 => by rw [← hN] at h ⊢; exact (run_any W ao n cap t HS hP hhi h h2 hn).mono fun e w' h => RetSt.rs (RetFr.st h)
  have H17 : Hid (∀ W, Sta W (.agg #[.int .i64 m, .slice xo xl xc]) N Q → RdB W ao n t → Calls Tryd.prog 17 #[.agg #[.int .u64 (a : Nat), .int .u64 (b : Nat), .int .u64 (c : Nat), .int .u64 (d : Nat), .int .i64 lo, .int .i64 hi], .agg #[.int .i64 m, .slice xo xl xc], .slice ao n cap] W (RetS W N (sQ P hi' t Q n))) := fun W h h2 => by rw [← hN] at h ⊢; exact (rrun_any W ao n cap t HM hP hhi h h2 hn).mono fun e w' h => RetSt.rs h
  have HPQ : Hid (∀ i, rP P t n (hi' + 1) Q i = sQ P hi' t Q n i) := fun i => (sQ_rP hQ n i).symm
  have H18 : Hid (∀ W, Tab W → Sta W (.agg #[.int .i64 m, .slice xo xl xc]) N Q → Calls Tryd.prog 18 #[.agg #[.int .u64 (a : Nat), .int .u64 (b : Nat), .int .u64 (c : Nat), .int .u64 (d : Nat), .int .i64 lo, .int .i64 hi], .agg #[.int .i64 m, .slice xo xl xc]] W (RetAc W lo' Q)) := fun W h1 h => by rw [← hN] at h; exact accepts_any W h1 HS hhi h
  have H19 : Hid (∀ W, Sta W (.agg #[.int .i64 m, .slice xo xl xc]) N Q → Calls Tryd.prog 19 #[.agg #[.int .u64 (a : Nat), .int .u64 (b : Nat), .int .u64 (c : Nat), .int .u64 (d : Nat), .int .i64 lo, .int .i64 hi], .agg #[.int .i64 m, .slice xo xl xc]] W (RetAc W lo' Q)) := fun W h => by rw [← hN] at h; exact raccepts_any W HM hhi h
  generalize rP P t n (hi' + 1) Q = P1 at *
  generalize sQ P hi' t Q n = P2 at *
  have HY := hidM hy
  clear HS HM hx ht hT hQ hK hN hB0 hy
  unfold rgV
  go_enter Tryd.func3, Tryd.ntmps3
  go_upto_region 1 with fail
  generalize (w.alloc (.cells #[.int .u64 (a : Nat), .int .u64 (b : Nat), .int .u64 (c : Nat), .int .u64 (d : Nat), .int .i64 lo, .int .i64 hi] 26)).alloc (.cells #[.int .i64 m, .slice xo xl xc] 29) = W at *
  go_upto_if 16 with (go_at_call 4; refine (H4.out W).mono ?_; rintro e w1 ⟨rfl, hb1⟩)
  have hI1 := hidM (hI.next hb1)
  clear hI hb1 H4
  go_cut [7] (fun v wx => v = .int .u8 (y : Nat) ∧ w1 = wx)
  case first =>
    by_cases h0 : n = 0
    · have hy0 : y = 0 := by rw [← HY.out, if_pos h0]
      subst hy0 h0
      clear H5 H6 H7 H8 H10 H11 H12 H13 H14 H15 H16 H17 H18 H19 HPQ hP
      go_wp2_with fail
      go_meet
      exact ⟨rfl, rfl⟩
    · have hy0 : t 0 = y := by rw [← HY.out, if_neg h0]
      obtain ⟨bb, off, hao, hbl, hct⟩ := hI1.out.byt.at_ (by omega)
      have t1 := hct 0 (by omega)
      rw [hy0, Nat.add_zero] at t1
      have hpos : (0 : Int) < (n : Int) := by omega
      subst hao
      clear H5 H6 H7 H8 H10 H11 H12 H13 H14 H15 H16 H17 H18 H19 HPQ hP hct hy0 h0 HY
      go_wp2_with fail
      go_meet
      exact ⟨rfl, rfl⟩
  case rest =>
    obtain ⟨rfl, rfl⟩ := hcut
    clear HY
    obtain ⟨⟨g0, g1, g2, g3, g4, g5⟩, -⟩ := hI1.out.rg.cells
    obtain ⟨c0, c1, -, -⟩ := hI1.out.bs.cells
    go_upto_region 7 with (go_at_call 5; refine (H5.out _ hI1.out.st).mono ?_; intro e w2 h2; obtain ⟨zv, bv, rfl, hM1, hb2⟩ := RetM.two h2)
    have hI2 := hidM (hI1.out.next hb2)
    have HM1 := hidM hM1
    clear hI1 h2 hM1 hb2 g0 g1 g2 g3 g4 g5 c0 c1 H5
    obtain ⟨⟨g0, g1, g2, g3, g4, g5⟩, -⟩ := hI2.out.rg.cells
    obtain ⟨c0, c1, -, -⟩ := hI2.out.bs.cells
    go_upto_region 8 with (go_at_call 6; refine (H6.out _ hI2.out.st).mono ?_; intro e w3 h3; obtain ⟨zv2, bv2, rfl, hM2, hb3⟩ := RetM.two h3)
    obtain ⟨e1, e2⟩ := HM1.out.uniq hM2
    subst e1 e2
    have hI3 := hI2.out.next hb3
    clear hI2 h3 hM2 hb3 g0 g1 g2 g3 g4 g5 c0 c1 H6 HM1
    replace hI3 := hI3.next (Below.refl _ w3).drew
    have kk : (K == K) = true := by simp
    have zz : ((zv : Int) == (zv : Int)) = true := by simp
    have bb : (bv == bv) = true := by simp
    go_region_held3 (fun w' => (w'.cell? ⟨w.heap.size, 0, none⟩ = some (.int .u64 (a : Nat)) ∧ w'.cell? ⟨w.heap.size, 1, none⟩ = some (.int .u64 (b : Nat)) ∧ w'.cell? ⟨w.heap.size, 2, none⟩ = some (.int .u64 (c : Nat)) ∧ w'.cell? ⟨w.heap.size, 3, none⟩ = some (.int .u64 (d : Nat)) ∧ w'.cell? ⟨w.heap.size, 4, none⟩ = some (.int .i64 lo) ∧ w'.cell? ⟨w.heap.size, 5, none⟩ = some (.int .i64 hi)) ∧ w'.cell? ⟨w.heap.size + 1, 0, none⟩ = some (.int .i64 m) ∧ w'.cell? ⟨w.heap.size + 1, 1, none⟩ = some (.slice xo xl xc))
      (exact ⟨hI3.rg.cells.1, hI3.bs.cells.1, hI3.bs.cells.2.1⟩)
      (first
        | (go_at_call 7; refine (H7.out _).mono ?_; rintro e u1 ⟨rfl, hb⟩; replace hI3 := hI3.next hb; clear hb)
        | (go_at_call 8; refine (H8.out _).mono ?_; rintro e u1 ⟨rfl, hb⟩; replace hI3 := hI3.next hb; clear hb)
        | (go_at_call 10; refine (H10.out _).mono ?_; rintro e u1 ⟨q1, q2, q3, rfl, hA1, hb⟩; replace hI3 := hI3.next hb; clear hb)
        | (go_at_call 11; refine (H11.out _).mono ?_; rintro e u1 ⟨p1, p2, p3, rfl, hD1, hb⟩; replace hI3 := hI3.next hb; replace hA1 := SetAt.below hA1 hb; clear hb)
        | (go_at_call 12; refine (H12.out _ hI3.st).mono ?_; rintro e u1 ⟨q4, q5, q6, rfl, hA2, hb⟩; replace hI3 := hI3.next hb; clear hb)
        | (go_at_call 13; refine (H13.out _ hI3.st).mono ?_; rintro e u1 ⟨p4, p5, p6, rfl, hD2, hb⟩; replace hI3 := hI3.next hb; replace hA2 := SetAt.below hA2 hb; clear hb)
        | (go_at_call 14; refine (H14.out _ hI3.st).mono ?_; rintro e u1 ⟨q7, q8, q9, rfl, hA3, hb⟩; replace hI3 := hI3.next hb; clear hb)
        | (go_at_call 15; refine (H15.out _ hI3.st).mono ?_; rintro e u1 ⟨p7, p8, p9, rfl, hD3, hb⟩; replace hI3 := hI3.next hb; replace hA3 := SetAt.below hA3 hb; clear hb)
        | (go_at_call 16; refine (H16.out _ hI3.st hI3.byt).mono ?_; rintro e u1 ⟨q10, q11, q12, rfl, hA4, hb⟩; replace hI3 := hI3.next hb; clear hb)
        | (go_at_call 17; refine (H17.out _ hI3.st hI3.byt).mono ?_; rintro e u1 ⟨p10, p11, p12, rfl, hD4, hb⟩; replace hI3 := hI3.next hb; replace hA4 := SetAt.below hA4 hb; clear hb)
        | (go_at_call 18; refine (H18.out _ hI3.tab hI3.st).mono ?_; rintro e u1 ⟨⟨v1, rfl, hv1⟩, hb⟩; replace hI3 := hI3.next hb; have HV1 := hidM hv1; clear hb hv1)
        | (go_at_call 19; refine (H19.out _ hI3.st).mono ?_; rintro e u1 ⟨⟨v2, rfl, hv2⟩, hb⟩; replace hI3 := hI3.next hb; have hvv : v1 = v2 := (Bool.eq_iff_iff.2 (HV1.out.trans hv2.symm)); clear hb HV1 hv2; subst hvv)
        | (go_at_call 9; first
            | (refine (exact_same hA1 hD1 (fun _ => rfl)).mono ?_; rintro e u1 ⟨rfl, hb⟩; replace hI3 := hI3.next hb; clear hb hA1 hD1)
            | (refine (exact_same hA2 hD2 (fun _ => rfl)).mono ?_; rintro e u1 ⟨rfl, hb⟩; replace hI3 := hI3.next hb; clear hb hA2 hD2)
            | (refine (exact_same hA3 hD3 (fun _ => rfl)).mono ?_; rintro e u1 ⟨rfl, hb⟩; replace hI3 := hI3.next hb; clear hb hA3 hD3)
            | (refine (exact_same hA4 hD4 HPQ.out).mono ?_; rintro e u1 ⟨rfl, hb⟩; replace hI3 := hI3.next hb; clear hb hA4 hD4)))
    all_goals go_wp2
    all_goals go_ret
    all_goals exact ⟨rfl, hI3.bel⟩
end Go.Proofs.YtehlmjjdegmnaaaDoor
