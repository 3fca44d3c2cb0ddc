/- SpinJoins: the walk. -/
import Derived.Test.YtgololmgdakigaaSm
import Derived.Test.YtgololmgdakigaaPu
namespace Go.Proofs.Ytgololmgdakigaa
open Go.RowKit
theorem neq_c {a b c d : Nat} {p q : Int × Int} (hp : IsC (.complex .f64 a b) p) (hq : IsC (.complex .f64 c d) q) (mp : Wd p 9007199254740991) (mq : Wd q 9007199254740991) (P : Program) (t : TypeId) (w : World) : (Go.binOp .neq t (.complex .f64 a b) (.complex .f64 c d)).run P w = .ok (.bool (!decide (p = q))) w := by
  obtain ⟨_, _, e, ha, hb⟩ := hp
  cases e
  obtain ⟨_, _, e, hc, hd⟩ := hq
  cases e
  have h1 := order_f ha hc (by have := mp.1; omega) (by have := mq.1; omega)
  have h2 := order_f hb hd (by have := mp.2; omega) (by have := mq.2; omega)
  have e : decide (p = q) = (decide (p.1 = q.1) && decide (p.2 = q.2)) := by
    rw [← Bool.decide_and]
    congr 1
    exact propext Prod.ext_iff
  simp [binOp, Op.complexOp, Op.Complex.cmp, Op.floatCmp, asBool, h1, h2, cmp_eq, e]
theorem neq_same {a b c d : Nat} {p : Int × Int} (hp : IsC (.complex .f64 a b) p) (hq : IsC (.complex .f64 c d) p) (mp : Wd p 9007199254740991) (W : World) : (Go.binOp .neq 27 (.complex .f64 a b) (.complex .f64 c d)).run Try.prog W = .ok (.bool false) W := by
  have := neq_c hp hq mp mp Try.prog 27 W
  rwa [decide_eq_true rfl] at this
set_option maxRecDepth 10000 in
set_option maxHeartbeats 4000000 in
theorem joins_law (a0 a1 a2 : Option Addr) (l0 l1 l2 c0 c1 c2 : Nat) (t0 t1 t2 : Nat → Nat) (w : World) (hr0 : Rd w a0 l0 t0) (hr1 : Rd w a1 l1 t1) (hr2 : Rd w a2 l2 t2) : Calls Try.prog 6 #[.slice a0 l0 c0, .slice a1 l1 c1, .slice a2 l2 c2] w fun e w' => e = .returned (.bool true) ∧ Below w.heap.size w w' := by
  have H9 := fun W => begun_any W
  have H80 := fun W => small_any l0 W
  have H81 := fun W => small_any l1 W
  have H82 := fun W => small_any l2 W
  have H83 := fun W => small_any (l0 + l1 + l2) W
  rw [show ((l0 + l1 + l2 : Nat) : Int) = (l0 : Int) + l1 + l2 by omega] at H83
  by_cases h0 : l0 ≤ 1048576
  · rw [decide_eq_true h0] at H80
    by_cases h1 : l1 ≤ 1048576
    · rw [decide_eq_true h1] at H81
      by_cases h2 : l2 ≤ 1048576
      · rw [decide_eq_true h2] at H82
        by_cases h3 : l0 + l1 + l2 ≤ 1048576
        · rw [decide_eq_true h3] at H83
          go_enter Try.func6, Try.ntmps6
          go_upto_region 3 with (first
            | (go_at_call 8; have g := g3; refine (H83 _).mono ?_; rintro e w5 ⟨rfl, hw5⟩; subst hw5)
            | (go_at_call 8; have g := g2; refine (H82 _).mono ?_; rintro e w4 ⟨rfl, hw4⟩; subst hw4; have g3 : True := trivial)
            | (go_at_call 8; have g := g1; refine (H81 _).mono ?_; rintro e w3 ⟨rfl, hw3⟩; subst hw3; have g2 : True := trivial)
            | (go_at_call 8; refine (H80 _).mono ?_; rintro e w2 ⟨rfl, hw2⟩; subst hw2; have g1 : True := trivial)
            | (go_at_call 9; refine (H9 _).mono ?_; rintro e w1 ⟨rfl, hb1⟩))
          obtain ⟨X, hX⟩ : ∃ X, X = ofL t0 l0 := ⟨_, rfl⟩
          obtain ⟨Y, hY⟩ : ∃ Y, Y = ofL t1 l1 := ⟨_, rfl⟩
          obtain ⟨Z, hZ⟩ : ∃ Z, Z = ofL t2 l2 := ⟨_, rfl⟩
          have mX : Wd X 15728640 := by rw [hX]; exact (ofL_wd hr0.small).mono (by omega)
          have mY : Wd Y 15728640 := by rw [hY]; exact (ofL_wd hr1.small).mono (by omega)
          have mZ : Wd Z 15728640 := by rw [hZ]; exact (ofL_wd hr2.small).mono (by omega)
          have hcat : ofL (cat2 t0 l0 t1) (l0 + l1) = pl X (tn Y (l0 : Nat)) := by rw [hX, hY]; exact ofL_cat t0 t1 l0 l1
          have HO0 : Hid (∀ W, Below w.heap.size w W → Calls Try.prog 15 #[.slice a0 l0 c0] W fun e w' => (∃ v, e = .returned v ∧ IsC v X) ∧ w' = W) := fun W h => by rw [hX]; exact of_any a0 l0 c0 t0 W (hr0.below h) (by omega)
          have HO1 : Hid (∀ W, Below w.heap.size w W → Calls Try.prog 15 #[.slice a1 l1 c1] W fun e w' => (∃ v, e = .returned v ∧ IsC v Y) ∧ w' = W) := fun W h => by rw [hY]; exact of_any a1 l1 c1 t1 W (hr1.below h) (by omega)
          have HO2 : Hid (∀ W, Below w.heap.size w W → Calls Try.prog 15 #[.slice a2 l2 c2] W fun e w' => (∃ v, e = .returned v ∧ IsC v Z) ∧ w' = W) := fun W h => by rw [hZ]; exact of_any a2 l2 c2 t2 W (hr2.below h) (by omega)
          have HJ1 : Hid (∀ a b c d W, IsC (.complex .f64 a b) X → IsC (.complex .f64 c d) Y → Calls Try.prog 22 #[.complex .f64 a b, .int .i64 (l0 : Nat), .complex .f64 c d] W fun e w' => (∃ v, e = .returned v ∧ IsC v (pl X (tn Y (l0 : Nat)))) ∧ w' = W) := fun a b c d W h k => join_any a b c d X Y (l0 : Nat) W h k mX mY (by decide)
          have HCc : Hid (∀ W, Below w.heap.size w W → Calls Try.prog 20 #[.slice (some ⟨W.heap.size, 0, none⟩) 2 2] (W.alloc (.cells #[.slice a0 l0 c0, .slice a1 l1 c1] 22)) fun e w' => ∃ ao cap, e = .returned (.slice ao (l0 + l1) cap) ∧ Rd w' ao (l0 + l1) (cat2 t0 l0 t1) ∧ Below w.heap.size w w') := fun W h => by
            have k := Cl.new W 22 [.slice a0 l0 c0, .slice a1 l1 c1]
            have hB := below1 W (.cells #[.slice a0 l0 c0, .slice a1 l1 c1] 22)
            refine (concat_two W.heap.size a0 a1 l0 l1 c0 c1 t0 t1 _ k.lt (k.cell 0 rfl) (k.cell 1 rfl) ((hr0.below h).below hB) ((hr1.below h).below hB) h0 h1).mono ?_
            rintro e w' ⟨ao, cap, rfl, ho, hb⟩
            refine ⟨ao, cap, rfl, rd_row (fun i hi => ?_) ho, (h.trans (hB.mono h.size)).trans (hb.mono (Nat.le_trans h.size hB.size))⟩
            unfold cat2
            split
            · exact hr0.small i ‹_›
            · exact hr1.small (i - l0) (by omega)
          have HV : Hid (∀ ao cap W, Rd W ao (l0 + l1) (cat2 t0 l0 t1) → Calls Try.prog 16 #[.slice ao (l0 + l1) cap] W fun e w' => e = .returned (ptV (pl X (tn Y (l0 : Nat)))) ∧ Below W.heap.size W w') := fun ao cap W h => by
            have := rof_any ao (l0 + l1) cap _ W h (by omega)
            rwa [hcat] at this
          have HP : Hid (∀ p W, Calls Try.prog 11 #[ptV p] W fun e w' => (∃ v, e = .returned v ∧ IsC v p) ∧ Below W.heap.size W w') := fun p W => point_any p W
          have mAB : Wd (pl X (tn Y (l0 : Nat))) 31457280 := pl_wd mX (tn_wd mY _)
          have mYZ : Wd (pl Y (tn Z (l1 : Nat))) 31457280 := pl_wd mY (tn_wd mZ _)
          have HN : Hid (∀ a b c d W, IsC (.complex .f64 a b) (pl X (tn Y (l0 : Nat))) → IsC (.complex .f64 c d) (pl X (tn Y (l0 : Nat))) → (Go.binOp .neq 27 (.complex .f64 a b) (.complex .f64 c d)).run Try.prog W = .ok (.bool false) W) := fun a b c d W h k => neq_same h k (mAB.mono (by decide)) W
          have HJ2 : Hid (∀ a b c d W, IsC (.complex .f64 a b) (pl X (tn Y (l0 : Nat))) → IsC (.complex .f64 c d) Z → Calls Try.prog 22 #[.complex .f64 a b, .int .i64 ((l0 : Int) + l1), .complex .f64 c d] W fun e w' => (∃ v, e = .returned v ∧ IsC v (pl (pl X (tn Y (l0 : Nat))) (tn Z ((l0 : Int) + l1)))) ∧ w' = W) := fun a b c d W h k => join_any a b c d _ Z ((l0 : Int) + l1) W h k mAB mZ (by decide)
          have HJ3 : Hid (∀ a b c d W, IsC (.complex .f64 a b) Y → IsC (.complex .f64 c d) Z → Calls Try.prog 22 #[.complex .f64 a b, .int .i64 (l1 : Nat), .complex .f64 c d] W fun e w' => (∃ v, e = .returned v ∧ IsC v (pl Y (tn Z (l1 : Nat)))) ∧ w' = W) := fun a b c d W h k => join_any a b c d Y Z (l1 : Nat) W h k mY mZ (by decide)
          have hass : pl X (tn (pl Y (tn Z (l1 : Nat))) (l0 : Nat)) = pl (pl X (tn Y (l0 : Nat))) (tn Z ((l0 : Int) + l1)) := by
            rw [tn_pl, tn_tn, pl_assoc, Int.add_comm (l1 : Nat) (l0 : Nat)]
          have HJ4 : Hid (∀ a b c d W, IsC (.complex .f64 a b) X → IsC (.complex .f64 c d) (pl Y (tn Z (l1 : Nat))) → Calls Try.prog 22 #[.complex .f64 a b, .int .i64 (l0 : Nat), .complex .f64 c d] W fun e w' => (∃ v, e = .returned v ∧ IsC v (pl (pl X (tn Y (l0 : Nat))) (tn Z ((l0 : Int) + l1)))) ∧ w' = W) := fun a b c d W h k => by
            have := join_any a b c d X _ (l0 : Nat) W h k mX mYZ (by decide)
            rwa [hass] at this
          have mABZ : Wd (pl (pl X (tn Y (l0 : Nat))) (tn Z ((l0 : Int) + l1))) 47185920 := pl_wd mAB (tn_wd mZ _)
          have HEq : Hid (∀ a b c d W, IsC (.complex .f64 a b) (pl (pl X (tn Y (l0 : Nat))) (tn Z ((l0 : Int) + l1))) → IsC (.complex .f64 c d) (pl (pl X (tn Y (l0 : Nat))) (tn Z ((l0 : Int) + l1))) → (Go.binOp .eql 27 (.complex .f64 a b) (.complex .f64 c d)).run Try.prog W = .ok (.bool true) W) := fun a b c d W h k => eql_same h k (mABZ.mono (by decide)) W
          obtain ⟨r, hr⟩ : ∃ r, r = l0 % 4 := ⟨_, rfl⟩
          have e1 : (l0 : Int) % 4 = (r : Int) := by omega
          have e2 : (l0 : Int).tmod 4 = (r : Int) := by rw [Int.tmod_eq_emod_of_nonneg (by omega)]; exact e1
          have HS : Hid (r = 0 → ∀ a b c d, IsC (.complex .f64 a b) X → IsC (.complex .f64 c d) Y → ∃ x y, IsC (.complex .f64 x y) (pl X (tn Y (l0 : Nat))) ∧ ∀ (P : Program) (t : TypeId) (w : World), (Go.binOp .add t (.complex .f64 a b) (.complex .f64 c d)).run P w = .ok (.complex .f64 x y) w) := fun h0 a b c d h k => by
            rw [tn_zero Y (by omega)]
            exact plus_c h k mX mY (by decide)
          clear hX hY hZ mX mY mZ hcat mAB mYZ hass mABZ hr0 hr1 hr2 hr H80 H81 H82 H83 H9
          generalize pl (pl X (tn Y (l0 : Nat))) (tn Z ((l0 : Int) + l1)) = ABZ at *
          generalize pl Y (tn Z (l1 : Nat)) = YZ at *
          generalize pl X (tn Y (l0 : Nat)) = AB at *
          go_upto_region 5 with (first
            | (go_at_call 22; refine (HJ1.out ax bx ay bY _ gx gy).mono ?_; rintro e wj ⟨⟨vab, rfl, gab⟩, hwj⟩; subst hwj; obtain ⟨aab, bab, rfl⟩ := gab.is)
            | (go_at_call 15; have g := gy; refine (HO2.out _ hb1).mono ?_; rintro e wz ⟨⟨vz, rfl, gz⟩, hwz⟩; subst hwz; obtain ⟨az, bz, rfl⟩ := gz.is)
            | (go_at_call 15; have g := gx; refine (HO1.out _ hb1).mono ?_; rintro e wy ⟨⟨vy, rfl, gy⟩, hwy⟩; subst hwy; obtain ⟨ay, bY, rfl⟩ := gy.is)
            | (go_at_call 15; refine (HO0.out _ hb1).mono ?_; rintro e wx ⟨⟨vx, rfl, gx⟩, hwx⟩; subst hwx; obtain ⟨ax, bx, rfl⟩ := gx.is))
          by_cases hr0 : r = 0
          · obtain ⟨xs, ys, gs, hrun⟩ := HS.out hr0 ax bx ay bY gx gy
            have en : ∀ W, (Go.binOp .neq 27 (.complex .f64 aab bab) (.complex .f64 xs ys)).run Try.prog W = .ok (.bool false) W := fun W => HN.out aab bab xs ys W gab gs
            have er : ((r : Int) == 0) = true := by simp; omega
            clear HS hr0 gs
            go_wp2_with (first
              | (go_at_call 22; have g := g3; refine (HJ4.out ax bx a3 b3 _ gx g3).mono ?_; rintro e w24 ⟨⟨v4, rfl, g4⟩, hw4⟩; subst hw4; obtain ⟨a4, b4, rfl⟩ := g4.is; have eq4 := fun W => HEq.out a2 b2 a4 b4 W g2 g4)
              | (go_at_call 22; have g := g2; refine (HJ3.out ay bY az bz _ gy gz).mono ?_; rintro e w23 ⟨⟨v3, rfl, g3⟩, hw3⟩; subst hw3; obtain ⟨a3, b3, rfl⟩ := g3.is)
              | (go_at_call 22; refine (HJ2.out aab bab az bz _ gab gz).mono ?_; rintro e w22 ⟨⟨v2, rfl, g2⟩, hw2⟩; subst hw2; obtain ⟨a2, b2, rfl⟩ := g2.is)
              | (go_at_call 11; refine (HP.out _ _).mono ?_; rintro e w13 ⟨⟨v1, rfl, g1⟩, hb13⟩; obtain ⟨a1', b1', rfl⟩ := g1.is; have en1 := fun W => HN.out aab bab a1' b1' W gab g1; have hbF := hb12.trans (hb13.mono hb12.size))
              | (go_at_call 16; refine (HV.out _ _ _ rd).mono ?_; rintro e w12 ⟨rfl, hbx⟩; have hb12 := hb11.trans (hbx.mono hb11.size))
              | (go_at_call 20; refine (HCc.out _ hb1).mono ?_; rintro e w11 ⟨aoc, capc, rfl, rd, hb11⟩))
            go_ret
            exact ⟨rfl, hbF⟩
          · have er : ((r : Int) == 0) = false := by simp; omega
            clear HS hr0
            go_wp2_with (first
              | (go_at_call 22; have g := g3; refine (HJ4.out ax bx a3 b3 _ gx g3).mono ?_; rintro e w24 ⟨⟨v4, rfl, g4⟩, hw4⟩; subst hw4; obtain ⟨a4, b4, rfl⟩ := g4.is; have eq4 := fun W => HEq.out a2 b2 a4 b4 W g2 g4)
              | (go_at_call 22; have g := g2; refine (HJ3.out ay bY az bz _ gy gz).mono ?_; rintro e w23 ⟨⟨v3, rfl, g3⟩, hw3⟩; subst hw3; obtain ⟨a3, b3, rfl⟩ := g3.is)
              | (go_at_call 22; refine (HJ2.out aab bab az bz _ gab gz).mono ?_; rintro e w22 ⟨⟨v2, rfl, g2⟩, hw2⟩; subst hw2; obtain ⟨a2, b2, rfl⟩ := g2.is)
              | (go_at_call 11; refine (HP.out _ _).mono ?_; rintro e w13 ⟨⟨v1, rfl, g1⟩, hb13⟩; obtain ⟨a1', b1', rfl⟩ := g1.is; have en1 := fun W => HN.out aab bab a1' b1' W gab g1; have hbF := hb12.trans (hb13.mono hb12.size))
              | (go_at_call 16; refine (HV.out _ _ _ rd).mono ?_; rintro e w12 ⟨rfl, hbx⟩; have hb12 := hb11.trans (hbx.mono hb11.size))
              | (go_at_call 20; refine (HCc.out _ hb1).mono ?_; rintro e w11 ⟨aoc, capc, rfl, rd, hb11⟩))
            go_ret
            exact ⟨rfl, hbF⟩
        · rw [decide_eq_false h3] at H83
          go_enter Try.func6, Try.ntmps6
          go_wp2_with (first
            | (go_at_call 9; have g := hb1; refine (H9 _).mono ?_; rintro e w9 ⟨rfl, hb9⟩; have hb19 := hb1.trans (hb9.mono hb1.size))
            | (go_at_call 8; have g := g3; refine (H83 _).mono ?_; rintro e w83 ⟨rfl, hw83⟩; subst hw83)
            | (go_at_call 8; have g := g2; refine (H82 _).mono ?_; rintro e w82 ⟨rfl, hw82⟩; subst hw82; have g3 : True := trivial)
            | (go_at_call 8; have g := g1; refine (H81 _).mono ?_; rintro e w81 ⟨rfl, hw81⟩; subst hw81; have g2 : True := trivial)
            | (go_at_call 8; refine (H80 _).mono ?_; rintro e w80 ⟨rfl, hw80⟩; subst hw80; have g1 : True := trivial)
            | (go_at_call 9; refine (H9 _).mono ?_; rintro e w1 ⟨rfl, hb1⟩))
          go_ret
          exact ⟨rfl, hb19⟩
      · rw [decide_eq_false h2] at H82
        go_enter Try.func6, Try.ntmps6
        go_wp2_with (first
          | (go_at_call 9; have g := hb1; refine (H9 _).mono ?_; rintro e w9 ⟨rfl, hb9⟩; have hb19 := hb1.trans (hb9.mono hb1.size))
          | (go_at_call 8; have g := g2; refine (H82 _).mono ?_; rintro e w82 ⟨rfl, hw82⟩; subst hw82)
          | (go_at_call 8; have g := g1; refine (H81 _).mono ?_; rintro e w81 ⟨rfl, hw81⟩; subst hw81; have g2 : True := trivial)
          | (go_at_call 8; refine (H80 _).mono ?_; rintro e w80 ⟨rfl, hw80⟩; subst hw80; have g1 : True := trivial)
          | (go_at_call 9; refine (H9 _).mono ?_; rintro e w1 ⟨rfl, hb1⟩))
        go_ret
        exact ⟨rfl, hb19⟩
    · rw [decide_eq_false h1] at H81
      go_enter Try.func6, Try.ntmps6
      go_wp2_with (first
        | (go_at_call 9; have g := hb1; refine (H9 _).mono ?_; rintro e w9 ⟨rfl, hb9⟩; have hb19 := hb1.trans (hb9.mono hb1.size))
        | (go_at_call 8; have g := g1; refine (H81 _).mono ?_; rintro e w81 ⟨rfl, hw81⟩; subst hw81)
        | (go_at_call 8; refine (H80 _).mono ?_; rintro e w80 ⟨rfl, hw80⟩; subst hw80; have g1 : True := trivial)
        | (go_at_call 9; refine (H9 _).mono ?_; rintro e w1 ⟨rfl, hb1⟩))
      go_ret
      exact ⟨rfl, hb19⟩
  · rw [decide_eq_false h0] at H80
    go_enter Try.func6, Try.ntmps6
    go_wp2_with (first
      | (go_at_call 9; have g := hb1; refine (H9 _).mono ?_; rintro e w9 ⟨rfl, hb9⟩; have hb19 := hb1.trans (hb9.mono hb1.size))
      | (go_at_call 8; refine (H80 _).mono ?_; rintro e w2 ⟨rfl, hw2⟩; subst hw2)
      | (go_at_call 9; refine (H9 _).mono ?_; rintro e w1 ⟨rfl, hb1⟩))
    go_ret
    exact ⟨rfl, hb19⟩
end Go.Proofs.Ytgololmgdakigaa
