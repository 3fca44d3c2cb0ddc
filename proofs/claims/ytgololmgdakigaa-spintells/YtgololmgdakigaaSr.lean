/- SpinRolls: the walk. -/
import Derived.Test.YtgololmgdakigaaSj
namespace Go.Proofs.Ytgololmgdakigaa
open Go.RowKit
theorem Rd.part {w : World} {b off n k m : Nat} {z : Nat → Nat} (h : Rd w (some ⟨b, off, none⟩) n z) (hk : k + m ≤ n) (hm : 0 < m) : Rd w (some ⟨b, off + k, none⟩) m (fun j => z (k + j)) := by
  obtain ⟨b', o', e, hb, hc⟩ := h.at_ (by omega)
  cases e
  refine ⟨fun j hj => h.small (k + j) (by omega), fun _ => ⟨b, off + k, rfl, hb, fun j hj => ?_⟩⟩
  have := hc (k + j) (by omega)
  rwa [← Nat.add_assoc] at this
theorem slice_run (b off l cap k e : Nat) (hk : k ≤ e) (he : e ≤ cap) (hn : k < cap) (w : World) : (Instr.slice 22 (.slice (some ⟨b, off, none⟩) l cap) (some (.int .i64 (k : Nat))) (some (.int .i64 (e : Nat))) none).run Try.prog w = .ok (.slice (some ⟨b, off + k, none⟩) (e - k) (cap - k)) w := by
  have h3 : ¬ cap = k := by omega
  have hs : ∀ w, (Go.sizeOf 5).run Try.prog w = .ok 1 w := fun w => by kernel_rfl
  simp [go_sem, Try.underlying22, hk, he, h3, hs]
set_option maxRecDepth 10000 in
set_option maxHeartbeats 4000000 in
theorem rolls_law (a0 a1 : Option Addr) (l0 l1 c0 c1 : Nat) (t0 t1 : Nat → Nat) (w : World) (hr0 : Rd w a0 l0 t0) (hr1 : Rd w a1 l1 t1) : Calls Try.prog 5 #[.slice a0 l0 c0, .slice a1 l1 c1] w fun e w' => e = .returned (.bool true) ∧ Below w.heap.size w w' := by
  have H9 := fun W => begun_any W
  have H8 := fun W => small_any l0 W
  by_cases hz : l0 = 0
  · have hz' : ((l0 : Int) == 0) = true := by simp; omega
    go_enter Try.func5, Try.ntmps5
    go_wp2_with (first
      | (go_at_call 9; have g := hb1; refine (H9 _).mono ?_; rintro e w9 ⟨rfl, hb9⟩; have hb19 := hb1.trans (hb9.mono hb1.size))
      | (go_at_call 9; refine (H9 _).mono ?_; rintro e w1 ⟨rfl, hb1⟩))
    go_ret
    exact ⟨rfl, hb19⟩
  · have hz' : ((l0 : Int) == 0) = false := by simp; omega
    by_cases h0 : l0 ≤ 1048576
    · rw [decide_eq_true h0] at H8
      by_cases h1 : l1 ≤ 2000
      · have h1' : ¬ (l1 : Int) > 2000 := by omega
        obtain ⟨C, hC⟩ : ∃ C, C = cat2 t0 l0 t1 := ⟨_, rfl⟩
        have hC0 : ∀ i, i < l0 → C i = t0 i := fun i hi => by rw [hC]; simp [cat2, hi]
        have hC1 : ∀ i, C (i + l0) = t1 i := fun i => by
          rw [hC]
          unfold cat2
          rw [if_neg (by omega), Nat.add_sub_cancel]
        have hCs : ∀ i, i < l0 + l1 → C i < 256 := fun i hi => by
          by_cases h : i < l0
          · rw [hC0 i h]; exact hr0.small i h
          · have := hC1 (i - l0)
            rw [Nat.sub_add_cancel (by omega)] at this
            rw [this]; exact hr1.small _ (by omega)
        have HO0 : Hid (∀ W, Below w.heap.size w W → Calls Try.prog 15 #[.slice a0 l0 c0] W fun e w' => (∃ v, e = .returned v ∧ IsC v (ofL (fun j => C (0 + j)) l0)) ∧ w' = W) := fun W h => by
          rw [ofL_congr (g := t0) fun i hi => by rw [Nat.zero_add]; exact hC0 i hi]
          exact of_any a0 l0 c0 t0 W (hr0.below h) (by omega)
        have HCc : Hid (∀ W, Below w.heap.size w W → Calls Try.prog 20 #[.slice (some ⟨W.heap.size, 0, none⟩) 2 2] (W.alloc (.cells #[.slice a0 l0 c0, .slice a1 l1 c1] 22)) fun e w' => ∃ b off cap, e = .returned (.slice (some ⟨b, off, none⟩) (l0 + l1) cap) ∧ l0 + l1 ≤ cap ∧ Rd w' (some ⟨b, off, none⟩) (l0 + l1) C ∧ Below w.heap.size w w') := fun W h => by
          have k := Cl.new W 22 [.slice a0 l0 c0, .slice a1 l1 c1]
          have hB := below1 W (.cells #[.slice a0 l0 c0, .slice a1 l1 c1] 22)
          refine (concat_two W.heap.size a0 a1 l0 l1 c0 c1 t0 t1 _ k.lt (k.cell 0 rfl) (k.cell 1 rfl) ((hr0.below h).below hB) ((hr1.below h).below hB) h0 (by omega)).mono ?_
          rintro e w' ⟨ao, cap, rfl, ho, hb⟩
          rw [← hC] at ho
          have hrd := rd_row hCs ho
          obtain ⟨b, off, rfl, _⟩ := hrd.at_ (by omega)
          refine ⟨b, off, cap, rfl, ?_, hrd, (h.trans (hB.mono h.size)).trans (hb.mono (Nat.le_trans h.size hB.size))⟩
          rcases ho.2 with ⟨h', _⟩ | ⟨g, cp, cur, h', _, _, hc, _⟩
          · cases h'
          · cases h'; exact hc
        have mC : ∀ k, k + l0 ≤ l0 + l1 → Wd (ofL (fun j => C (k + j)) l0) 15728640 := fun k hk => (ofL_wd fun i hi => hCs (k + i) (by omega)).mono (by omega)
        clear hC hC0
        go_enter Try.func5, Try.ntmps5
        go_upto_region 7 with (first
          | (go_at_call 20; refine (HCc.out _ hb1).mono ?_; rintro e w20 ⟨b, off, cap, rfl, hcap, hrd, hb20⟩)
          | (go_at_call 15; refine (HO0.out _ hb1).mono ?_; rintro e wx ⟨⟨vx, rfl, gx⟩, hwx⟩; subst hwx; obtain ⟨ax, bx, rfl⟩ := gx.is)
          | (go_at_call 8; refine (H8 _).mono ?_; rintro e w2 ⟨rfl, hw2⟩; subst hw2)
          | (go_at_call 9; refine (H9 _).mono ?_; rintro e w1 ⟨rfl, hb1⟩))
        have gx0 := gx
        clear HO0 H8 H9 gx hb1
        go_wp2_with fail
        go_loopw [6, 37] (fun v i wr => ∃ k : Nat, k ≤ l1 ∧ i = .int .i64 (k : Nat) ∧ IsC v (ofL (fun j => C (k + j)) l0) ∧ Below w20.heap.size w20 wr) (fun _ i _ => l1 - (intOf i).toNat)
        case atStart => exact ⟨0, Nat.zero_le _, rfl, gx0, Below.refl _ _⟩
        case round =>
          obtain ⟨k, hk, rfl, hv, hbr⟩ := hrel
          clear gx0
          obtain ⟨a, b', rfl⟩ := hv.is
          have hbw := hb20.trans (hbr.mono hb20.size)
          by_cases hlt : k < l1
          · have hki : (k : Int) < (l1 : Int) := by omega
            have hk2 : (k : Int) < (l0 : Int) + (l1 : Int) := by omega
            obtain ⟨bb, o1, rfl, hbb, hc⟩ := (hr1.below hbw).at_ (by omega)
            have d1 := hc k hlt
            have hrr := hrd.below hbr
            obtain ⟨_, _, e, hbb2, hc2⟩ := hrr.at_ (by omega)
            cases e
            have d2 := hc2 k (by omega)
            have hCk := hCs k (by omega)
            have hCn := hCs (k + l0) (by omega)
            have ht1 : t1 k = C (k + l0) := (hC1 k).symm
            rw [ht1] at d1
            have hroll : rollP (ofL (fun j => C (k + j)) l0) l0 (C k) (C (k + l0)) = ofL (fun j => C (k + 1 + j)) l0 := by
              have := roll_is (fun j => C (k + j)) l0 (by omega)
              unfold rollP
              rw [Nat.add_zero] at this
              rw [this]
              exact ofL_congr fun i _ => by congr 1; omega
            have HL : Hid (∀ W, Calls Try.prog 21 #[.complex .f64 a b', .int .i64 (l0 : Nat), .int .u8 (C k : Nat), .int .u8 (C (k + l0) : Nat)] W fun e w' => (∃ v, e = .returned v ∧ IsC v (ofL (fun j => C (k + 1 + j)) l0)) ∧ w' = W) := fun W => by
              have := roll_any a b' _ l0 (C k) (C (k + l0)) W hv ((mC k (by omega)).mono (by decide)) hCk hCn (by omega)
              rwa [hroll] at this
            have hsl := slice_run b off (l0 + l1) cap (k + 1) (k + 1 + l0) (by omega) (by omega) (by omega)
            rw [show k + 1 + l0 - (k + 1) = l0 by omega, show ((k + 1 : Nat) : Int) = (k : Int) + 1 by omega, show ((k + 1 + l0 : Nat) : Int) = (k : Int) + 1 + (l0 : Int) by omega] at hsl
            have HV : Hid (∀ W, Below wr.heap.size wr W → Calls Try.prog 16 #[.slice (some ⟨b, off + (k + 1), none⟩) l0 (cap - (k + 1))] W fun e w' => e = .returned (ptV (ofL (fun j => C (k + 1 + j)) l0)) ∧ Below W.heap.size W w') := fun W h => rof_any _ l0 _ _ W ((hrr.part (k := k + 1) (m := l0) (by omega) (by omega)).below h) (by omega)
            have mN := mC (k + 1) (by omega)
            have HP : Hid (∀ W, Calls Try.prog 11 #[ptV (ofL (fun j => C (k + 1 + j)) l0)] W fun e w' => (∃ v, e = .returned v ∧ IsC v (ofL (fun j => C (k + 1 + j)) l0)) ∧ Below W.heap.size W w') := fun W => point_any _ W
            have HN : Hid (∀ a b c d W, IsC (.complex .f64 a b) (ofL (fun j => C (k + 1 + j)) l0) → IsC (.complex .f64 c d) (ofL (fun j => C (k + 1 + j)) l0) → (Go.binOp .neq 27 (.complex .f64 a b) (.complex .f64 c d)).run Try.prog W = .ok (.bool false) W) := fun a b c d W h k => neq_same h k (mN.mono (by decide)) W
            clear hv hc hc2 hrr hroll mN hCk hCn ht1 mC hC1 hCs hr0 hr1 hrd HCc
            generalize C (k + l0) = cn at *
            generalize C k = ck at *
            by_cases h5 : l0 ≤ 5000
            · have h51 : decide (5000 < l0) = false := by simp; omega
              have h52 : ¬ (l0 : Int) > 5000 := by omega
              go_wp2_with (first
                | (go_at_call 11; refine (HP.out _).mono ?_; rintro e w13 ⟨⟨v1, rfl, g1⟩, hb13⟩; obtain ⟨a1', b1', rfl⟩ := g1.is; have en1 := fun W => HN.out ax2 bx2 a1' b1' W gn g1; have hbF := hb12.trans (hb13.mono hb12.size))
                | (go_at_call 16; refine (HV.out _ (Below.refl _ _)).mono ?_; rintro e w12 ⟨rfl, hb12⟩)
                | (go_at_call 21; refine (HL.out _).mono ?_; rintro e w11 ⟨⟨vn, rfl, gn⟩, hw11⟩; subst hw11; obtain ⟨ax2, bx2, rfl⟩ := gn.is))
              go_roundw
              case rel => exact ⟨k + 1, hlt, by simp, gn, hbr.trans (hbF.mono hbr.size)⟩
              case measure => simp [intOf]; omega
            · have h51 : decide (5000 < l0) = true := by simp; omega
              have h52 : (l0 : Int) > 5000 := by omega
              by_cases h6 : k ≤ 3
              · have h61 : decide (3 < k) = false := by simp; omega
                have h62 : ¬ (k : Int) > 3 := by omega
                go_wp2_with (first
                  | (go_at_call 11; refine (HP.out _).mono ?_; rintro e w13 ⟨⟨v1, rfl, g1⟩, hb13⟩; obtain ⟨a1', b1', rfl⟩ := g1.is; have en1 := fun W => HN.out ax2 bx2 a1' b1' W gn g1; have hbF := hb12.trans (hb13.mono hb12.size))
                  | (go_at_call 16; refine (HV.out _ (Below.refl _ _)).mono ?_; rintro e w12 ⟨rfl, hb12⟩)
                  | (go_at_call 21; refine (HL.out _).mono ?_; rintro e w11 ⟨⟨vn, rfl, gn⟩, hw11⟩; subst hw11; obtain ⟨ax2, bx2, rfl⟩ := gn.is))
                go_roundw
                case rel => exact ⟨k + 1, hlt, by simp, gn, hbr.trans (hbF.mono hbr.size)⟩
                case measure => simp [intOf]; omega
              · have h61 : decide (3 < k) = true := by simp; omega
                have h62 : (k : Int) > 3 := by omega
                go_wp2_with (first
                  | (go_at_call 11; refine (HP.out _).mono ?_; rintro e w13 ⟨⟨v1, rfl, g1⟩, hb13⟩; obtain ⟨a1', b1', rfl⟩ := g1.is; have en1 := fun W => HN.out ax2 bx2 a1' b1' W gn g1; have hbF := hb12.trans (hb13.mono hb12.size))
                  | (go_at_call 16; refine (HV.out _ (Below.refl _ _)).mono ?_; rintro e w12 ⟨rfl, hb12⟩)
                  | (go_at_call 21; refine (HL.out _).mono ?_; rintro e w11 ⟨⟨vn, rfl, gn⟩, hw11⟩; subst hw11; obtain ⟨ax2, bx2, rfl⟩ := gn.is))
                go_ret
                exact ⟨rfl, hbw.trans (hbF.mono hbw.size)⟩
          · obtain rfl : k = l1 := by omega
            have hki : ¬ (k : Int) < (k : Int) := by omega
            clear hv hr0 hr1 hrd HCc mC hCs hC1
            go_wp2
            go_ret
            exact ⟨rfl, hbw⟩
      · have h1' : (l1 : Int) > 2000 := by omega
        go_enter Try.func5, Try.ntmps5
        go_wp2_with (first
          | (go_at_call 9; have g := hb1; refine (H9 _).mono ?_; rintro e w9 ⟨rfl, hb9⟩; have hb19 := hb1.trans (hb9.mono hb1.size))
          | (go_at_call 8; refine (H8 _).mono ?_; rintro e w2 ⟨rfl, hw2⟩; subst hw2)
          | (go_at_call 9; refine (H9 _).mono ?_; rintro e w1 ⟨rfl, hb1⟩))
        go_ret
        exact ⟨rfl, hb19⟩
    · rw [decide_eq_false h0] at H8
      go_enter Try.func5, Try.ntmps5
      go_wp2_with (first
        | (go_at_call 9; have g := hb1; refine (H9 _).mono ?_; rintro e w9 ⟨rfl, hb9⟩; have hb19 := hb1.trans (hb9.mono hb1.size))
        | (go_at_call 8; refine (H8 _).mono ?_; rintro e w2 ⟨rfl, hw2⟩; subst hw2)
        | (go_at_call 9; refine (H9 _).mono ?_; rintro e w1 ⟨rfl, hb1⟩))
      go_ret
      exact ⟨rfl, hb19⟩
end Go.Proofs.Ytgololmgdakigaa
