/- Ported: TvTd. -/
import Derived.Test.YtobgmgpclcfkcaaTvb
import Derived.Test.YtobgmgpclcfkcaaTvc
import Derived.Test.YtobgmgpclcfkcaaTve
import Derived.Test.YtobgmgpclcfkcaaTvTa
import Derived.Test.YtobgmgpclcfkcaaTvTb
import Derived.Test.YtobgmgpclcfkcaaTvTc
namespace Go.Proofs.Ytobgmgpclcfkcaa.T
open Go.RowKit
theorem spB_congr {N : Nat} {T T' : Tab} (h : EqN N T T') (i j : Nat) (hj : j < N) : spB T i j = spB T' i j := by
  unfold spB
  by_cases hij : i ≤ j
  · rw [h i (j - i) (by omega)]
  · simp [hij]
theorem spB_stay (i j : Nat) : (i == j) = spB tStay i j := by
  unfold spB tStay
  rw [Bool.eq_iff_iff]
  simp
  omega
theorem spB_alt (A B : Tab) (i j : Nat) : (spB A i j || spB B i j) = spB (tAlt A B) i j := by
  unfold spB tAlt
  by_cases h : i ≤ j <;> simp [h]
theorem spB_cat (A B : Tab) {N i j : Nat} (hj : j < N) : thK (spB A) (spB B) i j N = spB (tCat A B) i j := by
  rw [Bool.eq_iff_iff]
  unfold thK
  rw [List.any_eq_true]
  unfold spB
  simp only [List.mem_range, Bool.and_eq_true, decide_eq_true_eq, tCat_iff]
  constructor
  · rintro ⟨k, hk, h1, h2, ⟨_, h4⟩, _, h6⟩
    refine ⟨by omega, k - i, j - k, by omega, h4, ?_⟩
    rw [show i + (k - i) = k by omega]; exact h6
  · rintro ⟨hij, a, b, e, h1, h2⟩
    refine ⟨i + a, by omega, by omega, by omega, ⟨by omega, ?_⟩, by omega, ?_⟩
    · rw [Nat.add_sub_cancel_left]; exact h1
    · rw [show j - (i + a) = b by omega]; exact h2
theorem then37_tab (B1 B2 ga gb N ca cb : Nat) (A B : Tab) (w : World) (hA : RT w B1 ga N (spB A)) (hB : RT w B2 gb N (spB B)) (hN : N ≤ 25) (hN1 : 1 ≤ N) : Calls Try.prog 46 #[.slice (some ⟨ga, 0, none⟩) N ca, .slice (some ⟨gb, 0, none⟩) N cb] w (RetR w N (spB (tCat A B))) :=
  (then37_any B1 B2 ga gb N ca cb _ _ w hA hB hN hN1).mono fun _ _ ⟨g, cap, he, hR, hb⟩ => ⟨g, cap, he, hR.congr (fun _ _ _ hj => spB_cat A B hj), hb⟩
theorem or38_tab (B1 B2 ga gb N ca cb : Nat) (A B : Tab) (w : World) (hA : RT w B1 ga N (spB A)) (hB : RT w B2 gb N (spB B)) (hN : N ≤ 25) (hN1 : 1 ≤ N) : Calls Try.prog 47 #[.slice (some ⟨ga, 0, none⟩) N ca, .slice (some ⟨gb, 0, none⟩) N cb] w (RetR w N (spB (tAlt A B))) :=
  (or38_any B1 B2 ga gb N ca cb _ _ w hA hB hN hN1).mono fun _ _ ⟨g, cap, he, hR, hb⟩ => ⟨g, cap, he, hR.congr (fun i j _ _ => spB_alt A B i j), hb⟩
theorem same58_tab (N : Nat) (w : World) (hN : N ≤ 25) (hN1 : 1 ≤ N) : Calls Try.prog 64 #[.int .i64 ((N : Int) - 1)] w (RetR w N (spB tStay)) := by
  have := same58_any (N - 1) w (by omega)
  rw [show N - 1 + 1 = N by omega, show ((N - 1 : Nat) : Int) = (N : Int) - 1 by omega] at this
  exact this.mono fun _ _ ⟨g, cap, he, hR, hb⟩ => ⟨g, cap, he, hR.congr (fun i j _ _ => spB_stay i j), hb⟩
/-- power's loop. -/
structure PwR (w : World) (N : Nat) (Z : Tab) (m : Nat) (a t : Value) (W : World) : Prop where
  tabs : ∃ (A T : Tab) (ga ca gt ct B : Nat), a = .slice (some ⟨ga, 0, none⟩) N ca ∧ t = .slice (some ⟨gt, 0, none⟩) N ct ∧ RT W B ga N (spB A) ∧ RT W w.heap.size gt N (spB T) ∧ tCat T (tPow A m) = Z
  bel : Below w.heap.size w W
theorem pow_two (A : Tab) : tCat A A = tPow A 2 := by rw [show (2 : Nat) = 1 + 1 from rfl, pow_add, pow_one]
theorem pow_odd (A T : Tab) {m : Nat} (h : m % 2 = 1) : tCat (tCat T A) (tPow (tCat A A) (m / 2)) = tCat T (tPow A m) := by
  rw [pow_two, pow_mul, ← cat_assoc]
  have : tPow A m = tCat A (tPow A (2 * (m / 2))) := by
    rw [show m = 2 * (m / 2) + 1 by omega, tPow]
    rw [show (2 * (m / 2) + 1) / 2 = m / 2 by omega]
  rw [this]
theorem pow_even (A T : Tab) {m : Nat} (h : ¬ m % 2 = 1) : tCat T (tPow (tCat A A) (m / 2)) = tCat T (tPow A m) := by
  rw [pow_two, pow_mul, show 2 * (m / 2) = m by omega]
set_option maxRecDepth 10000 in
set_option maxHeartbeats 4000000 in
theorem power59_any (B1 ga N ca m : Nat) (A : Tab) (w : World) (hA : RT w B1 ga N (spB A)) (hN : N ≤ 25) (hN1 : 1 ≤ N) (hm : m ≤ 2000) : Calls Try.prog 65 #[.slice (some ⟨ga, 0, none⟩) N ca, .int .i64 (m : Nat)] w (RetR w N (spB (tPow A m))) := by
  have HS := same58_tab N w hN hN1
  have hNi : (N : Int) ≤ 25 := by omega
  have hwN : IntKind.i64.wrap ((N : Int) - 1) = (N : Int) - 1 := by rw [IntKind.wrap_i64]; omega
  go_enter Try.func65, Try.ntmps65
  go_wp2_with fail
  refine HS.mono ?_
  rintro e w1 ⟨g, cap, rfl, hR, hb⟩
  have P0 : PwR w N (tPow A m) m (.slice (some ⟨ga, 0, none⟩) N ca) (.slice (some ⟨g, 0, none⟩) N cap) w1 := ⟨⟨A, tStay, ga, ca, g, cap, B1, rfl, rfl, hA.below hb, hR, cat_stay _⟩, hb⟩
  clear HS hA hR hb
  go_wp2_with fail
  go_loopw [0, 1, 5] (fun a v t wr => ∃ m' : Nat, m' ≤ 2000 ∧ v = .int .i64 (m' : Nat) ∧ PwR w N (tPow A m) m' a t wr) (fun _ v _ _ => (intOf v).toNat)
  case atStart => exact ⟨m, hm, rfl, P0⟩
  case round =>
    obtain ⟨m', hm', rfl, ⟨A', T', ga', ca', gt', ct', B', rfl, rfl, hA', hT', hZ⟩, hbel⟩ := hrel
    clear P0
    by_cases h0 : m' = 0
    · subst h0
      rw [tPow, stay_cat] at hZ
      subst hZ
      have HR : Hid (RetR w N (spB (tPow A m)) (.returned (.slice (some ⟨gt', 0, none⟩) N ct')) wr) := ⟨gt', ct', rfl, hT', hbel⟩
      clear hA' hT'
      go_wp2_with fail
      go_ret
      exact HR.out
    · have hpos : (0 : Int) < (m' : Int) := by omega
      obtain ⟨hf, hhf⟩ : ∃ hf : Nat, m' / 2 = hf := ⟨_, rfl⟩
      have hq : (m' : Int) / 2 = (hf : Int) := by omega
      have hq2 : (m' : Int).tdiv 2 = (hf : Int) := by rw [Int.tdiv_eq_ediv_of_nonneg (by omega)]; omega
      have hfm : hf < m' := by omega
      by_cases hodd : m' % 2 = 1
      · have h1 : (m' : Int) % 2 = 1 := by omega
        have h1' : (m' : Int).tmod 2 = 1 := by rw [Int.tmod_eq_emod_of_nonneg (by omega)]; omega
        have HC := then37_tab _ _ gt' ga' N ct' ca' T' A' wr hT' hA' hN hN1
        go_wp2_with fail
        refine HC.mono ?_
        rintro e w2 ⟨g2, c2, rfl, hR2, hb2⟩
        have hA2 := hA'.below hb2
        have HC2 := then37_tab _ _ ga' ga' N ca' ca' A' A' w2 hA2 hA2 hN hN1
        have hbel2 := hbel.trans (hb2.mono hbel.size)
        have hR2' := hR2.lower hbel.size
        clear HC hA' hT'
        go_wp2_with fail
        refine HC2.mono ?_
        rintro e w3 ⟨g3, c3, rfl, hR3, hb3⟩
        have HY : Hid (∃ m'' : Nat, m'' ≤ 2000 ∧ Value.int .i64 (hf : Int) = .int .i64 (m'' : Nat) ∧ PwR w N (tPow A m) m'' (.slice (some ⟨g3, 0, none⟩) N c3) (.slice (some ⟨g2, 0, none⟩) N c2) w3) := ⟨hf, by omega, rfl, ⟨tCat A' A', tCat T' A', g3, c3, g2, c2, _, rfl, rfl, hR3, hR2'.below hb3, by rw [← hhf, pow_odd A' T' hodd]; exact hZ⟩, hbel2.trans (hb3.mono hbel2.size)⟩
        clear HC2 hA2 hR2 hR2' hR3 hhf
        go_wp2_with fail
        go_roundw
        case rel =>
          obtain ⟨m'', h5, h6, h7⟩ := HY.out
          exact ⟨m'', h5, h6, h7⟩
        case measure => simp [intOf]; omega
      · have h1 : (m' : Int) % 2 = 0 := by omega
        have h1' : (m' : Int).tmod 2 = 0 := by rw [Int.tmod_eq_emod_of_nonneg (by omega)]; omega
        have HC2 := then37_tab _ _ ga' ga' N ca' ca' A' A' wr hA' hA' hN hN1
        go_wp2_with fail
        refine HC2.mono ?_
        rintro e w3 ⟨g3, c3, rfl, hR3, hb3⟩
        have HY : Hid (∃ m'' : Nat, m'' ≤ 2000 ∧ Value.int .i64 (hf : Int) = .int .i64 (m'' : Nat) ∧ PwR w N (tPow A m) m'' (.slice (some ⟨g3, 0, none⟩) N c3) (.slice (some ⟨gt', 0, none⟩) N ct') w3) := ⟨hf, by omega, rfl, ⟨tCat A' A', T', g3, c3, gt', ct', _, rfl, rfl, hR3, hT'.below hb3, by rw [← hhf, pow_even A' T' hodd]; exact hZ⟩, hbel.trans (hb3.mono hbel.size)⟩
        clear HC2 hA' hT' hR3 hhf
        go_wp2_with fail
        go_roundw
        case rel =>
          obtain ⟨m'', h5, h6, h7⟩ := HY.out
          exact ⟨m'', h5, h6, h7⟩
        case measure => simp [intOf]; omega
end Go.Proofs.Ytobgmgpclcfkcaa.T
