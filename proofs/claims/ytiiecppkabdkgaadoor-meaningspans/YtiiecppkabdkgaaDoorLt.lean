/- MeaningTurned: the walk. -/
import Derived.Test.YtiiecppkabdkgaaDoorTu
import Derived.Test.YtiiecppkabdkgaaDoorSq
import Derived.Test.YtiiecppkabdkgaaDoorRa
import Derived.Test.YtiiecppkabdkgaaDoorRm
import Derived.Test.YtiiecppkabdkgaaDoorLo
namespace Go.Proofs.YtiiecppkabdkgaaDoor
open Go.RowKit
theorem spB_turn {n : Nat} {T1 T2 : Tab} (h : Tn n T1 T2) {i j : Nat} (hi : i ≤ n) (hj : j ≤ n) : spB T2 (n - j) (n - i) = spB T1 i j := by
  unfold spB
  by_cases hij : i ≤ j
  · have := h i (j - i) (by omega)
    rw [show i + (j - i) = j by omega] at this
    rw [show n - i - (n - j) = j - i by omega, this]
    simp [hij]; omega
  · simp [hij]; omega
theorem BRows.get {W : World} {B tb N : Nat} {T : Tab} (h : BRows W B tb N N T) {i : Nat} (hi : i < N) : ∃ b, W.cell? ⟨tb, i, none⟩ = some (.slice (some ⟨b, 0, none⟩) N N) ∧ tb < W.heap.size ∧ b < W.heap.size ∧ ∀ j, j < N → W.cell? ⟨b, j, none⟩ = some (.bool (spB T i j)) := by
  obtain ⟨M, h1, h2⟩ := h
  obtain ⟨b, _, h4, h5⟩ := h2 i hi
  exact ⟨b, by rw [h1.cell i (vals_get M hi), h4], h1.lt, h5.lt, fun j hj => h5.cell j (bools_get _ hj)⟩
set_option maxRecDepth 10000 in
set_option maxHeartbeats 8000000 in
theorem turn_main (to_ : Option Addr) (m c : Nat) (F : Nat → Nd) (ao : Option Addr) (n cap : Nat) (mu : Bool) (f : Nat → Nat) (w : World) (ht : RdN w to_ m F) (hF : ∀ i, i < m → wfN (F i)) (hr : RdB w ao n f) (hmc : m ≤ c) (hT : TabZ w) (hm60 : m ≤ 60) (hn : n ≤ 24) (hck : chkE F m = 0) :
    Calls Tryd.prog 8 #[.agg #[.slice to_ m c], .bool mu, .slice ao n cap] w (RetTrue w) := by
  obtain ⟨t, htr, han, hmT, hsn, hok, hsz, _⟩ := mTab_ok (f := f) (n := n) (mu := mu) hck
  have hwt := wfT_of htr hF
  have hb0 := below1 w (.cells #[.slice to_ m c] 24)
  have k0 := Cl.new w 24 [.slice to_ m c]
  have d0 := k0.cell 0 rfl
  have H9 := few_any to_ m c ao n cap (w.alloc (.cells #[.slice to_ m c] 24))
  rw [decide_eq_true hm60, decide_eq_true hn] at H9
  go_enter Tryd.func8, Tryd.ntmps8
  go_wp2_with fail
  refine H9.mono ?_
  rintro e w1 ⟨rfl, b1⟩
  have k1 := k0.below b1
  have d1 := k1.cell 0 rfl
  have bw1 := hb0.trans (b1.mono hb0.size)
  have H24 := rcheck_any to_ m c F w1 (ht.below bw1) (by omega)
  rw [hck] at H24
  clear H9 k0 d0 b1
  go_wp2_with fail
  refine H24.mono ?_
  rintro e w2 ⟨rfl, b2⟩
  have k2 := k1.below b2
  have bw2 := bw1.trans (b2.mono bw1.size)
  have d2 := k2.cell 0 rfl
  clear H24 k1 d1 b2 bw1
  go_wp2_with fail
  have HS3 := spans12_any to_ m c F ao n cap mu f w2 (ht.below bw2) (by omega) hF (hr.below bw2) hn (hT.below bw2)
  rw [hmT] at HS3
  refine HS3.mono ?_
  rintro e w3 ⟨ta, rfl, hA3, b3, _⟩
  have k3 := k2.below b3
  have bw3 := bw2.trans (b3.mono bw2.size)
  have d3 := k3.cell 0 rfl
  clear HS3 k2 d2 b3 bw2
  go_wp2_with fail
  have HM4 := rmirror_any to_ m c F w3 (ht.below bw3) (by omega) hmc
  rw [hsn, hsz] at HM4
  refine HM4.mono ?_
  rintro e w4 ⟨a4, c4, rfl, hr4, b4⟩
  have hA4 := hA3.below b4
  have bw4 := bw3.trans (b4.mono bw3.size)
  clear HM4 hA3 b4 bw3 k3 d3
  go_wp2_with fail
  refine (turned_any ao n cap f w4 (hr.below bw4) hn).mono ?_
  rintro e w5 ⟨a5, c5, rfl, hr5, b5⟩
  have hA5 := hA4.below b5
  have hM5 := hr4.below b5
  have bw5 := bw4.trans (b5.mono bw4.size)
  clear hA4 b5 bw4 hr4
  go_wp2_with fail
  have HS6 := spans12_any a4 m c4 (nodes (mir t)) a5 n c5 mu (fun i => f (n - 1 - i)) w5 hM5 (by omega) (fun i _ => wfT_nodes (wfT_mir t hwt) i) hr5 hn (hT.below bw5)
  rw [mTab_nodes (by rw [mir_size]; exact hsz.symm) (mir_ok t hok) (by rw [mir_size]; omega) (by rw [anc_mir t _ _ hok]; exact han)] at HS6
  refine HS6.mono ?_
  rintro e w6 ⟨tb, rfl, hB6, b6, _⟩
  have hA6 := hA5.below b6
  have bw6 := bw5.trans (b6.mono bw5.size)
  have htn : Tn n (mean f n mu t) (mean (fun i => f (n - 1 - i)) n mu (mir t)) := mean_mir f _ n mu (fun _ _ => rfl) t
  have hT6 := hT.below bw6
  clear HS6 hA5 b6 bw5 hM5 hr5 ht hr hF hT hsn hck hmT htr han hok hwt hsz hmc
  generalize mean f n mu t = T1 at *
  generalize mean (fun i => f (n - 1 - i)) n mu (mir t) = T2 at *
  have hni : (n : Int) ≤ 24 := by omega
  have hnn : ((n + 1 : Nat) : Int) = (n : Int) + 1 := by omega
  go_wp2_with fail
  refine (begun_any w6 hT6).mono ?_
  rintro e w7 ⟨rfl, b7⟩
  have hA7 := hA6.below b7
  have hB7 := hB6.below b7
  have bw7 := bw6.trans (b7.mono bw6.size)
  have e1 : (((n + 1 : Nat) : Int) == (n : Int) + 1) = true := by simp
  clear hA6 hB6 hT6 b7 bw6
  go_wp2_with fail
  go_loopw [51] (fun v wr => ∃ i : Nat, i ≤ n + 1 ∧ v = .int .i64 (i : Nat) ∧ Below w7.heap.size w7 wr) (fun v _ => n + 1 - (intOf v).toNat)
  case atStart => exact ⟨0, Nat.zero_le _, rfl, Below.refl _ _⟩
  case round =>
    obtain ⟨i, hi, rfl, hbi⟩ := hrel
    by_cases hli : i < n + 1
    · have hii : (i : Int) < (n : Int) + 1 := by omega
      go_wp2_with fail
      go_loopw [56] (fun v wr => ∃ j : Nat, j ≤ n + 1 ∧ v = .int .i64 (j : Nat) ∧ Below w7.heap.size w7 wr) (fun v _ => n + 1 - (intOf v).toNat)
      case atStart => exact ⟨0, Nat.zero_le _, rfl, hbi⟩
      case round =>
        obtain ⟨j, hj, rfl, hbj⟩ := hrel
        by_cases hlj : j < n + 1
        · have hjj : (j : Int) < (n : Int) + 1 := by omega
          obtain ⟨ba, ca1, htl, hbl, ca2⟩ := (hA7.below hbj).get hli
          obtain ⟨bb, cb1, _, _, cb2⟩ := (hB7.below hbj).get (i := n - j) (by omega)
          have c2 := ca2 j hlj
          have c4 := cb2 (n - i) (by omega)
          rw [spB_turn htn (by omega) (by omega)] at c4
          generalize spB T1 i j = B at *
          have hnj : (n : Int) - (j : Int) = ((n - j : Nat) : Int) := by omega
          have hni2 : (n : Int) - (i : Int) = ((n - i : Nat) : Int) := by omega
          have wj : IntKind.i64.wrap ((n : Int) - (j : Int)) = ((n - j : Nat) : Int) := by rw [IntKind.wrap_i64]; omega
          have wi : IntKind.i64.wrap ((n : Int) - (i : Int)) = ((n - i : Nat) : Int) := by rw [IntKind.wrap_i64]; omega
          have wn : IntKind.i64.wrap ((n : Int) + 1) = (n : Int) + 1 := by rw [IntKind.wrap_i64]; omega
          have l1 : ((n - j : Nat) : Int) < (n : Int) + 1 := by omega
          have l2 : ((n - i : Nat) : Int) < (n : Int) + 1 := by omega
          have HY : Hid (∀ q, ∃ j' : Nat, j' ≤ n + 1 ∧ Value.int .i64 ((j : Int) + 1) = .int .i64 (j' : Nat) ∧ Below w7.heap.size w7 (wr.drewN q)) := fun q => ⟨j + 1, by omega, by simp, below_drewN hbj q⟩
          clear hA7 hB7 ca2 cb2 htn
          generalize n - j = nj at *
          generalize n - i = ni at *
          go_wp2_with fail
          go_quiet (fail)
          go_wp2_with fail
          go_roundw
          case rel => exact HY.out _
          case measure => simp [intOf]; omega
        · have hjj : ¬ (j : Int) < (n : Int) + 1 := by omega
          go_wp2_with fail
          go_roundw
          case rel => exact ⟨i + 1, by omega, by simp, hbj⟩
          case measure => simp [intOf]; omega
    · have hii : ¬ (i : Int) < (n : Int) + 1 := by omega
      have hbf := bw7.trans (hbi.mono bw7.size)
      go_wp2_with fail
      go_ret
      exact ⟨rfl, hbf⟩
set_option maxRecDepth 10000 in
set_option maxHeartbeats 4000000 in
theorem turn_any (to_ : Option Addr) (m c : Nat) (F : Nat → Nd) (ao : Option Addr) (n cap : Nat) (mu : Bool) (f : Nat → Nat) (w : World) (ht : RdN w to_ m F) (hF : ∀ i, i < m → wfN (F i)) (hr : RdB w ao n f) (hmc : m ≤ c) (hT : TabZ w) :
    Calls Tryd.prog 8 #[.agg #[.slice to_ m c], .bool mu, .slice ao n cap] w (RetTrue w) := by
  have hb0 := below1 w (.cells #[.slice to_ m c] 24)
  have k0 := Cl.new w 24 [.slice to_ m c]
  have d0 := k0.cell 0 rfl
  have H9 := few_any to_ m c ao n cap (w.alloc (.cells #[.slice to_ m c] 24))
  by_cases hfew : m ≤ 60 ∧ n ≤ 24
  · by_cases hck : chkE F m = 0
    · exact turn_main to_ m c F ao n cap mu f w ht hF hr hmc hT hfew.1 hfew.2 hck
    · rw [decide_eq_true hfew.1, decide_eq_true hfew.2] at H9
      have hce : (chkE F m == 0) = false := by simpa using hck
      go_enter Tryd.func8, Tryd.ntmps8
      go_wp2_with fail
      refine H9.mono ?_
      rintro e w1 ⟨rfl, b1⟩
      have k1 := k0.below b1
      have d1 := k1.cell 0 rfl
      have bw1 := hb0.trans (b1.mono hb0.size)
      have H24 := rcheck_any to_ m c F w1 (ht.below bw1) (by omega)
      clear H9 k0 d0 b1 hck
      generalize chkE F m = ce at *
      go_wp2_with fail
      refine H24.mono ?_
      rintro e w2 ⟨rfl, b2⟩
      have bw2 := bw1.trans (b2.mono bw1.size)
      clear H24 k1 d1 b2 bw1
      go_wp2_with fail
      go_ret
      exact ⟨rfl, bw2⟩
  · have hd : (decide (m ≤ 60) && decide (n ≤ 24)) = false := by simpa using hfew
    rw [hd] at H9
    go_enter Tryd.func8, Tryd.ntmps8
    go_wp2_with fail
    refine H9.mono ?_
    rintro e w1 ⟨rfl, b1⟩
    have bw1 := hb0.trans (b1.mono hb0.size)
    clear H9 k0 d0 b1 hfew
    go_wp2_with fail
    go_ret
    exact ⟨rfl, bw1⟩
end Go.Proofs.YtiiecppkabdkgaaDoor
