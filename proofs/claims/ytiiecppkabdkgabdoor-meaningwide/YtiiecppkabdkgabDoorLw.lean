/- MeaningWide: the walk. -/
import Derived.Test.YtiiecppkabdkgabDoorSq
import Derived.Test.YtiiecppkabdkgabDoorRa
import Derived.Test.YtiiecppkabdkgabDoorTo
import Derived.Test.YtiiecppkabdkgabDoorWg
import Derived.Test.YtiiecppkabdkgabDoorMz
namespace Go.Proofs.YtiiecppkabdkgabDoor
open Go.RowKit
/-- The call says true, and nothing old has turned. -/
def RetTrue (w : World) (e : Ending) (w' : World) : Prop := e = .returned (.bool true) ∧ Below w.heap.size w w'
theorem BRows.get {W : World} {B tb N : Nat} {T : Tab} (h : BRows W B tb N N T) {i : Nat} (hi : i < N) : ∃ b, W.cell? ⟨tb, i, none⟩ = some (.slice (some ⟨b, 0, none⟩) N N) ∧ tb < W.heap.size ∧ b < W.heap.size ∧ ∀ j, j < N → W.cell? ⟨b, j, none⟩ = some (.bool (spB T i j)) := by
  obtain ⟨M, h1, h2⟩ := h
  obtain ⟨b, _, h4, h5⟩ := h2 i hi
  exact ⟨b, by rw [h1.cell i (vals_get M hi), h4], h1.lt, h5.lt, fun j hj => h5.cell j (bools_get _ hj)⟩
set_option maxRecDepth 10000 in
set_option maxHeartbeats 8000000 in
theorem wide_main (to_ : Option Addr) (m c : Nat) (F : Nat → Nd) (ao : Option Addr) (n cap : Nat) (mu : Bool) (f : Nat → Nat) (w : World) (ht : RdN w to_ m F) (hF : ∀ i, i < m → wfN (F i)) (hr : RdB w ao n f) (hmc : m ≤ c) (hT : TabZ w) (hm60 : m ≤ 60) (hn : n ≤ 24) (hck : chkE F m = 0) :
    Calls Tryd.prog 3 #[.agg #[.slice to_ m c], .bool mu, .slice ao n cap] w (RetTrue w) := by
  obtain ⟨t, htr, han, hmT, hsn, hok, hsz, _⟩ := mTab_ok (f := f) (n := n) (mu := mu) hck
  have hb0 := below1 w (.cells #[.slice to_ m c] 24)
  have k0 := Cl.new w 24 [.slice to_ m c]
  have d0 := k0.cell 0 rfl
  have H9 := few_any to_ m c ao n cap (w.alloc (.cells #[.slice to_ m c] 24))
  rw [decide_eq_true hm60, decide_eq_true hn] at H9
  go_enter Tryd.func3, Tryd.ntmps3
  go_wp2_with fail
  refine H9.mono ?_
  rintro e w1 ⟨rfl, b1⟩
  have k1 := k0.below b1
  have d1 := k1.cell 0 rfl
  have bw1 := hb0.trans (b1.mono hb0.size)
  have H24 := rcheck_any to_ m c F w1 (ht.below bw1) (by omega)
  rw [hck] at H24
  clear H9 k0 d0 b1
  go_wp2_with fail
  refine H24.mono ?_
  rintro e w2 ⟨rfl, b2⟩
  have k2 := k1.below b2
  have bw2 := bw1.trans (b2.mono bw1.size)
  have d2 := k2.cell 0 rfl
  clear H24 k1 d1 b2 bw1
  go_wp2_with fail
  have HW := rwidths_any to_ m c F w2 (ht.below bw2) (by omega) hmc
  rw [hsn] at HW
  have hwd : Hid (∀ i d, d ≤ 24 → mean f n mu t i d = true → wl t ≤ d ∧ (wg t = -1 ∨ (d : Int) ≤ wg t)) := fun i d hd h => mean_wide f n mu t i d hok (by omega) h
  have hwn : Hid (∀ i, mean f n mu t i 0 = true → nul t = true) := fun i h => mean_nul f n mu t i hok h
  have hgi := wg_in t hok
  have hli := wl_in t hok
  have hnul := mTab_nul F m htr han
  generalize wl t = lo at *
  generalize wg t = hi at *
  refine HW.mono ?_
  rintro e w3 ⟨rfl, b3⟩
  have k3 := k2.below b3
  have bw3 := bw2.trans (b3.mono bw2.size)
  have d3 := k3.cell 0 rfl
  clear HW k2 d2 b3 bw2
  go_wp2_with fail
  have HS := spans12_any to_ m c F ao n cap mu f w3 (ht.below bw3) (by omega) hF (hr.below bw3) hn (hT.below bw3)
  rw [hmT] at HS
  refine HS.mono ?_
  rintro e w4 ⟨ta, rfl, hA4, b4, _⟩
  have k4 := k3.below b4
  have bw4 := bw3.trans (b4.mono bw3.size)
  have hT4 := hT.below bw4
  have ht4 := ht.below bw4
  clear HS k3 d3 b4 bw3 hr hT ht hsn hck hmT htr han hok hsz hmc
  generalize mean f n mu t = T1 at *
  generalize nul t = nu at *
  have hni : (n : Int) ≤ 24 := by omega
  have hnn : ((n + 1 : Nat) : Int) = (n : Int) + 1 := by omega
  go_wp2_with fail
  go_loopw [32] (fun v wr => ∃ i : Nat, i ≤ n + 1 ∧ v = .int .i64 (i : Nat) ∧ Below w4.heap.size w4 wr) (fun v _ => n + 1 - (intOf v).toNat)
  case atStart => exact ⟨0, Nat.zero_le _, rfl, Below.refl _ _⟩
  case round =>
    obtain ⟨i, hi_, rfl, hbi⟩ := hrel
    by_cases hli2 : i < n + 1
    · have hii : (i : Int) < (n : Int) + 1 := by omega
      obtain ⟨ba, ca1, htl, hbl, ca2⟩ := (hA4.below hbi).get hli2
      go_wp2_with fail
      obtain ⟨wo, rfl⟩ : ∃ u, u = wr := ⟨wr, rfl⟩
      go_loopw [39] (fun v wx => ∃ j : Nat, j ≤ n + 1 ∧ v = .int .i64 (j : Nat) ∧ Below wo.heap.size wo wx) (fun v _ => n + 1 - (intOf v).toNat)
      case atStart => exact ⟨0, Nat.zero_le _, rfl, Below.refl _ _⟩
      case round =>
        obtain ⟨j, hj, rfl, hbj⟩ := hrel
        by_cases hlj : j < n + 1
        · have hjj : (j : Int) < (n : Int) + 1 := by omega
          have c2 := cell_later hbj (ca2 j hlj)
          have bof := hbi.trans (hbj.mono hbi.size)
          have dT := (k4.below bof).cell 0 rfl
          have HE := empty21_any to_ m c F wr (ht4.below bof) hm60 hF (hT4.below bof)
          rw [hnul] at HE
          clear ca1 ca2 hA4 hnul
          cases hB : spB T1 i j with
          | false =>
            rw [hB] at c2
            clear HE hwd hwn
            go_wp2_with fail
            go_roundw
            case rel => exact ⟨j + 1, by omega, by simp, hbj⟩
            case measure => simp [intOf]; omega
          | true =>
            rw [hB] at c2
            unfold spB at hB
            simp only [Bool.and_eq_true, decide_eq_true_eq] at hB
            obtain ⟨hij, hTd⟩ := hB
            obtain ⟨x1, x2⟩ := hwd.out i (j - i) (by omega) hTd
            have x3 : i = j → nu = true := by
              rintro rfl
              exact hwn.out i (by simpa using hTd)
            have l1 : ¬ (j : Int) < (i : Int) := by omega
            have wj : IntKind.i64.wrap ((j : Int) - (i : Int)) = ((j - i : Nat) : Int) := by rw [IntKind.wrap_i64]; omega
            have l2 : ¬ ((j - i : Nat) : Int) < lo := by omega
            clear hwd hwn hTd
            by_cases hh : hi = -1
            · have l3 : ¬ (0 : Int) ≤ hi := by omega
              by_cases hji : i = j
              · obtain rfl := x3 hji
                have l5 : ((i : Int) == (j : Int)) = true := by simp [hji]
                clear x3 hh
                generalize hdd : j - i = dd at *
                clear hji hdd
                go_wp2_with fail
                refine HE.mono ?_
                rintro e w8 ⟨rfl, b8⟩
                have bj8 := hbj.trans (b8.mono hbj.size)
                go_wp2_with fail
                go_roundw
                case rel => exact ⟨j + 1, by omega, by simp, bj8⟩
                case measure => simp [intOf]; omega
              · have l5 : ((i : Int) == (j : Int)) = false := by simp; omega
                clear HE x3 hh
                go_wp2_with fail
                go_roundw
                case rel => exact ⟨j + 1, by omega, by simp, hbj⟩
                case measure => simp [intOf]; omega
            · have l3 : (0 : Int) ≤ hi := by omega
              have l4 : ¬ hi < ((j - i : Nat) : Int) := by omega
              by_cases hji : i = j
              · obtain rfl := x3 hji
                have l5 : ((i : Int) == (j : Int)) = true := by simp [hji]
                clear x3 hh
                generalize hdd : j - i = dd at *
                clear hji hdd
                go_wp2_with fail
                refine HE.mono ?_
                rintro e w8 ⟨rfl, b8⟩
                have bj8 := hbj.trans (b8.mono hbj.size)
                go_wp2_with fail
                go_roundw
                case rel => exact ⟨j + 1, by omega, by simp, bj8⟩
                case measure => simp [intOf]; omega
              · have l5 : ((i : Int) == (j : Int)) = false := by simp; omega
                clear HE x3 hh
                go_wp2_with fail
                go_roundw
                case rel => exact ⟨j + 1, by omega, by simp, hbj⟩
                case measure => simp [intOf]; omega
        · have hjj : ¬ (j : Int) < (n : Int) + 1 := by omega
          go_wp2_with fail
          go_roundw
          case rel => exact ⟨i + 1, by omega, by simp, hbi.trans (hbj.mono hbi.size)⟩
          case measure => simp [intOf]; omega
    · have hii : ¬ (i : Int) < (n : Int) + 1 := by omega
      have bwr := bw4.trans (hbi.mono bw4.size)
      have hTr := hT4.below hbi
      go_wp2_with fail
      refine (begun_any wr hTr).mono ?_
      rintro e w7 ⟨rfl, b7⟩
      have bw7 := bwr.trans (b7.mono bwr.size)
      clear b7
      go_wp2_with fail
      go_ret
      exact ⟨rfl, bw7⟩
set_option maxRecDepth 10000 in
set_option maxHeartbeats 4000000 in
theorem wide_any (to_ : Option Addr) (m c : Nat) (F : Nat → Nd) (ao : Option Addr) (n cap : Nat) (mu : Bool) (f : Nat → Nat) (w : World) (ht : RdN w to_ m F) (hm : (m : Int) ≤ 9223372036854775807) (hF : ∀ i, i < m → wfN (F i)) (hr : RdB w ao n f) (hmc : m ≤ c) (hT : TabZ w) :
    Calls Tryd.prog 3 #[.agg #[.slice to_ m c], .bool mu, .slice ao n cap] w (RetTrue w) := by
  have hb0 := below1 w (.cells #[.slice to_ m c] 24)
  have k0 := Cl.new w 24 [.slice to_ m c]
  have d0 := k0.cell 0 rfl
  have H9 := few_any to_ m c ao n cap (w.alloc (.cells #[.slice to_ m c] 24))
  by_cases hfew : m ≤ 60 ∧ n ≤ 24
  · by_cases hck : chkE F m = 0
    · exact wide_main to_ m c F ao n cap mu f w ht hF hr hmc hT hfew.1 hfew.2 hck
    · rw [decide_eq_true hfew.1, decide_eq_true hfew.2] at H9
      have hce : (chkE F m == 0) = false := by simpa using hck
      go_enter Tryd.func3, Tryd.ntmps3
      go_wp2_with fail
      refine H9.mono ?_
      rintro e w1 ⟨rfl, b1⟩
      have k1 := k0.below b1
      have d1 := k1.cell 0 rfl
      have bw1 := hb0.trans (b1.mono hb0.size)
      have H24 := rcheck_any to_ m c F w1 (ht.below bw1) (by omega)
      clear H9 k0 d0 b1 hck
      generalize chkE F m = ce at *
      go_wp2_with fail
      refine H24.mono ?_
      rintro e w2 ⟨rfl, b2⟩
      have bw2 := bw1.trans (b2.mono bw1.size)
      clear H24 k1 d1 b2 bw1
      go_wp2_with fail
      go_ret
      exact ⟨rfl, bw2⟩
  · have hd : (decide (m ≤ 60) && decide (n ≤ 24)) = false := by simpa using hfew
    rw [hd] at H9
    go_enter Tryd.func3, Tryd.ntmps3
    go_wp2_with fail
    refine H9.mono ?_
    rintro e w1 ⟨rfl, b1⟩
    have bw1 := hb0.trans (b1.mono hb0.size)
    clear H9 k0 d0 b1 hfew
    go_wp2_with fail
    go_ret
    exact ⟨rfl, bw1⟩
end Go.Proofs.YtiiecppkabdkgabDoor
