/- TreeStays: the walk. -/
import Derived.Test.YtgedhjflminlbaaMa
import Derived.Test.YtgedhjflminlbaaOq
import Derived.Deep.DeepCutAuto
namespace Go.Proofs.Ytgedhjflminlbaa
open Go.RowKit
set_option maxRecDepth 10000 in
set_option maxHeartbeats 4000000 in
theorem stays_any (a : Option Addr) (n c : Nat) (b : Option Addr) (m d : Nat) (q : Nd) (k l t : Int) (z : Bool) (F G : Nat → Nd) (w : World) (ha : RdN w a n F) (hb : RdN w b m G) (hn : (n : Int) ≤ 9223372036854775807) (hm : (m : Int) ≤ 9223372036854775807) (hca : n ≤ c) (hcb : m ≤ d) : Calls Try.prog 5 #[pairV a n c b m d q k l t z] w (RetBo w true) := by
  have kP := Cl.new w 31 (pairL a n c b m d q k l t z)
  have hW0 := below1 w (.cells (pairL a n c b m d q k l t z).toArray 31)
  have HL : Hid (∀ W, Calls Try.prog 9 #[] W (RetBo W true)) := fun W => live_any W
  unfold pairV
  unfold pairL at kP hW0 ⊢
  go_enter Try.func5, Try.ntmps5
  go_upto_region 3 with (go_at_call 9; refine (HL.out _).mono ?_; rintro e w1 ⟨rfl, hb1⟩)
  have hB1 := hW0.trans (hb1.mono (by simp))
  have kP1 := kP.below hb1
  have rA := ha.below hB1
  have rB := hb.below hB1
  clear kP hW0 ha hb hb1 HL
  have HD : Hid (∀ W, Below w1.heap.size w1 W → W.cell? ⟨w.heap.size, 0, none⟩ = some (.slice a n c) ∧ W.cell? ⟨w.heap.size, 1, none⟩ = some (.slice b m d) ∧ W.cell? ⟨w.heap.size, 15, none⟩ = some (.bool z)) := fun W h => ⟨(kP1.below h).cell 0 rfl, (kP1.below h).cell 1 rfl, (kP1.below h).cell 15 rfl⟩
  have HMA : Hid (∀ W, Below w1.heap.size w1 W → Calls Try.prog 31 #[.agg #[.slice a n c]] W (RetBo W (treeOf F n).isSome)) := fun W h => may_any a n c F W (rA.below h) hn
  have HMB : Hid (∀ W, Below w1.heap.size w1 W → Calls Try.prog 31 #[.agg #[.slice b m d]] W (RetBo W (treeOf G m).isSome)) := fun W h => may_any b m d G W (rB.below h) hm
  obtain ⟨ox, sx⟩ := snd_ok F n
  obtain ⟨oy, sy⟩ := snd_ok G m
  have HJ3 : Hid (∀ W, Below w1.heap.size w1 W → Calls Try.prog 13 #[.int .i64 3, .agg #[.slice a n c], .agg #[.slice b m d]] W (RetT W ((snd F n).size + (snd G m).size + 1) (nodes (.two 3 (snd F n) (snd G m))))) := fun W h => join_yes 3 a b n m c d F G W (.inl rfl) (rA.below h) (rB.below h) hn hm hca hcb
  have HJ4 : Hid (∀ W, Below w1.heap.size w1 W → Calls Try.prog 13 #[.int .i64 4, .agg #[.slice a n c], .agg #[.slice b m d]] W (RetT W ((snd F n).size + (snd G m).size + 1) (nodes (.two 4 (snd F n) (snd G m))))) := fun W h => join_yes 4 a b n m c d F G W (.inr rfl) (rA.below h) (rB.below h) hn hm hca hcb
  have HRp : Hid (∀ W, Below w1.heap.size w1 W → Calls Try.prog 15 #[.agg #[.slice a n c], .int .i64 0, .int .i64 (-1), .bool z] W (RetT W ((snd F n).size + 1) (nodes (.rep (snd F n) 0 (-1) z)))) := fun W h => repeat_any a n c F 0 (-1) z W (rA.below h) hn hca
  have HCA : Hid (∀ W, Below w1.heap.size w1 W → Calls Try.prog 27 #[.agg #[.slice a n c]] W (RetI W (chkE F n))) := fun W h => check_any a n c F W (rA.below h) hn
  have HCB : Hid (∀ W, Below w1.heap.size w1 W → Calls Try.prog 27 #[.agg #[.slice b m d]] W (RetI W (chkE G m))) := fun W h => check_any b m d G W (rB.below h) hm
  have HSb : Hid (∀ W x, Below w1.heap.size w1 W → Calls Try.prog 23 #[.agg #[.slice a n c], .int .i64 x] W (RetSb W (snd F n) x)) := fun W x h => sub_any a n c F x W (rA.below h) hn hca
  clear rA rB
  obtain ⟨d0, d1, d2⟩ := HD.out _ (Below.refl _ _)
  have m1 : Hid True := trivial
  have m2 : Hid True := trivial
  have m3 : Hid True := trivial
  go_cut [27] (fun c wx => c = .bool ((treeOf F n).isSome && ((treeOf G m).isSome && decide (n + m < 2048))) ∧ Below w1.heap.size w1 wx)
  case first =>
    clear HJ3 HJ4 HRp HCA HCB HSb kP1
    have hAs : (treeOf F n).isSome = true → n ≤ 2048 := fun h => (snd_some h).2
    have hBs : (treeOf G m).isSome = true → m ≤ 2048 := fun h => (snd_some h).2
    generalize (treeOf F n).isSome = A at *
    generalize (treeOf G m).isSome = B at *
    cases A with
    | false =>
      clear hAs hBs
      go_wp2_with (go_at_call 31; first | (clear m1; refine (HMA.out _ (Below.refl _ _)).mono ?_; rintro e w2 ⟨rfl, hb2⟩; clear d0 d1 d2; obtain ⟨d0, d1, d2⟩ := HD.out _ hb2) | (refine (HMB.out _ hb2).mono ?_; rintro e w3 ⟨rfl, hb3⟩; have hb23 := hb2.trans (hb3.mono hb2.size); clear d0 d1 d2; obtain ⟨d0, d1, d2⟩ := HD.out _ hb23))
      go_meet
      exact ⟨rfl, hb2⟩
    | true =>
      have hA := hAs rfl
      cases B with
      | false =>
        clear hAs hBs
        go_wp2_with (go_at_call 31; first | (clear m1; refine (HMA.out _ (Below.refl _ _)).mono ?_; rintro e w2 ⟨rfl, hb2⟩; clear d0 d1 d2; obtain ⟨d0, d1, d2⟩ := HD.out _ hb2) | (refine (HMB.out _ hb2).mono ?_; rintro e w3 ⟨rfl, hb3⟩; have hb23 := hb2.trans (hb3.mono hb2.size); clear d0 d1 d2; obtain ⟨d0, d1, d2⟩ := HD.out _ hb23))
        go_meet
        exact ⟨rfl, hb23⟩
      | true =>
        have hB := hBs rfl
        clear hAs hBs
        by_cases hs : n + m < 2048
        · have hsi : (n : Int) + (m : Int) < 2048 := by omega
          have hsd : decide (n + m < 2048) = true := by simpa using hs
          go_wp2_with (go_at_call 31; first | (clear m1; refine (HMA.out _ (Below.refl _ _)).mono ?_; rintro e w2 ⟨rfl, hb2⟩; clear d0 d1 d2; obtain ⟨d0, d1, d2⟩ := HD.out _ hb2) | (refine (HMB.out _ hb2).mono ?_; rintro e w3 ⟨rfl, hb3⟩; have hb23 := hb2.trans (hb3.mono hb2.size); clear d0 d1 d2; obtain ⟨d0, d1, d2⟩ := HD.out _ hb23))
          go_meet
          exact ⟨by rw [hsd]; rfl, hb23⟩
        · have hsi : ¬ (n : Int) + (m : Int) < 2048 := by omega
          have hsd : decide (n + m < 2048) = false := by simpa using hs
          have hsi2 : decide ((n : Int) + (m : Int) < 2048) = false := by simpa using hsi
          go_wp2_with (go_at_call 31; first | (clear m1; refine (HMA.out _ (Below.refl _ _)).mono ?_; rintro e w2 ⟨rfl, hb2⟩; clear d0 d1 d2; obtain ⟨d0, d1, d2⟩ := HD.out _ hb2) | (refine (HMB.out _ hb2).mono ?_; rintro e w3 ⟨rfl, hb3⟩; have hb23 := hb2.trans (hb3.mono hb2.size); clear d0 d1 d2; obtain ⟨d0, d1, d2⟩ := HD.out _ hb23))
          go_meet
          exact ⟨by first | (rw [hsd]; rfl) | (rw [hsd, hsi2]; rfl), hb23⟩
  case rest =>
    obtain ⟨rfl, hb2⟩ := hcut
    obtain ⟨w2, hw2⟩ : ∃ W, W = wc := ⟨_, rfl⟩
    subst hw2
    clear d0 d1 d2
    obtain ⟨d0, d1, d2⟩ := HD.out _ hb2
    go_upto_if 27 with fail
    go_cut [] (fun wx => Below w1.heap.size w1 wx)
    case first =>
      clear HMA HMB HSb kP1
      cases hin : ((treeOf F n).isSome && ((treeOf G m).isSome && decide (n + m < 2048))) with
      | false =>
        go_wp2_with fail
        go_meet
        exact hb2
      | true =>
        simp only [Bool.and_eq_true, decide_eq_true_eq] at hin
        obtain ⟨hA, hB, hs⟩ := hin
        obtain ⟨sA, lA⟩ := snd_some hA
        obtain ⟨sB, lB⟩ := snd_some hB
        have HY3 : Hid (∀ W ao c', RdN W ao ((snd F n).size + (snd G m).size + 1) (nodes (.two 3 (snd F n) (snd G m))) → Calls Try.prog 31 #[.agg #[.slice ao (((snd F n).size + (snd G m).size + 1 : Nat)) c']] W (RetBo W true)) := fun W ao c' h => by
          have := may_any ao _ c' _ W h (by omega)
          rw [may_nodes (.two 3 (snd F n) (snd G m)) (s := (snd F n).size + (snd G m).size + 1) rfl (ok_two (.inl rfl) ox oy) (by simp only [Tre.size]; omega)] at this
          exact this
        have HY4 : Hid (∀ W ao c', RdN W ao ((snd F n).size + (snd G m).size + 1) (nodes (.two 4 (snd F n) (snd G m))) → Calls Try.prog 31 #[.agg #[.slice ao (((snd F n).size + (snd G m).size + 1 : Nat)) c']] W (RetBo W true)) := fun W ao c' h => by
          have := may_any ao _ c' _ W h (by omega)
          rw [may_nodes (.two 4 (snd F n) (snd G m)) (s := (snd F n).size + (snd G m).size + 1) rfl (ok_two (.inr rfl) ox oy) (by simp only [Tre.size]; omega)] at this
          exact this
        have HYr : Hid (∀ W ao c', RdN W ao ((snd F n).size + 1) (nodes (.rep (snd F n) 0 (-1) z)) → Calls Try.prog 31 #[.agg #[.slice ao (((snd F n).size + 1 : Nat)) c']] W (RetBo W true)) := fun W ao c' h => by
          have := may_any ao _ c' _ W h (by omega)
          rw [may_nodes (.rep (snd F n) 0 (-1) z) (s := (snd F n).size + 1) rfl (ok_rep ox) (by simp only [Tre.size]; omega)] at this
          exact this
        have HY5 : Hid (∀ W ao c', RdN W ao ((snd F n).size + (snd G m).size + 1) (nodes (.two 4 (snd F n) (snd G m))) → Calls Try.prog 27 #[.agg #[.slice ao (((snd F n).size + (snd G m).size + 1 : Nat)) c']] W (RetI W (if anc (.two 4 (snd F n) (snd G m)) (true, true) = true then 0 else 51))) := fun W ao c' h => by
          have := check_any ao _ c' _ W h (by omega)
          rw [chk_nodes (.two 4 (snd F n) (snd G m)) (s := (snd F n).size + (snd G m).size + 1) rfl (ok_two (.inr rfl) ox oy) (by simp only [Tre.size]; omega)] at this
          exact this
        have hal := fun h1 h2 => alt_ok (x := snd F n) (y := snd G m) h1 h2
        have hcA := fun h => chk_ok (F := F) (n := n) h
        have hcB := fun h => chk_ok (F := G) (n := m) h
        clear hA hB sA sB lA lB ox oy sx sy hs
        have HZ : Hid (chkE F n = 0 → chkE G m = 0 → anc (.two 4 (snd F n) (snd G m)) (true, true) = true) := fun h1 h2 => hal (hcA h1) (hcB h2)
        clear hal hcA hcB
        generalize snd F n = X at *
        generalize snd G m = Y at *
        generalize anc (.two 4 X Y) (true, true) = P at *
        go_upto_region 4 with fail
        go_cut [52] (fun c wx => c = .bool false ∧ Below w1.heap.size w1 wx)
        case first =>
          clear HCA HCB HY5 HZ
          go_wp2_with (first | (go_at_call 13; first | (clear m1; refine (HJ3.out _ hb2).mono ?_; rintro e w3 ⟨a3, c3, rfl, o3, b3⟩; have hb3 := hb2.trans (b3.mono hb2.size)) | (refine (HJ4.out _ hb4).mono ?_; rintro e w5 ⟨a5, c5, rfl, o5, b5⟩; have hb5 := hb4.trans (b5.mono hb4.size))) | (go_at_call 15; refine (HRp.out _ hb6).mono ?_; rintro e w7 ⟨a7, c7, rfl, o7, b7⟩; have hb7 := hb6.trans (b7.mono hb6.size)) | (go_at_call 31; first | (clear m2; refine (HY3.out _ _ _ o3.rd).mono ?_; rintro e w4 ⟨rfl, b4⟩; have hb4 := hb3.trans (b4.mono hb3.size); clear d0 d1 d2; obtain ⟨d0, d1, d2⟩ := HD.out _ hb4) | (clear m3; refine (HY4.out _ _ _ o5.rd).mono ?_; rintro e w6 ⟨rfl, b6⟩; have hb6 := hb5.trans (b6.mono hb5.size); clear d0 d1 d2; obtain ⟨d0, d1, d2⟩ := HD.out _ hb6) | (refine (HYr.out _ _ _ o7.rd).mono ?_; rintro e w8 ⟨rfl, b8⟩; have hb8 := hb7.trans (b8.mono hb7.size))))
          go_meet
          exact ⟨rfl, hb8⟩
        case rest =>
          obtain ⟨rfl, hb9⟩ := hcut
          obtain ⟨w9, hw9⟩ : ∃ W, W = wc := ⟨_, rfl⟩
          subst hw9
          clear d0 d1 d2 hb2 HY3 HY4 HYr HJ3 HRp
          obtain ⟨d0, d1, d2⟩ := HD.out _ hb9
          go_upto_region 6 with fail
          go_cut [71] (fun c wx => c = .bool false ∧ Below w1.heap.size w1 wx)
          case first =>
            generalize chkE F n = p at *
            generalize chkE G m = r at *
            by_cases hp : p = 0
            · have hp2 : (p == 0) = true := by simp [hp]
              by_cases hr : r = 0
              · have hr2 : (r == 0) = true := by simp [hr]
                have hP := HZ.out hp hr
                subst hP
                clear HZ hp hr
                simp only [if_pos] at HY5
                go_wp2_with (first | (go_at_call 13; refine (HJ4.out _ hb11).mono ?_; rintro e w12 ⟨a12, c12, rfl, o12, b12⟩; have hb12 := hb11.trans (b12.mono hb11.size)) | (go_at_call 27; first | (clear m1; refine (HCA.out _ hb9).mono ?_; rintro e w10 ⟨rfl, b10⟩; have hb10 := hb9.trans (b10.mono hb9.size); clear d0 d1 d2; obtain ⟨d0, d1, d2⟩ := HD.out _ hb10) | (clear m2; refine (HCB.out _ hb10).mono ?_; rintro e w11 ⟨rfl, b11⟩; have hb11 := hb10.trans (b11.mono hb10.size); clear d0 d1 d2; obtain ⟨d0, d1, d2⟩ := HD.out _ hb11) | (refine (HY5.out _ _ _ o12.rd).mono ?_; rintro e w13 ⟨rfl, b13⟩; have hb13 := hb12.trans (b13.mono hb12.size))))
                go_meet
                exact ⟨rfl, hb13⟩
              · have hr2 : (r == 0) = false := by simp [hr]
                clear HZ hp hr
                go_wp2_with (first | (go_at_call 13; refine (HJ4.out _ hb11).mono ?_; rintro e w12 ⟨a12, c12, rfl, o12, b12⟩; have hb12 := hb11.trans (b12.mono hb11.size)) | (go_at_call 27; first | (clear m1; refine (HCA.out _ hb9).mono ?_; rintro e w10 ⟨rfl, b10⟩; have hb10 := hb9.trans (b10.mono hb9.size); clear d0 d1 d2; obtain ⟨d0, d1, d2⟩ := HD.out _ hb10) | (clear m2; refine (HCB.out _ hb10).mono ?_; rintro e w11 ⟨rfl, b11⟩; have hb11 := hb10.trans (b11.mono hb10.size); clear d0 d1 d2; obtain ⟨d0, d1, d2⟩ := HD.out _ hb11) | (refine (HY5.out _ _ _ o12.rd).mono ?_; rintro e w13 ⟨rfl, b13⟩; have hb13 := hb12.trans (b13.mono hb12.size))))
                go_meet
                exact ⟨rfl, hb11⟩
            · have hp2 : (p == 0) = false := by simp [hp]
              clear HZ hp
              go_wp2_with (first | (go_at_call 13; refine (HJ4.out _ hb11).mono ?_; rintro e w12 ⟨a12, c12, rfl, o12, b12⟩; have hb12 := hb11.trans (b12.mono hb11.size)) | (go_at_call 27; first | (clear m1; refine (HCA.out _ hb9).mono ?_; rintro e w10 ⟨rfl, b10⟩; have hb10 := hb9.trans (b10.mono hb9.size); clear d0 d1 d2; obtain ⟨d0, d1, d2⟩ := HD.out _ hb10) | (clear m2; refine (HCB.out _ hb10).mono ?_; rintro e w11 ⟨rfl, b11⟩; have hb11 := hb10.trans (b11.mono hb10.size); clear d0 d1 d2; obtain ⟨d0, d1, d2⟩ := HD.out _ hb11) | (refine (HY5.out _ _ _ o12.rd).mono ?_; rintro e w13 ⟨rfl, b13⟩; have hb13 := hb12.trans (b13.mono hb12.size))))
              go_meet
              exact ⟨rfl, hb10⟩
          case rest =>
            obtain ⟨rfl, hb14⟩ := hcut
            go_wp2_with fail
            go_meet
            exact hb14
    case rest =>
      obtain ⟨w20, hw20⟩ : ∃ W, W = wc := ⟨_, rfl⟩
      subst hw20
      have hb20 := hcut
      clear d0 d1 d2 hb2 hcut HMA HMB HJ3 HJ4 HRp HCA HCB kP1
      obtain ⟨d0, d1, d2⟩ := HD.out _ hb20
      have hmin := min_to n (min n 60) rfl
      have hle : min n 60 ≤ c := by omega
      have hsl := slice_to22 a n c (min n 60) hle
      have hle2 : min n 60 ≤ n := by omega
      have hmx : min n 60 ≤ 60 := by omega
      generalize min n 60 = mx at *
      go_wp2_with fail
      go_loopw [82] (fun i wr => ∃ j : Nat, j ≤ mx ∧ i = .int .i64 (j : Nat) ∧ Below w1.heap.size w1 wr) (fun i _ => mx - (intOf i).toNat)
      case atStart => exact ⟨0, Nat.zero_le _, rfl, hb20⟩
      case round =>
        obtain ⟨j, hj, rfl, hbr⟩ := hrel
        by_cases hlt : j < mx
        · have hji : (j : Int) < (mx : Int) := by omega
          clear d0 d1 d2
          obtain ⟨d0, d1, d2⟩ := HD.out _ hbr
          by_cases hjs : j < (snd F n).size
          · obtain ⟨u, hu⟩ : ∃ u, (snd F n).subs[j]? = some u := ⟨_, List.getElem?_eq_getElem (by rw [Tre.subs_length]; exact hjs)⟩
            have pu := u.size_pos
            have ou := subs_ok _ _ _ ox hu
            have su : u.size ≤ 2048 := by have := (subs_sub _ _ _ hu).1; omega
            have HC : Hid (∀ _W : World, Calls Try.prog 23 #[.agg #[.slice a n c], .int .i64 (j : Nat)] wr (fun e w' => ∃ ao cap, e = .returned (.tuple #[.agg #[.slice ao u.size cap], .bool true]) ∧ OwN w' wr.heap.size ao u.size cap (nodes u) ∧ Below wr.heap.size wr w')) := by
              refine fun W => (HSb.out _ _ hbr).mono ?_
              rintro e w' ⟨_, h2, h3⟩
              obtain ⟨ao, cap, he, ho⟩ := h2 u (by omega) (by simpa using hu)
              exact ⟨ao, cap, he, ho, h3⟩
            have HK : Hid (∀ W ao cap, RdN W ao u.size (nodes u) → Calls Try.prog 27 #[.agg #[.slice ao u.size cap]] W (fun e w' => ∃ x : Int, (x == 50) = false ∧ e = .returned (.int .i64 x) ∧ Below W.heap.size W w')) := fun W ao cap h => by
              refine (check_any ao _ cap _ W h (by omega)).mono ?_
              rintro e w' ⟨rfl, hb⟩
              refine ⟨_, ?_, rfl, hb⟩
              rw [chk_nodes u rfl ou su]
              split <;> decide
            have hu0 : ((u.size : Int) == 0) = false := by simp; omega
            clear HSb ou su hu ox sx oy sy
            generalize nodes u = fu at *
            generalize u.size = us at *
            go_wp2_with (first | (go_at_call 23; refine (HC.out wr).mono ?_; rintro e w21 ⟨a21, c21, rfl, o21, b21⟩; have hb21 := hbr.trans (b21.mono hbr.size); have k21 := Cl.new w21 24 [.slice a21 us c21]; have e0 := k21.cell 0 rfl; have r21 := o21.rd.below (below1 w21 (.cells #[.slice a21 us c21] 24))) | (go_at_call 27; refine (HK.out _ _ _ r21).mono ?_; rintro e w22 ⟨x, hx, rfl, b22⟩; have hb22 : Below w1.heap.size w1 w22 := (hb21.trans ((below1 w21 (.cells #[.slice a21 us c21] 24)).mono hb21.size)).trans (b22.mono (by simp; have := hb21.size; omega))))
            go_roundw
            case rel => exact ⟨j + 1, hlt, by simp, hb22⟩
            case measure => simp [intOf]; omega
          · have HC : Hid (∀ _W : World, Calls Try.prog 23 #[.agg #[.slice a n c], .int .i64 (j : Nat)] wr (fun e w' => e = .returned (.tuple #[.agg #[.slice none 0 0], .bool false]) ∧ Below wr.heap.size wr w')) := by
              refine fun W => (HSb.out _ _ hbr).mono ?_
              rintro e w' ⟨h1, _, h3⟩
              exact ⟨h1 (.inr (by omega)), h3⟩
            clear HSb ox sx oy sy
            go_wp2_with (go_at_call 23; refine (HC.out wr).mono ?_; rintro e w21 ⟨rfl, b21⟩; have hb21 := hbr.trans (b21.mono hbr.size); have hb22 : Below w1.heap.size w1 (w21.alloc (.cells #[.slice none 0 0] 24)) := hb21.alloc hb21.size _)
            go_roundw
            case rel => exact ⟨j + 1, hlt, by simp, hb22⟩
            case measure => simp [intOf]; omega
        · obtain rfl : j = mx := by omega
          have hji : ¬ (j : Int) < (j : Int) := by omega
          have HE : Hid (Below w.heap.size w wr) := hB1.trans (hbr.mono hB1.size)
          go_wp2_with fail
          go_ret
          exact ⟨rfl, HE.out⟩
end Go.Proofs.Ytgedhjflminlbaa
