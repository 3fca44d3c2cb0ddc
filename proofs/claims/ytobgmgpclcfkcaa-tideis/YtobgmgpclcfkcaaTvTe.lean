/- Ported: TvTe. -/
import Derived.Test.YtobgmgpclcfkcaaTvb
import Derived.Test.YtobgmgpclcfkcaaTvc
import Derived.Test.YtobgmgpclcfkcaaTve
import Derived.Test.YtobgmgpclcfkcaaTvTa
import Derived.Test.YtobgmgpclcfkcaaTvTd
namespace Go.Proofs.Ytobgmgpclcfkcaa.T
open Go.RowKit
theorem rep_ref (N : Nat) (A : Tab) (l : Nat) : EqN N (tCat (tPow A l) (tPow (tAlt A tStay) N)) (tRep A (l : Int) (-1)) := by
  unfold tRep
  rw [if_pos rfl, Int.toNat_natCast]
  exact EqN.cat (EqN.refl _ _) (fun i d hd => up_star (by omega))
theorem rep_ref2 (A : Tab) (l k : Nat) : tCat (tPow A l) (tPow (tAlt A tStay) k) = tRep A (l : Int) ((l + k : Nat) : Int) := by
  unfold tRep
  rw [if_neg (by omega), show ((l + k : Nat) : Int) - (l : Int) = (k : Int) by omega, Int.toNat_natCast, Int.toNat_natCast]
set_option maxRecDepth 10000 in
set_option maxHeartbeats 4000000 in
theorem repeat39_any (B1 ga N ca : Nat) (l m : Int) (A : Tab) (w : World) (hA : RT w B1 ga N (spB A)) (hN : N ≤ 25) (hN1 : 1 ≤ N) (hlm : Tre.mayR l m = true) : Calls Try.prog 48 #[.slice (some ⟨ga, 0, none⟩) N ca, .int .i64 l, .int .i64 m] w (RetR w N (spB (tRep A l m))) := by
  have hm := mayR_mid hlm
  have hl1000 : l ≤ 1000 ∧ m ≤ 1000 := by simp [Tre.mayR] at hlm; omega
  obtain ⟨l', rfl⟩ := Int.eq_ofNat_of_zero_le hm.1
  have HS := same58_tab N w hN hN1
  have hNi : (N : Int) ≤ 25 := by omega
  have hwN : IntKind.i64.wrap ((N : Int) - 1) = (N : Int) - 1 := by rw [IntKind.wrap_i64]; omega
  have hl : l' ≤ 2000 := by omega
  go_enter Try.func48, Try.ntmps48
  go_wp2_with fail
  refine HS.mono ?_
  rintro e w1 ⟨g1, c1, rfl, hR1, b1⟩
  have hA1 := hA.below b1
  have HO := or38_tab _ _ ga g1 N ca c1 A tStay w1 hA1 hR1 hN hN1
  clear HS hA
  go_wp2_with fail
  refine HO.mono ?_
  rintro e w2 ⟨g2, c2, rfl, hM2, b2⟩
  have hA2 := hA1.below b2
  have bw2 := b1.trans (b2.mono b1.size)
  clear HO hA1 hR1 b1 b2
  have HP := power59_any _ ga N ca l' A w2 hA2 hN hN1 hl
  by_cases hm1 : m = -1
  · have e1 : (m == -1) = true := by simpa using hm1
    have HF : Hid (∀ g cap W, RT W w.heap.size g N (spB (tCat (tPow A l') (tPow (tAlt A tStay) N))) → Below w.heap.size w W → RetR w N (spB (tRep A l' m)) (.returned (.slice (some ⟨g, 0, none⟩) N cap)) W) := fun g cap W hR hb => ⟨g, cap, rfl, hR.congr (fun i j _ hj => by rw [hm1]; exact spB_congr (rep_ref N A l') i j hj), hb⟩
    clear hm1 hlm hm
    generalize tRep A l' m = Z at *
    go_wp2_with fail
    refine HP.mono ?_
    rintro e w3 ⟨g3, c3, rfl, hR3, b3⟩
    have HP2 := power59_any _ g2 N c2 N (tAlt A tStay) w3 (hM2.below b3) hN hN1 (by omega)
    have bw3 := bw2.trans (b3.mono bw2.size)
    clear HP hA2 hM2
    go_wp2_with fail
    refine HP2.mono ?_
    rintro e w4 ⟨g4, c4, rfl, hR4, b4⟩
    have HT := then37_tab _ _ g3 g4 N c3 c4 _ _ w4 (hR3.below b4) hR4 hN hN1
    have bw4 := bw3.trans (b4.mono bw3.size)
    clear HP2 hR3 hR4
    go_wp2_with fail
    refine HT.mono ?_
    rintro e w5 ⟨g5, c5, rfl, hR5, b5⟩
    have HZ : Hid _ := HF.out g5 c5 w5 (hR5.lower bw4.size) (bw4.trans (b5.mono bw4.size))
    clear HT HF hR5
    go_wp2_with fail
    go_ret
    exact HZ.out
  · have e1 : (m == -1) = false := by simpa using hm1
    obtain ⟨k, rfl⟩ : ∃ k : Nat, m = ((l' + k : Nat) : Int) := ⟨(m - l').toNat, by omega⟩
    have hsub : ((l' + k : Nat) : Int) - (l' : Int) = (k : Int) := by omega
    have hsubw : IntKind.i64.wrap (((l' + k : Nat) : Int) - (l' : Int)) = (k : Int) := by rw [IntKind.wrap_i64]; omega
    have hk : k ≤ 2000 := by omega
    have HF : Hid (∀ g cap W, RT W w.heap.size g N (spB (tCat (tPow A l') (tPow (tAlt A tStay) k))) → Below w.heap.size w W → RetR w N (spB (tRep A l' ((l' + k : Nat) : Int))) (.returned (.slice (some ⟨g, 0, none⟩) N cap)) W) := fun g cap W hR hb => ⟨g, cap, rfl, by rw [← rep_ref2]; exact hR, hb⟩
    clear hm1 hlm hm
    generalize tRep A l' ((l' + k : Nat) : Int) = Z at *
    generalize ((l' + k : Nat) : Int) = mm at *
    go_wp2_with fail
    refine HP.mono ?_
    rintro e w3 ⟨g3, c3, rfl, hR3, b3⟩
    have HP2 := power59_any _ g2 N c2 k (tAlt A tStay) w3 (hM2.below b3) hN hN1 hk
    have bw3 := bw2.trans (b3.mono bw2.size)
    clear HP hA2 hM2
    go_wp2_with fail
    refine HP2.mono ?_
    rintro e w4 ⟨g4, c4, rfl, hR4, b4⟩
    have HT := then37_tab _ _ g3 g4 N c3 c4 _ _ w4 (hR3.below b4) hR4 hN hN1
    have bw4 := bw3.trans (b4.mono bw3.size)
    clear HP2 hR3 hR4
    go_wp2_with fail
    refine HT.mono ?_
    rintro e w5 ⟨g5, c5, rfl, hR5, b5⟩
    have HZ : Hid _ := HF.out g5 c5 w5 (hR5.lower bw4.size) (bw4.trans (b5.mono bw4.size))
    clear HT HF hR5
    go_wp2_with fail
    go_ret
    exact HZ.out
end Go.Proofs.Ytobgmgpclcfkcaa.T
