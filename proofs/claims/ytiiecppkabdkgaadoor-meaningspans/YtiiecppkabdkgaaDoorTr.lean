/- The reference's Ends: the walk. -/
import Derived.Test.YtiiecppkabdkgaaDoorTp
namespace Go.Proofs.YtiiecppkabdkgaaDoor
open Go.RowKit
structure EnR (w1 : World) (g : Nat → Int) (k : Nat) (v : Value) (wr : World) : Prop where
  own : wr.ownsRow w1.heap.size 3 1 v (enL g k).length (intsL (enL g k))
  bel : Below w1.heap.size w1 wr
set_option maxRecDepth 10000 in
set_option maxHeartbeats 2000000 in
theorem ends16_any (to_ : Option Addr) (m c : Nat) (F : Nat → Nd) (ao : Option Addr) (n cap : Nat) (mu : Bool) (f : Nat → Nat) (w : World) (ht : RdN w to_ m F) (hm : m ≤ 60) (hF : ∀ i, i < m → wfN (F i)) (hr : RdB w ao n f) (hn : n ≤ 24) :
    Calls Tryd.prog 16 #[.agg #[.slice to_ m c], .bool mu, .slice ao n cap] w (RetL w (enL (stT (mTab f n mu F m)) (n + 1))) := by
  obtain ⟨i0, hi, hz0, hz1, hz2⟩ := info_parts b_int
  have hb0 := below1 w (.cells #[.slice to_ m c] 24)
  have k0 := Cl.new w 24 [.slice to_ m c]
  have HS := starts18_any to_ m c F ao n cap mu f _ (ht.below hb0) hm hF (hr.below hb0) hn
  have c0 := k0.cell 0 rfl
  obtain ⟨N, hNe⟩ : ∃ N, n + 1 = N := ⟨_, rfl⟩
  have hN : N ≤ 25 := by omega
  have hN1 : 1 ≤ N := by omega
  have hge : ∀ j, -1 ≤ stT (mTab f n mu F m) j := fun j => (stK_lt _ _ _).1
  rw [hNe] at HS ⊢
  generalize stT (mTab f n mu F m) = g at *
  clear ht hF hr k0 hNe hn
  go_enter Tryd.func16, Tryd.ntmps16
  go_wp2_with fail
  refine HS.mono ?_
  rintro e w2 ⟨so, sc, rfl, hown, hb2⟩
  obtain ⟨gs, rfl, hgl, _, hc, _⟩ := row_cell hown (by omega)
  have bw2 := hb0.trans (hb2.mono hb0.size)
  have E0 : EnR w2 g 0 (.slice none 0 0) w2 := ⟨World.ownsRow_nil _ _ _ _, Below.refl _ _⟩
  clear HS hb2 hb0 c0 hown
  go_wp2_with fail
  go_loopw [8, 9] (fun v i wr => ∃ k : Nat, k ≤ N ∧ i = .int .i64 (k : Nat) ∧ EnR w2 g k v wr) (fun _ i _ => N - (intOf i).toNat)
  case atStart => exact ⟨0, Nat.zero_le _, rfl, E0⟩
  case round =>
    obtain ⟨k, hk, rfl, hR⟩ := hrel
    clear E0
    have hsw := hR.bel.size
    by_cases hlt : k < N
    · have hki : (k : Int) < (N : Int) := by omega
      have d0 : wr.cell? ⟨gs, k, none⟩ = some (.int .i64 (g k)) := by rw [hR.bel.cell (p := ⟨gs, k, none⟩) hgl]; exact hc k _ (ints_get g hlt)
      have hg1 := hge k
      cases hpk : (g k == -1) with
      | true =>
        have HP : Hid (enL g (k + 1) = enL g k) := enL_no hpk
        have hneg : ¬ (0 : Int) ≤ g k := by have : g k = -1 := by simpa using hpk
                                            omega
        generalize g k = x at *
        clear hpk
        go_wp2_with fail
        go_roundw
        case rel => exact ⟨k + 1, by omega, by go_num, by rw [HP.out]; exact hR.own, hR.bel⟩
        case measure => simp [intOf]; omega
      | false =>
        have HP : Hid (enL g (k + 1) = enL g k ++ [(k : Int)]) := enL_yes hpk
        have hpos : (0 : Int) ≤ g k := by have : ¬ g k = -1 := by simpa using hpk
                                          omega
        have hle2 := enL_len g k
        have hown := hR.own
        generalize g k = x at *
        clear hpk
        go_wp2_with (at_builtin; refine wpList_append_own _ rfl _ _ 32 rfl w2.heap.size 3 i0 (.int .i64 0) 1 8 Tryd.underlying32 hi hz0 hz1 hz2 rfl (by decide) _ _ _ rfl (hown.alloc _) ⟨wr.heap.size, 0, none⟩ 1 1 [.int .i64 (k : Nat)] rfl rfl (cell_one_new _ _ _) (by simp [Value.oneCell']) (by unfold maxLen; omega) (by omega) (by simp; omega) ?_)
        intro v' w3 hown' hgrow _
        have hbw : Below w2.heap.size _ w3 := (Below.refl _ _).grown hgrow (by simp; omega) (fun j e => (hown.lt j e).1)
        have R : EnR w2 g (k + 1) v' w3 := ⟨by rw [HP.out]; simpa [intsL] using hown', (hR.bel.alloc (by omega) _).trans hbw⟩
        clear hown' hgrow hown hR hbw
        go_wp2_with fail
        go_roundw
        case rel => exact ⟨k + 1, by omega, by go_num, R⟩
        case measure => simp [intOf]; omega
    · obtain rfl : k = N := by omega
      have hki : ¬ (k : Int) < (k : Int) := by omega
      obtain ⟨ao, cap, rfl⟩ := ownsRow_slice hR.own
      have HH : Hid (RetL w (enL g k) (.returned (.slice ao (enL g k).length cap)) wr) := ⟨ao, cap, rfl, ownsRow_base hR.own bw2.size, bw2.trans (hR.bel.mono bw2.size)⟩
      clear hR
      go_wp2_with fail
      go_ret
      exact HH.out
end Go.Proofs.YtiiecppkabdkgaaDoor
