/- Ported: TtL. -/
import Derived.Test.YtobgmgpclcfkcaaTtK
namespace Go.Proofs.Ytobgmgpclcfkcaa.T
open Go.RowKit
/-- Whether the first n nodes are the same. -/
def eqN (F G : Nat → Nd) : Nat → Bool
  | 0 => true
  | n + 1 => eqN F G n && (F n).eq (G n)
theorem eqN_stop {F G : Nat → Nd} {k : Nat} (h : (F k).eq (G k) = false) : ∀ n, k < n → eqN F G n = false
  | 0, hn => by omega
  | n + 1, hn => by
    rw [eqN]
    by_cases e : k = n
    · subst e; rw [h, Bool.and_false]
    · rw [eqN_stop h n (by omega), Bool.false_and]
set_option maxRecDepth 10000 in
set_option maxHeartbeats 2000000 in
theorem equal_any (ao bo : Option Addr) (n m ca cb : Nat) (F G : Nat → Nd) (w : World) (ha : RdN w ao n F) (hb : RdN w bo m G) (hm : (n : Int) ≤ 9223372036854775807) :
    Calls Try.prog 61 #[.slice ao n ca, .slice bo m cb] w fun e w' => e = .returned (.bool (decide (n = m) && eqN F G n)) ∧ ∃ q, w' = w.drewN q := by
  by_cases hnm : n = m
  · subst hnm
    rw [decide_eq_true rfl, Bool.true_and]
    have hn : ((n : Int) != (n : Int)) = false := by simp
    go_enter Try.func61, Try.ntmps61
    go_wp2_with fail
    go_loopw [13] (fun i wr => ∃ k : Nat, k ≤ n ∧ i = .int .i64 k ∧ eqN F G k = true ∧ ∃ q, wr = w.drewN q) (fun i _ => n - (intOf i).toNat)
    case atStart => exact ⟨0, Nat.zero_le _, rfl, rfl, 0, rfl⟩
    case round =>
      obtain ⟨k, hk, rfl, heq, q, rfl⟩ := hrel
      by_cases hlt : k < n
      · obtain ⟨b1, o1, rfl, _, hc⟩ := ha (by omega)
        obtain ⟨b2, o2, rfl, _, hc2⟩ := hb (by omega)
        obtain ⟨c0, c1, c2, c3, c4, c5, c6, c7, c8, c9⟩ := hc k hlt
        obtain ⟨d0, d1, d2, d3, d4, d5, d6, d7, d8, d9⟩ := hc2 k hlt
        have hki : (k : Int) < (n : Int) := by omega
        have hne := run_neq29 (F k) (G k)
        unfold ndV at hne
        clear hc hc2 ha hb
        cases hq : (F k).eq (G k) with
        | false =>
          have hfin : Hid (eqN F G n = false) := eqN_stop hq n hlt
          rw [hq] at hne
          clear hq heq
          generalize F k = x at *
          generalize G k = y at *
          go_wp2
          go_quiet (fail)
          go_wp2
          go_ret
          exact ⟨by rw [hfin.out]; rfl, _, World.drewN_drewN _ _ _⟩
        | true =>
          have hnx : Hid (eqN F G (k + 1) = true) := by show eqN F G (k + 1) = true; rw [eqN, heq, hq]; rfl
          rw [hq] at hne
          clear hq heq
          generalize F k = x at *
          generalize G k = y at *
          go_wp2
          go_quiet (fail)
          go_wp2
          go_roundw
          case rel => exact ⟨k + 1, by omega, by go_num, hnx.out, _, rfl⟩
          case measure => simp [intOf]; omega
      · obtain rfl : k = n := by omega
        have hfin : Hid (eqN F G k = true) := heq
        clear ha hb heq
        go_wp2
        go_ret
        exact ⟨by rw [hfin.out]; rfl, _, rfl⟩
  · rw [decide_eq_false hnm, Bool.false_and]
    have hn : ((n : Int) != (m : Int)) = true := by simp; omega
    clear ha hb
    go_enter Try.func61, Try.ntmps61
    go_wp2
    go_ret
    exact ⟨rfl, 0, rfl⟩
set_option maxHeartbeats 400000 in
theorem tsame_any (ao bo : Option Addr) (n m ca cb : Nat) (F G : Nat → Nd) (w : World) (ha : RdN w ao n F) (hb : RdN w bo m G) (hm : (n : Int) ≤ 9223372036854775807) : Calls Try.prog 43 #[.agg #[.slice ao n ca], .agg #[.slice bo m cb]] w (RetBo w (decide (n = m) && eqN F G n)) := by
  have hB := below2 w (.cells #[.slice ao n ca] 47) (.cells #[.slice bo m cb] 47)
  have HE := equal_any ao bo n m ca cb F G _ (ha.below hB) (hb.below hB) hm
  clear ha hb
  generalize (decide (n = m) && eqN F G n) = r at *
  go_enter Try.func43, Try.ntmps43
  go_wp2_with (go_at_call 61; refine HE.mono ?_; rintro e w3 ⟨rfl, q, rfl⟩)
  go_ret
  exact ⟨rfl, below_drewN hB _⟩
set_option maxRecDepth 10000 in
set_option maxHeartbeats 2000000 in
theorem rsame_any (ao bo : Option Addr) (n m ca cb : Nat) (F G : Nat → Nd) (w : World) (ha : RdN w ao n F) (hb : RdN w bo m G) (hm : (n : Int) ≤ 9223372036854775807) : Calls Try.prog 28 #[.agg #[.slice ao n ca], .agg #[.slice bo m cb]] w (RetBo w (decide (n = m) && eqN F G n)) := by
  have hB := below2 w (.cells #[.slice ao n ca] 47) (.cells #[.slice bo m cb] 47)
  have k1 : Cl ((w.alloc (.cells #[.slice ao n ca] 47)).alloc (.cells #[.slice bo m cb] 47)) w.heap.size 47 [.slice ao n ca] := (Cl.new w 47 [.slice ao n ca]).alloc _
  have k2 : Cl ((w.alloc (.cells #[.slice ao n ca] 47)).alloc (.cells #[.slice bo m cb] 47)) (w.heap.size + 1) 47 [.slice bo m cb] := by
    have := Cl.new (w.alloc (.cells #[.slice ao n ca] 47)) 47 [.slice bo m cb]
    simpa only [World.size_alloc] using this
  replace ha := ha.below hB
  replace hb := hb.below hB
  by_cases hnm : n = m
  · subst hnm
    rw [decide_eq_true rfl, Bool.true_and]
    have hn : ((n : Int) != (n : Int)) = false := by simp
    go_enter Try.func28, Try.ntmps28
    go_wp2_with fail
    generalize hU : (w.alloc (.cells #[.slice ao n ca] 47)).alloc (.cells #[.slice bo n cb] 47) = U at *
    clear hU
    have u1 := k1.cell 0 rfl
    have u2 := k2.cell 0 rfl
    go_loopw [5] (fun i wr => ∃ k : Nat, k ≤ n ∧ i = .int .i64 k ∧ eqN F G k = true ∧ ∃ q, wr = U.drewN q) (fun i _ => n - (intOf i).toNat)
    case atStart => exact ⟨0, Nat.zero_le _, rfl, rfl, 0, rfl⟩
    case round =>
      obtain ⟨k, hk, rfl, heq, q, rfl⟩ := hrel
      by_cases hlt : k < n
      · obtain ⟨b1, o1, rfl, _, hc⟩ := ha (by omega)
        obtain ⟨b2, o2, rfl, _, hc2⟩ := hb (by omega)
        obtain ⟨c0, c1, c2, c3, c4, c5, c6, c7, c8, c9⟩ := hc k hlt
        obtain ⟨d0, d1, d2, d3, d4, d5, d6, d7, d8, d9⟩ := hc2 k hlt
        have hki : (k : Int) < (n : Int) := by omega
        have hne := run_neq29 (F k) (G k)
        unfold ndV at hne
        clear hc hc2 ha hb k1 k2
        cases hq : (F k).eq (G k) with
        | false =>
          have hfin : Hid (eqN F G n = false) := eqN_stop hq n hlt
          rw [hq] at hne
          clear hq heq
          generalize F k = x at *
          generalize G k = y at *
          go_wp2
          go_quiet (fail)
          go_wp2
          go_ret
          exact ⟨by rw [hfin.out]; rfl, below_drewN (below_drewN hB _) _⟩
        | true =>
          have hnx : Hid (eqN F G (k + 1) = true) := by show eqN F G (k + 1) = true; rw [eqN, heq, hq]; rfl
          rw [hq] at hne
          clear hq heq
          generalize F k = x at *
          generalize G k = y at *
          go_wp2
          go_quiet (fail)
          go_wp2
          go_roundw
          case rel => exact ⟨k + 1, by omega, by go_num, hnx.out, _, rfl⟩
          case measure => simp [intOf]; omega
      · obtain rfl : k = n := by omega
        have hfin : Hid (eqN F G k = true) := heq
        clear ha hb heq
        go_wp2
        go_ret
        exact ⟨by rw [hfin.out]; rfl, below_drewN hB _⟩
  · rw [decide_eq_false hnm, Bool.false_and]
    have hn : ((n : Int) != (m : Int)) = true := by simp; omega
    clear ha hb
    go_enter Try.func28, Try.ntmps28
    go_wp2
    go_ret
    exact ⟨rfl, hB⟩
end Go.Proofs.Ytobgmgpclcfkcaa.T
