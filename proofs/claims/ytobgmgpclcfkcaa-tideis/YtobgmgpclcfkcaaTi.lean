/- TideIs: what it asks of a number, and whether it holds of one of them. -/
import Derived.Test.YtobgmgpclcfkcaaPm
import Derived.Deep.RegionWith
namespace Go.Proofs.Ytobgmgpclcfkcaa
open Go.RowKit
set_option maxRecDepth 100000 in
set_option maxHeartbeats 4000000 in
theorem ask_any (w : World) (bj bs g N cap B : Nat) (p : Nat → Nat → Bool) (j : Nat) (x : Int) (hj : j < N) (hc : w.cell? ⟨bj, 0, none⟩ = some (.int .i64 (j : Nat))) (hs : w.cell? ⟨bs, 0, none⟩ = some (.slice (some ⟨g, 0, none⟩) N cap)) (hr : T.RT w B g N p) :
    Calls Try.prog 31 #[.int .i64 x, .pointer (some ⟨bj, 0, none⟩), .pointer (some ⟨bs, 0, none⟩)] w fun e w' => e = .returned (.bool (askZ p j x)) ∧ Below w.heap.size w w' := by
  obtain ⟨R, hR⟩ : ∃ R, askZ p j x = R := ⟨_, rfl⟩
  rw [hR]
  have HR : Hid (askZ p j x = R) := hR
  clear hR
  go_enter Try.func31, Try.ntmps31
  by_cases h0 : 0 ≤ x
  · by_cases h1 : x ≤ (j : Nat)
    · obtain ⟨k, rfl⟩ := Int.eq_ofNat_of_zero_le h0
      have hk : k < N := by omega
      obtain ⟨b, -, hg, hb, hgc, hbc, -, -⟩ := hr.get hk
      have hv := hbc j hj
      have hkn : (k : Int) < (N : Int) := by omega
      have hjn : (j : Int) < (N : Int) := by omega
      have hkj : (k : Int) ≤ (j : Int) := by omega
      obtain rfl : p k j = R := by rw [← HR.out]; unfold askZ; simp only [h0, h1, decide_true, Bool.true_and, Int.toNat_natCast]
      clear hbc hr HR
      generalize p k j = V at *
      go_wp2
      go_quiet (fail)
      go_wp2
      exact bodyPost_ret (v := .bool V) (by simp [results, Try.results31, go_sem]) rfl ⟨rfl, below_drewN (Below.refl _ _) _⟩
    · obtain rfl : false = R := by rw [← HR.out]; unfold askZ; simp only [h1, decide_false, Bool.false_and, Bool.and_false]
      have h2 : (j : Int) < x := by omega
      have d1 : decide (x ≤ (j : Int)) = false := by simp; omega
      clear HR hr h1
      go_wp2
      go_quiet (fail)
      go_wp2
      exact bodyPost_ret (v := .bool false) (by simp [results, Try.results31, go_sem]) rfl ⟨rfl, below_drewN (Below.refl _ _) _⟩
  · obtain rfl : false = R := by rw [← HR.out]; unfold askZ; simp only [h0, decide_false, Bool.false_and]
    have h2 : x < 0 := by omega
    have d1 : decide (0 ≤ x) = false := by simp; omega
    clear HR hr h0
    go_wp2
    go_quiet (fail)
    go_wp2
    exact bodyPost_ret (v := .bool false) (by simp [results, Try.results31, go_sem]) rfl ⟨rfl, below_drewN (Below.refl _ _) _⟩
set_option maxHeartbeats 2000000 in
theorem indexf_any (ao : Option Addr) (l c f : Nat) (p1 p2 : Value) (Q : Int → Bool) (z : Nat → Int) (w : World) (hr : RdI w ao l z) (hm : (l : Int) ≤ 9223372036854775807) (HQ : ∀ W x, Below w.heap.size w W → Calls Try.prog f #[.int .i64 x, p1, p2] W fun e w' => e = .returned (.bool (Q x)) ∧ Below W.heap.size W w') (hf : f = 31) :
    Calls Try.prog 50 #[.slice ao l c, .func (.func f) #[] #[p1, p2]] w fun e w' => ∃ r : Int, e = .returned (.int .i64 r) ∧ decide (0 ≤ r) = anyZ Q z l ∧ Below w.heap.size w w' := by
  subst hf
  go_enter Try.func50, Try.ntmps50
  go_wp2_with fail
  go_loopw [8] (fun u wr => ∃ k : Nat, k ≤ l ∧ u = .int .i64 k ∧ anyZ Q z k = false ∧ Below w.heap.size w wr) (fun u _ => l - (intOf u).toNat)
  case atStart => exact ⟨0, Nat.zero_le _, rfl, rfl, Below.refl _ _⟩
  case round =>
    obtain ⟨k, hk, rfl, hno, hbl⟩ := hrel
    by_cases hlt : k < l
    · obtain ⟨b, off, rfl, hb, hc⟩ := (hr.below hbl) (by omega)
      have t1 := hc k hlt
      have hki : (k : Int) < (l : Int) := by omega
      have HC := fun W h => HQ W (z k) h
      clear hc HQ
      cases hq : Q (z k) with
      | true =>
        have hyes : anyZ Q z l = true := (anyZ_iff Q z l).2 ⟨k, hlt, hq⟩
        rw [hq] at HC
        go_wp2_with (go_at_call 31; refine (HC _ hbl).mono ?_; rintro e w1 ⟨rfl, hb1⟩)
        go_ret
        exact ⟨k, rfl, by rw [hyes]; simp, hbl.trans (hb1.mono hbl.size)⟩
      | false =>
        have hno' : anyZ Q z (k + 1) = false := by simp [anyZ, hno, hq]
        rw [hq] at HC
        go_wp2_with (go_at_call 31; refine (HC _ hbl).mono ?_; rintro e w1 ⟨rfl, hb1⟩)
        go_roundw
        case rel => exact ⟨k + 1, by omega, by go_num, hno', hbl.trans (hb1.mono hbl.size)⟩
        case measure => simp [intOf]; omega
    · obtain rfl : k = l := by omega
      go_wp2
      go_ret
      exact ⟨-1, rfl, by rw [hno]; rfl, hbl⟩
set_option maxHeartbeats 2000000 in
theorem containsf_any (ao : Option Addr) (l c f : Nat) (p1 p2 : Value) (Q : Int → Bool) (z : Nat → Int) (w : World) (hr : RdI w ao l z) (hm : (l : Int) ≤ 9223372036854775807) (HQ : ∀ W x, Below w.heap.size w W → Calls Try.prog f #[.int .i64 x, p1, p2] W fun e w' => e = .returned (.bool (Q x)) ∧ Below W.heap.size W w') (hf : f = 31) :
    Calls Try.prog 30 #[.slice ao l c, .func (.func f) #[] #[p1, p2]] w fun e w' => e = .returned (.bool (anyZ Q z l)) ∧ Below w.heap.size w w' := by
  subst hf
  have HI := indexf_any ao l c 31 p1 p2 Q z w hr hm HQ rfl
  clear HQ
  generalize anyZ Q z l = R at *
  go_enter Try.func30, Try.ntmps30
  go_wp2_with (go_at_call 50; refine HI.mono ?_; rintro e w1 ⟨r, rfl, hr, hb1⟩)
  go_ret
  exact ⟨rfl, hb1⟩
end Go.Proofs.Ytobgmgpclcfkcaa
