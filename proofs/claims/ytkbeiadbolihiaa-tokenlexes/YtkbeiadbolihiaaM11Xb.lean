/- The reference of token: number: the walk. -/
import Derived.Test.YtkbeiadbolihiaaM10Xa
namespace Go.Proofs.Ytkbeiadbolihiaa
open Go.RowKit
/-- The number and the place behind it, or 0 and 0. -/
def nmA (z : Nat → Nat) (n fr : Nat) : Nat := if numOk z n fr = true then (numR z n fr).1 else 0
def nmB (z : Nat → Nat) (n fr : Nat) : Nat := if numOk z n fr = true then (numR z n fr).2 else 0
set_option maxHeartbeats 1000000 in
theorem rnumber_any (ao : Option Addr) (n cap fr : Nat) (z : Nat → Nat) (w : World) (hr : Rd w ao n z) (hn : (n : Int) ≤ 1024) (hf : fr ≤ n) : Calls Try.prog 65 #[.slice ao n cap, .int .i64 (fr : Nat)] w fun e w' => e = .returned (.tuple #[.int .i64 (nmA z n fr : Nat), .int .i64 (nmB z n fr : Nat)]) ∧ w' = w := by
  go_enter Try.func65, Try.ntmps65
  go_wp2_with fail
  go_loopw [6, 7] (fun c i wr => ∃ k v : Nat, fr ≤ k ∧ k ≤ n ∧ i = .int .i64 k ∧ c = .int .i64 v ∧ v ≤ 10009 ∧ numG z n (n - k) k v = numR z n fr ∧ wr = w) (fun _ i _ => n - (intOf i).toNat)
  case atStart => exact ⟨fr, 0, Nat.le_refl _, hf, rfl, rfl, by omega, rfl, rfl⟩
  case round =>
    obtain ⟨k, v, h1, h2, rfl, rfl, hv, hg, rfl⟩ := hrel
    have k0 : (0 : Int) ≤ (k : Int) := by omega
    by_cases hlt : k < n
    · have hki : (k : Int) < (n : Int) := by omega
      obtain ⟨bb, off, rfl, hbb, hc⟩ := hr.at_ (by omega)
      have t := hc k hlt
      have hsm := hr.small k hlt
      have hd := fun W => rdigit_b (z k) W
      clear hc
      cases hq : digP (z k) with
      | true =>
        rw [hq] at hd
        by_cases hv1 : v ≤ 1000
        · have hstep := numG_go hlt hq hv1
          rw [hg] at hstep
          have h48 : 48 ≤ z k ∧ z k ≤ 57 := by unfold digP at hq; simp at hq; omega
          have HS : Hid (numG z n (n - (k + 1)) (k + 1) (v * 10 + (z k - 48)) = numR z n fr) := hstep.symm
          have hvi : (v : Int) ≤ 1000 := by omega
          generalize z k = q at *
          have hq1 : (48 : Int) ≤ (q : Int) := by omega
          have hq2 : (q : Int) ≤ 57 := by omega
          have hcv := conv53 ((q : Int) - 48) (by omega)
          clear hq hstep hg
          go_wp2_with (go_at_call 44; refine (hd _).mono ?_; rintro e w' ⟨rfl, rfl⟩)
          go_roundw
          case rel => exact ⟨k + 1, v * 10 + (q - 48), by omega, by omega, by go_num, by congr 1; omega, by omega, HS.out, (by first | trivial | rfl)⟩
          case measure => simp [intOf]; omega
        · have hend : (decide (k < n) && digP (z k) && decide (v ≤ 1000)) = false := by rw [decide_eq_false hv1]; simp
          have hvi : ¬ (v : Int) ≤ 1000 := by omega
          have hR : numR z n fr = (v, k) := by rw [← hg, numG_end hend]
          have HV : Hid (∀ x : Bool, numOk z n fr = x → ∀ a b : Nat, (x = true → a = v ∧ b = k) → (x = false → a = 0 ∧ b = 0) → (Ending.returned (Value.tuple #[.int .i64 (a : Nat), .int .i64 (b : Nat)]) = .returned (.tuple #[.int .i64 (nmA z n fr : Nat), .int .i64 (nmB z n fr : Nat)]))) := fun x hx a b h1 h2 => by
            unfold nmA nmB
            rw [hx, hR]
            cases x with
            | true => obtain ⟨rfl, rfl⟩ := h1 rfl; rfl
            | false => obtain ⟨rfl, rfl⟩ := h2 rfl; rfl
          have HO : Hid (numOk z n fr = (decide (fr < k) && decide (v ≤ 1000) && !(decide (fr + 1 < k) && (z fr == 48)))) := by
            show numOk z n fr = _
            unfold numOk; rw [hR]
          clear hR hg hend
          by_cases g1 : k = fr
          · have j1 : ((k : Int) == (fr : Int)) = true := by simp; omega
            have HX : Hid (numOk z n fr = false) := by show numOk z n fr = false; rw [HO.out, decide_eq_false (show ¬ fr < k by omega)]; rfl
            clear HO g1
            go_wp2_with (go_at_call 44; refine (hd _).mono ?_; rintro e w' ⟨rfl, rfl⟩)
            exact bodyPost_ret (v := .tuple #[.int .i64 0, .int .i64 0]) (by simp [results, Try.results65, go_sem]) rfl ⟨HV.out _ HX.out 0 0 (fun h => by cases h) (fun _ => ⟨rfl, rfl⟩), rfl⟩
          · have j1 : ((k : Int) == (fr : Int)) = false := by rw [beq_eq_false_iff_ne]; omega
            have j2 : (v : Int) > 1000 := by omega
            have g2 := hv1
            have HX : Hid (numOk z n fr = false) := by show numOk z n fr = false; rw [HO.out, decide_eq_false g2]; simp
            clear HO g1
            go_wp2_with (go_at_call 44; refine (hd _).mono ?_; rintro e w' ⟨rfl, rfl⟩)
            exact bodyPost_ret (v := .tuple #[.int .i64 0, .int .i64 0]) (by simp [results, Try.results65, go_sem]) rfl ⟨HV.out _ HX.out 0 0 (fun h => by cases h) (fun _ => ⟨rfl, rfl⟩), rfl⟩
      | false =>
        rw [hq] at hd
        have hend : (decide (k < n) && digP (z k) && decide (v ≤ 1000)) = false := by rw [hq]; simp
        have hR : numR z n fr = (v, k) := by rw [← hg, numG_end hend]
        have HV : Hid (∀ x : Bool, numOk z n fr = x → ∀ a b : Nat, (x = true → a = v ∧ b = k) → (x = false → a = 0 ∧ b = 0) → (Ending.returned (Value.tuple #[.int .i64 (a : Nat), .int .i64 (b : Nat)]) = .returned (.tuple #[.int .i64 (nmA z n fr : Nat), .int .i64 (nmB z n fr : Nat)]))) := fun x hx a b h1 h2 => by
          unfold nmA nmB
          rw [hx, hR]
          cases x with
          | true => obtain ⟨rfl, rfl⟩ := h1 rfl; rfl
          | false => obtain ⟨rfl, rfl⟩ := h2 rfl; rfl
        have HO : Hid (numOk z n fr = (decide (fr < k) && decide (v ≤ 1000) && !(decide (fr + 1 < k) && (z fr == 48)))) := by
          show numOk z n fr = _
          unfold numOk; rw [hR]
        clear hR hg hend
        by_cases g1 : k = fr
        · have j1 : ((k : Int) == (fr : Int)) = true := by simp; omega
          have HX : Hid (numOk z n fr = false) := by show numOk z n fr = false; rw [HO.out, decide_eq_false (show ¬ fr < k by omega)]; rfl
          clear HO g1
          go_wp2_with (go_at_call 44; refine (hd _).mono ?_; rintro e w' ⟨rfl, rfl⟩)
          exact bodyPost_ret (v := .tuple #[.int .i64 0, .int .i64 0]) (by simp [results, Try.results65, go_sem]) rfl ⟨HV.out _ HX.out 0 0 (fun h => by cases h) (fun _ => ⟨rfl, rfl⟩), rfl⟩
        · have j1 : ((k : Int) == (fr : Int)) = false := by rw [beq_eq_false_iff_ne]; omega
          by_cases g2 : v ≤ 1000
          · have j2 : ¬ (v : Int) > 1000 := by omega
            obtain ⟨b0, o0, e0, _, c0⟩ := hr.at_ (by omega)
            first | (injection e0 with e0; injection e0 with e1 e2; subst e1 e2) | subst e0
            have t0 := c0 fr (by omega)
            have j3 : (fr : Int) < (n : Int) := by omega
            clear c0
            cases g3 : (z fr == 48) with
            | true =>
              have j5 : (((z fr : Nat) : Int) == 48) = true := by simp at g3 ⊢; omega
              by_cases g4 : fr + 1 < k
              · have j6 : (k : Int) > (fr : Int) + 1 := by omega
                have HX : Hid (numOk z n fr = false) := by show numOk z n fr = false; rw [HO.out, g3, decide_eq_true g4]; simp
                clear HO g3 g1
                go_wp2_with (go_at_call 44; refine (hd _).mono ?_; rintro e w' ⟨rfl, rfl⟩)
                exact bodyPost_ret (v := .tuple #[.int .i64 0, .int .i64 0]) (by simp [results, Try.results65, go_sem]) rfl ⟨HV.out _ HX.out 0 0 (fun h => by cases h) (fun _ => ⟨rfl, rfl⟩), rfl⟩
              · have j6 : ¬ (k : Int) > (fr : Int) + 1 := by omega
                have HX : Hid (numOk z n fr = true) := by show numOk z n fr = true; rw [HO.out, decide_eq_true (show fr < k by omega), decide_eq_true g2, decide_eq_false g4]; rfl
                clear HO g3 g1
                go_wp2_with (go_at_call 44; refine (hd _).mono ?_; rintro e w' ⟨rfl, rfl⟩)
                exact bodyPost_ret (v := .tuple #[.int .i64 (v : Nat), .int .i64 (k : Nat)]) (by simp [results, Try.results65, go_sem]) rfl ⟨HV.out _ HX.out v k (fun _ => ⟨rfl, rfl⟩) (fun h => by cases h), rfl⟩
            | false =>
              have j5 : (((z fr : Nat) : Int) == 48) = false := by simp at g3 ⊢; omega
              have HX : Hid (numOk z n fr = true) := by show numOk z n fr = true; rw [HO.out, decide_eq_true (show fr < k by omega), decide_eq_true g2, g3]; simp
              clear HO g3 g1
              go_wp2_with (go_at_call 44; refine (hd _).mono ?_; rintro e w' ⟨rfl, rfl⟩)
              exact bodyPost_ret (v := .tuple #[.int .i64 (v : Nat), .int .i64 (k : Nat)]) (by simp [results, Try.results65, go_sem]) rfl ⟨HV.out _ HX.out v k (fun _ => ⟨rfl, rfl⟩) (fun h => by cases h), rfl⟩
          · have j2 : (v : Int) > 1000 := by omega
            have HX : Hid (numOk z n fr = false) := by show numOk z n fr = false; rw [HO.out, decide_eq_false g2]; simp
            clear HO g1
            go_wp2_with (go_at_call 44; refine (hd _).mono ?_; rintro e w' ⟨rfl, rfl⟩)
            exact bodyPost_ret (v := .tuple #[.int .i64 0, .int .i64 0]) (by simp [results, Try.results65, go_sem]) rfl ⟨HV.out _ HX.out 0 0 (fun h => by cases h) (fun _ => ⟨rfl, rfl⟩), rfl⟩
    · have hki : ¬ (k : Int) < (n : Int) := by omega
      have hend : (decide (k < n) && digP (z k) && decide (v ≤ 1000)) = false := by rw [decide_eq_false hlt]; simp
      have hR : numR z n fr = (v, k) := by rw [← hg, numG_end hend]
      have HV : Hid (∀ x : Bool, numOk z n fr = x → ∀ a b : Nat, (x = true → a = v ∧ b = k) → (x = false → a = 0 ∧ b = 0) → (Ending.returned (Value.tuple #[.int .i64 (a : Nat), .int .i64 (b : Nat)]) = .returned (.tuple #[.int .i64 (nmA z n fr : Nat), .int .i64 (nmB z n fr : Nat)]))) := fun x hx a b h1 h2 => by
        unfold nmA nmB
        rw [hx, hR]
        cases x with
        | true => obtain ⟨rfl, rfl⟩ := h1 rfl; rfl
        | false => obtain ⟨rfl, rfl⟩ := h2 rfl; rfl
      have HO : Hid (numOk z n fr = (decide (fr < k) && decide (v ≤ 1000) && !(decide (fr + 1 < k) && (z fr == 48)))) := by
        show numOk z n fr = _
        unfold numOk; rw [hR]
      clear hR hg hend
      by_cases g1 : k = fr
      · have j1 : ((k : Int) == (fr : Int)) = true := by simp; omega
        have HX : Hid (numOk z n fr = false) := by show numOk z n fr = false; rw [HO.out, decide_eq_false (show ¬ fr < k by omega)]; rfl
        clear HO g1
        go_wp2
        exact bodyPost_ret (v := .tuple #[.int .i64 0, .int .i64 0]) (by simp [results, Try.results65, go_sem]) rfl ⟨HV.out _ HX.out 0 0 (fun h => by cases h) (fun _ => ⟨rfl, rfl⟩), rfl⟩
      · have j1 : ((k : Int) == (fr : Int)) = false := by rw [beq_eq_false_iff_ne]; omega
        by_cases g2 : v ≤ 1000
        · have j2 : ¬ (v : Int) > 1000 := by omega
          obtain ⟨b0, o0, e0, _, c0⟩ := hr.at_ (by omega)
          first | (injection e0 with e0; injection e0 with e1 e2; subst e1 e2) | subst e0
          have t0 := c0 fr (by omega)
          have j3 : (fr : Int) < (n : Int) := by omega
          clear c0
          cases g3 : (z fr == 48) with
          | true =>
            have j5 : (((z fr : Nat) : Int) == 48) = true := by simp at g3 ⊢; omega
            by_cases g4 : fr + 1 < k
            · have j6 : (k : Int) > (fr : Int) + 1 := by omega
              have HX : Hid (numOk z n fr = false) := by show numOk z n fr = false; rw [HO.out, g3, decide_eq_true g4]; simp
              clear HO g3 g1
              go_wp2
              exact bodyPost_ret (v := .tuple #[.int .i64 0, .int .i64 0]) (by simp [results, Try.results65, go_sem]) rfl ⟨HV.out _ HX.out 0 0 (fun h => by cases h) (fun _ => ⟨rfl, rfl⟩), rfl⟩
            · have j6 : ¬ (k : Int) > (fr : Int) + 1 := by omega
              have HX : Hid (numOk z n fr = true) := by show numOk z n fr = true; rw [HO.out, decide_eq_true (show fr < k by omega), decide_eq_true g2, decide_eq_false g4]; rfl
              clear HO g3 g1
              go_wp2
              exact bodyPost_ret (v := .tuple #[.int .i64 (v : Nat), .int .i64 (k : Nat)]) (by simp [results, Try.results65, go_sem]) rfl ⟨HV.out _ HX.out v k (fun _ => ⟨rfl, rfl⟩) (fun h => by cases h), rfl⟩
          | false =>
            have j5 : (((z fr : Nat) : Int) == 48) = false := by simp at g3 ⊢; omega
            have HX : Hid (numOk z n fr = true) := by show numOk z n fr = true; rw [HO.out, decide_eq_true (show fr < k by omega), decide_eq_true g2, g3]; simp
            clear HO g3 g1
            go_wp2
            exact bodyPost_ret (v := .tuple #[.int .i64 (v : Nat), .int .i64 (k : Nat)]) (by simp [results, Try.results65, go_sem]) rfl ⟨HV.out _ HX.out v k (fun _ => ⟨rfl, rfl⟩) (fun h => by cases h), rfl⟩
        · have j2 : (v : Int) > 1000 := by omega
          have HX : Hid (numOk z n fr = false) := by show numOk z n fr = false; rw [HO.out, decide_eq_false g2]; simp
          clear HO g1
          go_wp2
          exact bodyPost_ret (v := .tuple #[.int .i64 0, .int .i64 0]) (by simp [results, Try.results65, go_sem]) rfl ⟨HV.out _ HX.out 0 0 (fun h => by cases h) (fun _ => ⟨rfl, rfl⟩), rfl⟩
end Go.Proofs.Ytkbeiadbolihiaa
