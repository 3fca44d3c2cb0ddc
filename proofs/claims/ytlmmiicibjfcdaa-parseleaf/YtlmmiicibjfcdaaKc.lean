/- token: number: the walk. -/
import Derived.Test.YtlmmiicibjfcdaaKb
namespace Go.Proofs.Ytlmmiicibjfcdaa
open Go.RowKit
/-- The number at a place, as far as it is read, and the place behind it. -/
def numG (z : Nat → Nat) (n : Nat) : Nat → Nat → Nat → Nat × Nat
  | 0, k, v => (v, k)
  | f + 1, k, v => if (decide (k < n) && digP (z k) && decide (v ≤ 1000)) = true then numG z n f (k + 1) (v * 10 + (z k - 48)) else (v, k)
def numR (z : Nat → Nat) (n k : Nat) : Nat × Nat := numG z n (n - k) k 0
/-- Whether it is a number that a count may have. -/
def numOk (z : Nat → Nat) (n k : Nat) : Bool := decide (k < (numR z n k).2) && decide ((numR z n k).1 ≤ 1000) && !(decide (k + 1 < (numR z n k).2) && (z k == 48))
theorem numG_go {z : Nat → Nat} {n k v : Nat} (hk : k < n) (hd : digP (z k) = true) (hv : v ≤ 1000) : numG z n (n - k) k v = numG z n (n - (k + 1)) (k + 1) (v * 10 + (z k - 48)) := by
  obtain ⟨f, hf⟩ : ∃ f, n - k = f + 1 := ⟨n - k - 1, by omega⟩
  rw [hf, numG, if_pos (by simp [hk, hd, hv]), show n - (k + 1) = f by omega]
theorem numG_end {z : Nat → Nat} {n k v : Nat} (h : (decide (k < n) && digP (z k) && decide (v ≤ 1000)) = false) : numG z n (n - k) k v = (v, k) := by
  cases hf : n - k with
  | zero => rfl
  | succ f => rw [numG, if_neg (by rw [h]; decide)]
theorem u8_sub48 (q : Nat) (h : 48 ≤ q) (hq : q < 256) : ((q : Int) - 48) = ((q - 48 : Nat) : Int) := by omega
set_option maxHeartbeats 1000000 in
theorem knumber_any (ao : Option Addr) (n cap fr : Nat) (z : Nat → Nat) (w : World) (hr : Rd w ao n z) (hn : (n : Int) ≤ 1024) (hf : fr ≤ n) : Calls Try.prog 122 #[.slice ao n cap, .int .i64 (fr : Nat)] w fun e w' => e = .returned (.tuple #[.int .i64 ((numR z n fr).1 : Nat), .int .i64 ((numR z n fr).2 : Nat), .bool (numOk z n fr)]) ∧ w' = w := by
  go_enter Try.func122, Try.ntmps122
  go_wp2_with fail
  go_loopw [7, 8] (fun c i wr => ∃ k v : Nat, fr ≤ k ∧ k ≤ n ∧ i = .int .i64 k ∧ c = .int .i64 v ∧ v ≤ 10009 ∧ numG z n (n - k) k v = numR z n fr ∧ wr = w) (fun _ i _ => n - (intOf i).toNat)
  case atStart => exact ⟨fr, 0, Nat.le_refl _, hf, rfl, rfl, by omega, rfl, rfl⟩
  case round =>
    obtain ⟨k, v, h1, h2, rfl, rfl, hv, hg, rfl⟩ := hrel
    have k0 : (0 : Int) ≤ (k : Int) := by omega
    by_cases hlt : k < n
    · have hki : (k : Int) < (n : Int) := by omega
      obtain ⟨bb, off, rfl, hbb, hc⟩ := hr.at_ (by omega)
      have t := hc k hlt
      have hsm := hr.small k hlt
      have hd := fun W => isDigit_any (z k) W
      clear hc
      cases hq : digP (z k) with
      | true =>
        rw [hq] at hd
        by_cases hv1 : v ≤ 1000
        · have hstep := numG_go hlt hq hv1
          rw [hg] at hstep
          have h48 : 48 ≤ z k ∧ z k ≤ 57 := by unfold digP at hq; simp at hq; omega
          have HS : Hid (numG z n (n - (k + 1)) (k + 1) (v * 10 + (z k - 48)) = numR z n fr) := hstep.symm
          have hvi : (v : Int) ≤ 1000 := by omega
          generalize z k = q at *
          have hq1 : (48 : Int) ≤ (q : Int) := by omega
          have hq2 : (q : Int) ≤ 57 := by omega
          have hcv : ∀ W, (convert 5 3 (.int .u8 ((q : Int) - 48))).run Try.prog W = .ok (.int .i64 ((q : Int) - 48)) W := fun W => by
            have hk : Try.prog.intKind 3 = .i64 := by kernel_rfl
            rw [run_convert_int W 5 3 .u8 _ (by rw [Try.underlying5]; rfl) (by rw [hk]; exact Try.underlying3), hk, show IntKind.i64.wrap ((q : Int) - 48) = (q : Int) - 48 by rw [IntKind.wrap_i64]; omega]
          clear hq hstep hg
          go_wp2_with (go_at_call 98; refine (hd _).mono ?_; rintro e w' ⟨rfl, rfl⟩)
          go_roundw
          case rel => exact ⟨k + 1, v * 10 + (q - 48), by omega, by omega, by go_num, by congr 1; omega, by omega, HS.out, (by first | trivial | rfl)⟩
          case measure => simp [intOf]; omega
        · have hend : (decide (k < n) && digP (z k) && decide (v ≤ 1000)) = false := by rw [decide_eq_false hv1]; simp
          have hR : numR z n fr = (v, k) := by rw [← hg, numG_end hend]
          have HK : Hid (∀ x : Bool, numOk z n fr = x → (Ending.returned (Value.tuple #[.int .i64 (v : Nat), .int .i64 (k : Nat), .bool x]) = .returned (.tuple #[.int .i64 ((numR z n fr).1 : Nat), .int .i64 ((numR z n fr).2 : Nat), .bool (numOk z n fr)]))) := fun x hx => by rw [hx, hR]
          have HO : Hid (numOk z n fr = (decide (fr < k) && decide (v ≤ 1000) && !(decide (fr + 1 < k) && (z fr == 48)))) := by
            show numOk z n fr = _
            unfold numOk; rw [hR]
          clear hR hg hend
          by_cases g1 : fr + 1 < k
          · obtain ⟨b0, o0, e0, _, c0⟩ := hr.at_ (by omega)
            first | (injection e0 with e0; injection e0 with e1 e2; subst e1 e2) | subst e0
            have t0 := c0 fr (by omega)
            have j1 : (fr : Int) + 1 < (k : Int) := by omega
            have j2 : (fr : Int) < (k : Int) := by omega
            have j3 : (fr : Int) < (n : Int) := by omega
            have d1 : decide (fr < k) = true := by simp; omega
            have d2 : decide (fr + 1 < k) = true := by simp; omega
            clear c0
            by_cases g2 : v ≤ 1000
            · exact absurd g2 hv1
            · have j4 : ¬ (v : Int) ≤ 1000 := by omega
              have HX : Hid (numOk z n fr = false) := by show numOk z n fr = false; rw [HO.out, decide_eq_false g2]; simp
              clear HO d1 d2
              go_wp2_with (go_at_call 98; refine (hd _).mono ?_; rintro e w' ⟨rfl, rfl⟩)
              exact bodyPost_ret (v := .tuple #[.int .i64 (v : Nat), .int .i64 (k : Nat), .bool false]) (by simp [results, Try.results122, go_sem]) rfl ⟨HK.out _ HX.out, rfl⟩
          · have j1 : ¬ (fr : Int) + 1 < (k : Int) := by omega
            have d2 : decide (fr + 1 < k) = false := by simp; omega
            by_cases g2 : fr < k
            · have j2 : (fr : Int) < (k : Int) := by omega
              have d1 : decide (fr < k) = true := by simp; omega
              by_cases g3 : v ≤ 1000
              · exact absurd g3 hv1
              · have j4 : ¬ (v : Int) ≤ 1000 := by omega
                have HX : Hid (numOk z n fr = false) := by show numOk z n fr = false; rw [HO.out, decide_eq_false g3]; simp
                clear HO d1 d2
                go_wp2_with (go_at_call 98; refine (hd _).mono ?_; rintro e w' ⟨rfl, rfl⟩)
                exact bodyPost_ret (v := .tuple #[.int .i64 (v : Nat), .int .i64 (k : Nat), .bool false]) (by simp [results, Try.results122, go_sem]) rfl ⟨HK.out _ HX.out, rfl⟩
            · have j2 : ¬ (fr : Int) < (k : Int) := by omega
              have HX : Hid (numOk z n fr = false) := by show numOk z n fr = false; rw [HO.out, decide_eq_false g2]; simp
              clear HO d2
              go_wp2_with (go_at_call 98; refine (hd _).mono ?_; rintro e w' ⟨rfl, rfl⟩)
              exact bodyPost_ret (v := .tuple #[.int .i64 (v : Nat), .int .i64 (k : Nat), .bool false]) (by simp [results, Try.results122, go_sem]) rfl ⟨HK.out _ HX.out, rfl⟩
      | false =>
        rw [hq] at hd
        have hend : (decide (k < n) && digP (z k) && decide (v ≤ 1000)) = false := by rw [hq]; simp
        have hR : numR z n fr = (v, k) := by rw [← hg, numG_end hend]
        have HK : Hid (∀ x : Bool, numOk z n fr = x → (Ending.returned (Value.tuple #[.int .i64 (v : Nat), .int .i64 (k : Nat), .bool x]) = .returned (.tuple #[.int .i64 ((numR z n fr).1 : Nat), .int .i64 ((numR z n fr).2 : Nat), .bool (numOk z n fr)]))) := fun x hx => by rw [hx, hR]
        have HO : Hid (numOk z n fr = (decide (fr < k) && decide (v ≤ 1000) && !(decide (fr + 1 < k) && (z fr == 48)))) := by
          show numOk z n fr = _
          unfold numOk; rw [hR]
        clear hR hg hend
        by_cases g1 : fr + 1 < k
        · obtain ⟨b0, o0, e0, _, c0⟩ := hr.at_ (by omega)
          first | (injection e0 with e0; injection e0 with e1 e2; subst e1 e2) | subst e0
          have t0 := c0 fr (by omega)
          have j1 : (fr : Int) + 1 < (k : Int) := by omega
          have j2 : (fr : Int) < (k : Int) := by omega
          have j3 : (fr : Int) < (n : Int) := by omega
          have d1 : decide (fr < k) = true := by simp; omega
          have d2 : decide (fr + 1 < k) = true := by simp; omega
          clear c0
          by_cases g2 : v ≤ 1000
          · have j4 : (v : Int) ≤ 1000 := by omega
            cases g3 : (z fr == 48) with
            | true =>
              have j5 : (((z fr : Nat) : Int) == 48) = true := by simp at g3 ⊢; omega
              have HX : Hid (numOk z n fr = false) := by show numOk z n fr = false; rw [HO.out, d2, g3]; simp
              clear HO g3 d1 d2
              go_wp2_with (go_at_call 98; refine (hd _).mono ?_; rintro e w' ⟨rfl, rfl⟩)
              exact bodyPost_ret (v := .tuple #[.int .i64 (v : Nat), .int .i64 (k : Nat), .bool false]) (by simp [results, Try.results122, go_sem]) rfl ⟨HK.out _ HX.out, rfl⟩
            | false =>
              have j5 : (((z fr : Nat) : Int) == 48) = false := by simp at g3 ⊢; omega
              have HX : Hid (numOk z n fr = true) := by show numOk z n fr = true; rw [HO.out, d1, d2, g3, decide_eq_true g2]; rfl
              clear HO g3 d1 d2
              go_wp2_with (go_at_call 98; refine (hd _).mono ?_; rintro e w' ⟨rfl, rfl⟩)
              exact bodyPost_ret (v := .tuple #[.int .i64 (v : Nat), .int .i64 (k : Nat), .bool true]) (by simp [results, Try.results122, go_sem]) rfl ⟨HK.out _ HX.out, rfl⟩
          · have j4 : ¬ (v : Int) ≤ 1000 := by omega
            have HX : Hid (numOk z n fr = false) := by show numOk z n fr = false; rw [HO.out, decide_eq_false g2]; simp
            clear HO d1 d2
            go_wp2_with (go_at_call 98; refine (hd _).mono ?_; rintro e w' ⟨rfl, rfl⟩)
            exact bodyPost_ret (v := .tuple #[.int .i64 (v : Nat), .int .i64 (k : Nat), .bool false]) (by simp [results, Try.results122, go_sem]) rfl ⟨HK.out _ HX.out, rfl⟩
        · have j1 : ¬ (fr : Int) + 1 < (k : Int) := by omega
          have d2 : decide (fr + 1 < k) = false := by simp; omega
          by_cases g2 : fr < k
          · have j2 : (fr : Int) < (k : Int) := by omega
            have d1 : decide (fr < k) = true := by simp; omega
            by_cases g3 : v ≤ 1000
            · have j4 : (v : Int) ≤ 1000 := by omega
              have HX : Hid (numOk z n fr = true) := by show numOk z n fr = true; rw [HO.out, d1, d2, decide_eq_true g3]; rfl
              clear HO d1 d2
              go_wp2_with (go_at_call 98; refine (hd _).mono ?_; rintro e w' ⟨rfl, rfl⟩)
              exact bodyPost_ret (v := .tuple #[.int .i64 (v : Nat), .int .i64 (k : Nat), .bool true]) (by simp [results, Try.results122, go_sem]) rfl ⟨HK.out _ HX.out, rfl⟩
            · have j4 : ¬ (v : Int) ≤ 1000 := by omega
              have HX : Hid (numOk z n fr = false) := by show numOk z n fr = false; rw [HO.out, decide_eq_false g3]; simp
              clear HO d1 d2
              go_wp2_with (go_at_call 98; refine (hd _).mono ?_; rintro e w' ⟨rfl, rfl⟩)
              exact bodyPost_ret (v := .tuple #[.int .i64 (v : Nat), .int .i64 (k : Nat), .bool false]) (by simp [results, Try.results122, go_sem]) rfl ⟨HK.out _ HX.out, rfl⟩
          · have j2 : ¬ (fr : Int) < (k : Int) := by omega
            have HX : Hid (numOk z n fr = false) := by show numOk z n fr = false; rw [HO.out, decide_eq_false g2]; simp
            clear HO d2
            go_wp2_with (go_at_call 98; refine (hd _).mono ?_; rintro e w' ⟨rfl, rfl⟩)
            exact bodyPost_ret (v := .tuple #[.int .i64 (v : Nat), .int .i64 (k : Nat), .bool false]) (by simp [results, Try.results122, go_sem]) rfl ⟨HK.out _ HX.out, rfl⟩
    · have hki : ¬ (k : Int) < (n : Int) := by omega
      have hend : (decide (k < n) && digP (z k) && decide (v ≤ 1000)) = false := by rw [decide_eq_false hlt]; simp
      have hR : numR z n fr = (v, k) := by rw [← hg, numG_end hend]
      have HK : Hid (∀ x : Bool, numOk z n fr = x → (Ending.returned (Value.tuple #[.int .i64 (v : Nat), .int .i64 (k : Nat), .bool x]) = .returned (.tuple #[.int .i64 ((numR z n fr).1 : Nat), .int .i64 ((numR z n fr).2 : Nat), .bool (numOk z n fr)]))) := fun x hx => by rw [hx, hR]
      have HO : Hid (numOk z n fr = (decide (fr < k) && decide (v ≤ 1000) && !(decide (fr + 1 < k) && (z fr == 48)))) := by
        show numOk z n fr = _
        unfold numOk; rw [hR]
      clear hR hg hend
      by_cases g1 : fr + 1 < k
      · obtain ⟨b0, o0, e0, _, c0⟩ := hr.at_ (by omega)
        first | (injection e0 with e0; injection e0 with e1 e2; subst e1 e2) | subst e0
        have t0 := c0 fr (by omega)
        have j1 : (fr : Int) + 1 < (k : Int) := by omega
        have j2 : (fr : Int) < (k : Int) := by omega
        have j3 : (fr : Int) < (n : Int) := by omega
        have d1 : decide (fr < k) = true := by simp; omega
        have d2 : decide (fr + 1 < k) = true := by simp; omega
        clear c0
        by_cases g2 : v ≤ 1000
        · have j4 : (v : Int) ≤ 1000 := by omega
          cases g3 : (z fr == 48) with
          | true =>
            have j5 : (((z fr : Nat) : Int) == 48) = true := by simp at g3 ⊢; omega
            have HX : Hid (numOk z n fr = false) := by show numOk z n fr = false; rw [HO.out, d2, g3]; simp
            clear HO g3 d1 d2
            go_wp2
            exact bodyPost_ret (v := .tuple #[.int .i64 (v : Nat), .int .i64 (k : Nat), .bool false]) (by simp [results, Try.results122, go_sem]) rfl ⟨HK.out _ HX.out, rfl⟩
          | false =>
            have j5 : (((z fr : Nat) : Int) == 48) = false := by simp at g3 ⊢; omega
            have HX : Hid (numOk z n fr = true) := by show numOk z n fr = true; rw [HO.out, d1, d2, g3, decide_eq_true g2]; rfl
            clear HO g3 d1 d2
            go_wp2
            exact bodyPost_ret (v := .tuple #[.int .i64 (v : Nat), .int .i64 (k : Nat), .bool true]) (by simp [results, Try.results122, go_sem]) rfl ⟨HK.out _ HX.out, rfl⟩
        · have j4 : ¬ (v : Int) ≤ 1000 := by omega
          have HX : Hid (numOk z n fr = false) := by show numOk z n fr = false; rw [HO.out, decide_eq_false g2]; simp
          clear HO d1 d2
          go_wp2
          exact bodyPost_ret (v := .tuple #[.int .i64 (v : Nat), .int .i64 (k : Nat), .bool false]) (by simp [results, Try.results122, go_sem]) rfl ⟨HK.out _ HX.out, rfl⟩
      · have j1 : ¬ (fr : Int) + 1 < (k : Int) := by omega
        have d2 : decide (fr + 1 < k) = false := by simp; omega
        by_cases g2 : fr < k
        · have j2 : (fr : Int) < (k : Int) := by omega
          have d1 : decide (fr < k) = true := by simp; omega
          by_cases g3 : v ≤ 1000
          · have j4 : (v : Int) ≤ 1000 := by omega
            have HX : Hid (numOk z n fr = true) := by show numOk z n fr = true; rw [HO.out, d1, d2, decide_eq_true g3]; rfl
            clear HO d1 d2
            go_wp2
            exact bodyPost_ret (v := .tuple #[.int .i64 (v : Nat), .int .i64 (k : Nat), .bool true]) (by simp [results, Try.results122, go_sem]) rfl ⟨HK.out _ HX.out, rfl⟩
          · have j4 : ¬ (v : Int) ≤ 1000 := by omega
            have HX : Hid (numOk z n fr = false) := by show numOk z n fr = false; rw [HO.out, decide_eq_false g3]; simp
            clear HO d1 d2
            go_wp2
            exact bodyPost_ret (v := .tuple #[.int .i64 (v : Nat), .int .i64 (k : Nat), .bool false]) (by simp [results, Try.results122, go_sem]) rfl ⟨HK.out _ HX.out, rfl⟩
        · have j2 : ¬ (fr : Int) < (k : Int) := by omega
          have HX : Hid (numOk z n fr = false) := by show numOk z n fr = false; rw [HO.out, decide_eq_false g2]; simp
          clear HO d2
          go_wp2
          exact bodyPost_ret (v := .tuple #[.int .i64 (v : Nat), .int .i64 (k : Nat), .bool false]) (by simp [results, Try.results122, go_sem]) rfl ⟨HK.out _ HX.out, rfl⟩
end Go.Proofs.Ytlmmiicibjfcdaa
