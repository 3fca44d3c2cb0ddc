/- The reference of token: digit, letter, hex, aByte, aClass: the walks. The reference of token: number: the walk. -/
import Derived.Test.YtlmmiicibjfcdaaQ10
namespace Go.Proofs.Ytlmmiicibjfcdaa.X
open Go.RowKit
set_option maxHeartbeats 400000 in
theorem rdigit_b (b : Nat) (w : World) : Calls Try.prog 109 #[.int .u8 (b : Nat)] w fun e w' => e = .returned (.bool (digP b)) ∧ w' = w := by
  by_cases h1 : 48 ≤ b
  · have g1 : (48 : Int) ≤ (b : Int) := by omega
    have e : decide ((b : Int) ≤ 57) = digP b := by unfold digP; rw [decide_eq_true h1, Bool.true_and, decide_eq_decide]; omega
    go_enter Try.func109, Try.ntmps109
    go_wp2
    go_ret
    exact ⟨rfl, rfl⟩
  · have g1 : ¬ (48 : Int) ≤ (b : Int) := by omega
    have e : digP b = false := by unfold digP; rw [decide_eq_false h1, Bool.false_and]
    rw [e]
    go_enter Try.func109, Try.ntmps109
    go_wp2
    go_ret
    exact ⟨rfl, rfl⟩
set_option maxHeartbeats 400000 in
theorem rletter_b (b : Nat) (w : World) : Calls Try.prog 108 #[.int .u8 (b : Nat)] w fun e w' => e = .returned (.bool (letP b)) ∧ w' = w := by
  have key : ∀ x : Bool, letP b = x → Calls Try.prog 108 #[.int .u8 (b : Nat)] w fun e w' => e = .returned (.bool x) ∧ w' = w := by
    intro x hx
    by_cases h1 : 97 ≤ b
    · have g1 : (97 : Int) ≤ (b : Int) := by omega
      by_cases h2 : b ≤ 122
      · have g2 : (b : Int) ≤ 122 := by omega
        have e : x = true := by rw [← hx]; unfold letP; simp [h1, h2]
        subst e
        clear hx
        go_enter Try.func108, Try.ntmps108
        go_wp2
        go_ret
        exact ⟨rfl, rfl⟩
      · have g2 : ¬ (b : Int) ≤ 122 := by omega
        have g3 : (65 : Int) ≤ (b : Int) := by omega
        have g4 : ¬ (b : Int) ≤ 90 := by omega
        have e : x = false := by rw [← hx]; unfold letP; simp; omega
        subst e
        clear hx
        go_enter Try.func108, Try.ntmps108
        go_wp2
        go_ret
        exact ⟨rfl, rfl⟩
    · have g1 : ¬ (97 : Int) ≤ (b : Int) := by omega
      by_cases h2 : 65 ≤ b
      · have g2 : (65 : Int) ≤ (b : Int) := by omega
        by_cases h3 : b ≤ 90
        · have g3 : (b : Int) ≤ 90 := by omega
          have e : x = true := by rw [← hx]; unfold letP; simp [h2, h3]
          subst e
          clear hx
          go_enter Try.func108, Try.ntmps108
          go_wp2
          go_ret
          exact ⟨rfl, rfl⟩
        · have g3 : ¬ (b : Int) ≤ 90 := by omega
          have e : x = false := by rw [← hx]; unfold letP; simp; omega
          subst e
          clear hx
          go_enter Try.func108, Try.ntmps108
          go_wp2
          go_ret
          exact ⟨rfl, rfl⟩
      · have g2 : ¬ (65 : Int) ≤ (b : Int) := by omega
        have e : x = false := by rw [← hx]; unfold letP; simp; omega
        subst e
        clear hx
        go_enter Try.func108, Try.ntmps108
        go_wp2
        go_ret
        exact ⟨rfl, rfl⟩
  exact key _ rfl
/-- A digit's value, -1 of what is none. -/
def hexR (b : Nat) : Int := if (hexP b).2 = true then ((hexP b).1 : Int) else -1
theorem conv53 (x : Int) (h : 0 ≤ x ∧ x < 256) (W : World) : (convert 5 3 (.int .u8 x)).run Try.prog W = .ok (.int .i64 x) W := by
  have hk : Try.prog.intKind 3 = .i64 := by kernel_rfl
  rw [run_convert_int W 5 3 .u8 _ (by rw [Try.underlying5]; rfl) (by rw [hk]; exact Try.underlying3), hk, show IntKind.i64.wrap x = x by rw [IntKind.wrap_i64]; omega]
set_option maxHeartbeats 400000 in
theorem rhex_any (b : Nat) (w : World) (hb : b < 256) : Calls Try.prog 107 #[.int .u8 (b : Nat)] w fun e w' => e = .returned (.int .i64 (hexR b)) ∧ w' = w := by
  have hd := fun W => rdigit_b b W
  cases h0 : digP b with
  | true =>
    have h48 : 48 ≤ b ∧ b ≤ 57 := by unfold digP at h0; simp at h0; omega
    have e : hexR b = (b : Int) - 48 := by unfold hexR hexP; rw [h0]; simp; omega
    rw [h0] at hd
    rw [e]
    have g1 : (48 : Int) ≤ (b : Int) := by omega
    have g2 : (b : Int) ≤ 57 := by omega
    have hcv := conv53 ((b : Int) - 48) (by omega)
    clear e h0 h48
    go_enter Try.func107, Try.ntmps107
    go_wp2_with (go_at_call 109; refine (hd _).mono ?_; rintro e w' ⟨rfl, rfl⟩)
    go_ret
    exact ⟨rfl, rfl⟩
  | false =>
    rw [h0] at hd
    by_cases h1 : 97 ≤ b ∧ b ≤ 102
    · have e : hexR b = (b : Int) - 97 + 10 := by unfold hexR hexP; rw [h0]; simp [h1]; omega
      rw [e]
      have g1 : (97 : Int) ≤ (b : Int) := by omega
      have g2 : (b : Int) ≤ 102 := by omega
      have hcv := conv53 ((b : Int) - 97) (by omega)
      clear e h0
      go_enter Try.func107, Try.ntmps107
      go_wp2_with (go_at_call 109; refine (hd _).mono ?_; rintro e w' ⟨rfl, rfl⟩)
      go_ret
      exact ⟨rfl, rfl⟩
    · by_cases h2 : 65 ≤ b ∧ b ≤ 70
      · have e : hexR b = (b : Int) - 65 + 10 := by
          unfold hexR hexP
          have e1 : (decide (97 ≤ b) && decide (b ≤ 102)) = false := by simp; omega
          rw [h0, e1]; simp [h2]; omega
        rw [e]
        have g1 : ¬ (97 : Int) ≤ (b : Int) := by omega
        have g2 : (65 : Int) ≤ (b : Int) := by omega
        have g3 : (b : Int) ≤ 70 := by omega
        have hcv := conv53 ((b : Int) - 65) (by omega)
        clear e h0
        go_enter Try.func107, Try.ntmps107
        go_wp2_with (go_at_call 109; refine (hd _).mono ?_; rintro e w' ⟨rfl, rfl⟩)
        go_ret
        exact ⟨rfl, rfl⟩
      · have e : hexR b = -1 := by
          unfold hexR hexP
          have e1 : (decide (97 ≤ b) && decide (b ≤ 102)) = false := by simp; omega
          have e2 : (decide (65 ≤ b) && decide (b ≤ 70)) = false := by simp; omega
          rw [h0, e1, e2]; rfl
        rw [e]
        clear e h0
        by_cases g1 : (97 : Int) ≤ (b : Int)
        · have g2 : ¬ (b : Int) ≤ 102 := by omega
          have g3 : (65 : Int) ≤ (b : Int) := by omega
          have g4 : ¬ (b : Int) ≤ 70 := by omega
          go_enter Try.func107, Try.ntmps107
          go_wp2_with (go_at_call 109; refine (hd _).mono ?_; rintro e w' ⟨rfl, rfl⟩)
          go_ret
          exact ⟨rfl, rfl⟩
        · by_cases g3 : (65 : Int) ≤ (b : Int)
          · have g4 : ¬ (b : Int) ≤ 70 := by omega
            go_enter Try.func107, Try.ntmps107
            go_wp2_with (go_at_call 109; refine (hd _).mono ?_; rintro e w' ⟨rfl, rfl⟩)
            go_ret
            exact ⟨rfl, rfl⟩
          · go_enter Try.func107, Try.ntmps107
            go_wp2_with (go_at_call 109; refine (hd _).mono ?_; rintro e w' ⟨rfl, rfl⟩)
            go_ret
            exact ⟨rfl, rfl⟩
/-- A token's answer by the reference: the token, nothing old has turned. -/
def RetA (w : World) (s : TokS) (e : Ending) (w' : World) : Prop := e = .returned (tokOf s) ∧ Below w.heap.size w w'
theorem tokOf_none (s : TokS) (h : s.P = fun _ => false) : tokOf s = tokV s.k s.b 0 0 0 0 s.nt s.l s.m s.lz s.at_ := by
  obtain ⟨e0, e1, e2, e3⟩ := (wds_is (fun _ => false)).uniq c4_none
  unfold tokOf
  rw [h, e0, e1, e2, e3]
set_option maxRecDepth 10000 in
set_option maxHeartbeats 400000 in
theorem aByte_any (b : Nat) (w : World) : Calls Try.prog 92 #[.int .u8 (b : Nat)] w (RetA w (.sgn 1 b 0 0)) := by
  unfold RetA
  rw [tokOf_none _ rfl]
  go_enter Try.func92, Try.ntmps92
  go_wp2
  exact bodyPost_ret (v := tokV 1 b 0 0 0 0 false 0 0 false 0) (by simp [results, Try.results92, go_sem, tokV]) rfl ⟨rfl, bel1 _ _⟩
set_option maxRecDepth 10000 in
set_option maxHeartbeats 400000 in
theorem aClass_any {P : Nat → Bool} {a b c d : Nat} (h4 : C4 P a b c d) (w : World) : Calls Try.prog 103 #[.agg #[.int .u64 (a : Nat), .int .u64 (b : Nat), .int .u64 (c : Nat), .int .u64 (d : Nat)]] w (RetA w (.cls P false 0 0)) := by
  obtain ⟨rfl, rfl, rfl, rfl⟩ := h4.uniq (wds_is P)
  show Calls Try.prog 103 _ w fun e w' => e = .returned (tokV 2 0 (wds P 0) (wds P 1) (wds P 2) (wds P 3) false 0 0 false 0) ∧ Below w.heap.size w w'
  clear h4
  generalize wds P 0 = a
  generalize wds P 1 = b
  generalize wds P 2 = c
  generalize wds P 3 = d
  go_enter Try.func103, Try.ntmps103
  go_wp2
  exact bodyPost_ret (v := tokV 2 0 a b c d false 0 0 false 0) (by simp [results, Try.results103, go_sem, tokV]) rfl ⟨rfl, bel2 _ _ _⟩
end Go.Proofs.Ytlmmiicibjfcdaa.X
namespace Go.Proofs.Ytlmmiicibjfcdaa.X
open Go.RowKit
/-- The number and the place behind it, or 0 and 0. -/
def nmA (z : Nat → Nat) (n fr : Nat) : Nat := if numOk z n fr = true then (numR z n fr).1 else 0
def nmB (z : Nat → Nat) (n fr : Nat) : Nat := if numOk z n fr = true then (numR z n fr).2 else 0
set_option maxHeartbeats 1000000 in
theorem rnumber_any (ao : Option Addr) (n cap fr : Nat) (z : Nat → Nat) (w : World) (hr : Rd w ao n z) (hn : (n : Int) ≤ 1024) (hf : fr ≤ n) : Calls Try.prog 123 #[.slice ao n cap, .int .i64 (fr : Nat)] w fun e w' => e = .returned (.tuple #[.int .i64 (nmA z n fr : Nat), .int .i64 (nmB z n fr : Nat)]) ∧ w' = w := by
  go_enter Try.func123, Try.ntmps123
  go_wp2_with fail
  go_loopw [6, 7] (fun c i wr => ∃ k v : Nat, fr ≤ k ∧ k ≤ n ∧ i = .int .i64 k ∧ c = .int .i64 v ∧ v ≤ 10009 ∧ numG z n (n - k) k v = numR z n fr ∧ wr = w) (fun _ i _ => n - (intOf i).toNat)
  case atStart => exact ⟨fr, 0, Nat.le_refl _, hf, rfl, rfl, by omega, rfl, rfl⟩
  case round =>
    obtain ⟨k, v, h1, h2, rfl, rfl, hv, hg, rfl⟩ := hrel
    have k0 : (0 : Int) ≤ (k : Int) := by omega
    by_cases hlt : k < n
    · have hki : (k : Int) < (n : Int) := by omega
      obtain ⟨bb, off, rfl, hbb, hc⟩ := hr.at_ (by omega)
      have t := hc k hlt
      have hsm := hr.small k hlt
      have hd := fun W => rdigit_b (z k) W
      clear hc
      cases hq : digP (z k) with
      | true =>
        rw [hq] at hd
        by_cases hv1 : v ≤ 1000
        · have hstep := numG_go hlt hq hv1
          rw [hg] at hstep
          have h48 : 48 ≤ z k ∧ z k ≤ 57 := by unfold digP at hq; simp at hq; omega
          have HS : Hid (numG z n (n - (k + 1)) (k + 1) (v * 10 + (z k - 48)) = numR z n fr) := hstep.symm
          have hvi : (v : Int) ≤ 1000 := by omega
          generalize z k = q at *
          have hq1 : (48 : Int) ≤ (q : Int) := by omega
          have hq2 : (q : Int) ≤ 57 := by omega
          have hcv := conv53 ((q : Int) - 48) (by omega)
          clear hq hstep hg
          go_wp2_with (go_at_call 109; refine (hd _).mono ?_; rintro e w' ⟨rfl, rfl⟩)
          go_roundw
          case rel => exact ⟨k + 1, v * 10 + (q - 48), by omega, by omega, by go_num, by congr 1; omega, by omega, HS.out, (by first | trivial | rfl)⟩
          case measure => simp [intOf]; omega
        · have hend : (decide (k < n) && digP (z k) && decide (v ≤ 1000)) = false := by rw [decide_eq_false hv1]; simp
          have hvi : ¬ (v : Int) ≤ 1000 := by omega
          have hR : numR z n fr = (v, k) := by rw [← hg, numG_end hend]
          have HV : Hid (∀ x : Bool, numOk z n fr = x → ∀ a b : Nat, (x = true → a = v ∧ b = k) → (x = false → a = 0 ∧ b = 0) → (Ending.returned (Value.tuple #[.int .i64 (a : Nat), .int .i64 (b : Nat)]) = .returned (.tuple #[.int .i64 (nmA z n fr : Nat), .int .i64 (nmB z n fr : Nat)]))) := fun x hx a b h1 h2 => by
            unfold nmA nmB
            rw [hx, hR]
            cases x with
            | true => obtain ⟨rfl, rfl⟩ := h1 rfl; rfl
            | false => obtain ⟨rfl, rfl⟩ := h2 rfl; rfl
          have HO : Hid (numOk z n fr = (decide (fr < k) && decide (v ≤ 1000) && !(decide (fr + 1 < k) && (z fr == 48)))) := by
            show numOk z n fr = _
            unfold numOk; rw [hR]
          clear hR hg hend
          by_cases g1 : k = fr
          · have j1 : ((k : Int) == (fr : Int)) = true := by simp; omega
            have HX : Hid (numOk z n fr = false) := by show numOk z n fr = false; rw [HO.out, decide_eq_false (show ¬ fr < k by omega)]; rfl
            clear HO g1
            go_wp2_with (go_at_call 109; refine (hd _).mono ?_; rintro e w' ⟨rfl, rfl⟩)
            exact bodyPost_ret (v := .tuple #[.int .i64 0, .int .i64 0]) (by simp [results, Try.results123, go_sem]) rfl ⟨HV.out _ HX.out 0 0 (fun h => by cases h) (fun _ => ⟨rfl, rfl⟩), rfl⟩
          · have j1 : ((k : Int) == (fr : Int)) = false := by rw [beq_eq_false_iff_ne]; omega
            have j2 : (v : Int) > 1000 := by omega
            have g2 := hv1
            have HX : Hid (numOk z n fr = false) := by show numOk z n fr = false; rw [HO.out, decide_eq_false g2]; simp
            clear HO g1
            go_wp2_with (go_at_call 109; refine (hd _).mono ?_; rintro e w' ⟨rfl, rfl⟩)
            exact bodyPost_ret (v := .tuple #[.int .i64 0, .int .i64 0]) (by simp [results, Try.results123, go_sem]) rfl ⟨HV.out _ HX.out 0 0 (fun h => by cases h) (fun _ => ⟨rfl, rfl⟩), rfl⟩
      | false =>
        rw [hq] at hd
        have hend : (decide (k < n) && digP (z k) && decide (v ≤ 1000)) = false := by rw [hq]; simp
        have hR : numR z n fr = (v, k) := by rw [← hg, numG_end hend]
        have HV : Hid (∀ x : Bool, numOk z n fr = x → ∀ a b : Nat, (x = true → a = v ∧ b = k) → (x = false → a = 0 ∧ b = 0) → (Ending.returned (Value.tuple #[.int .i64 (a : Nat), .int .i64 (b : Nat)]) = .returned (.tuple #[.int .i64 (nmA z n fr : Nat), .int .i64 (nmB z n fr : Nat)]))) := fun x hx a b h1 h2 => by
          unfold nmA nmB
          rw [hx, hR]
          cases x with
          | true => obtain ⟨rfl, rfl⟩ := h1 rfl; rfl
          | false => obtain ⟨rfl, rfl⟩ := h2 rfl; rfl
        have HO : Hid (numOk z n fr = (decide (fr < k) && decide (v ≤ 1000) && !(decide (fr + 1 < k) && (z fr == 48)))) := by
          show numOk z n fr = _
          unfold numOk; rw [hR]
        clear hR hg hend
        by_cases g1 : k = fr
        · have j1 : ((k : Int) == (fr : Int)) = true := by simp; omega
          have HX : Hid (numOk z n fr = false) := by show numOk z n fr = false; rw [HO.out, decide_eq_false (show ¬ fr < k by omega)]; rfl
          clear HO g1
          go_wp2_with (go_at_call 109; refine (hd _).mono ?_; rintro e w' ⟨rfl, rfl⟩)
          exact bodyPost_ret (v := .tuple #[.int .i64 0, .int .i64 0]) (by simp [results, Try.results123, go_sem]) rfl ⟨HV.out _ HX.out 0 0 (fun h => by cases h) (fun _ => ⟨rfl, rfl⟩), rfl⟩
        · have j1 : ((k : Int) == (fr : Int)) = false := by rw [beq_eq_false_iff_ne]; omega
          by_cases g2 : v ≤ 1000
          · have j2 : ¬ (v : Int) > 1000 := by omega
            obtain ⟨b0, o0, e0, _, c0⟩ := hr.at_ (by omega)
            first | (injection e0 with e0; injection e0 with e1 e2; subst e1 e2) | subst e0
            have t0 := c0 fr (by omega)
            have j3 : (fr : Int) < (n : Int) := by omega
            clear c0
            cases g3 : (z fr == 48) with
            | true =>
              have j5 : (((z fr : Nat) : Int) == 48) = true := by simp at g3 ⊢; omega
              by_cases g4 : fr + 1 < k
              · have j6 : (k : Int) > (fr : Int) + 1 := by omega
                have HX : Hid (numOk z n fr = false) := by show numOk z n fr = false; rw [HO.out, g3, decide_eq_true g4]; simp
                clear HO g3 g1
                go_wp2_with (go_at_call 109; refine (hd _).mono ?_; rintro e w' ⟨rfl, rfl⟩)
                exact bodyPost_ret (v := .tuple #[.int .i64 0, .int .i64 0]) (by simp [results, Try.results123, go_sem]) rfl ⟨HV.out _ HX.out 0 0 (fun h => by cases h) (fun _ => ⟨rfl, rfl⟩), rfl⟩
              · have j6 : ¬ (k : Int) > (fr : Int) + 1 := by omega
                have HX : Hid (numOk z n fr = true) := by show numOk z n fr = true; rw [HO.out, decide_eq_true (show fr < k by omega), decide_eq_true g2, decide_eq_false g4]; rfl
                clear HO g3 g1
                go_wp2_with (go_at_call 109; refine (hd _).mono ?_; rintro e w' ⟨rfl, rfl⟩)
                exact bodyPost_ret (v := .tuple #[.int .i64 (v : Nat), .int .i64 (k : Nat)]) (by simp [results, Try.results123, go_sem]) rfl ⟨HV.out _ HX.out v k (fun _ => ⟨rfl, rfl⟩) (fun h => by cases h), rfl⟩
            | false =>
              have j5 : (((z fr : Nat) : Int) == 48) = false := by simp at g3 ⊢; omega
              have HX : Hid (numOk z n fr = true) := by show numOk z n fr = true; rw [HO.out, decide_eq_true (show fr < k by omega), decide_eq_true g2, g3]; simp
              clear HO g3 g1
              go_wp2_with (go_at_call 109; refine (hd _).mono ?_; rintro e w' ⟨rfl, rfl⟩)
              exact bodyPost_ret (v := .tuple #[.int .i64 (v : Nat), .int .i64 (k : Nat)]) (by simp [results, Try.results123, go_sem]) rfl ⟨HV.out _ HX.out v k (fun _ => ⟨rfl, rfl⟩) (fun h => by cases h), rfl⟩
          · have j2 : (v : Int) > 1000 := by omega
            have HX : Hid (numOk z n fr = false) := by show numOk z n fr = false; rw [HO.out, decide_eq_false g2]; simp
            clear HO g1
            go_wp2_with (go_at_call 109; refine (hd _).mono ?_; rintro e w' ⟨rfl, rfl⟩)
            exact bodyPost_ret (v := .tuple #[.int .i64 0, .int .i64 0]) (by simp [results, Try.results123, go_sem]) rfl ⟨HV.out _ HX.out 0 0 (fun h => by cases h) (fun _ => ⟨rfl, rfl⟩), rfl⟩
    · have hki : ¬ (k : Int) < (n : Int) := by omega
      have hend : (decide (k < n) && digP (z k) && decide (v ≤ 1000)) = false := by rw [decide_eq_false hlt]; simp
      have hR : numR z n fr = (v, k) := by rw [← hg, numG_end hend]
      have HV : Hid (∀ x : Bool, numOk z n fr = x → ∀ a b : Nat, (x = true → a = v ∧ b = k) → (x = false → a = 0 ∧ b = 0) → (Ending.returned (Value.tuple #[.int .i64 (a : Nat), .int .i64 (b : Nat)]) = .returned (.tuple #[.int .i64 (nmA z n fr : Nat), .int .i64 (nmB z n fr : Nat)]))) := fun x hx a b h1 h2 => by
        unfold nmA nmB
        rw [hx, hR]
        cases x with
        | true => obtain ⟨rfl, rfl⟩ := h1 rfl; rfl
        | false => obtain ⟨rfl, rfl⟩ := h2 rfl; rfl
      have HO : Hid (numOk z n fr = (decide (fr < k) && decide (v ≤ 1000) && !(decide (fr + 1 < k) && (z fr == 48)))) := by
        show numOk z n fr = _
        unfold numOk; rw [hR]
      clear hR hg hend
      by_cases g1 : k = fr
      · have j1 : ((k : Int) == (fr : Int)) = true := by simp; omega
        have HX : Hid (numOk z n fr = false) := by show numOk z n fr = false; rw [HO.out, decide_eq_false (show ¬ fr < k by omega)]; rfl
        clear HO g1
        go_wp2
        exact bodyPost_ret (v := .tuple #[.int .i64 0, .int .i64 0]) (by simp [results, Try.results123, go_sem]) rfl ⟨HV.out _ HX.out 0 0 (fun h => by cases h) (fun _ => ⟨rfl, rfl⟩), rfl⟩
      · have j1 : ((k : Int) == (fr : Int)) = false := by rw [beq_eq_false_iff_ne]; omega
        by_cases g2 : v ≤ 1000
        · have j2 : ¬ (v : Int) > 1000 := by omega
          obtain ⟨b0, o0, e0, _, c0⟩ := hr.at_ (by omega)
          first | (injection e0 with e0; injection e0 with e1 e2; subst e1 e2) | subst e0
          have t0 := c0 fr (by omega)
          have j3 : (fr : Int) < (n : Int) := by omega
          clear c0
          cases g3 : (z fr == 48) with
          | true =>
            have j5 : (((z fr : Nat) : Int) == 48) = true := by simp at g3 ⊢; omega
            by_cases g4 : fr + 1 < k
            · have j6 : (k : Int) > (fr : Int) + 1 := by omega
              have HX : Hid (numOk z n fr = false) := by show numOk z n fr = false; rw [HO.out, g3, decide_eq_true g4]; simp
              clear HO g3 g1
              go_wp2
              exact bodyPost_ret (v := .tuple #[.int .i64 0, .int .i64 0]) (by simp [results, Try.results123, go_sem]) rfl ⟨HV.out _ HX.out 0 0 (fun h => by cases h) (fun _ => ⟨rfl, rfl⟩), rfl⟩
            · have j6 : ¬ (k : Int) > (fr : Int) + 1 := by omega
              have HX : Hid (numOk z n fr = true) := by show numOk z n fr = true; rw [HO.out, decide_eq_true (show fr < k by omega), decide_eq_true g2, decide_eq_false g4]; rfl
              clear HO g3 g1
              go_wp2
              exact bodyPost_ret (v := .tuple #[.int .i64 (v : Nat), .int .i64 (k : Nat)]) (by simp [results, Try.results123, go_sem]) rfl ⟨HV.out _ HX.out v k (fun _ => ⟨rfl, rfl⟩) (fun h => by cases h), rfl⟩
          | false =>
            have j5 : (((z fr : Nat) : Int) == 48) = false := by simp at g3 ⊢; omega
            have HX : Hid (numOk z n fr = true) := by show numOk z n fr = true; rw [HO.out, decide_eq_true (show fr < k by omega), decide_eq_true g2, g3]; simp
            clear HO g3 g1
            go_wp2
            exact bodyPost_ret (v := .tuple #[.int .i64 (v : Nat), .int .i64 (k : Nat)]) (by simp [results, Try.results123, go_sem]) rfl ⟨HV.out _ HX.out v k (fun _ => ⟨rfl, rfl⟩) (fun h => by cases h), rfl⟩
        · have j2 : (v : Int) > 1000 := by omega
          have HX : Hid (numOk z n fr = false) := by show numOk z n fr = false; rw [HO.out, decide_eq_false g2]; simp
          clear HO g1
          go_wp2
          exact bodyPost_ret (v := .tuple #[.int .i64 0, .int .i64 0]) (by simp [results, Try.results123, go_sem]) rfl ⟨HV.out _ HX.out 0 0 (fun h => by cases h) (fun _ => ⟨rfl, rfl⟩), rfl⟩
end Go.Proofs.Ytlmmiicibjfcdaa.X
