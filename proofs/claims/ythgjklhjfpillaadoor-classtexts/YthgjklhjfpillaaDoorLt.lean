/- The reference's within, hex, Literal, Inner: the walks. -/
import Derived.Test.YthgjklhjfpillaaDoorStr
namespace Go.Proofs.YthgjklhjfpillaaDoor
open Go.RowKit
set_option maxHeartbeats 1000000 in
theorem within_any (S : ByteArray) (l : List Nat) (n b : Nat) (hn : l.length = n) (hsz : S.size = n) (hm : n ≤ 100) (hix : ∀ k, k < n → ∀ w, (Instr.index 9 (.string S) (.int .i64 (k : Nat))).run Tryd.prog w = .ok (.int .u8 (l.getD k 0 : Nat)) w) (w : World) :
    Calls Tryd.prog 59 #[.int .u8 (b : Nat), .string S] w fun e w' => e = .returned (.bool (decide (b ∈ l))) ∧ w' = w := by
  go_enter Tryd.func59, Tryd.ntmps59
  go_wp2_with fail
  go_loopw [5] (fun i wr => ∃ k : Nat, k ≤ n ∧ i = .int .i64 k ∧ (∀ j, j < k → l.getD j 0 ≠ b) ∧ wr = w) (fun i _ => n - (intOf i).toNat)
  case atStart => exact ⟨0, Nat.zero_le _, rfl, fun j h => by omega, rfl⟩
  case round =>
    obtain ⟨k, hk, rfl, hno, rfl⟩ := hrel
    by_cases hlt : k < n
    · have hki : (k : Int) < (n : Int) := by omega
      have hi := hix k hlt
      obtain ⟨x, hx⟩ : ∃ x, l.getD k 0 = x := ⟨_, rfl⟩
      rw [hx] at hi
      clear hix
      by_cases he : x = b
      · have HI : Hid (decide (b ∈ l) = true) := by
          show decide (b ∈ l) = true
          rw [decide_eq_true_eq, ← he, ← hx, List.getD_eq_getElem?_getD, List.getElem?_eq_getElem (by omega)]
          simp
        have hei : ((x : Int) == (b : Int)) = true := by rw [he]; simp
        clear hx he hno
        go_wp2
        go_ret
        exact ⟨by rw [HI.out]; rfl, rfl⟩
      · have hei : ((x : Int) == (b : Int)) = false := by simp; omega
        have HN : Hid (∀ j, j < k + 1 → l.getD j 0 ≠ b) := fun j hj => by
          by_cases h : j = k
          · rw [h, hx]; exact he
          · exact hno j (by omega)
        clear hno hx he
        go_wp2
        go_roundw
        case rel => exact ⟨k + 1, by omega, by go_num, HN.out, trivial⟩
        case measure => simp [intOf]; omega
    · have hki : ¬ (k : Int) < (n : Int) := by omega
      have HI : Hid (decide (b ∈ l) = false) := by
        show decide (b ∈ l) = false
        rw [decide_eq_false_iff_not]
        intro h
        obtain ⟨j, hj, e⟩ := List.mem_iff_getElem.1 h
        refine hno j (by omega) ?_
        rw [List.getD_eq_getElem?_getD, List.getElem?_eq_getElem hj]
        simpa using e
      clear hno hix
      go_wp2
      go_ret
      exact ⟨by rw [HI.out]; rfl, rfl⟩
theorem ext16 (n : Nat) (h : n < 16) : (⟨#[48, 49, 50, 51, 52, 53, 54, 55, 56, 57, 97, 98, 99, 100, 101, 102]⟩ : ByteArray).extract n (n + 1) = ⟨#[(hexd n).toUInt8]⟩ := by
  have hn : n = 0 ∨ n = 1 ∨ n = 2 ∨ n = 3 ∨ n = 4 ∨ n = 5 ∨ n = 6 ∨ n = 7 ∨ n = 8 ∨ n = 9 ∨ n = 10 ∨ n = 11 ∨ n = 12 ∨ n = 13 ∨ n = 14 ∨ n = 15 := by omega
  rcases hn with rfl | rfl | rfl | rfl | rfl | rfl | rfl | rfl | rfl | rfl | rfl | rfl | rfl | rfl | rfl | rfl
  all_goals rfl
theorem bel_drewN (w : World) (q : Nat) : Below w.heap.size w (w.drewN q) := by
  induction q with
  | zero => exact Below.refl _ _
  | succ q ih => exact ih.drew
theorem numB_is (b : Nat) (hb : b < 256) : (⟨#[92, 120]⟩ : ByteArray) ++ (⟨#[48, 49, 50, 51, 52, 53, 54, 55, 56, 57, 97, 98, 99, 100, 101, 102]⟩ : ByteArray).extract (b / 16) (b / 16 + 1) ++ (⟨#[48, 49, 50, 51, 52, 53, 54, 55, 56, 57, 97, 98, 99, 100, 101, 102]⟩ : ByteArray).extract (b % 16) (b % 16 + 1) = ⟨(numB b).toArray⟩ := by
  rw [ext16 _ (by omega), ext16 _ (by omega)]
  apply ByteArray.ext
  simp [ByteArray.data_append, numB]
set_option maxRecDepth 100000 in
set_option maxHeartbeats 1000000 in
theorem hex_any (b : Nat) (w : World) (hb : b < 256) : Calls Tryd.prog 58 #[.int .u8 (b : Nat)] w (RetS w (numB b)) := by
  unfold RetS
  rw [← numB_is b hb]
  go_enter Tryd.func58, Tryd.ntmps58
  go_wp2
  go_quiet (fail)
  go_wp2
  go_ret
  exact ⟨rfl, bel_drewN _ _⟩
theorem within_lit (b : Nat) (w : World) : Calls Tryd.prog 59 #[.int .u8 (b : Nat), .string ⟨#[46, 91, 93, 40, 41, 123, 125, 124, 42, 43, 63, 94, 36, 92]⟩] w fun e w' => e = .returned (.bool (decide (b ∈ [46, 91, 93, 40, 41, 123, 125, 124, 42, 43, 63, 94, 36, 92]))) ∧ w' = w := by
  refine within_any _ [46, 91, 93, 40, 41, 123, 125, 124, 42, 43, 63, 94, 36, 92] 14 b rfl rfl (by decide) ?_ w
  intro k hk w
  have hn : k = 0 ∨ k = 1 ∨ k = 2 ∨ k = 3 ∨ k = 4 ∨ k = 5 ∨ k = 6 ∨ k = 7 ∨ k = 8 ∨ k = 9 ∨ k = 10 ∨ k = 11 ∨ k = 12 ∨ k = 13 := by omega
  rcases hn with rfl | rfl | rfl | rfl | rfl | rfl | rfl | rfl | rfl | rfl | rfl | rfl | rfl | rfl
  all_goals rfl
theorem within_inn (b : Nat) (w : World) : Calls Tryd.prog 59 #[.int .u8 (b : Nat), .string ⟨#[93, 91, 92, 94, 45]⟩] w fun e w' => e = .returned (.bool (decide (b ∈ [93, 91, 92, 94, 45]))) ∧ w' = w := by
  refine within_any _ [93, 91, 92, 94, 45] 5 b rfl rfl (by decide) ?_ w
  intro k hk w
  have hn : k = 0 ∨ k = 1 ∨ k = 2 ∨ k = 3 ∨ k = 4 := by omega
  rcases hn with rfl | rfl | rfl | rfl | rfl
  all_goals rfl
theorem spec_in (b : Nat) (hb : b < 256) : decide (b ∈ [46, 91, 93, 40, 41, 123, 125, 124, 42, 43, 63, 94, 36, 92]) = spec b := by
  have h : ∀ b : Fin 256, decide (b.val ∈ [46, 91, 93, 40, 41, 123, 125, 124, 42, 43, 63, 94, 36, 92]) = spec b.val := by decide +kernel
  exact h ⟨b, hb⟩
theorem specI_in (b : Nat) (hb : b < 256) : decide (b ∈ [93, 91, 92, 94, 45]) = specI b := by
  have h : ∀ b : Fin 256, decide (b.val ∈ [93, 91, 92, 94, 45]) = specI b.val := by decide +kernel
  exact h ⟨b, hb⟩
theorem conv_one (W : World) (b : Nat) : (convert 22 9 (.slice (some ⟨W.heap.size, 0, none⟩) 1 1)).run Tryd.prog (W.alloc (.cells #[.int .u8 (b : Nat)] 5)) = .ok (.string ⟨#[b.toUInt8]⟩) (W.alloc (.cells #[.int .u8 (b : Nat)] 5)) := by
  rw [run_convert_bytes_arg _ 22 5 Tryd.underlying22 Tryd.underlying5 _ 0 1 1 [(b : Nat)] rfl (fun i hi => ?_) 9 Tryd.underlying9]
  · rfl
  · obtain rfl : i = 0 := by omega
    rw [cell_of_row _ W.heap.size (0 + 0) _ 5 (0, 0) (heap_alloc_new W _)]
    rfl
set_option maxRecDepth 100000 in
set_option maxHeartbeats 1000000 in
theorem rliteral_any (b : Nat) (w : World) (hb : b < 256) : Calls Tryd.prog 43 #[.int .u8 (b : Nat)] w (RetS w (litB b)) := by
  have hw := within_lit b
  rw [spec_in b hb] at hw
  cases hv : vis b with
  | false =>
    have e : litB b = numB b := by unfold litB; rw [hv]; rfl
    rw [e]
    by_cases h1 : b < 33
    · have g1 : (b : Int) < 33 := by omega
      go_enter Tryd.func43, Tryd.ntmps43
      go_wp2_with (go_at_call 58; refine (hex_any b _ hb).mono ?_; rintro e w' ⟨rfl, hB⟩)
      go_ret
      exact ⟨rfl, hB⟩
    · have g1 : ¬ (b : Int) < 33 := by omega
      have g2 : (126 : Int) < (b : Int) := by unfold vis at hv; simp at hv; omega
      go_enter Tryd.func43, Tryd.ntmps43
      go_wp2_with (go_at_call 58; refine (hex_any b _ hb).mono ?_; rintro e w' ⟨rfl, hB⟩)
      go_ret
      exact ⟨rfl, hB⟩
  | true =>
    have hlt : 33 ≤ b ∧ b ≤ 126 := by unfold vis at hv; simp at hv; omega
    have g1 : ¬ (b : Int) < 33 := by omega
    have g2 : ¬ (126 : Int) < (b : Int) := by omega
    have hcv := conv_one w b
    have hB : Below w.heap.size w (w.alloc (.cells #[.int .u8 (b : Nat)] 5)) := (Below.refl _ _).alloc (Nat.le_refl _) _
    cases hs : spec b with
    | true =>
      have e : (⟨(litB b).toArray⟩ : ByteArray) = ⟨#[92]⟩ ++ ⟨#[b.toUInt8]⟩ := by unfold litB; rw [hv, hs]; rfl
      unfold RetS
      rw [e]
      rw [hs] at hw
      clear e
      have s1 : (⟨#[92]⟩ : ByteArray).size = 1 := rfl
      have s2 : (⟨#[b.toUInt8]⟩ : ByteArray).size = 1 := rfl
      generalize (⟨#[b.toUInt8]⟩ : ByteArray) = u at *
      go_enter Tryd.func43, Tryd.ntmps43
      go_wp2_with (go_at_call 59; refine (hw _).mono ?_; rintro e w' ⟨rfl, rfl⟩)
      go_ret
      exact ⟨rfl, hB⟩
    | false =>
      have e : (⟨(litB b).toArray⟩ : ByteArray) = ⟨#[b.toUInt8]⟩ := by unfold litB; rw [hv, hs]; rfl
      unfold RetS
      rw [e]
      rw [hs] at hw
      clear e
      generalize (⟨#[b.toUInt8]⟩ : ByteArray) = u at *
      go_enter Tryd.func43, Tryd.ntmps43
      go_wp2_with (go_at_call 59; refine (hw _).mono ?_; rintro e w' ⟨rfl, rfl⟩)
      go_ret
      exact ⟨rfl, hB⟩
set_option maxRecDepth 100000 in
set_option maxHeartbeats 1000000 in
theorem rinner_any (b : Nat) (w : World) (hb : b < 256) : Calls Tryd.prog 45 #[.int .u8 (b : Nat)] w (RetS w (innB b)) := by
  have hw := within_inn b
  rw [specI_in b hb] at hw
  cases hv : vis b with
  | false =>
    have e : innB b = numB b := by unfold innB; rw [hv]; rfl
    rw [e]
    by_cases h1 : b < 33
    · have g1 : (b : Int) < 33 := by omega
      go_enter Tryd.func45, Tryd.ntmps45
      go_wp2_with (go_at_call 58; refine (hex_any b _ hb).mono ?_; rintro e w' ⟨rfl, hB⟩)
      go_ret
      exact ⟨rfl, hB⟩
    · have g1 : ¬ (b : Int) < 33 := by omega
      have g2 : (126 : Int) < (b : Int) := by unfold vis at hv; simp at hv; omega
      go_enter Tryd.func45, Tryd.ntmps45
      go_wp2_with (go_at_call 58; refine (hex_any b _ hb).mono ?_; rintro e w' ⟨rfl, hB⟩)
      go_ret
      exact ⟨rfl, hB⟩
  | true =>
    have hlt : 33 ≤ b ∧ b ≤ 126 := by unfold vis at hv; simp at hv; omega
    have g1 : ¬ (b : Int) < 33 := by omega
    have g2 : ¬ (126 : Int) < (b : Int) := by omega
    cases hs : specI b with
    | true =>
      have e : innB b = numB b := by unfold innB; rw [hv, hs]; rfl
      rw [e]
      rw [hs] at hw
      go_enter Tryd.func45, Tryd.ntmps45
      go_wp2_with (first | (go_at_call 59; refine (hw _).mono ?_; rintro e w' ⟨rfl, rfl⟩) | (go_at_call 58; refine (hex_any b _ hb).mono ?_; rintro e w' ⟨rfl, hB⟩))
      go_ret
      exact ⟨rfl, hB⟩
    | false =>
      have hcv := conv_one w b
      have hB : Below w.heap.size w (w.alloc (.cells #[.int .u8 (b : Nat)] 5)) := (Below.refl _ _).alloc (Nat.le_refl _) _
      have e : (⟨(innB b).toArray⟩ : ByteArray) = ⟨#[b.toUInt8]⟩ := by unfold innB; rw [hv, hs]; rfl
      unfold RetS
      rw [e]
      rw [hs] at hw
      clear e
      generalize (⟨#[b.toUInt8]⟩ : ByteArray) = u at *
      go_enter Tryd.func45, Tryd.ntmps45
      go_wp2_with (go_at_call 59; refine (hw _).mono ?_; rintro e w' ⟨rfl, rfl⟩)
      go_ret
      exact ⟨rfl, hB⟩
end Go.Proofs.YthgjklhjfpillaaDoor
