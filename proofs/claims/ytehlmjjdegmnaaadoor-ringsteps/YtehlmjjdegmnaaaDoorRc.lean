/- The reference's Check and may: the walks. -/
import Derived.Test.YtehlmjjdegmnaaaDoorRb
namespace Go.Proofs.YtehlmjjdegmnaaaDoor
open Go.RowKit
set_option maxHeartbeats 400000 in
theorem rcheck_neg (n : Int) (ao : Option Addr) (len cap : Nat) (w : World) (h0 : n < 0) :
    Calls Tryd.prog 45 #[.agg #[.int .i64 n, .slice ao len cap]] w fun e w' => e = .returned (.int .i64 10) ∧ Below w.heap.size w w' := by
  have hd : decide (n < 0) = true := by simpa using h0
  go_enter Tryd.func45, Tryd.ntmps45
  go_wp2
  go_ret
  exact ⟨rfl, (Below.refl _ _).alloc (Nat.le_refl _) _⟩
set_option maxHeartbeats 400000 in
theorem rcheck_big (n : Int) (ao : Option Addr) (len cap : Nat) (w : World) (h0 : 8192 < n) :
    Calls Tryd.prog 45 #[.agg #[.int .i64 n, .slice ao len cap]] w fun e w' => e = .returned (.int .i64 10) ∧ Below w.heap.size w w' := by
  have hd : decide (n < 0) = false := by simp; omega
  have hd2 : decide (8192 < n) = true := by simp; omega
  go_enter Tryd.func45, Tryd.ntmps45
  go_wp2
  go_ret
  exact ⟨rfl, (Below.refl _ _).alloc (Nat.le_refl _) _⟩
set_option maxHeartbeats 400000 in
theorem rcheck_len (n : Int) (ao : Option Addr) (len cap : Nat) (w : World) (h0 : 0 ≤ n) (h1 : n ≤ 8192) (h2 : (len : Int) ≠ (n + 63) / 64) :
    Calls Tryd.prog 45 #[.agg #[.int .i64 n, .slice ao len cap]] w fun e w' => e = .returned (.int .i64 10) ∧ Below w.heap.size w w' := by
  have hd : decide (n < 0) = false := by simp; omega
  have hd2 : decide (8192 < n) = false := by simp; omega
  have hd3 : ((len : Int) != (n + 63) / 64) = true := by simpa using h2
  go_enter Tryd.func45, Tryd.ntmps45
  go_wp2
  go_ret
  exact ⟨rfl, (Below.refl _ _).alloc (Nat.le_refl _) _⟩
/-- What Check answers. -/
def RetCheck (w : World) (n : Int) (len : Nat) (f : Nat → Nat) (e : Ending) (w' : World) : Prop := ((Ok n len f ∧ e = .returned (.int .i64 0)) ∨ (¬ Ok n len f ∧ e = .returned (.int .i64 10))) ∧ Below w.heap.size w w'
set_option maxHeartbeats 400000 in
theorem rcheck_loop (n : Nat) (ao : Option Addr) (len cap : Nat) (f : Nat → Nat) (w : World) (hr : Rd w ao len f) (h1 : (n : Int) ≤ 8192) (h2 : (len : Int) = ((n : Int) + 63) / 64) :
    Calls Tryd.prog 45 #[.agg #[.int .i64 (n : Nat), .slice ao len cap]] w (RetCheck w n len f) := by
  have hd : decide ((n : Int) < 0) = false := by simp
  have hd2 : decide (8192 < (n : Int)) = false := by simp; omega
  have hd3 : ((len : Int) != ((n : Int) + 63) / 64) = false := by simpa using h2
  have hl : (len : Int) ≤ 128 := by omega
  have H2 : Hid ((len : Int) = ((n : Int) + 63) / 64) := h2
  clear h2
  have bx := Box.new w (.int .i64 (n : Nat)) (.slice ao len cap)
  have hB : Below w.heap.size w (w.alloc (.cells #[.int .i64 (n : Nat), .slice ao len cap] 29)) := (Below.refl _ _).alloc (Nat.le_refl _) _
  have hr1 := hr.below hB
  go_enter Tryd.func45, Tryd.ntmps45
  go_wp2_with fail
  generalize w.alloc (.cells #[.int .i64 (n : Nat), .slice ao len cap] 29) = wA at *
  obtain ⟨p0, p1, p2, p3⟩ := bx.cells
  go_loop [3] (fun i => ∃ j : Nat, n ≤ j ∧ j ≤ 64 * len ∧ i = .int .i64 j ∧ ∀ x, n ≤ x → x < j → bitAt f x = false) (fun i => 64 * len - (intOf i).toNat)
  case atStart => exact ⟨n, Nat.le_refl _, by have := H2.out; omega, rfl, fun x h h' => by omega⟩
  case round =>
    obtain ⟨j, hj1, hj2, rfl, hall⟩ := hrel
    have HA : Hid (∀ x, n ≤ x → x < j → bitAt f x = false) := hall
    clear hall
    by_cases hlt : j < 64 * len
    · have hlt2 : (j : Int) < 64 * (len : Int) := by omega
      cases hbit : bitAt f j with
      | false =>
        have HB : Hid (bitAt f j = false) := hbit
        clear hbit
        go_wp2_with fail
        refine (rin_rd cap hr1 j hlt (by omega)).mono ?_
        rintro e w' ⟨rfl, hw⟩
        subst hw
        rw [HB.out]
        go_wp2
        go_round
        case rel => exact ⟨j + 1, by omega, by omega, by go_num, fun x h h' => (if hx : x = j then by rw [hx]; exact HB.out else HA.out x h (by omega))⟩
        case measure => simp [intOf]; omega
      | true =>
        have HB : Hid (bitAt f j = true) := hbit
        clear hbit
        go_wp2_with fail
        refine (rin_rd cap hr1 j hlt (by omega)).mono ?_
        rintro e w' ⟨rfl, hw⟩
        subst hw
        rw [HB.out]
        go_wp2
        go_ret
        refine ⟨.inr ⟨fun hok => ?_, rfl⟩, hB⟩
        have := hok.2.2.2 j (by omega) hlt
        rw [HB.out] at this
        cases this
    · have hge : ¬ (j : Int) < 64 * (len : Int) := by omega
      go_wp2
      go_ret
      exact ⟨.inl ⟨⟨by omega, h1, H2.out, fun x h h' => HA.out x (by omega) (by omega)⟩, rfl⟩, hB⟩
theorem rcheck_any (n : Int) (ao : Option Addr) (len cap : Nat) (f : Nat → Nat) (w : World) (hr : Rd w ao len f) :
    Calls Tryd.prog 45 #[.agg #[.int .i64 n, .slice ao len cap]] w (RetCheck w n len f) := by
  by_cases h0 : n < 0
  · exact (rcheck_neg n ao len cap w h0).mono fun e w' ⟨he, hb⟩ => ⟨.inr ⟨fun h => by have := h.1; omega, he⟩, hb⟩
  by_cases h1 : 8192 < n
  · exact (rcheck_big n ao len cap w h1).mono fun e w' ⟨he, hb⟩ => ⟨.inr ⟨fun h => by have := h.2.1; omega, he⟩, hb⟩
  by_cases h2 : (len : Int) = (n + 63) / 64
  · obtain ⟨m, rfl⟩ := Int.eq_ofNat_of_zero_le (show 0 ≤ n by omega)
    exact rcheck_loop m ao len cap f w hr (by omega) h2
  · exact (rcheck_len n ao len cap w (by omega) (by omega) h2).mono fun e w' ⟨he, hb⟩ => ⟨.inr ⟨fun h => h2 h.2.2.1, he⟩, hb⟩

set_option maxHeartbeats 400000 in
theorem may_same (n : Int) (ao : Option Addr) (len cap : Nat) (f : Nat → Nat) (w : World) (hr : Rd w ao len f) (hok : Ok n len f) :
    Calls Tryd.prog 43 #[.agg #[.int .i64 n, .slice ao len cap]] w fun e w' => e = .returned (.agg #[.int .i64 n, .slice ao len cap]) ∧ Below w.heap.size w w' := by
  go_enter Tryd.func43, Tryd.ntmps43
  go_wp2_with fail
  refine (rcheck_any n ao len cap f _ ((hr.alloc _).alloc _)).mono ?_
  rintro e w1 ⟨he, hb⟩
  rcases he with ⟨_, rfl⟩ | ⟨hno, _⟩
  · obtain ⟨hc, hf⟩ := bcell hb
    have hz : w.heap.size + 2 ≤ w1.heap.size := by have := hb.size; simpa using this
    go_wp2
    refine bodyPost_ret (v := .agg #[.int .i64 n, .slice ao len cap]) (by simp [results, Tryd.results43, go_sem, hc]) rfl ⟨rfl, ?_⟩
    have hb' : Below w.heap.size w w1 := (((Below.refl _ _).alloc (Nat.le_refl _) _).alloc (by simp) _).trans (hb.mono (by simp; omega))
    exact (hb'.setCell (by simp) _).setCell (by simp) _
  · exact absurd hok hno
set_option maxHeartbeats 400000 in
theorem may_none (n : Int) (ao : Option Addr) (len cap : Nat) (f : Nat → Nat) (w : World) (hr : Rd w ao len f) (hok : ¬ Ok n len f) :
    Calls Tryd.prog 43 #[.agg #[.int .i64 n, .slice ao len cap]] w fun e w' => ∃ ao' cap', e = .returned (.agg #[.int .i64 0, .slice ao' 0 cap']) ∧ Below w.heap.size w w' := by
  go_enter Tryd.func43, Tryd.ntmps43
  go_wp2_with fail
  refine (rcheck_any n ao len cap f _ ((hr.alloc _).alloc _)).mono ?_
  rintro e w1 ⟨he, hb⟩
  rcases he with ⟨hyes, _⟩ | ⟨_, rfl⟩
  · exact absurd hyes hok
  · have b2 := (Box.new1 w (.cells #[.int .i64 n, .slice ao len cap] 29) (.int .i64 0) (.slice none 0 0)).below hb
    have hb' : Below w.heap.size w w1 := (((Below.refl _ _).alloc (Nat.le_refl _) _).alloc (by simp) _).trans (hb.mono (by simp; omega))
    clear hb
    go_wp2_with fail
    refine (rzero_any 0 _ (by decide)).mono ?_
    rintro e w2 ⟨ao2, len2, cap2, rfl, ho, hl, hb2⟩
    obtain rfl : len2 = 0 := hl
    have b2' := b2.below hb2
    have hb'' := hb'.trans (hb2.mono hb'.size)
    obtain ⟨c0, c1, f0, f1⟩ := b2'.cells
    rw [show ((0 : Nat) : Int) = 0 from rfl]
    clear hb2 b2
    go_wp2
    refine bodyPost_ret (v := .agg #[.int .i64 0, .slice ao2 0 cap2]) (by simp [results, Tryd.results43, go_sem, c0, c1]) rfl ⟨_, _, rfl, ?_⟩
    exact (hb''.setCell (p := ⟨w.heap.size + 1, 0, none⟩) (by simp) _).setCell (p := ⟨w.heap.size + 1, 1, none⟩) (by simp) _
/-- may of any value: the set that it stands for. -/
theorem may_any {w W : World} {x : Value} {n : Nat} {P : Nat → Bool} (h : Arg w x n P) (hw : Below w.heap.size w W) :
    Calls Tryd.prog 43 #[x] W fun e w' => ∃ ao len cap f, e = .returned (.agg #[.int .i64 (n : Nat), .slice ao len cap]) ∧ Rd w ao len f ∧ IsSet n len f P ∧ Below W.heap.size W w' := by
  obtain ⟨m, ao, len, cap, f, rfl, hr, h⟩ := h
  rcases h with ⟨rfl, hs⟩ | ⟨hn, rfl, rfl⟩
  · exact (may_same _ ao len cap f W (hr.below hw) hs.ok).mono fun e w' ⟨he, hb⟩ => ⟨ao, len, cap, f, he, hr, hs, hb⟩
  · exact (may_none _ ao len cap f W (hr.below hw) hn).mono fun e w' ⟨ao', cap', he, hb⟩ => ⟨ao', 0, cap', fun _ => 0, he, rd_none _ _ _, isSet_none, hb⟩
end Go.Proofs.YtehlmjjdegmnaaaDoor
