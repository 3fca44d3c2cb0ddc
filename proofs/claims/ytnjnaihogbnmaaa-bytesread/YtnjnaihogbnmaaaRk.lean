/- The reference's in and Check: the walks. -/
import Derived.Test.YtnjnaihogbnmaaaNl
namespace Go.Proofs.Ytnjnaihogbnmaaa
open Go.RowKit
theorem has_bit (x j : Nat) (hx : x < 18446744073709551616) : (bits BinOp.and IntKind.u64 ((x : Int) / 2 ^ j) 1 == 1) = x.testBit j := by
  have e : (x : Int) / 2 ^ j = ((x / 2 ^ j : Nat) : Int) := by rw [Int.natCast_ediv, Int.natCast_pow]; rfl
  have h1 : x / 2 ^ j < 18446744073709551616 := Nat.lt_of_le_of_lt (Nat.div_le_self _ _) hx
  rw [e, show (1 : Int) = ((1 : Nat) : Int) from rfl, u64_and_nat _ _ h1 (by decide), nat_mask1, Nat.testBit_eq_decide_div_mod_eq]
  rw [Bool.eq_iff_iff]
  simp
  omega
set_option maxHeartbeats 400000 in
theorem rin_any (b off len cap k : Nat) (f : Nat → Nat) (w : World) (hk : (k : Int) ≤ 8192) (hl : (k : Int) / 64 < (len : Int)) (hx : Hid (f (k / 64) < 18446744073709551616)) (hc : w.cell? ⟨b, off + k / 64, none⟩ = some (.int .u64 (f (k / 64) : Nat))) :
    Calls Try.prog 47 #[.slice (some ⟨b, off, none⟩) len cap, .int .i64 (k : Nat)] w fun e w' => e = .returned (.bool (bitAt f k)) ∧ w' = w := by
  go_enter Try.func47, Try.ntmps47
  go_wp2
  go_ret
  exact ⟨congrArg (fun b => Ending.returned (Value.bool b)) (has_bit _ _ hx), rfl⟩
/-- in, of a row that can be read. -/
theorem rin_rd {w : World} {ao : Option Addr} {len : Nat} (cap : Nat) {f : Nat → Nat} (hr : RdU w ao len f) (k : Nat) (hk : k < 64 * len) (hk2 : k ≤ 8192) :
    Calls Try.prog 47 #[.slice ao len cap, .int .i64 (k : Nat)] w fun e w' => e = .returned (.bool (bitAt f k)) ∧ w' = w := by
  obtain ⟨b, off, rfl, hb, hc⟩ := hr.at_ (by omega)
  exact rin_any b off len cap k f w (by omega) (by omega) (hr.small _ (by omega)) (hc _ (by omega))
set_option maxHeartbeats 400000 in
theorem rcheck_neg (n : Int) (ao : Option Addr) (len cap : Nat) (w : World) (h0 : n < 0) :
    Calls Try.prog 30 #[.agg #[.int .i64 n, .slice ao len cap]] w fun e w' => e = .returned (.int .i64 10) ∧ Below w.heap.size w w' := by
  have hd : decide (n < 0) = true := by simpa using h0
  go_enter Try.func30, Try.ntmps30
  go_wp2
  go_ret
  exact ⟨rfl, (Below.refl _ _).alloc (Nat.le_refl _) _⟩
set_option maxHeartbeats 400000 in
theorem rcheck_big (n : Int) (ao : Option Addr) (len cap : Nat) (w : World) (h0 : 8192 < n) :
    Calls Try.prog 30 #[.agg #[.int .i64 n, .slice ao len cap]] w fun e w' => e = .returned (.int .i64 10) ∧ Below w.heap.size w w' := by
  have hd : decide (n < 0) = false := by simp; omega
  have hd2 : decide (8192 < n) = true := by simp; omega
  go_enter Try.func30, Try.ntmps30
  go_wp2
  go_ret
  exact ⟨rfl, (Below.refl _ _).alloc (Nat.le_refl _) _⟩
set_option maxHeartbeats 400000 in
theorem rcheck_len (n : Int) (ao : Option Addr) (len cap : Nat) (w : World) (h0 : 0 ≤ n) (h1 : n ≤ 8192) (h2 : (len : Int) ≠ (n + 63) / 64) :
    Calls Try.prog 30 #[.agg #[.int .i64 n, .slice ao len cap]] w fun e w' => e = .returned (.int .i64 10) ∧ Below w.heap.size w w' := by
  have hd : decide (n < 0) = false := by simp; omega
  have hd2 : decide (8192 < n) = false := by simp; omega
  have hd3 : ((len : Int) != (n + 63) / 64) = true := by simpa using h2
  go_enter Try.func30, Try.ntmps30
  go_wp2
  go_ret
  exact ⟨rfl, (Below.refl _ _).alloc (Nat.le_refl _) _⟩
/-- What Check answers. -/
def RetCheck (w : World) (n : Int) (len : Nat) (f : Nat → Nat) (e : Ending) (w' : World) : Prop := ((Ok n len f ∧ e = .returned (.int .i64 0)) ∨ (¬ Ok n len f ∧ e = .returned (.int .i64 10))) ∧ Below w.heap.size w w'
set_option maxHeartbeats 400000 in
theorem rcheck_loop (n : Nat) (ao : Option Addr) (len cap : Nat) (f : Nat → Nat) (w : World) (hr : RdU w ao len f) (h1 : (n : Int) ≤ 8192) (h2 : (len : Int) = ((n : Int) + 63) / 64) :
    Calls Try.prog 30 #[.agg #[.int .i64 (n : Nat), .slice ao len cap]] w (RetCheck w n len f) := by
  have hd : decide ((n : Int) < 0) = false := by simp
  have hd2 : decide (8192 < (n : Int)) = false := by simp; omega
  have hd3 : ((len : Int) != ((n : Int) + 63) / 64) = false := by simpa using h2
  have hl : (len : Int) ≤ 128 := by omega
  have H2 : Hid ((len : Int) = ((n : Int) + 63) / 64) := h2
  clear h2
  have bx := Box.new w (.int .i64 (n : Nat)) (.slice ao len cap)
  have hB : Below w.heap.size w (w.alloc (.cells #[.int .i64 (n : Nat), .slice ao len cap] 25)) := (Below.refl _ _).alloc (Nat.le_refl _) _
  have hr1 := hr.below hB
  go_enter Try.func30, Try.ntmps30
  go_wp2_with fail
  generalize w.alloc (.cells #[.int .i64 (n : Nat), .slice ao len cap] 25) = wA at *
  obtain ⟨p0, p1, p2, p3⟩ := bx.cells
  go_loop [3] (fun i => ∃ j : Nat, n ≤ j ∧ j ≤ 64 * len ∧ i = .int .i64 j ∧ ∀ x, n ≤ x → x < j → bitAt f x = false) (fun i => 64 * len - (intOf i).toNat)
  case atStart => exact ⟨n, Nat.le_refl _, by have := H2.out; omega, rfl, fun x h h' => by omega⟩
  case round =>
    obtain ⟨j, hj1, hj2, rfl, hall⟩ := hrel
    have HA : Hid (∀ x, n ≤ x → x < j → bitAt f x = false) := hall
    clear hall
    by_cases hlt : j < 64 * len
    · have hlt2 : (j : Int) < 64 * (len : Int) := by omega
      cases hbit : bitAt f j with
      | false =>
        have HB : Hid (bitAt f j = false) := hbit
        clear hbit
        go_wp2_with fail
        refine (rin_rd cap hr1 j hlt (by omega)).mono ?_
        rintro e w' ⟨rfl, hw⟩
        subst hw
        rw [HB.out]
        go_wp2
        go_round
        case rel => exact ⟨j + 1, by omega, by omega, by go_num, fun x h h' => (if hx : x = j then by rw [hx]; exact HB.out else HA.out x h (by omega))⟩
        case measure => simp [intOf]; omega
      | true =>
        have HB : Hid (bitAt f j = true) := hbit
        clear hbit
        go_wp2_with fail
        refine (rin_rd cap hr1 j hlt (by omega)).mono ?_
        rintro e w' ⟨rfl, hw⟩
        subst hw
        rw [HB.out]
        go_wp2
        go_ret
        refine ⟨.inr ⟨fun hok => ?_, rfl⟩, hB⟩
        have := hok.2.2.2 j (by omega) hlt
        rw [HB.out] at this
        cases this
    · have hge : ¬ (j : Int) < 64 * (len : Int) := by omega
      go_wp2
      go_ret
      exact ⟨.inl ⟨⟨by omega, h1, H2.out, fun x h h' => HA.out x (by omega) (by omega)⟩, rfl⟩, hB⟩
theorem rcheck_any (n : Int) (ao : Option Addr) (len cap : Nat) (f : Nat → Nat) (w : World) (hr : RdU w ao len f) :
    Calls Try.prog 30 #[.agg #[.int .i64 n, .slice ao len cap]] w (RetCheck w n len f) := by
  by_cases h0 : n < 0
  · exact (rcheck_neg n ao len cap w h0).mono fun e w' ⟨he, hb⟩ => ⟨.inr ⟨fun h => by have := h.1; omega, he⟩, hb⟩
  by_cases h1 : 8192 < n
  · exact (rcheck_big n ao len cap w h1).mono fun e w' ⟨he, hb⟩ => ⟨.inr ⟨fun h => by have := h.2.1; omega, he⟩, hb⟩
  by_cases h2 : (len : Int) = (n + 63) / 64
  · obtain ⟨m, rfl⟩ := Int.eq_ofNat_of_zero_le (show 0 ≤ n by omega)
    exact rcheck_loop m ao len cap f w hr (by omega) h2
  · exact (rcheck_len n ao len cap w (by omega) (by omega) h2).mono fun e w' ⟨he, hb⟩ => ⟨.inr ⟨fun h => h2 h.2.2.1, he⟩, hb⟩

end Go.Proofs.Ytnjnaihogbnmaaa
