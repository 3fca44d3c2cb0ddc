/- sound, put, empty: the walks. -/
import Derived.Test.YtehlmjjdegmnaaaDoorChk
namespace Go.Proofs.YtehlmjjdegmnaaaDoor
open Go.RowKit
set_option maxHeartbeats 400000 in
theorem sound_same (n : Int) (ao : Option Addr) (len cap : Nat) (f : Nat → Nat) (w : World) (hr : Rd w ao len f) (hok : Ok n len f) :
    Calls Tryd.prog 40 #[.agg #[.int .i64 n, .slice ao len cap]] w fun e w' => e = .returned (.agg #[.int .i64 n, .slice ao len cap]) ∧ Below w.heap.size w w' := by
  go_enter Tryd.func40, Tryd.ntmps40
  go_wp2_with fail
  refine (check_ok n ao len cap f _ ((hr.alloc _).alloc _) hok).mono ?_
  rintro e w1 ⟨rfl, hb⟩
  obtain ⟨hc, hf⟩ := bcell hb
  have hz : w.heap.size + 2 ≤ w1.heap.size := by have := hb.size; simpa using this
  go_wp2
  refine bodyPost_ret (v := .agg #[.int .i64 n, .slice ao len cap]) (by simp [results, Tryd.results40, go_sem, hc]) rfl ⟨rfl, ?_⟩
  have hb' : Below w.heap.size w w1 := (((Below.refl _ _).alloc (Nat.le_refl _) _).alloc (by simp) _).trans (hb.mono (by simp; omega))
  exact (hb'.setCell (by simp) _).setCell (by simp) _
set_option maxHeartbeats 400000 in
theorem sound_none (n : Int) (ao : Option Addr) (len cap : Nat) (f : Nat → Nat) (w : World) (hr : Rd w ao len f) (hok : ¬ Ok n len f) :
    Calls Tryd.prog 40 #[.agg #[.int .i64 n, .slice ao len cap]] w fun e w' => e = .returned (.agg #[.int .i64 0, .slice none 0 0]) ∧ Below w.heap.size w w' := by
  go_enter Tryd.func40, Tryd.ntmps40
  go_wp2_with fail
  refine (check_bad n ao len cap f _ ((hr.alloc _).alloc _) hok).mono ?_
  rintro e w1 ⟨rfl, hb⟩
  obtain ⟨hc, hf⟩ := bcell hb
  have hz : w.heap.size + 2 ≤ w1.heap.size := by have := hb.size; simpa using this
  go_wp2
  refine bodyPost_ret (v := .agg #[.int .i64 0, .slice none 0 0]) (by simp [results, Tryd.results40, go_sem, hc]) rfl ⟨rfl, ?_⟩
  have hb' : Below w.heap.size w w1 := (((Below.refl _ _).alloc (Nat.le_refl _) _).alloc (by simp) _).trans (hb.mono (by simp; omega))
  exact (hb'.setCell (by simp) _).setCell (by simp) _

/-- sound of any value: the set that it stands for, in memory that was there. -/
theorem sound_any {w W : World} {x : Value} {n : Nat} {P : Nat → Bool} (h : Arg w x n P) (hw : Below w.heap.size w W) :
    Calls Tryd.prog 40 #[x] W fun e w' => ∃ ao len cap f, e = .returned (.agg #[.int .i64 (n : Nat), .slice ao len cap]) ∧ Rd w ao len f ∧ IsSet n len f P ∧ Below W.heap.size W w' := by
  obtain ⟨m, ao, len, cap, f, rfl, hr, h⟩ := h
  rcases h with ⟨rfl, hs⟩ | ⟨hn, rfl, rfl⟩
  · exact (sound_same _ ao len cap f W (hr.below hw) hs.ok).mono fun e w' ⟨he, hb⟩ => ⟨ao, len, cap, f, he, hr, hs, hb⟩
  · exact (sound_none _ ao len cap f W (hr.below hw) hn).mono fun e w' ⟨he, hb⟩ => ⟨none, 0, 0, fun _ => 0, he, rd_none _ _ _, isSet_none, hb⟩

theorem shl_one (k : Nat) : IntKind.u64.wrap (2 ^ (k % 64)) = ((2 ^ (k % 64) : Nat) : Int) := by
  have h : 2 ^ (k % 64) < 18446744073709551616 := pow_bit_lt (by omega)
  rw [IntKind.wrap_u64, Int.emod_eq_of_lt]
  · simp
  · have : (0 : Int) ≤ ((2 ^ (k % 64) : Nat) : Int) := Int.natCast_nonneg _
    simpa using this
  · have : ((2 ^ (k % 64) : Nat) : Int) < 18446744073709551616 := by omega
    simpa using this
theorem or_one (x k : Nat) (hx : x < 18446744073709551616) : bits .or .u64 (x : Int) (IntKind.u64.wrap (2 ^ (k % 64))) = ((x ||| 2 ^ (k % 64) : Nat) : Int) := by
  rw [shl_one, u64_or_nat _ _ hx (pow_bit_lt (by omega))]

set_option maxHeartbeats 400000 in
theorem put_in (n k b len cap : Nat) (x : Nat) (w : World) (hk : (k : Int) < (n : Int)) (hn : (n : Int) ≤ 8192) (hl : (k : Int) / 64 < (len : Int)) (hx : Hid (x < 18446744073709551616))
    (hc : w.cell? ⟨b, k / 64, none⟩ = some (.int .u64 x)) (hz : w.frozen? ⟨b, k / 64, none⟩ = false) (hb : b < w.heap.size) :
    Calls Tryd.prog 48 #[.agg #[.int .i64 n, .slice (some ⟨b, 0, none⟩) len cap], .int .i64 k] w fun e w' => e = .returned (.tuple #[]) ∧ ∃ o q, w' = ((w.setCell ⟨b, k / 64, none⟩ (.int .u64 (x ||| 2 ^ (k % 64) : Nat))).alloc o).drewN q := by
  go_enter Tryd.func48, Tryd.ntmps48
  go_wp2
  go_region
  go_end0
  rw [or_one x k hx]
  exact ⟨rfl, _, 1, rfl⟩
set_option maxHeartbeats 400000 in
theorem put_out (n : Nat) (k : Int) (ao : Option Addr) (len cap : Nat) (w : World) (hk : k < 0 ∨ (n : Int) ≤ k) :
    Calls Tryd.prog 48 #[.agg #[.int .i64 n, .slice ao len cap], .int .i64 k] w fun e w' => e = .returned (.tuple #[]) ∧ ∃ o, w' = w.alloc o := by
  rcases hk with hk | hk
  all_goals
    go_enter Tryd.func48, Tryd.ntmps48
    go_wp2
  all_goals try omega
  all_goals
    go_end0
    exact ⟨rfl, _, rfl⟩

theorem bitAt_upd_or (f : Nat → Nat) (k i : Nat) : bitAt (upd f (k / 64) (f (k / 64) ||| 2 ^ (k % 64))) i = (bitAt f i || decide (i = k)) := by
  unfold bitAt upd
  by_cases h : i / 64 = k / 64
  · rw [if_pos h, Nat.testBit_or, h, Nat.testBit_two_pow]
    congr 1
    rw [decide_eq_decide]; omega
  · rw [if_neg h, decide_eq_false (by omega), Bool.or_false]

/-- put: the number k is in it from now on, if it is from 0 to n - 1; nothing else turns. -/
theorem put_any {B : Nat} {w : World} {n : Nat} {ao : Option Addr} {len cap : Nat} {f : Nat → Nat} {P : Nat → Bool} (k : Int) (ho : Own B w ao len f) (hs : IsSet n len f P) :
    Calls Tryd.prog 48 #[.agg #[.int .i64 (n : Nat), .slice ao len cap], .int .i64 k] w fun e w' => e = .returned (.tuple #[]) ∧
      ∃ g, Own B w' ao len g ∧ IsSet n len g (fun i => P i || decide ((i : Int) = k ∧ i < n)) ∧ But ao w w' := by
  by_cases hk : k < 0 ∨ (n : Int) ≤ k
  · refine (put_out n k ao len cap w hk).mono fun e w' ⟨he, o, hw⟩ => ⟨he, f, ?_, ⟨hs.hle, hs.hlen, fun i hi => ?_, fun i hi => ?_⟩, ?_⟩
    · rw [hw]; exact ho.alloc o
    · rw [hs.hbit i hi, decide_eq_false (by omega), Bool.or_false]
    · rw [hs.hout i hi, decide_eq_false (by omega), Bool.or_false]
    · rw [hw]; exact (But.refl _ _).alloc o
  · obtain ⟨j, rfl⟩ := Int.eq_ofNat_of_zero_le (show 0 ≤ k by omega)
    have hle := hs.hle
    have hlen := hs.hlen
    obtain ⟨b, rfl, hc⟩ := ho.at_ (by omega)
    have hj := hc (j / 64) (by omega)
    have hv : f (j / 64) ||| 2 ^ (j % 64) < 18446744073709551616 := or_lt (ho.small _ (by omega)) (pow_bit_lt (by omega))
    refine (put_in n j b len cap (f (j / 64)) w (by omega) (by omega) (by omega) (ho.small _ (by omega)) hj.1 hj.2 (ho.lt _ rfl).1).mono fun e w' ⟨he, o, q, hw⟩ =>
      ⟨he, upd f (j / 64) (f (j / 64) ||| 2 ^ (j % 64)), ?_, ⟨hle, hlen, fun i hi => ?_, fun i hi => ?_⟩, ?_⟩
    · rw [hw]; exact ((ho.set rfl (by omega) hv).alloc o).drewN q
    · rw [bitAt_upd_or, hs.hbit i hi]
      congr 1
      rw [decide_eq_decide]; omega
    · rw [hs.hout i hi, decide_eq_false (by omega), Bool.or_false]
    · rw [hw]; exact ((((But.refl _ _).setCell (p := ⟨b, j / 64, none⟩) (.inl ⟨⟨b, 0, none⟩, rfl, rfl⟩) _).alloc o).drewN q)
end Go.Proofs.YtehlmjjdegmnaaaDoor
