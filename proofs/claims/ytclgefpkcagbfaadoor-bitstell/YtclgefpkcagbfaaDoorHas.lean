/- Has: the walk. -/
import Derived.Test.YtclgefpkcagbfaaDoorTwo
namespace Go.Proofs.YtclgefpkcagbfaaDoor
open Go.RowKit
theorem has_bit (x j : Nat) (hx : x < 18446744073709551616) : (bits BinOp.and IntKind.u64 ((x : Int) / 2 ^ j) 1 == 1) = x.testBit j := by
  have e : (x : Int) / 2 ^ j = ((x / 2 ^ j : Nat) : Int) := by rw [Int.natCast_ediv, Int.natCast_pow]; rfl
  have h1 : x / 2 ^ j < 18446744073709551616 := Nat.lt_of_le_of_lt (Nat.div_le_self _ _) hx
  rw [e, show (1 : Int) = ((1 : Nat) : Int) from rfl, u64_and_nat _ _ h1 (by decide), nat_mask1, Nat.testBit_eq_decide_div_mod_eq]
  rw [Bool.eq_iff_iff]
  simp
  omega
set_option maxHeartbeats 400000 in
theorem has_out {w : World} {x : Value} {n : Nat} {P : Nat → Bool} (k : Int) (h : Arg w x n P) (hk : k < 0 ∨ (n : Int) ≤ k) :
    Calls Tryd.prog 18 #[x, .int .i64 k] w fun e w' => e = .returned (.bool false) ∧ Below w.heap.size w w' := by
  obtain ⟨m, a0, l0, c0, rfl⟩ := h.shape
  have hB0 : Below w.heap.size w (w.alloc (.cells #[.int .i64 m, .slice a0 l0 c0] 24)) := (Below.refl _ _).alloc (Nat.le_refl _) _
  go_enter Tryd.func18, Tryd.ntmps18
  go_wp2_with fail
  refine (sound_any h hB0).mono ?_
  rintro e w1 ⟨ao, len, cap, f, rfl, hr, hs, hb⟩
  clear h
  have b1 := (Box.new w (.int .i64 m) (.slice a0 l0 c0)).below hb
  have hB1 : Below w.heap.size w w1 := hB0.trans (hb.mono (by simp))
  clear hB0 hb
  obtain ⟨c10, c11, f10, f11⟩ := b1.cells
  have hB2 : Hid (∀ u v, Below w.heap.size w ((w1.setCell ⟨w.heap.size, 0, none⟩ u).setCell ⟨w.heap.size, 1, none⟩ v)) := fun u v => (hB1.setCell (p := ⟨w.heap.size, 0, none⟩) (by simp) _).setCell (p := ⟨w.heap.size, 1, none⟩) (by simp) _
  rcases hk with hk | hk
  · have hd : decide (0 ≤ k) = false := by simp; omega
    go_wp2
    go_ret
    exact ⟨rfl, hB2.out _ _⟩
  · have hd : decide (0 ≤ k) = true := by simp; omega
    have hd2 : decide (k < (n : Int)) = false := by simp; omega
    go_wp2
    go_ret
    exact ⟨rfl, hB2.out _ _⟩
set_option maxHeartbeats 400000 in
theorem has_in {w : World} {x : Value} {n : Nat} {P : Nat → Bool} (k : Nat) (h : Arg w x n P) (hk : k < n) :
    Calls Tryd.prog 18 #[x, .int .i64 (k : Nat)] w fun e w' => e = .returned (.bool (P k)) ∧ Below w.heap.size w w' := by
  obtain ⟨m, a0, l0, c0, rfl⟩ := h.shape
  have hB0 : Below w.heap.size w (w.alloc (.cells #[.int .i64 m, .slice a0 l0 c0] 24)) := (Below.refl _ _).alloc (Nat.le_refl _) _
  go_enter Tryd.func18, Tryd.ntmps18
  go_wp2_with fail
  refine (sound_any h hB0).mono ?_
  rintro e w1 ⟨ao, len, cap, f, rfl, hr, hs, hb⟩
  clear h
  have b1 := (Box.new w (.int .i64 m) (.slice a0 l0 c0)).below hb
  have hB1 : Below w.heap.size w w1 := hB0.trans (hb.mono (by simp))
  clear hB0 hb
  obtain ⟨c10, c11, f10, f11⟩ := b1.cells
  have hB2 : Hid (∀ u v, Below w.heap.size w ((w1.setCell ⟨w.heap.size, 0, none⟩ u).setCell ⟨w.heap.size, 1, none⟩ v)) := fun u v => (hB1.setCell (p := ⟨w.heap.size, 0, none⟩) (by simp) _).setCell (p := ⟨w.heap.size, 1, none⟩) (by simp) _
  have hle := hs.hle
  have hlen := hs.hlen
  obtain ⟨b, off, rfl, hb, hc⟩ := hr.at_ (by omega)
  have hck := hc (k / 64) (by omega)
  have hbne : b ≠ w.heap.size := by omega
  have hb1 : b < w1.heap.size := by have := hB1.size; omega
  have hck1 : w1.cell? ⟨b, off + k / 64, none⟩ = some (.int .u64 (f (k / 64) : Nat)) := by rw [hB1.cell (p := ⟨b, off + k / 64, none⟩) hb]; exact hck
  have hkn : (k : Int) < (n : Int) := by omega
  have hkl : (k : Int) / 64 < (len : Int) := by omega
  have hn2 : (n : Int) ≤ 8192 := by omega
  have HS : Hid (IsSet n len f P) := hs
  have HR : Hid (Rd w (some ⟨b, off, none⟩) len f) := hr
  clear hs hlen hc hck hr hB1 b1 hk
  have hd : decide (0 ≤ (k : Int)) = true := by simp
  have hd2 : decide ((k : Int) < (n : Int)) = true := by simp; omega
  go_wp2
  go_ret
  refine ⟨?_, hB2.out _ _⟩
  have e : (bits BinOp.and IntKind.u64 (((f (k / 64) : Nat) : Int) / 2 ^ (k % 64)) 1 == 1) = P k := by
    rw [has_bit _ _ (HR.out.small _ (by omega)), ← HS.out.hbit k (by have := HS.out.hlen; omega)]; rfl
  exact congrArg (fun b => Ending.returned (Value.bool b)) e
/-- Has. -/
theorem has_any {w : World} {x : Value} {n : Nat} {P : Nat → Bool} (k : Int) (h : Arg w x n P) :
    Calls Tryd.prog 18 #[x, .int .i64 k] w fun e w' => e = .returned (.bool (decide (0 ≤ k) && decide (k < n) && P k.toNat)) ∧ Below w.heap.size w w' := by
  by_cases hk : k < 0 ∨ (n : Int) ≤ k
  · have e : (decide (0 ≤ k) && decide (k < n) && P k.toNat) = false := by
      rcases hk with hk | hk
      · rw [decide_eq_false (by omega)]; rfl
      · rw [decide_eq_false (p := k < n) (by omega)]; simp
    rw [e]; exact has_out k h hk
  · obtain ⟨j, rfl⟩ := Int.eq_ofNat_of_zero_le (show 0 ≤ k by omega)
    have e : (decide ((0 : Int) ≤ (j : Nat)) && decide (((j : Nat) : Int) < n) && P ((j : Nat) : Int).toNat) = P j := by
      rw [decide_eq_true (by omega), decide_eq_true (p := ((j : Nat) : Int) < n) (by omega), Int.toNat_natCast]; simp
    rw [e]; exact has_in j h (by omega)
end Go.Proofs.YtclgefpkcagbfaaDoor
