/- First: the walk. -/
import Derived.Test.YtclgefpkcagbfaaDoorAl
namespace Go.Proofs.YtclgefpkcagbfaaDoor
open Go.RowKit
/-- k is the least number from a on that P tells. -/
structure IsF (P : Nat → Bool) (a k : Nat) : Prop where
  le : a ≤ k
  yes : P k = true
  no : ∀ j, a ≤ j → j < k → P j = false
theorem IsF.uniq {P : Nat → Bool} {a k l : Nat} (h : IsF P a k) (h' : IsF P a l) : k = l := by
  rcases Nat.lt_trichotomy k l with hlt | rfl | hlt
  · have := h'.no k h.le hlt; rw [h.yes] at this; cases this
  · rfl
  · have := h.no l h'.le hlt; rw [h'.yes] at this; cases this
/-- What First answers. -/
def RetF (w : World) (P : Nat → Bool) (a : Nat) (e : Ending) (w' : World) : Prop :=
  ((∃ k : Nat, e = .returned (.tuple #[.int .i64 (k : Nat), .bool true]) ∧ IsF P a k) ∨ (e = .returned (.tuple #[.int .i64 0, .bool false]) ∧ ∀ j, a ≤ j → P j = false)) ∧ Below w.heap.size w w'
/-- The loop of First. -/
structure RelF (P : Nat → Bool) (a len i v : Nat) : Prop where
  lt : i < len
  small : v < 18446744073709551616
  no : ∀ j, a ≤ j → j < 64 * i → P j = false
  bit : ∀ s, s < 64 → v.testBit s = (decide (a ≤ 64 * i + s) && P (64 * i + s))
theorem cut_bit (x r s : Nat) : (x / 2 ^ r * 2 ^ r).testBit s = (decide (r ≤ s) && x.testBit s) := by
  rw [← Nat.shiftLeft_eq, Nat.testBit_shiftLeft, Nat.testBit_div_two_pow]
  by_cases h : r ≤ s
  · rw [decide_eq_true h, show s - r + r = s by omega]
  · rw [decide_eq_false h]; rfl
theorem cut_val (x r : Nat) (hx : x < 18446744073709551616) : IntKind.u64.wrap ((x : Int) / 2 ^ r * 2 ^ r) = ((x / 2 ^ r * 2 ^ r : Nat) : Int) := by
  have h : x / 2 ^ r * 2 ^ r ≤ x := Nat.div_mul_le_self _ _
  have e : (x : Int) / 2 ^ r * 2 ^ r = ((x / 2 ^ r * 2 ^ r : Nat) : Int) := by
    rw [Int.natCast_mul, Int.natCast_ediv, Int.natCast_pow]; rfl
  rw [e, IntKind.wrap_u64]
  omega
theorem bit_set {n len : Nat} {f : Nat → Nat} {P : Nat → Bool} (h : IsSet n len f P) {i s : Nat} (hi : i < len) (hs : s < 64) : (f i).testBit s = P (64 * i + s) := by
  have := h.hbit (64 * i + s) (by omega)
  unfold bitAt at this
  rwa [show (64 * i + s) / 64 = i by omega, show (64 * i + s) % 64 = s by omega] at this
theorem RelF.start {n len a : Nat} {f : Nat → Nat} {P : Nat → Bool} (h : IsSet n len f P) (hf : ∀ i, i < len → f i < 18446744073709551616) (ha : a < n) : RelF P a len (a / 64) (f (a / 64) / 2 ^ (a % 64) * 2 ^ (a % 64)) := by
  have hl := h.hlen
  refine ⟨by omega, Nat.lt_of_le_of_lt (Nat.div_mul_le_self _ _) (hf _ (by omega)), fun j h1 h2 => by omega, fun s hs => ?_⟩
  rw [cut_bit, bit_set h (by omega) hs]
  congr 1
  rw [decide_eq_decide]; omega
theorem RelF.next {n len a i : Nat} {f : Nat → Nat} {P : Nat → Bool} (h : IsSet n len f P) (hf : ∀ i, i < len → f i < 18446744073709551616) (r : RelF P a len i 0) (hi : i + 1 < len) (ha : a < 64 * (i + 1)) : RelF P a len (i + 1) (f (i + 1)) := by
  refine ⟨hi, hf _ hi, fun j h1 h2 => ?_, fun s hs => ?_⟩
  · by_cases hj : j < 64 * i
    · exact r.no j h1 hj
    · have := r.bit (j - 64 * i) (by omega)
      rw [Nat.zero_testBit, show 64 * i + (j - 64 * i) = j by omega, decide_eq_true h1, Bool.true_and] at this
      exact this.symm
  · rw [bit_set h hi hs, decide_eq_true (by omega), Bool.true_and]
theorem RelF.none {n len a i : Nat} {f : Nat → Nat} {P : Nat → Bool} (h : IsSet n len f P) (r : RelF P a len i 0) (hi : i + 1 = len) : ∀ j, a ≤ j → P j = false := by
  intro j h1
  have hl := h.hlen
  by_cases hj : j < 64 * i
  · exact r.no j h1 hj
  · by_cases hj2 : j < 64 * (i + 1)
    · have := r.bit (j - 64 * i) (by omega)
      rw [Nat.zero_testBit, show 64 * i + (j - 64 * i) = j by omega, decide_eq_true h1, Bool.true_and] at this
      exact this.symm
    · exact h.hout j (by omega)
theorem RelF.found {len a i v k : Nat} {P : Nat → Bool} (r : RelF P a len i v) (h : Low v k) (hk : k < 64) : IsF P a (64 * i + k) := by
  have h1 := r.bit k hk
  rw [h.yes] at h1
  have h2 : a ≤ 64 * i + k ∧ P (64 * i + k) = true := by
    have := h1.symm
    rw [Bool.and_eq_true, decide_eq_true_iff] at this
    exact this
  refine ⟨h2.1, h2.2, fun j h3 h4 => ?_⟩
  by_cases hj : j < 64 * i
  · exact r.no j h3 hj
  · have := r.bit (j - 64 * i) (by omega)
    rw [h.no _ (by omega), show 64 * i + (j - 64 * i) = j by omega, decide_eq_true h3, Bool.true_and] at this
    exact this.symm
set_option maxRecDepth 10000 in
set_option maxHeartbeats 1000000 in
theorem first_nat {w : World} {x : Value} {n : Nat} {P : Nat → Bool} (z : Int) (a : Nat) (hz : (if z < 0 then 0 else z) = (a : Int)) (h : Arg w x n P) (hT : Tab w) : Calls Tryd.prog 7 #[x, .int .i64 z] w (RetF w P a) := by
  obtain ⟨m, a0, l0, c0, rfl⟩ := h.shape
  have hB0 : Below w.heap.size w (w.alloc (.cells #[.int .i64 m, .slice a0 l0 c0] 24)) := (Below.refl _ _).alloc (Nat.le_refl _) _
  go_enter Tryd.func7, Tryd.ntmps7
  go_wp2_with fail
  refine (sound_any h hB0).mono ?_
  rintro e w1 ⟨ao, len, cap, f, rfl, hr, hs, hb⟩
  clear h
  have b1 := (Box.new w (.int .i64 m) (.slice a0 l0 c0)).below hb
  have hB1 : Below w.heap.size w w1 := hB0.trans (hb.mono (by simp))
  clear hB0 hb
  obtain ⟨c10, c11, f10, f11⟩ := b1.cells
  have hB2 : Hid (∀ u v, Below w.heap.size w ((w1.setCell ⟨w.heap.size, 0, none⟩ u).setCell ⟨w.heap.size, 1, none⟩ v)) := fun u v => (hB1.setCell (p := ⟨w.heap.size, 0, none⟩) (by simp) _).setCell (p := ⟨w.heap.size, 1, none⟩) (by simp) _
  by_cases ha : a < n
  · have hle := hs.hle
    have hlen := hs.hlen
    obtain ⟨b, off, rfl, hbb, hc⟩ := hr.at_ (by omega)
    have hbne : b ≠ w.heap.size := by omega
    have hb1 : b < w1.heap.size := by have := hB1.size; omega
    have hcs : ∀ j, j < len → w1.cell? ⟨b, off + j, none⟩ = some (.int .u64 (f j : Nat)) := fun j hj => by rw [hB1.cell (p := ⟨b, off + j, none⟩) hbb]; exact hc j hj
    have HC : Hid (∀ j, j < len → w1.cell? ⟨b, off + j, none⟩ = some (.int .u64 (f j : Nat))) := hcs
    have hck := hcs (a / 64) (by omega)
    have hkl : (a : Int) / 64 < (len : Int) := by omega
    have hl8 : (len : Int) ≤ 128 := by omega
    have hd : decide ((n : Int) ≤ (a : Int)) = false := by simp; omega
    have R0 := RelF.start hs hr.small ha
    have HV : Hid (IntKind.u64.wrap (((f (a / 64) : Nat) : Int) / 2 ^ (a % 64) * 2 ^ (a % 64)) = ((f (a / 64) / 2 ^ (a % 64) * 2 ^ (a % 64) : Nat) : Int)) := cut_val _ _ (hr.small _ (by omega))
    have HS : Hid (IsSet n len f P) := hs
    have HR : Hid (∀ i, i < len → f i < 18446744073709551616) := hr.small
    have HB : Hid (Below w.heap.size w w1) := hB1
    have HL : Hid (len = (n + 63) / 64) := hlen
    clear hcs hc hs hr hB1 hlen
    go_wp2_with fail
    have E : Hid (∃ W2, ((w1.setCell ⟨w.heap.size, 0, none⟩ (.int .i64 (n : Nat))).setCell ⟨w.heap.size, 1, none⟩ (.slice (some ⟨b, off, none⟩) len cap)) = W2) := ⟨_, rfl⟩
    have hBW : Hid (Below w.heap.size w ((w1.setCell ⟨w.heap.size, 0, none⟩ (.int .i64 (n : Nat))).setCell ⟨w.heap.size, 1, none⟩ (.slice (some ⟨b, off, none⟩) len cap))) := hB2.out _ _
    have bW := b1.set (.int .i64 (n : Nat)) (.slice (some ⟨b, off, none⟩) len cap)
    have HCW : Hid (∀ j, j < len → ((w1.setCell ⟨w.heap.size, 0, none⟩ (.int .i64 (n : Nat))).setCell ⟨w.heap.size, 1, none⟩ (.slice (some ⟨b, off, none⟩) len cap)).cell? ⟨b, off + j, none⟩ = some (.int .u64 (f j : Nat))) := fun j hj => by
      rw [← HC.out j hj]
      exact World.cell?_of_block (by rw [Below.heap_setCell _ _ _ _ hbne, Below.heap_setCell _ _ _ _ hbne])
    rw [HV.out]
    clear hB2 b1 c10 c11 f10 f11 hck HC HB HV hb1
    generalize ((w1.setCell ⟨w.heap.size, 0, none⟩ (.int .i64 (n : Nat))).setCell ⟨w.heap.size, 1, none⟩ (.slice (some ⟨b, off, none⟩) len cap)) = W2 at *
    have hTW := hT.below hBW.out
    obtain ⟨c10, c11, f10, f11⟩ := bW.cells
    clear E hd hz
    go_loopw [6, 7] (fun i u wr => ∃ k v : Nat, i = .int .i64 (k : Nat) ∧ u = .int .u64 (v : Nat) ∧ RelF P a len k v ∧ a < 64 * (k + 1) ∧ wr = W2) (fun i _ _ => len - (intOf i).toNat)
    case atStart => exact ⟨a / 64, _, by simp, rfl, R0, by omega, rfl⟩
    case round =>
      obtain ⟨k, v, rfl, rfl, R, hak, rfl⟩ := hrel
      have hklt := R.lt
      by_cases hv0 : v = 0
      · subst hv0
        by_cases hl : k + 1 = len
        · have hno : Hid (∀ j, a ≤ j → P j = false) := R.none HS.out hl
          have he : (((k : Int) + 1) == (len : Int)) = true := by simp; omega
          go_wp2
          exact bodyPost_ret (v := .tuple #[.int .i64 0, .bool false]) (by simp [results, Tryd.results7, go_sem]) rfl ⟨.inr ⟨rfl, hno.out⟩, hBW.out⟩
        · have he : (((k : Int) + 1) == (len : Int)) = false := by simp; omega
          have t1 := HCW.out (k + 1) (by omega)
          have R1 := R.next HS.out HR.out (by omega) hak
          have hk1 : ((k : Int) + 1) < (len : Int) := by omega
          go_wp2
          go_roundw
          case rel => exact ⟨k + 1, f (k + 1), by simp, rfl, R1, by omega, (by first | trivial | rfl)⟩
          case measure => simp [intOf]; omega
      · obtain ⟨kk, hkk, hlow⟩ := low_ex 64 v R.small hv0
        have hF := R.found hlow hkk
        have hv := R.small
        have hnz : ((v : Int) == 0) = false := by simpa using hv0
        have hcast : ((64 * k + kk : Nat) : Int) = (k : Int) * 64 + kk := by omega
        go_wp2_with (go_at_call 22; refine (tz_any v kk _ hTW hlow hv).mono ?_; rintro e w' ⟨rfl, rfl⟩)
        exact bodyPost_ret (v := .tuple #[.int .i64 ((k : Int) * 64 + kk), .bool true]) (by simp [results, Tryd.results7, go_sem]) rfl ⟨.inl ⟨64 * k + kk, by rw [hcast], hF⟩, hBW.out⟩
  · have hd : decide ((n : Int) ≤ (a : Int)) = true := by simp; omega
    have hno : Hid (∀ j, a ≤ j → P j = false) := fun j hj => hs.hout j (by omega)
    go_wp2
    exact bodyPost_ret (v := .tuple #[.int .i64 0, .bool false]) (by simp [results, Tryd.results7, go_sem]) rfl ⟨.inr ⟨rfl, hno.out⟩, hB2.out _ _⟩
/-- First. -/
theorem first_any {w : World} {x : Value} {n : Nat} {P : Nat → Bool} (z : Int) (h : Arg w x n P) (hT : Tab w) : Calls Tryd.prog 7 #[x, .int .i64 z] w (RetF w P z.toNat) :=
  first_nat z z.toNat (by split <;> omega) h hT
end Go.Proofs.YtclgefpkcagbfaaDoor
