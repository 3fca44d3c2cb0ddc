/- First, Last over the table, the reference List: the walks. -/
import Derived.Test.YtehlmjjdegmnaaaDoorSf
import Derived.Test.YtehlmjjdegmnaaaDoorLv
import Derived.Shelf.Strconv.Itoa0
import Derived.Lib.BitFns
namespace Go.Proofs.YtehlmjjdegmnaaaDoor
open Go.RowKit Go.Shelf
attribute [local go_sem] Go.wp_at_zero Go.wp_at_succ
-- Rs
open Go.RowKit
attribute [local go_sem ↓] Go.wp_at_zero Go.wp_at_succ
theorem Tryd.info3 : (Tryd.prog.info? 3).map (fun i => (i.zero, i.size, i.bytes)) = some (some (.int .i64 0), 1, 8) := by kernel_rfl
structure RelI (w : World) (x0 x1 : Value) (P : Nat → Bool) (k : Nat) (v : Value) (xs : List Value) (wr : World) : Prop where
  box : Box wr w.heap.size x0 x1
  own : wr.ownsRow (w.heap.size + 1) 3 1 v xs.length xs
  le : xs.length ≤ k
  iff : 0 < xs.length ↔ ∃ i, i < k ∧ P i = true
  below : Below w.heap.size w wr
theorem ownsRow_below {B : Nat} {w w' : World} {v : Value} {n : Nat} {xs : List Value} (h : w.ownsRow B 3 1 v n xs) (hb : Below w.heap.size w w') : w'.ownsRow B 3 1 v n xs := by
  refine ⟨h.1, ?_⟩
  rcases h.2 with h' | ⟨g, cap, cur, e, hg, hh, r⟩
  · exact .inl h'
  · exact .inr ⟨g, cap, cur, e, hg, by rw [hb.block g (Array.getElem?_eq_some_iff.1 hh).1]; exact hh, r⟩
theorem RelI.next {w : World} {x0 x1 : Value} {P : Nat → Bool} {k : Nat} {v : Value} {xs : List Value} {wr wr' : World} (h : RelI w x0 x1 P k v xs wr) (hb : Below wr.heap.size wr wr') : RelI w x0 x1 P k v xs wr' :=
  ⟨h.box.below hb, ownsRow_below h.own hb, h.le, h.iff, h.below.trans (hb.mono h.below.size)⟩
-- Tz
open Go.RowKit
def debr : List Int := [0, 1, 56, 2, 57, 49, 28, 3, 61, 58, 42, 50, 38, 29, 17, 4, 62, 47, 59, 36, 45, 43, 51, 22, 53, 39, 33, 30, 24, 18, 12, 5, 63, 55, 48, 27, 60, 41, 37, 16, 46, 35, 44, 21, 52, 32, 23, 11, 54, 26, 40, 15, 34, 20, 31, 10, 25, 14, 19, 9, 13, 8, 7, 6]
/-- The listed table lies as it was laid. -/
structure Tab (w : World) : Prop where
  lt : 0 < w.heap.size
  cell : ∀ i, i < 64 → w.cell? ⟨0, i, none⟩ = some (.int .u8 (debr.getD i 0))
theorem Tab.below {w w' : World} (h : Tab w) (hb : Below w.heap.size w w') : Tab w' :=
  ⟨Nat.lt_of_lt_of_le h.lt hb.size, fun i hi => by rw [hb.cell (p := ⟨0, i, none⟩) h.lt]; exact h.cell i hi⟩
theorem debr_at : ∀ k : Nat, k < 64 → (2 ^ k * 285870213051353865 % 18446744073709551616) / 288230376151711744 < 64 ∧ debr.getD ((2 ^ k * 285870213051353865 % 18446744073709551616) / 288230376151711744) 0 = (k : Int) := by decide +kernel

/-- k is the least bit of x. -/
structure Low (x k : Nat) : Prop where
  yes : x.testBit k = true
  no : ∀ j, j < k → x.testBit j = false
theorem low_ex : ∀ (n x : Nat), x < 2 ^ n → x ≠ 0 → ∃ k, k < n ∧ Low x k := by
  intro n
  induction n with
  | zero => intro x h h0; simp at h; omega
  | succ n ih =>
    intro x h h0
    cases hb : x.testBit 0 with
    | true => exact ⟨0, by omega, hb, fun j hj => by omega⟩
    | false =>
      have he : x % 2 = 0 := by
        rw [Nat.testBit_zero] at hb
        have := of_decide_eq_false hb
        omega
      obtain ⟨k, hk, hl⟩ := ih (x / 2) (by rw [Nat.pow_succ] at h; omega) (by omega)
      refine ⟨k + 1, by omega, ?_, fun j hj => ?_⟩
      · rw [Nat.testBit_succ]; exact hl.yes
      · cases j with
        | zero => exact hb
        | succ j => rw [Nat.testBit_succ]; exact hl.no j (by omega)
theorem pred_bit {x k : Nat} (h : Low x k) (j : Nat) : (x - 1).testBit j = (decide (j < k) || (decide (k < j) && x.testBit j)) := by
  have h0 : x % 2 ^ k = 0 := by
    apply Nat.eq_of_testBit_eq
    intro j
    rw [Nat.testBit_mod_two_pow, Nat.zero_testBit]
    by_cases hj : j < k
    · rw [h.no j hj, Bool.and_false]
    · simp [hj]
  have ha : x = 2 ^ k * (x / 2 ^ k) := by
    have := Nat.div_add_mod x (2 ^ k)
    omega
  have hodd : (x / 2 ^ k) % 2 = 1 := by
    have := h.yes
    rw [Nat.testBit_eq_decide_div_mod_eq] at this
    exact of_decide_eq_true this
  have hpos : 0 < 2 ^ k := Nat.two_pow_pos k
  generalize hm : x / 2 ^ k = a at *
  obtain ⟨m, rfl⟩ : ∃ m, a = 2 * m + 1 := ⟨a / 2, by omega⟩
  have e : x - 1 = 2 ^ k * (2 * m) + (2 ^ k - 1) := by rw [ha, Nat.mul_add, Nat.mul_one]; omega
  rw [e, Nat.testBit_two_pow_mul_add _ (by omega)]
  by_cases hj : j < k
  · rw [if_pos hj, Nat.testBit_two_pow_sub_one]; simp [hj]
  · rw [if_neg hj, decide_eq_false hj, Bool.false_or]
    by_cases hk : k < j
    · rw [decide_eq_true hk, Bool.true_and]
      have e2 : x = 2 ^ k * (2 * m + 1) + 0 := by omega
      rw [e2, Nat.testBit_two_pow_mul_add _ hpos, if_neg hj]
      obtain ⟨i, hi⟩ : ∃ i, j - k = i + 1 := ⟨j - k - 1, by omega⟩
      rw [hi, Nat.testBit_succ, Nat.testBit_succ]
      congr 1
      omega
    · obtain rfl : j = k := by omega
      rw [Nat.sub_self, Nat.testBit_zero]
      simp
theorem low_pow {x k : Nat} (h : Low x k) (hx : x < 18446744073709551616) : x &&& (18446744073709551616 - x) = 2 ^ k := by
  have h0 : x ≠ 0 := by rintro rfl; have := h.yes; simp at this
  have hk : k < 64 := by
    rcases Nat.lt_or_ge k 64 with h' | h'
    · exact h'
    · have := testBit_lt hx h'; rw [h.yes] at this; cases this
  have e : 18446744073709551616 - x = 18446744073709551615 - (x - 1) := by omega
  rw [e]
  apply Nat.eq_of_testBit_eq
  intro j
  rw [Nat.testBit_and, not_bit _ (by omega), pred_bit h, Nat.testBit_two_pow]
  by_cases hj : j < k
  · have : k ≠ j := by omega
    rw [h.no j hj, decide_eq_false this]; rfl
  · by_cases hkj : k < j
    · have : k ≠ j := by omega
      rw [decide_eq_false this]
      simp [hj, hkj]
      intro h1 _; exact h1
    · obtain rfl : j = k := by omega
      simp [h.yes, hk]
theorem low_val {x k : Nat} (h : Low x k) (hx : x < 18446744073709551616) : bits BinOp.and .u64 (x : Int) (IntKind.u64.wrap (-(x : Int))) = ((2 ^ k : Nat) : Int) := by
  have h0 : x ≠ 0 := by rintro rfl; have := h.yes; simp at this
  have e : IntKind.u64.wrap (-(x : Int)) = ((18446744073709551616 - x : Nat) : Int) := by
    rw [IntKind.wrap_u64]; omega
  rw [e, u64_and_nat _ _ hx (by omega), low_pow h hx]
theorem mul_val' (a C : Nat) (Cz : Int) (h : Cz = (C : Int)) : IntKind.u64.wrap ((a : Int) * Cz) = ((a * C % 18446744073709551616 : Nat) : Int) := by
  rw [h, IntKind.wrap_u64, Int.natCast_emod, Int.natCast_mul]; rfl
theorem mul_val (k : Nat) : IntKind.u64.wrap (((2 ^ k : Nat) : Int) * 285870213051353865) = ((2 ^ k * 285870213051353865 % 18446744073709551616 : Nat) : Int) :=
  mul_val' (2 ^ k) 285870213051353865 285870213051353865 (by decide)
theorem shr_val (a : Nat) : ((a : Nat) : Int) / 288230376151711744 = ((a / 288230376151711744 : Nat) : Int) := by
  rw [Int.natCast_ediv]; rfl
theorem wrap64_nat (k : Nat) (h : k < 9223372036854775808) : wrap64 (k : Int) = k := by unfold wrap64; omega

set_option maxRecDepth 10000 in
set_option maxHeartbeats 400000 in
theorem tz_walk (x y z v : Int) (i : Nat) (w : World) (hn : (x == 0) = false) (hA : bits BinOp.and .u64 x (IntKind.u64.wrap (-x)) = y) (hM : IntKind.u64.wrap (y * 285870213051353865) = z)
    (hS : z / 288230376151711744 = (i : Nat)) (hi : (i : Int) < 64) (hc : w.cell? ⟨0, i, none⟩ = some (.int .u8 v)) :
    Calls Tryd.prog 53 #[.int .u64 x] w fun e w' => e = .returned (.int .i64 (wrap64 v)) ∧ w' = w := by
  go_enter Tryd.func53, Tryd.ntmps53
  go_wp2
  go_ret
  exact ⟨rfl, rfl⟩
/-- TrailingZeros64. -/
theorem tz_any (x k : Nat) (w : World) (hT : Tab w) (h : Low x k) (hx : x < 18446744073709551616) :
    Calls Tryd.prog 53 #[.int .u64 (x : Nat)] w fun e w' => e = .returned (.int .i64 (k : Nat)) ∧ w' = w := by
  have h0 : x ≠ 0 := by rintro rfl; have := h.yes; simp at this
  have hk : k < 64 := by
    rcases Nat.lt_or_ge k 64 with h' | h'
    · exact h'
    · have := testBit_lt hx h'; rw [h.yes] at this; cases this
  obtain ⟨d1, d2⟩ := debr_at k hk
  have := tz_walk (x : Int) _ _ _ _ w (by simpa using h0) (low_val h hx) (mul_val k) (shr_val _) (by omega) (hT.cell _ d1)
  rwa [d2, wrap64_nat k (by omega)] at this

-- It
open Go.RowKit Go.Shelf
theorem come_add (P : Nat → Bool) (a b : Nat) : come P (a + b) = come P a ++ ((List.range b).filter fun j => P (a + j)).map (a + ·) := by
  unfold come
  rw [List.range_add, List.filter_append, List.filter_map]
  rfl
attribute [local go_sem] Oper.semAt_some
-- Fi
open Go.RowKit
/-- The loop of First. -/
structure RelF (P : Nat → Bool) (a len i v : Nat) : Prop where
  lt : i < len
  small : v < 18446744073709551616
  no : ∀ j, a ≤ j → j < 64 * i → P j = false
  bit : ∀ s, s < 64 → v.testBit s = (decide (a ≤ 64 * i + s) && P (64 * i + s))
theorem cut_bit (x r s : Nat) : (x / 2 ^ r * 2 ^ r).testBit s = (decide (r ≤ s) && x.testBit s) := by
  rw [← Nat.shiftLeft_eq, Nat.testBit_shiftLeft, Nat.testBit_div_two_pow]
  by_cases h : r ≤ s
  · rw [decide_eq_true h, show s - r + r = s by omega]
  · rw [decide_eq_false h]; rfl
theorem cut_val (x r : Nat) (hx : x < 18446744073709551616) : IntKind.u64.wrap ((x : Int) / 2 ^ r * 2 ^ r) = ((x / 2 ^ r * 2 ^ r : Nat) : Int) := by
  have h : x / 2 ^ r * 2 ^ r ≤ x := Nat.div_mul_le_self _ _
  have e : (x : Int) / 2 ^ r * 2 ^ r = ((x / 2 ^ r * 2 ^ r : Nat) : Int) := by
    rw [Int.natCast_mul, Int.natCast_ediv, Int.natCast_pow]; rfl
  rw [e, IntKind.wrap_u64]
  omega
theorem bit_set {n len : Nat} {f : Nat → Nat} {P : Nat → Bool} (h : IsSet n len f P) {i s : Nat} (hi : i < len) (hs : s < 64) : (f i).testBit s = P (64 * i + s) := by
  have := h.hbit (64 * i + s) (by omega)
  unfold bitAt at this
  rwa [show (64 * i + s) / 64 = i by omega, show (64 * i + s) % 64 = s by omega] at this
theorem RelF.start {n len a : Nat} {f : Nat → Nat} {P : Nat → Bool} (h : IsSet n len f P) (hf : ∀ i, i < len → f i < 18446744073709551616) (ha : a < n) : RelF P a len (a / 64) (f (a / 64) / 2 ^ (a % 64) * 2 ^ (a % 64)) := by
  have hl := h.hlen
  refine ⟨by omega, Nat.lt_of_le_of_lt (Nat.div_mul_le_self _ _) (hf _ (by omega)), fun j h1 h2 => by omega, fun s hs => ?_⟩
  rw [cut_bit, bit_set h (by omega) hs]
  congr 1
  rw [decide_eq_decide]; omega
theorem RelF.next {n len a i : Nat} {f : Nat → Nat} {P : Nat → Bool} (h : IsSet n len f P) (hf : ∀ i, i < len → f i < 18446744073709551616) (r : RelF P a len i 0) (hi : i + 1 < len) (ha : a < 64 * (i + 1)) : RelF P a len (i + 1) (f (i + 1)) := by
  refine ⟨hi, hf _ hi, fun j h1 h2 => ?_, fun s hs => ?_⟩
  · by_cases hj : j < 64 * i
    · exact r.no j h1 hj
    · have := r.bit (j - 64 * i) (by omega)
      rw [Nat.zero_testBit, show 64 * i + (j - 64 * i) = j by omega, decide_eq_true h1, Bool.true_and] at this
      exact this.symm
  · rw [bit_set h hi hs, decide_eq_true (by omega), Bool.true_and]
theorem RelF.none {n len a i : Nat} {f : Nat → Nat} {P : Nat → Bool} (h : IsSet n len f P) (r : RelF P a len i 0) (hi : i + 1 = len) : ∀ j, a ≤ j → P j = false := by
  intro j h1
  have hl := h.hlen
  by_cases hj : j < 64 * i
  · exact r.no j h1 hj
  · by_cases hj2 : j < 64 * (i + 1)
    · have := r.bit (j - 64 * i) (by omega)
      rw [Nat.zero_testBit, show 64 * i + (j - 64 * i) = j by omega, decide_eq_true h1, Bool.true_and] at this
      exact this.symm
    · exact h.hout j (by omega)
theorem RelF.found {len a i v k : Nat} {P : Nat → Bool} (r : RelF P a len i v) (h : Low v k) (hk : k < 64) : IsF P a (64 * i + k) := by
  have h1 := r.bit k hk
  rw [h.yes] at h1
  have h2 : a ≤ 64 * i + k ∧ P (64 * i + k) = true := by
    have := h1.symm
    rw [Bool.and_eq_true, decide_eq_true_iff] at this
    exact this
  refine ⟨h2.1, h2.2, fun j h3 h4 => ?_⟩
  by_cases hj : j < 64 * i
  · exact r.no j h3 hj
  · have := r.bit (j - 64 * i) (by omega)
    rw [h.no _ (by omega), show 64 * i + (j - 64 * i) = j by omega, decide_eq_true h3, Bool.true_and] at this
    exact this.symm
set_option maxRecDepth 10000 in
set_option maxHeartbeats 1000000 in
theorem first_nat {w : World} {x : Value} {n : Nat} {P : Nat → Bool} (z : Int) (a : Nat) (hmax : ∀ w, (Builtin.max_ #[3, 3] 3 #[.int .i64 z, .int .i64 0]).run Tryd.prog w = .ok (.int .i64 (a : Nat)) w) (h : Arg w x n P) (hT : Tab w) : Calls Tryd.prog 37 #[x, .int .i64 z] w (RetF w P a) := by
  obtain ⟨m, a0, l0, c0, rfl⟩ := h.shape
  have hB0 : Below w.heap.size w (w.alloc (.cells #[.int .i64 m, .slice a0 l0 c0] 29)) := (Below.refl _ _).alloc (Nat.le_refl _) _
  go_enter Tryd.func37, Tryd.ntmps37
  go_wp2_with fail
  refine (sound_any h hB0).mono ?_
  rintro e w1 ⟨ao, len, cap, f, rfl, hr, hs, hb⟩
  clear h
  have b1 := (Box.new w (.int .i64 m) (.slice a0 l0 c0)).below hb
  have hB1 : Below w.heap.size w w1 := hB0.trans (hb.mono (by simp))
  clear hB0 hb
  obtain ⟨c10, c11, f10, f11⟩ := b1.cells
  have hB2 : Hid (∀ u v, Below w.heap.size w ((w1.setCell ⟨w.heap.size, 0, none⟩ u).setCell ⟨w.heap.size, 1, none⟩ v)) := fun u v => (hB1.setCell (p := ⟨w.heap.size, 0, none⟩) (by simp) _).setCell (p := ⟨w.heap.size, 1, none⟩) (by simp) _
  by_cases ha : a < n
  · have hle := hs.hle
    have hlen := hs.hlen
    obtain ⟨b, off, rfl, hbb, hc⟩ := hr.at_ (by omega)
    have hbne : b ≠ w.heap.size := by omega
    have hb1 : b < w1.heap.size := by have := hB1.size; omega
    have hcs : ∀ j, j < len → w1.cell? ⟨b, off + j, none⟩ = some (.int .u64 (f j : Nat)) := fun j hj => by rw [hB1.cell (p := ⟨b, off + j, none⟩) hbb]; exact hc j hj
    have HC : Hid (∀ j, j < len → w1.cell? ⟨b, off + j, none⟩ = some (.int .u64 (f j : Nat))) := hcs
    have hck := hcs (a / 64) (by omega)
    have hkl : (a : Int) / 64 < (len : Int) := by omega
    have hl8 : (len : Int) ≤ 128 := by omega
    have hd : decide ((n : Int) ≤ (a : Int)) = false := by simp; omega
    have R0 := RelF.start hs hr.small ha
    have HV : Hid (IntKind.u64.wrap (((f (a / 64) : Nat) : Int) / 2 ^ (a % 64) * 2 ^ (a % 64)) = ((f (a / 64) / 2 ^ (a % 64) * 2 ^ (a % 64) : Nat) : Int)) := cut_val _ _ (hr.small _ (by omega))
    have HS : Hid (IsSet n len f P) := hs
    have HR : Hid (∀ i, i < len → f i < 18446744073709551616) := hr.small
    have HB : Hid (Below w.heap.size w w1) := hB1
    have HL : Hid (len = (n + 63) / 64) := hlen
    clear hcs hc hs hr hB1 hlen
    go_wp2_with fail
    have E : Hid (∃ W2, ((w1.setCell ⟨w.heap.size, 0, none⟩ (.int .i64 (n : Nat))).setCell ⟨w.heap.size, 1, none⟩ (.slice (some ⟨b, off, none⟩) len cap)) = W2) := ⟨_, rfl⟩
    have hBW : Hid (Below w.heap.size w ((w1.setCell ⟨w.heap.size, 0, none⟩ (.int .i64 (n : Nat))).setCell ⟨w.heap.size, 1, none⟩ (.slice (some ⟨b, off, none⟩) len cap))) := hB2.out _ _
    have bW := b1.set (.int .i64 (n : Nat)) (.slice (some ⟨b, off, none⟩) len cap)
    have HCW : Hid (∀ j, j < len → ((w1.setCell ⟨w.heap.size, 0, none⟩ (.int .i64 (n : Nat))).setCell ⟨w.heap.size, 1, none⟩ (.slice (some ⟨b, off, none⟩) len cap)).cell? ⟨b, off + j, none⟩ = some (.int .u64 (f j : Nat))) := fun j hj => by
      rw [← HC.out j hj]
      exact World.cell?_of_block (by rw [Below.heap_setCell _ _ _ _ hbne, Below.heap_setCell _ _ _ _ hbne])
    rw [HV.out]
    clear hB2 b1 c10 c11 f10 f11 hck HC HB HV hb1
    generalize ((w1.setCell ⟨w.heap.size, 0, none⟩ (.int .i64 (n : Nat))).setCell ⟨w.heap.size, 1, none⟩ (.slice (some ⟨b, off, none⟩) len cap)) = W2 at *
    have hTW := hT.below hBW.out
    obtain ⟨c10, c11, f10, f11⟩ := bW.cells
    clear E hd hmax
    go_loopw [6, 7] (fun i u wr => ∃ k v : Nat, i = .int .i64 (k : Nat) ∧ u = .int .u64 (v : Nat) ∧ RelF P a len k v ∧ a < 64 * (k + 1) ∧ wr = W2) (fun i _ _ => len - (intOf i).toNat)
    case atStart => exact ⟨a / 64, _, by simp, rfl, R0, by omega, rfl⟩
    case round =>
      obtain ⟨k, v, rfl, rfl, R, hak, rfl⟩ := hrel
      have hklt := R.lt
      by_cases hv0 : v = 0
      · subst hv0
        by_cases hl : k + 1 = len
        · have hno : Hid (∀ j, a ≤ j → P j = false) := R.none HS.out hl
          have he : (((k : Int) + 1) == (len : Int)) = true := by simp; omega
          go_wp2
          exact bodyPost_ret (v := .tuple #[.int .i64 0, .bool false]) (by simp [results, Tryd.results37, go_sem]) rfl ⟨.inr ⟨rfl, hno.out⟩, hBW.out⟩
        · have he : (((k : Int) + 1) == (len : Int)) = false := by simp; omega
          have t1 := HCW.out (k + 1) (by omega)
          have R1 := R.next HS.out HR.out (by omega) hak
          have hk1 : ((k : Int) + 1) < (len : Int) := by omega
          go_wp2
          go_roundw
          case rel => exact ⟨k + 1, f (k + 1), by simp, rfl, R1, by omega, (by first | trivial | rfl)⟩
          case measure => simp [intOf]; omega
      · obtain ⟨kk, hkk, hlow⟩ := low_ex 64 v R.small hv0
        have hF := R.found hlow hkk
        have hv := R.small
        have hnz : ((v : Int) == 0) = false := by simpa using hv0
        have hcast : ((64 * k + kk : Nat) : Int) = (k : Int) * 64 + kk := by omega
        go_wp2_with (go_at_call 53; refine (tz_any v kk _ hTW hlow hv).mono ?_; rintro e w' ⟨rfl, rfl⟩)
        exact bodyPost_ret (v := .tuple #[.int .i64 ((k : Int) * 64 + kk), .bool true]) (by simp [results, Tryd.results37, go_sem]) rfl ⟨.inl ⟨64 * k + kk, by rw [hcast], hF⟩, hBW.out⟩
  · have hd : decide ((n : Int) ≤ (a : Int)) = true := by simp; omega
    have hno : Hid (∀ j, a ≤ j → P j = false) := fun j hj => hs.hout j (by omega)
    go_wp2
    exact bodyPost_ret (v := .tuple #[.int .i64 0, .bool false]) (by simp [results, Tryd.results37, go_sem]) rfl ⟨.inr ⟨rfl, hno.out⟩, hB2.out _ _⟩
/-- First. -/
theorem first_any {w : World} {x : Value} {n : Nat} {P : Nat → Bool} (z : Int) (h : Arg w x n P) (hT : Tab w) : Calls Tryd.prog 37 #[x, .int .i64 z] w (RetF w P z.toNat) :=
  first_nat z z.toNat (max_zero z) h hT

-- Ei
open Go.RowKit
theorem RowAt.below {w w' : World} {v : Value} {l : List Nat} (h : RowAt w v l) (hb : Below w.heap.size w w') : RowAt w' v l := by
  obtain ⟨ao, cap, e, hr⟩ := h
  exact ⟨ao, cap, e, hr.below hb⟩
-- Bb
open Go.RowKit
theorem come_yes {P : Nat → Bool} {k : Nat} (h : P k = true) : come P (k + 1) = come P k ++ [k] := by
  unfold come
  rw [List.range_succ, List.filter_append]
  simp [h]
theorem come_skip {P : Nat → Bool} {a k : Nat} (hak : a ≤ k) (h : ∀ j, a ≤ j → j < k → P j = false) : come P k = come P a := by
  obtain ⟨c, rfl⟩ := Nat.exists_eq_add_of_le hak
  rw [come_add, List.filter_eq_nil_iff.2 (fun j hj => by rw [h _ (by omega) (by have := List.mem_range.1 hj; omega)]; simp)]
  simp
/-- Where the walk through all stands: x is next, or none is left. -/
def Next (P : Nat → Bool) (n : Nat) (l : List Nat) (x : Value) (ok : Value) : Prop :=
  (∃ y : Nat, x = .int .i64 (y : Nat) ∧ ok = .bool true ∧ P y = true ∧ y < n ∧ l = come P y) ∨ (x = .int .i64 0 ∧ ok = .bool false ∧ l = come P n)
theorem RetF.out {w w' : World} {P : Nat → Bool} {n a : Nat} {e : Ending} (h : RetF w P a e w') (ha : a ≤ n) (hout : ∀ i, n ≤ i → P i = false) :
    ∃ x ok, e = .returned (.tuple #[x, ok]) ∧ Next P n (come P a) x ok ∧ Below w.heap.size w w' := by
  obtain ⟨⟨k, he, hk⟩ | ⟨he, hno⟩, hb⟩ := h
  · refine ⟨_, _, he, .inl ⟨k, rfl, rfl, hk.yes, ?_, (come_skip hk.le hk.no).symm⟩, hb⟩
    rcases Nat.lt_or_ge k n with h | h
    · exact h
    · have := hout k h; rw [hk.yes] at this; cases this
  · exact ⟨_, _, he, .inr ⟨rfl, rfl, (come_skip ha fun j h1 _ => hno j h1).symm⟩, hb⟩

-- Ls
open Go.RowKit
attribute [local go_sem ↓] Go.wp_at_zero Go.wp_at_succ
theorem come_no {P : Nat → Bool} {k : Nat} (h : P k = false) : come P (k + 1) = come P k := by
  unfold come; rw [List.range_succ, List.filter_append]; simp [h]
structure RelLs (w : World) (x0 x1 : Value) (P : Nat → Bool) (k : Nat) (v : Value) (wr : World) : Prop where
  box : Box wr w.heap.size x0 x1
  own : wr.ownsRow (w.heap.size + 1) 3 1 v (come P k).length (ints (come P k))
  below : Below w.heap.size w wr
theorem RelLs.next {w : World} {x0 x1 : Value} {P : Nat → Bool} {k : Nat} {v : Value} {wr wr' : World} (h : RelLs w x0 x1 P k v wr) (hb : Below wr.heap.size wr wr') : RelLs w x0 x1 P k v wr' :=
  ⟨h.box.below hb, ownsRow_below h.own hb, h.below.trans (hb.mono h.below.size)⟩
set_option maxHeartbeats 1000000 in
theorem rlist_full {w : World} {x : Value} {n : Nat} {P : Nat → Bool} (h : Arg w x n P) : Calls Tryd.prog 25 #[x] w (RetInts w (come P n)) := by
  obtain ⟨m1, a1, l1, c1, rfl⟩ := h.shape
  obtain ⟨i0, hi, hz0, hz1, hz2⟩ := info_parts Tryd.info3
  have hB0 : Below w.heap.size w (w.alloc (.cells #[.int .i64 m1, .slice a1 l1 c1] 29)) := (Below.refl _ _).alloc (Nat.le_refl _) _
  have q0 := Box.new w (.int .i64 m1) (.slice a1 l1 c1)
  have hfld := field0
  have hn : n ≤ 8192 := h.le
  have HX := Hid.out (p := Arg w (.agg #[.int .i64 m1, .slice a1 l1 c1]) n P) h
  have hn8 : (n : Int) ≤ 8192 := by omega
  clear h
  go_enter Tryd.func25, Tryd.ntmps25
  go_wp2_with fail
  go_loopw [3, 4] (fun v i wr => ∃ k : Nat, k ≤ n ∧ i = .int .i64 k ∧ RelLs w (.int .i64 m1) (.slice a1 l1 c1) P k v wr) (fun _ i _ => n - (intOf i).toNat)
  case atStart => exact ⟨0, Nat.zero_le _, rfl, q0, World.ownsRow_nil _ _ _ _, hB0⟩
  case round =>
    obtain ⟨k, hk, rfl, hR⟩ := hrel
    obtain ⟨p0, p1, p2, p3⟩ := hR.box.cells
    go_wp2_with fail
    refine (may_any HX hR.below).mono ?_
    rintro e w1 ⟨aq, lq, cq, fq, rfl, hrq, hsq, hb⟩
    replace hR := hR.next hb
    clear hb hrq hsq p0 p1 p2 p3
    obtain ⟨p0, p1, p2, p3⟩ := hR.box.cells
    by_cases hlt : k < n
    · have hki : (k : Int) < (n : Int) := by omega
      go_wp2_with fail
      refine (rhas_n k (HX.below hR.below)).mono ?_
      rintro e w2 ⟨rfl, hb⟩
      replace hR := hR.next hb
      clear hb p0 p1 p2 p3
      cases hpk : P k with
      | false =>
        have HP : Hid (come P (k + 1) = come P k) := come_no hpk
        clear hpk
        go_wp2
        go_roundw
        case rel => exact ⟨k + 1, by omega, by go_num, hR.box, by rw [HP.out]; exact hR.own, hR.below⟩
        case measure => simp [intOf]; omega
      | true =>
        have HP : Hid (come P (k + 1) = come P k ++ [k]) := come_yes hpk
        clear hpk
        have hle2 := come_len P k
        have hz := hR.box.lt
        have hown := hR.own
        go_wp2_with (at_builtin; refine wpList_append_own _ rfl _ _ 45 rfl (w.heap.size + 1) 3 i0 (.int .i64 0) 1 8 Tryd.underlying45 hi hz0 hz1 hz2 rfl (by decide) _ _ _ rfl (hown.alloc _) ⟨w2.heap.size, 0, none⟩ 1 1 [.int .i64 (k : Nat)] rfl rfl (cell_one_new _ _ _) (by intro u hu; simp at hu; subst hu; rfl) (by unfold maxLen; omega) (by omega) (by simp; omega) ?_)
        intro v' w3 hown' hgrow _
        have hbw : Below (w.heap.size + 1) _ w3 := (Below.refl _ _).grown hgrow (by simp; omega) (fun j e => (hown.lt j e).1)
        have R : RelLs w (.int .i64 m1) (.slice a1 l1 c1) P (k + 1) v' w3 :=
          ⟨(hR.box.alloc _).belowB hbw (by omega), by rw [HP.out]; simpa [ints] using hown', (hR.below.alloc (by omega) _).trans (hbw.mono (by omega))⟩
        clear hown' hgrow hown hR hbw
        go_wp2
        go_roundw
        case rel => exact ⟨k + 1, by omega, by go_num, R⟩
        case measure => simp [intOf]; omega
    · obtain rfl : k = n := by omega
      have HF : Hid (RetInts w (come P k) (.returned u3) w1) := ⟨u3, rfl, ownsRow_mono hR.own (by omega), hR.below⟩
      clear hR
      go_wp2
      go_ret
      exact HF.out

-- Lm
open Go.RowKit
theorem bitLen_aux (f : Nat) : ∀ x, x < 2 ^ f → x ≠ 0 → ∃ k, Lib.bitLenAux f x = k + 1 ∧ k < f ∧ x.testBit k = true ∧ ∀ j, k < j → x.testBit j = false := by
  induction f with
  | zero => intro x h h0; simp at h; omega
  | succ f ih =>
    intro x h h0
    rw [Lib.bitLenAux, if_neg h0]
    by_cases h2 : x / 2 = 0
    · have e : x = 1 := by omega
      subst e
      refine ⟨0, ?_, by omega, by decide, fun j hj => ?_⟩
      · cases f with
        | zero => rfl
        | succ f => rfl
      · obtain ⟨m, rfl⟩ : ∃ m, j = m + 1 := ⟨j - 1, by omega⟩
        rw [Nat.testBit_succ]
        simp
    · obtain ⟨k, h3, h4, h5, h6⟩ := ih (x / 2) (by rw [Nat.pow_succ] at h; omega) h2
      refine ⟨k + 1, by rw [h3]; omega, by omega, by rw [Nat.testBit_succ]; exact h5, fun j hj => ?_⟩
      obtain ⟨m, rfl⟩ : ∃ m, j = m + 1 := ⟨j - 1, by omega⟩
      rw [Nat.testBit_succ]
      exact h6 m (by omega)
/-- The top bit of a word. -/
theorem bitLen_top (x : Nat) (hx : x < 18446744073709551616) (h0 : x ≠ 0) : ∃ k, Lib.bitLen x = k + 1 ∧ k < 64 ∧ x.testBit k = true ∧ ∀ j, k < j → x.testBit j = false := bitLen_aux 64 x hx h0
-- La
open Go.Shelf Go.RowKit
def Tryd.lays129_ren : Go.Shelf.Ren := ⟨fun | 129 => 41 | n => n, fun | 46 => 64 | 53 => 22 | 3 => 3 | 4 => 4 | 5 => 5 | 9 => 9 | n => n, fun | n => n⟩
theorem Tryd.lays129 : Go.Proofs.Lays.n129 Tryd.prog Tryd.lays129_ren := {
  mixed := by kernel_rfl
  f129 := Tryd.func41.trans (congrArg some (by kernel_rfl))
  t3 := Tryd.underlying3
  a3 := Tryd.isAgg3
  z3 := Tryd.sizeOf3
  v3 := Tryd.zeroValue3
  t4 := Tryd.underlying4
  a4 := Tryd.isAgg4
  z4 := Tryd.sizeOf4
  v4 := Tryd.zeroValue4
  t5 := Tryd.underlying5
  a5 := Tryd.isAgg5
  z5 := Tryd.sizeOf5
  v5 := Tryd.zeroValue5
  t9 := Tryd.underlying9
  a9 := Tryd.isAgg9
  z9 := Tryd.sizeOf9
  v9 := Tryd.zeroValue9
  t46 := Tryd.underlying64
  a46 := Tryd.isAgg64
  z46 := Tryd.sizeOf64
  v46 := Tryd.zeroValue64
  t53 := Tryd.underlying22
  a53 := Tryd.isAgg22
  z53 := Tryd.sizeOf22
  v53 := Tryd.zeroValue22 }
theorem len64_any (x : Nat) (hx : x < 18446744073709551616) (w : World) : Calls Tryd.prog 41 #[.int .u64 (x : Nat)] w fun e w' => e = .returned (.int .i64 (Lib.bitLen x : Nat)) ∧ w' = w := by
  have := Any.bits_Len64 Tryd.lays129 (x : Int) w (by omega) (by omega)
  rw [Int.toNat_natCast] at this
  exact this
/-- What Last answers. -/
def RetM (w : World) (P : Nat → Bool) (n : Nat) (e : Ending) (w' : World) : Prop :=
  ((∃ k : Nat, e = .returned (.tuple #[.int .i64 (k : Nat), .bool true]) ∧ k < n ∧ P k = true ∧ ∀ j, k < j → P j = false) ∨ (e = .returned (.tuple #[.int .i64 0, .bool false]) ∧ ∀ j, P j = false)) ∧ Below w.heap.size w w'
theorem last_word {n len : Nat} {f : Nat → Nat} {P : Nat → Bool} (h : IsSet n len f P) {i k : Nat} (hi : i < len) (hup : ∀ j, 64 * (i + 1) ≤ j → P j = false) (hk : k < 64) (hb : (f i).testBit k = true) (hn : ∀ j, k < j → (f i).testBit j = false) : 64 * i + k < n ∧ P (64 * i + k) = true ∧ ∀ j, 64 * i + k < j → P j = false := by
  have hp : P (64 * i + k) = true := by rw [← bit_set h hi hk]; exact hb
  refine ⟨?_, hp, fun j hj => ?_⟩
  · rcases Nat.lt_or_ge (64 * i + k) n with h' | h'
    · exact h'
    · have := h.hout _ h'; rw [hp] at this; cases this
  · by_cases hj2 : 64 * (i + 1) ≤ j
    · exact hup j hj2
    · have := bit_set h hi (s := j - 64 * i) (by omega)
      rw [show 64 * i + (j - 64 * i) = j by omega, hn _ (by omega)] at this
      exact this.symm
theorem zero_word {n len : Nat} {f : Nat → Nat} {P : Nat → Bool} (h : IsSet n len f P) {i : Nat} (hi : i < len) (hup : ∀ j, 64 * (i + 1) ≤ j → P j = false) (hz : f i = 0) : ∀ j, 64 * i ≤ j → P j = false := by
  intro j hj
  by_cases hj2 : 64 * (i + 1) ≤ j
  · exact hup j hj2
  · have := bit_set h hi (s := j - 64 * i) (by omega)
    rw [show 64 * i + (j - 64 * i) = j by omega, hz, Nat.zero_testBit] at this
    exact this.symm
set_option maxRecDepth 10000 in
set_option maxHeartbeats 1000000 in
theorem last_any {w : World} {x : Value} {n : Nat} {P : Nat → Bool} (h : Arg w x n P) : Calls Tryd.prog 22 #[x] w (RetM w P n) := by
  obtain ⟨m, a0, l0, c0, rfl⟩ := h.shape
  have hB0 : Below w.heap.size w (w.alloc (.cells #[.int .i64 m, .slice a0 l0 c0] 29)) := (Below.refl _ _).alloc (Nat.le_refl _) _
  go_enter Tryd.func22, Tryd.ntmps22
  go_wp2_with fail
  refine (sound_any h hB0).mono ?_
  rintro e w1 ⟨ao, len, cap, f, rfl, hr, hs, hb⟩
  clear h
  have b1 := (Box.new w (.int .i64 m) (.slice a0 l0 c0)).below hb
  have hB1 : Below w.heap.size w w1 := hB0.trans (hb.mono (by simp))
  clear hB0 hb
  obtain ⟨c10, c11, f10, f11⟩ := b1.cells
  have hBW : Hid (Below w.heap.size w ((w1.setCell ⟨w.heap.size, 0, none⟩ (.int .i64 (n : Nat))).setCell ⟨w.heap.size, 1, none⟩ (.slice ao len cap))) := (hB1.setCell (p := ⟨w.heap.size, 0, none⟩) (by simp) _).setCell (p := ⟨w.heap.size, 1, none⟩) (by simp) _
  have bW := b1.set (.int .i64 (n : Nat)) (.slice ao len cap)
  have HCW : Hid (∀ k, k < len → ∃ b off, ao = some ⟨b, off, none⟩ ∧ ((w1.setCell ⟨w.heap.size, 0, none⟩ (.int .i64 (n : Nat))).setCell ⟨w.heap.size, 1, none⟩ (.slice ao len cap)).cell? ⟨b, off + k, none⟩ = some (.int .u64 (f k : Nat)) ∧ f k < 18446744073709551616) := fun k hk => by
    obtain ⟨b, off, e, hbb, hc⟩ := hr.at_ (by omega)
    have hbne : b ≠ w.heap.size := by omega
    refine ⟨b, off, e, ?_, hr.small k hk⟩
    rw [← hc k hk, ← hB1.cell (p := ⟨b, off + k, none⟩) hbb]
    exact World.cell?_of_block (by rw [Below.heap_setCell _ _ _ _ hbne, Below.heap_setCell _ _ _ _ hbne])
  have hle := hs.hle
  have hlen := hs.hlen
  have hl8 : (len : Int) ≤ 128 := by omega
  have hup0 : ∀ j, 64 * len ≤ j → P j = false := fun j hj => hs.hout j (by omega)
  have HS : Hid (IsSet n len f P) := hs
  clear hr hB1 hs hle hlen
  go_wp2_with fail
  clear c10 c11 f10 f11
  generalize ((w1.setCell ⟨w.heap.size, 0, none⟩ (.int .i64 (n : Nat))).setCell ⟨w.heap.size, 1, none⟩ (.slice ao len cap)) = W2 at *
  obtain ⟨c10, c11, f10, f11⟩ := bW.cells
  go_loopw [4] (fun i wr => ∃ k : Nat, k ≤ len ∧ i = .int .i64 ((k : Int) - 1) ∧ (∀ j, 64 * k ≤ j → P j = false) ∧ wr = W2) (fun i _ => (intOf i + 1).toNat)
  case atStart => exact ⟨len, Nat.le_refl _, rfl, hup0, rfl⟩
  case round =>
    obtain ⟨k, hk, rfl, hno, rfl⟩ := hrel
    have HN : Hid (∀ j, 64 * k ≤ j → P j = false) := hno
    clear hno
    cases k with
    | zero =>
      go_wp2
      exact bodyPost_ret (v := .tuple #[.int .i64 0, .bool false]) (by simp [results, Tryd.results22, go_sem]) rfl ⟨.inr ⟨rfl, fun j => HN.out j (by omega)⟩, hBW.out⟩
    | succ k =>
      obtain ⟨b, off, rfl, hc, hv⟩ := HCW.out k (by omega)
      have hz := fun hz : f k = 0 => zero_word HS.out (i := k) (by omega) HN.out hz
      have hlw := fun s (h1 : s < 64) h2 h3 => last_word HS.out (i := k) (k := s) (by omega) HN.out h1 h2 h3
      have ek : ((k + 1 : Nat) : Int) - 1 = (k : Int) := by omega
      rw [ek]
      have hkl : (k : Int) < (len : Int) := by omega
      have hk0 : (0 : Int) ≤ (k : Int) := by omega
      generalize f k = y at *
      by_cases hy : y = 0
      · subst hy
        have HZ : Hid (∀ j, 64 * k ≤ j → P j = false) := hz rfl
        clear hz hlw
        go_wp2
        go_roundw
        case rel => exact ⟨k, by omega, by go_num, HZ.out, (by first | trivial | rfl)⟩
        case measure => simp [intOf]
      · obtain ⟨s, hs1, hs2, hs3, hs4⟩ := bitLen_top y hv hy
        have HL : Hid (64 * k + s < n ∧ P (64 * k + s) = true ∧ ∀ j, 64 * k + s < j → P j = false) := hlw s hs2 hs3 hs4
        have hl := fun W => len64_any y hv W
        rw [hs1] at hl
        have hnz : ((y : Int) != 0) = true := by simpa using hy
        have hcast : ((64 * k + s : Nat) : Int) = (k : Int) * 64 + ((s + 1 : Nat) : Int) - 1 := by omega
        obtain ⟨s1, es1⟩ : ∃ s1, s1 = s + 1 := ⟨_, rfl⟩
        rw [← es1] at hl hcast
        have hs65 : (s1 : Int) ≤ 64 := by omega
        clear hz hlw hs3 hs4 hs1 es1
        go_wp2_with (go_at_call 41; refine (hl _).mono ?_; rintro e w' ⟨rfl, rfl⟩)
        exact bodyPost_ret (v := .tuple #[.int .i64 ((k : Int) * 64 + s1 - 1), .bool true]) (by simp [results, Tryd.results22, go_sem]) rfl ⟨.inl ⟨64 * k + s, by rw [hcast], HL.out⟩, hBW.out⟩

end Go.Proofs.YtehlmjjdegmnaaaDoor
