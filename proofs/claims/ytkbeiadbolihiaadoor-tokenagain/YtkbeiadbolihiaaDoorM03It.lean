/- math/bits.TrailingZeros64: the least bit of a word; the walk. runText; First: the walks. First: the walk. The bytes and the runs of a class, one by one: All and Runs, and their iterators: the walks. -/
import Derived.Test.YtkbeiadbolihiaaDoorM02Str
import Derived.RangeFuncNested
import Derived.RangeFuncBound
import Derived.RangeFuncCalls
import Derived.RangeFuncLeaves
import Derived.RangeFuncBox
import Derived.Shelf.Abstract
import Derived.Shelf.RegionOpen
import Derived.OwnWalkIn
import Derived.TacticsInMore
import Derived.LoopNIn
import Derived.LoopIn
import Derived.Maps.AppendAt
namespace Go.Proofs.YtkbeiadbolihiaaDoor
open Go.RowKit
def debr : List Int := [0, 1, 56, 2, 57, 49, 28, 3, 61, 58, 42, 50, 38, 29, 17, 4, 62, 47, 59, 36, 45, 43, 51, 22, 53, 39, 33, 30, 24, 18, 12, 5, 63, 55, 48, 27, 60, 41, 37, 16, 46, 35, 44, 21, 52, 32, 23, 11, 54, 26, 40, 15, 34, 20, 31, 10, 25, 14, 19, 9, 13, 8, 7, 6]
/-- The listed table lies as it was laid. -/
structure Tab (w : World) : Prop where
  lt : 0 < w.heap.size
  cell : ∀ i, i < 64 → w.cell? ⟨0, i, none⟩ = some (.int .u8 (debr.getD i 0))
theorem Tab.below {w w' : World} (h : Tab w) (hb : Below w.heap.size w w') : Tab w' :=
  ⟨Nat.lt_of_lt_of_le h.lt hb.size, fun i hi => by rw [hb.cell (p := ⟨0, i, none⟩) h.lt]; exact h.cell i hi⟩
theorem debr_at : ∀ k : Nat, k < 64 → (2 ^ k * 285870213051353865 % 18446744073709551616) / 288230376151711744 < 64 ∧ debr.getD ((2 ^ k * 285870213051353865 % 18446744073709551616) / 288230376151711744) 0 = (k : Int) := by decide +kernel

/-- k is the least bit of x. -/
structure Low (x k : Nat) : Prop where
  yes : x.testBit k = true
  no : ∀ j, j < k → x.testBit j = false
theorem low_ex : ∀ (n x : Nat), x < 2 ^ n → x ≠ 0 → ∃ k, k < n ∧ Low x k := by
  intro n
  induction n with
  | zero => intro x h h0; simp at h; omega
  | succ n ih =>
    intro x h h0
    cases hb : x.testBit 0 with
    | true => exact ⟨0, by omega, hb, fun j hj => by omega⟩
    | false =>
      have he : x % 2 = 0 := by
        rw [Nat.testBit_zero] at hb
        have := of_decide_eq_false hb
        omega
      obtain ⟨k, hk, hl⟩ := ih (x / 2) (by rw [Nat.pow_succ] at h; omega) (by omega)
      refine ⟨k + 1, by omega, ?_, fun j hj => ?_⟩
      · rw [Nat.testBit_succ]; exact hl.yes
      · cases j with
        | zero => exact hb
        | succ j => rw [Nat.testBit_succ]; exact hl.no j (by omega)
theorem pred_bit {x k : Nat} (h : Low x k) (j : Nat) : (x - 1).testBit j = (decide (j < k) || (decide (k < j) && x.testBit j)) := by
  have h0 : x % 2 ^ k = 0 := by
    apply Nat.eq_of_testBit_eq
    intro j
    rw [Nat.testBit_mod_two_pow, Nat.zero_testBit]
    by_cases hj : j < k
    · rw [h.no j hj, Bool.and_false]
    · simp [hj]
  have ha : x = 2 ^ k * (x / 2 ^ k) := by
    have := Nat.div_add_mod x (2 ^ k)
    omega
  have hodd : (x / 2 ^ k) % 2 = 1 := by
    have := h.yes
    rw [Nat.testBit_eq_decide_div_mod_eq] at this
    exact of_decide_eq_true this
  have hpos : 0 < 2 ^ k := Nat.two_pow_pos k
  generalize hm : x / 2 ^ k = a at *
  obtain ⟨m, rfl⟩ : ∃ m, a = 2 * m + 1 := ⟨a / 2, by omega⟩
  have e : x - 1 = 2 ^ k * (2 * m) + (2 ^ k - 1) := by rw [ha, Nat.mul_add, Nat.mul_one]; omega
  rw [e, Nat.testBit_two_pow_mul_add _ (by omega)]
  by_cases hj : j < k
  · rw [if_pos hj, Nat.testBit_two_pow_sub_one]; simp [hj]
  · rw [if_neg hj, decide_eq_false hj, Bool.false_or]
    by_cases hk : k < j
    · rw [decide_eq_true hk, Bool.true_and]
      have e2 : x = 2 ^ k * (2 * m + 1) + 0 := by omega
      rw [e2, Nat.testBit_two_pow_mul_add _ hpos, if_neg hj]
      obtain ⟨i, hi⟩ : ∃ i, j - k = i + 1 := ⟨j - k - 1, by omega⟩
      rw [hi, Nat.testBit_succ, Nat.testBit_succ]
      congr 1
      omega
    · obtain rfl : j = k := by omega
      rw [Nat.sub_self, Nat.testBit_zero]
      simp
theorem clear_bit {x k : Nat} (h : Low x k) (j : Nat) : (x &&& (x - 1)).testBit j = (x.testBit j && !decide (j = k)) := by
  rw [Nat.testBit_and, pred_bit h]
  by_cases hj : j < k
  · rw [h.no j hj]; rfl
  · by_cases hk : k < j
    · have : j ≠ k := by omega
      simp [hj, hk, this]
    · obtain rfl : j = k := by omega
      simp
theorem low_pow {x k : Nat} (h : Low x k) (hx : x < 18446744073709551616) : x &&& (18446744073709551616 - x) = 2 ^ k := by
  have h0 : x ≠ 0 := by rintro rfl; have := h.yes; simp at this
  have hk : k < 64 := by
    rcases Nat.lt_or_ge k 64 with h' | h'
    · exact h'
    · have := testBit_lt hx h'; rw [h.yes] at this; cases this
  have e : 18446744073709551616 - x = 18446744073709551615 - (x - 1) := by omega
  rw [e]
  apply Nat.eq_of_testBit_eq
  intro j
  rw [Nat.testBit_and, not_bit _ (by omega), pred_bit h, Nat.testBit_two_pow]
  by_cases hj : j < k
  · have : k ≠ j := by omega
    rw [h.no j hj, decide_eq_false this]; rfl
  · by_cases hkj : k < j
    · have : k ≠ j := by omega
      rw [decide_eq_false this]
      simp [hj, hkj]
      intro h1 _; exact h1
    · obtain rfl : j = k := by omega
      simp [h.yes, hk]
theorem low_val {x k : Nat} (h : Low x k) (hx : x < 18446744073709551616) : bits BinOp.and .u64 (x : Int) (IntKind.u64.wrap (-(x : Int))) = ((2 ^ k : Nat) : Int) := by
  have h0 : x ≠ 0 := by rintro rfl; have := h.yes; simp at this
  have e : IntKind.u64.wrap (-(x : Int)) = ((18446744073709551616 - x : Nat) : Int) := by
    rw [IntKind.wrap_u64]; omega
  rw [e, u64_and_nat _ _ hx (by omega), low_pow h hx]
theorem mul_val' (a C : Nat) (Cz : Int) (h : Cz = (C : Int)) : IntKind.u64.wrap ((a : Int) * Cz) = ((a * C % 18446744073709551616 : Nat) : Int) := by
  rw [h, IntKind.wrap_u64, Int.natCast_emod, Int.natCast_mul]; rfl
theorem mul_val (k : Nat) : IntKind.u64.wrap (((2 ^ k : Nat) : Int) * 285870213051353865) = ((2 ^ k * 285870213051353865 % 18446744073709551616 : Nat) : Int) :=
  mul_val' (2 ^ k) 285870213051353865 285870213051353865 (by decide)
theorem shr_val (a : Nat) : ((a : Nat) : Int) / 288230376151711744 = ((a / 288230376151711744 : Nat) : Int) := by
  rw [Int.natCast_ediv]; rfl
theorem wrap64_nat (k : Nat) (h : k < 9223372036854775808) : wrap64 (k : Int) = k := by unfold wrap64; omega

set_option maxRecDepth 10000 in
set_option maxHeartbeats 400000 in
theorem tz_walk (x y z v : Int) (i : Nat) (w : World) (hn : (x == 0) = false) (hA : bits BinOp.and .u64 x (IntKind.u64.wrap (-x)) = y) (hM : IntKind.u64.wrap (y * 285870213051353865) = z)
    (hS : z / 288230376151711744 = (i : Nat)) (hi : (i : Int) < 64) (hc : w.cell? ⟨0, i, none⟩ = some (.int .u8 v)) :
    Calls Tryd.prog 56 #[.int .u64 x] w fun e w' => e = .returned (.int .i64 (wrap64 v)) ∧ w' = w := by
  go_enter Tryd.func56, Tryd.ntmps56
  go_wp2
  go_ret
  exact ⟨rfl, rfl⟩
/-- TrailingZeros64. -/
theorem tz_any (x k : Nat) (w : World) (hT : Tab w) (h : Low x k) (hx : x < 18446744073709551616) :
    Calls Tryd.prog 56 #[.int .u64 (x : Nat)] w fun e w' => e = .returned (.int .i64 (k : Nat)) ∧ w' = w := by
  have h0 : x ≠ 0 := by rintro rfl; have := h.yes; simp at this
  have hk : k < 64 := by
    rcases Nat.lt_or_ge k 64 with h' | h'
    · exact h'
    · have := testBit_lt hx h'; rw [h.yes] at this; cases this
  obtain ⟨d1, d2⟩ := debr_at k hk
  have := tz_walk (x : Int) _ _ _ _ w (by simpa using h0) (low_val h hx) (mul_val k) (shr_val _) (by omega) (hT.cell _ d1)
  rwa [d2, wrap64_nat k (by omega)] at this
end Go.Proofs.YtkbeiadbolihiaaDoor
namespace Go.Proofs.YtkbeiadbolihiaaDoor
open Go.RowKit
theorem innB_len (b : Nat) : (innB b).length ≤ 4 := by
  unfold innB numB
  split <;> simp
theorem size_str (l : List UInt8) : (⟨l.toArray⟩ : ByteArray).size = l.length := by simp [ByteArray.size]
theorem size_dash (p : ByteArray) : (p ++ (⟨#[45]⟩ : ByteArray)).size = p.size + 1 := by simp [ByteArray.size_append]; rfl
set_option maxRecDepth 10000 in
set_option maxHeartbeats 1000000 in
theorem runText_any (lo hi : Nat) (w : World) (hle : lo ≤ hi) (hh : hi < 256) : Calls Tryd.prog 54 #[.int .u8 (lo : Nat), .int .u8 (hi : Nat)] w (RetS w (runB lo hi)) := by
  have hl : lo < 256 := by omega
  by_cases h0 : hi = lo
  · subst h0
    have e : runB hi hi = innB hi := by unfold runB; rw [if_pos rfl]
    rw [e]
    go_enter Tryd.func54, Tryd.ntmps54
    go_wp2_with (go_at_call 39; refine (inner_any hi _ hl).mono ?_; rintro e w' ⟨rfl, hB⟩)
    go_ret
    exact ⟨rfl, hB⟩
  · by_cases h1 : hi = lo + 1
    · have e : runB lo hi = innB lo ++ innB hi := by unfold runB; rw [if_neg h0, if_pos h1]
      rw [e]
      have d0 : ((hi : Int) - lo == 0) = false := by simp; omega
      have d1 : ((hi : Int) - lo == 1) = true := by simp; omega
      unfold RetS
      rw [← str_app]
      generalize hp : (⟨(innB lo).toArray⟩ : ByteArray) = p
      generalize hq : (⟨(innB hi).toArray⟩ : ByteArray) = q
      have i1 : ∀ w, Calls Tryd.prog 39 #[.int .u8 (lo : Nat)] w fun e w' => e = .returned (.string p) ∧ Below w.heap.size w w' := fun w => by rw [← hp]; exact inner_any lo w hl
      have i2 : ∀ w, Calls Tryd.prog 39 #[.int .u8 (hi : Nat)] w fun e w' => e = .returned (.string q) ∧ Below w.heap.size w w' := fun w => by rw [← hq]; exact inner_any hi w hh
      have hp4 : p.size ≤ 4 := by rw [← hp, size_str]; exact innB_len lo
      have hq4 : q.size ≤ 4 := by rw [← hq, size_str]; exact innB_len hi
      have hd := size_dash p
      clear hp hq e h0 h1
      go_enter Tryd.func54, Tryd.ntmps54
      go_wp2_with fail
      refine (i1 _).mono ?_
      rintro e w1 ⟨rfl, hB1⟩
      go_wp2_with fail
      refine (i2 _).mono ?_
      rintro e w2 ⟨rfl, hB2⟩
      go_wp2
      go_ret
      exact ⟨rfl, hB1.trans (hB2.mono hB1.size)⟩
    · have e : runB lo hi = innB lo ++ [45] ++ innB hi := by unfold runB; rw [if_neg h0, if_neg h1]
      rw [e]
      have d0 : ((hi : Int) - lo == 0) = false := by simp; omega
      have d1 : ((hi : Int) - lo == 1) = false := by simp; omega
      unfold RetS
      rw [← str_app, ← str_app]
      generalize hp : (⟨(innB lo).toArray⟩ : ByteArray) = p
      generalize hq : (⟨(innB hi).toArray⟩ : ByteArray) = q
      have i1 : ∀ w, Calls Tryd.prog 39 #[.int .u8 (lo : Nat)] w fun e w' => e = .returned (.string p) ∧ Below w.heap.size w w' := fun w => by rw [← hp]; exact inner_any lo w hl
      have i2 : ∀ w, Calls Tryd.prog 39 #[.int .u8 (hi : Nat)] w fun e w' => e = .returned (.string q) ∧ Below w.heap.size w w' := fun w => by rw [← hq]; exact inner_any hi w hh
      have hp4 : p.size ≤ 4 := by rw [← hp, size_str]; exact innB_len lo
      have hq4 : q.size ≤ 4 := by rw [← hq, size_str]; exact innB_len hi
      have hd := size_dash p
      clear hp hq e h0 h1
      go_enter Tryd.func54, Tryd.ntmps54
      go_wp2_with fail
      refine (i1 _).mono ?_
      rintro e w1 ⟨rfl, hB1⟩
      go_wp2_with fail
      refine (i2 _).mono ?_
      rintro e w2 ⟨rfl, hB2⟩
      go_wp2
      go_ret
      exact ⟨rfl, hB1.trans (hB2.mono hB1.size)⟩
end Go.Proofs.YtkbeiadbolihiaaDoor
namespace Go.Proofs.YtkbeiadbolihiaaDoor
open Go.RowKit
/-- What First answers. -/
def RetF (w : World) (P : Nat → Bool) (e : Ending) (w' : World) : Prop :=
  ((∃ k : Nat, k < 256 ∧ e = .returned (.tuple #[.int .u8 (k : Nat), .bool true]) ∧ P k = true ∧ ∀ j, j < k → P j = false) ∨ (e = .returned (.tuple #[.int .u8 0, .bool false]) ∧ ∀ j, j < 256 → P j = false)) ∧ Below w.heap.size w w'
theorem Low.lt {x k : Nat} (h : Low x k) (hx : x < 18446744073709551616) : k < 64 := by
  rcases Nat.lt_or_ge k 64 with h' | h'
  · exact h'
  · have := testBit_lt hx h'; rw [h.yes] at this; cases this
theorem C4.low0 {P : Nat → Bool} {a b c d k : Nat} (h : C4 P a b c d)  (hl : Low a k) : P (0 + k) = true ∧ ∀ j, j < 0 + k → P j = false := by
  have hk := hl.lt h.la
  refine ⟨by have := h.ha k hk; rw [hl.yes] at this; rw [Nat.zero_add]; exact this.symm, fun j hj => ?_⟩
  have := h.ha (j - 0) (by omega)
  rw [hl.no _ (by omega), show j - 0 = j by omega] at this
  exact this.symm
theorem C4.low1 {P : Nat → Bool} {a b c d k : Nat} (h : C4 P a b c d) (za : a = 0) (hl : Low b k) : P (64 + k) = true ∧ ∀ j, j < 64 + k → P j = false := by
  have hk := hl.lt h.lb
  refine ⟨by have := h.hb k hk; rw [hl.yes] at this; exact this.symm, fun j hj => ?_⟩
  by_cases h0 : j < 64
  · have := h.ha (j - 0) (by omega)
    rw [za, Nat.zero_testBit, show j - 0 = j by omega] at this
    exact this.symm
  have := h.hb (j - 64) (by omega)
  rw [hl.no _ (by omega), show 64 + (j - 64) = j by omega] at this
  exact this.symm
theorem C4.low2 {P : Nat → Bool} {a b c d k : Nat} (h : C4 P a b c d) (za : a = 0) (zb : b = 0) (hl : Low c k) : P (128 + k) = true ∧ ∀ j, j < 128 + k → P j = false := by
  have hk := hl.lt h.lc
  refine ⟨by have := h.hc k hk; rw [hl.yes] at this; exact this.symm, fun j hj => ?_⟩
  by_cases h0 : j < 64
  · have := h.ha (j - 0) (by omega)
    rw [za, Nat.zero_testBit, show j - 0 = j by omega] at this
    exact this.symm
  by_cases h1 : j < 128
  · have := h.hb (j - 64) (by omega)
    rw [zb, Nat.zero_testBit, show 64 + (j - 64) = j by omega] at this
    exact this.symm
  have := h.hc (j - 128) (by omega)
  rw [hl.no _ (by omega), show 128 + (j - 128) = j by omega] at this
  exact this.symm
theorem C4.low3 {P : Nat → Bool} {a b c d k : Nat} (h : C4 P a b c d) (za : a = 0) (zb : b = 0) (zc : c = 0) (hl : Low d k) : P (192 + k) = true ∧ ∀ j, j < 192 + k → P j = false := by
  have hk := hl.lt h.ld
  refine ⟨by have := h.hd k hk; rw [hl.yes] at this; exact this.symm, fun j hj => ?_⟩
  by_cases h0 : j < 64
  · have := h.ha (j - 0) (by omega)
    rw [za, Nat.zero_testBit, show j - 0 = j by omega] at this
    exact this.symm
  by_cases h1 : j < 128
  · have := h.hb (j - 64) (by omega)
    rw [zb, Nat.zero_testBit, show 64 + (j - 64) = j by omega] at this
    exact this.symm
  by_cases h2 : j < 192
  · have := h.hc (j - 128) (by omega)
    rw [zc, Nat.zero_testBit, show 128 + (j - 128) = j by omega] at this
    exact this.symm
  have := h.hd (j - 192) (by omega)
  rw [hl.no _ (by omega), show 192 + (j - 192) = j by omega] at this
  exact this.symm
theorem C4.zero {P : Nat → Bool} {a b c d : Nat} (h : C4 P a b c d) (za : a = 0) (zb : b = 0) (zc : c = 0) (zd : d = 0) : ∀ j, j < 256 → P j = false := by
  intro j hj
  by_cases h0 : j < 64
  · have := h.ha j h0; rw [za, Nat.zero_testBit] at this; exact this.symm
  by_cases h1 : j < 128
  · have := h.hb (j - 64) (by omega)
    rw [zb, Nat.zero_testBit, show 64 + (j - 64) = j by omega] at this; exact this.symm
  by_cases h2 : j < 192
  · have := h.hc (j - 128) (by omega)
    rw [zc, Nat.zero_testBit, show 128 + (j - 128) = j by omega] at this; exact this.symm
  · have := h.hd (j - 192) (by omega)
    rw [zd, Nat.zero_testBit, show 192 + (j - 192) = j by omega] at this; exact this.symm
set_option maxRecDepth 10000 in
set_option maxHeartbeats 2000000 in
theorem first_c {P : Nat → Bool} {a b c d : Nat} (h4 : C4 P a b c d) (w : World) (hT : Tab w) : Calls Tryd.prog 37 #[.agg #[.int .u64 (a : Nat), .int .u64 (b : Nat), .int .u64 (c : Nat), .int .u64 (d : Nat)]] w (RetF w P) := by
  have hB : Below w.heap.size w (w.alloc (.cells #[.int .u64 (a : Nat), .int .u64 (b : Nat), .int .u64 (c : Nat), .int .u64 (d : Nat)] 24)) := (Below.refl _ _).alloc (Nat.le_refl _) _
  have hT1 := hT.below hB
  have i0 := idx0 (.int .u64 (a : Nat)) (.int .u64 (b : Nat)) (.int .u64 (c : Nat)) (.int .u64 (d : Nat))
  have i1 := idx1 (.int .u64 (a : Nat)) (.int .u64 (b : Nat)) (.int .u64 (c : Nat)) (.int .u64 (d : Nat))
  have i2 := idx2 (.int .u64 (a : Nat)) (.int .u64 (b : Nat)) (.int .u64 (c : Nat)) (.int .u64 (d : Nat))
  have i3 := idx3 (.int .u64 (a : Nat)) (.int .u64 (b : Nat)) (.int .u64 (c : Nat)) (.int .u64 (d : Nat))
  go_enter Tryd.func37, Tryd.ntmps37
  go_wp2
  go_loopw [7] (fun i wr => wr = w.alloc (.cells #[.int .u64 (a : Nat), .int .u64 (b : Nat), .int .u64 (c : Nat), .int .u64 (d : Nat)] 24) ∧ ((i = .int .i64 0) ∨ (i = .int .i64 1 ∧ Hid (a = 0)) ∨ (i = .int .i64 2 ∧ Hid (a = 0) ∧ Hid (b = 0)) ∨ (i = .int .i64 3 ∧ Hid (a = 0) ∧ Hid (b = 0) ∧ Hid (c = 0)) ∨ (i = .int .i64 4 ∧ Hid (a = 0) ∧ Hid (b = 0) ∧ Hid (c = 0) ∧ Hid (d = 0)))) (fun i _ => 4 - (intOf i).toNat)
  case atStart => exact ⟨rfl, .inl rfl⟩
  case round =>
    obtain ⟨rfl, hh⟩ := hrel
    rcases hh with rfl | ⟨rfl, za⟩ | ⟨rfl, za, zb⟩ | ⟨rfl, za, zb, zc⟩ | ⟨rfl, za, zb, zc, zd⟩
    · by_cases h0 : a = 0
      · have za : Hid (a = 0) := h0
        have hz : ((a : Int) != 0) = false := by simp [h0]
        clear h0
        go_wp2
        go_roundw
        case rel => exact ⟨trivial, .inr (.inl ⟨rfl, za⟩)⟩
        case measure => decide
      · obtain ⟨k, hk, hlow⟩ := low_ex 64 a h4.la h0
        have HL : Hid _ := h4.low0  hlow
        have hnz : ((a : Int) != 0) = true := by simpa using h0
        have hc : ((0 + k : Nat) : Int) = k := by omega
        have hki : (k : Int) < 64 := by omega
        have htz := tz_any a k _ hT1 hlow h4.la
        clear hlow h4 hT
        go_wp2_with (go_at_call 56; refine htz.mono ?_; rintro e w' ⟨rfl, rfl⟩)
        exact bodyPost_ret (v := .tuple #[.int .u8 ((0 + k : Nat) : Int), .bool true]) (by rw [hc]; simp [results, Tryd.results37, go_sem]) rfl ⟨.inl ⟨0 + k, by omega, rfl, HL.out.1, HL.out.2⟩, hB⟩
    · by_cases h0 : b = 0
      · have zb : Hid (b = 0) := h0
        have hz : ((b : Int) != 0) = false := by simp [h0]
        clear h0
        go_wp2
        go_roundw
        case rel => exact ⟨trivial, .inr (.inr (.inl ⟨rfl, za, zb⟩))⟩
        case measure => decide
      · obtain ⟨k, hk, hlow⟩ := low_ex 64 b h4.lb h0
        have HL : Hid _ := h4.low1 za hlow
        have hnz : ((b : Int) != 0) = true := by simpa using h0
        have hc : ((64 + k : Nat) : Int) = (64 : Int) + k := by omega
        have hki : (k : Int) < 64 := by omega
        have htz := tz_any b k _ hT1 hlow h4.lb
        clear hlow h4 hT
        go_wp2_with (go_at_call 56; refine htz.mono ?_; rintro e w' ⟨rfl, rfl⟩)
        exact bodyPost_ret (v := .tuple #[.int .u8 ((64 + k : Nat) : Int), .bool true]) (by rw [hc]; simp [results, Tryd.results37, go_sem]) rfl ⟨.inl ⟨64 + k, by omega, rfl, HL.out.1, HL.out.2⟩, hB⟩
    · by_cases h0 : c = 0
      · have zc : Hid (c = 0) := h0
        have hz : ((c : Int) != 0) = false := by simp [h0]
        clear h0
        go_wp2
        go_roundw
        case rel => exact ⟨trivial, .inr (.inr (.inr (.inl ⟨rfl, za, zb, zc⟩)))⟩
        case measure => decide
      · obtain ⟨k, hk, hlow⟩ := low_ex 64 c h4.lc h0
        have HL : Hid _ := h4.low2 za zb hlow
        have hnz : ((c : Int) != 0) = true := by simpa using h0
        have hc : ((128 + k : Nat) : Int) = (128 : Int) + k := by omega
        have hki : (k : Int) < 64 := by omega
        have htz := tz_any c k _ hT1 hlow h4.lc
        clear hlow h4 hT
        go_wp2_with (go_at_call 56; refine htz.mono ?_; rintro e w' ⟨rfl, rfl⟩)
        exact bodyPost_ret (v := .tuple #[.int .u8 ((128 + k : Nat) : Int), .bool true]) (by rw [hc]; simp [results, Tryd.results37, go_sem]) rfl ⟨.inl ⟨128 + k, by omega, rfl, HL.out.1, HL.out.2⟩, hB⟩
    · by_cases h0 : d = 0
      · have zd : Hid (d = 0) := h0
        have hz : ((d : Int) != 0) = false := by simp [h0]
        clear h0
        go_wp2
        go_roundw
        case rel => exact ⟨trivial, .inr (.inr (.inr (.inr ⟨rfl, za, zb, zc, zd⟩)))⟩
        case measure => decide
      · obtain ⟨k, hk, hlow⟩ := low_ex 64 d h4.ld h0
        have HL : Hid _ := h4.low3 za zb zc hlow
        have hnz : ((d : Int) != 0) = true := by simpa using h0
        have hc : ((192 + k : Nat) : Int) = (192 : Int) + k := by omega
        have hki : (k : Int) < 64 := by omega
        have htz := tz_any d k _ hT1 hlow h4.ld
        clear hlow h4 hT
        go_wp2_with (go_at_call 56; refine htz.mono ?_; rintro e w' ⟨rfl, rfl⟩)
        exact bodyPost_ret (v := .tuple #[.int .u8 ((192 + k : Nat) : Int), .bool true]) (by rw [hc]; simp [results, Tryd.results37, go_sem]) rfl ⟨.inl ⟨192 + k, by omega, rfl, HL.out.1, HL.out.2⟩, hB⟩
    · have HN : Hid _ := h4.zero za zb zc zd
      go_wp2
      exact bodyPost_ret (v := .tuple #[.int .u8 0, .bool false]) (by simp [results, Tryd.results37, go_sem]) rfl ⟨.inr ⟨rfl, HN.out⟩, hB⟩
end Go.Proofs.YtkbeiadbolihiaaDoor
namespace Go.Proofs.YtkbeiadbolihiaaDoor
open Go.RowKit Go.Shelf
/-- The numbers below k that P tells, rising. -/
def come (P : Nat → Bool) (k : Nat) : List Nat := (List.range k).filter P
theorem come_yes {P : Nat → Bool} {k : Nat} (h : P k = true) : come P (k + 1) = come P k ++ [k] := by
  unfold come; rw [List.range_succ, List.filter_append]; simp [h]
theorem come_no {P : Nat → Bool} {k : Nat} (h : P k = false) : come P (k + 1) = come P k := by
  unfold come; rw [List.range_succ, List.filter_append]; simp [h]
theorem come_len (P : Nat → Bool) (n : Nat) : (come P n).length ≤ n := by
  unfold come
  exact Nat.le_trans (List.length_filter_le _ _) (by simp)
/-- The runs that have ended ahead of n, and where the next one may begin. -/
def rs (P : Nat → Bool) : Nat → List (Nat × Nat) × Nat
  | 0 => ([], 0)
  | n + 1 => if (decide (n < 256) && P n) = true then rs P n else (if (rs P n).2 < n then (rs P n).1 ++ [((rs P n).2, n - 1)] else (rs P n).1, n + 1)
theorem rs_lo (P : Nat → Bool) (n : Nat) : (rs P n).2 ≤ n := by
  induction n with
  | zero => exact Nat.le_refl _
  | succ n ih =>
    rw [rs]
    split
    · omega
    · exact Nat.le_refl _
theorem rs_len (P : Nat → Bool) (n : Nat) : (rs P n).1.length ≤ n := by
  induction n with
  | zero => exact Nat.le_refl _
  | succ n ih =>
    rw [rs]
    split
    · omega
    · show (ite _ _ _ : List (Nat × Nat)).length ≤ n + 1
      split
      · simp; omega
      · omega
attribute [local go_sem] Oper.semAt_some
theorem grown_below {W W' : World} (h : Below W.heap.size W W') : W.grownBy W' none := ⟨h.os, h.tape, h.output, h.size, fun k hk _ => h.block k hk⟩
theorem abides {β : Type} {B : Nat} {J : β → World → Prop} (h : AbidesFrom B J) {s : β} {W W' : World} (hb : Below W.heap.size W W') (hs : J s W) : J s W' :=
  h s W W' none hs (grown_below hb) (fun r e => by cases e)
theorem rs_in {P : Nat → Bool} {k : Nat} (hk : k < 256) (h : P k = true) : rs P (k + 1) = rs P k := by
  rw [rs, decide_eq_true hk, h]; rfl
theorem rs_out {P : Nat → Bool} {k : Nat} (h : (decide (k < 256) && P k) = false) (hl : (rs P k).2 < k) : rs P (k + 1) = ((rs P k).1 ++ [((rs P k).2, k - 1)], k + 1) := by
  rw [rs, h, if_neg (by decide), if_pos hl]
theorem rs_skip {P : Nat → Bool} {k : Nat} (h : (decide (k < 256) && P k) = false) (hl : ¬ (rs P k).2 < k) : rs P (k + 1) = ((rs P k).1, k + 1) := by
  rw [rs, h, if_neg (by decide), if_neg hl]
set_option maxRecDepth 100000 in
set_option maxHeartbeats 4000000 in
/-- The iterator of Runs. -/
theorem runsIt_in {P : Nat → Bool} {a b c d : Nat} (m l bc B : Nat) (h4 : C4 P a b c d) (Kp : World → World → Prop) (J Jx : List (Nat × Nat) → World → Prop) (hm : 1 ≤ m) (hA : AbidesFrom B J)
    (hK : ∀ W W', Kp W W' → Bx W bc (.int .u64 (a : Nat)) (.int .u64 (b : Nat)) (.int .u64 (c : Nat)) (.int .u64 (d : Nat)) → Bx W' bc (.int .u64 (a : Nat)) (.int .u64 (b : Nat)) (.int .u64 (c : Nat)) (.int .u64 (d : Nat)))
    (hY : ∀ pre x W, J pre W → pre.length < 257 → x.1 ≤ x.2 → x.2 < 256 → YieldAt Fence.wide (m - 1) Tryd.prog l #[.int .u8 (x.1 : Nat), .int .u8 (x.2 : Nat)] W fun e W' =>
      (e = .returned (.bool true) ∧ J (pre ++ [x]) W' ∧ Kp W W') ∨ (e = .returned (.bool false) ∧ Jx (pre ++ [x]) W'))
    (W : World) (hb : Bx W bc (.int .u64 (a : Nat)) (.int .u64 (b : Nat)) (.int .u64 (c : Nat)) (.int .u64 (d : Nat))) (h0 : J [] W) :
    CallsIn Fence.wide m Tryd.prog 66 #[.func (.yield l) #[] #[], .pointer (some ⟨bc, 0, none⟩)] W fun e W' => (∃ v, e = .returned v) ∧
      ((∃ ys, ys = (rs P 257).1 ∧ J ys W') ∨ (∃ pre, True ∧ Jx pre W')) := by
  refine callsIn_of_wp Tryd.func66 rfl trivial ?_ rfl
  simp only [Tryd.ntmps66, List.size_toArray, List.length_cons, List.length_nil, Nat.reduceAdd, Nat.reduceSub, Array.replicate_succ, Array.replicate_zero, List.push_toArray, List.append_toArray, List.nil_append, List.cons_append]
  gi_wp2
  gi_loopw [3, 5] (fun j i wr => ∃ k lo : Nat, k ≤ 257 ∧ i = .int .i64 (k : Nat) ∧ j = .int .i64 (lo : Nat) ∧ (rs P k).2 = lo ∧ J (rs P k).1 wr ∧ Bx wr bc (.int .u64 (a : Nat)) (.int .u64 (b : Nat)) (.int .u64 (c : Nat)) (.int .u64 (d : Nat))) (fun _ i _ => 257 - (intOf i).toNat)
  case atStart => exact ⟨0, 0, by omega, rfl, rfl, rfl, h0, hb⟩
  case round =>
    obtain ⟨k, lo, hk, rfl, rfl, hlo, hJ, hx⟩ := hrel
    obtain ⟨c0, c1, c2, c3, f0, f1, f2, f3⟩ := hx.cells
    have hlk : lo ≤ k := by rw [← hlo]; exact rs_lo P k
    have hlen : k < 257 → (rs P k).1.length < 257 := by have := rs_len P k; omega
    by_cases hlt : k < 257
    · have hlen := hlen hlt
      have hki : (k : Int) < 257 := by omega
      by_cases h256 : k < 256
      · have hk2 : (k : Int) < 256 := by omega
        have hh := has_c h4 k wr h256
        cases hP : P k with
        | true =>
          rw [hP] at hh
          have hin := rs_in h256 hP
          gi_wp2_with (refine ⟨trivial, ?_⟩; gi_at_call 67; refine (callsIn_wide.2 hh).mono ?_; rintro e w1 ⟨rfl, hb1⟩; have hJ1 := abides hA hb1 hJ; have hx1 := hx.below hb1)
          go_roundw
          case rel => exact ⟨k + 1, lo, by omega, by go_num, rfl, by rw [hin]; exact hlo, by rw [hin]; exact hJ1, hx1⟩
          case measure => simp [intOf]; omega
        | false =>
          rw [hP] at hh
          have hq : (decide (k < 256) && P k) = false := by rw [hP, Bool.and_false]
          by_cases hl : lo < k
          · have hout := rs_out hq (by rw [hlo]; exact hl)
            have hli : (lo : Int) < (k : Int) := by omega
            have hk1 : ((k - 1 : Nat) : Int) = (k : Int) - 1 := by omega
            have hv1 : (lo, k - 1).1 ≤ (lo, k - 1).2 := by show lo ≤ k - 1; omega
            have hv2 : (lo, k - 1).2 < 256 := by show k - 1 < 256; omega
            gi_wp2_with (refine ⟨trivial, ?_⟩; gi_at_call 67; refine (callsIn_wide.2 hh).mono ?_; rintro e w1 ⟨rfl, hb1⟩; have hJ1 := abides hA hb1 hJ; have hx1 := hx.below hb1; obtain ⟨fn, tmps, assign, body, hy, hR⟩ := hY (rs P k).1 (lo, k - 1) w1 hJ1 hlen hv1 hv2; rw [hk1] at hy)
            refine hR.mono ?_
            rintro e W3 (⟨rfl, hJ3, hk3⟩ | ⟨rfl, hJx3⟩)
            · have hx3 := hK _ _ hk3 hx1
              gi_wp2
              go_roundw
              case rel => exact ⟨k + 1, k + 1, by omega, by go_num, by go_num, by rw [hout], by rw [hout, hlo]; exact hJ3, hx3⟩
              case measure => simp [intOf]; omega
            · gi_wp2
              refine bodyPost_ret (results_none rfl _ _ _) rfl ?_
              exact ⟨⟨_, rfl⟩, .inr ⟨_, trivial, hJx3⟩⟩
          · have hout := rs_skip hq (by rw [hlo]; exact hl)
            have hli : ¬ ((lo : Int) < (k : Int)) := by omega
            gi_wp2_with (refine ⟨trivial, ?_⟩; gi_at_call 67; refine (callsIn_wide.2 hh).mono ?_; rintro e w1 ⟨rfl, hb1⟩; have hJ1 := abides hA hb1 hJ; have hx1 := hx.below hb1)
            refine ⟨(fun f h => by cases h), ?_⟩
            gi_wp2
            go_roundw
            case rel => exact ⟨k + 1, k + 1, by omega, by go_num, by go_num, by rw [hout], by rw [hout]; exact hJ1, hx1⟩
            case measure => simp [intOf]; omega
      · have hk2 : ¬ ((k : Int) < 256) := by omega
        have hq : (decide (k < 256) && P k) = false := by rw [decide_eq_false h256, Bool.false_and]
        by_cases hl : lo < k
        · have hout := rs_out hq (by rw [hlo]; exact hl)
          have hli : (lo : Int) < (k : Int) := by omega
          have hk1 : ((k - 1 : Nat) : Int) = (k : Int) - 1 := by omega
          have hv1 : (lo, k - 1).1 ≤ (lo, k - 1).2 := by show lo ≤ k - 1; omega
          have hv2 : (lo, k - 1).2 < 256 := by show k - 1 < 256; omega
          obtain ⟨fn, tmps, assign, body, hy, hR⟩ := hY (rs P k).1 (lo, k - 1) wr hJ hlen hv1 hv2
          rw [hk1] at hy
          gi_wp2
          refine ⟨trivial, ?_⟩
          gi_wp2
          refine hR.mono ?_
          rintro e W3 (⟨rfl, hJ3, hk3⟩ | ⟨rfl, hJx3⟩)
          · have hx3 := hK _ _ hk3 hx
            gi_wp2
            go_roundw
            case rel => exact ⟨k + 1, k + 1, by omega, by go_num, by go_num, by rw [hout], by rw [hout, hlo]; exact hJ3, hx3⟩
            case measure => simp [intOf]; omega
          · gi_wp2
            refine bodyPost_ret (results_none rfl _ _ _) rfl ?_
            exact ⟨⟨_, rfl⟩, .inr ⟨_, trivial, hJx3⟩⟩
        · have hout := rs_skip hq (by rw [hlo]; exact hl)
          have hli : ¬ ((lo : Int) < (k : Int)) := by omega
          gi_wp2
          refine ⟨trivial, ?_⟩
          gi_wp2
          refine ⟨(fun f h => by cases h), ?_⟩
          gi_wp2
          go_roundw
          case rel => exact ⟨k + 1, k + 1, by omega, by go_num, by go_num, by rw [hout], by rw [hout]; exact hJ, hx⟩
          case measure => simp [intOf]; omega
    · have hki : ¬ ((k : Int) < 257) := by omega
      have hke : Hid (J (rs P 257).1 wr) := by rw [show 257 = k by omega]; exact hJ
      gi_wp2
      go_end0
      exact ⟨⟨_, rfl⟩, .inl hke.out⟩
theorem mk_func : ∀ (fn : Fn) (first cap : Array Value) (w : World), (Instr.makeFunc fn first cap).run Tryd.prog w = .ok (.func fn first cap) w := fun _ _ _ _ => rfl
set_option maxHeartbeats 400000 in
theorem runs_mk (a b c d : Nat) (w : World) : Calls Tryd.prog 52 #[.agg #[.int .u64 (a : Nat), .int .u64 (b : Nat), .int .u64 (c : Nat), .int .u64 (d : Nat)]] w fun e w' => e = .returned (.func (.func 66) #[] #[.pointer (some ⟨w.heap.size, 0, none⟩)]) ∧ Bx w' w.heap.size (.int .u64 (a : Nat)) (.int .u64 (b : Nat)) (.int .u64 (c : Nat)) (.int .u64 (d : Nat)) ∧ Below w.heap.size w w' := by
  have hmf := mk_func
  go_enter Tryd.func52, Tryd.ntmps52
  go_wp2
  go_ret
  exact ⟨rfl, Bx.new w _ _ _ _, (Below.refl _ _).alloc (Nat.le_refl _) _⟩
end Go.Proofs.YtkbeiadbolihiaaDoor
