/- Package bits, as this program calls it: sets as words of bits; Check, empty, New: the walks. -/
import Derived.Test.YtnjnaihogbnmaaaRs
namespace Go.Proofs.Ytnjnaihogbnmaaa
open Go.RowKit

def bitAt (f : Nat → Nat) (k : Nat) : Bool := (f (k / 64)).testBit (k % 64)
def mask (n : Int) : Nat := 18446744073709551615 / 2 ^ (63 - (n - 1) % 64).toNat
theorem mask_eq (n : Int) : Value.int IntKind.u64 (18446744073709551615 / 2 ^ (63 - (n - 1) % 64).toNat) = .int .u64 (mask n : Nat) := by
  generalize hk : (63 - (n - 1) % 64).toNat = k
  unfold mask; rw [hk, Int.natCast_ediv, Int.natCast_pow]
  rfl
theorem mask_all : ∀ k : Nat, k < 64 → 18446744073709551615 / 2 ^ (63 - k) = 2 ^ (k + 1) - 1 := by decide +kernel
theorem mask_pow (n : Int) : mask n = 2 ^ (((n - 1) % 64).toNat + 1) - 1 := by
  have h0 : 0 ≤ (n - 1) % 64 := Int.emod_nonneg _ (by decide)
  have h1 : (n - 1) % 64 < 64 := Int.emod_lt_of_pos _ (by decide)
  unfold mask
  generalize (n - 1) % 64 = r at *
  obtain ⟨k, rfl⟩ := Int.eq_ofNat_of_zero_le h0
  have hk : k < 64 := by omega
  have e : (63 - (k : Int)).toNat = 63 - k := by omega
  have e2 : (k : Int).toNat = k := by omega
  rw [e, e2]
  clear e e2 h0 h1
  exact mask_all k hk
theorem mask_bit (n : Int) (j : Nat) : (mask n).testBit j = decide (j ≤ ((n - 1) % 64).toNat) := by
  rw [mask_pow, Nat.testBit_two_pow_sub_one]
  simp [Nat.lt_succ_iff]
theorem mask_lt (n : Int) : mask n < 18446744073709551616 := by
  rw [mask_pow]
  have h1 : (n - 1) % 64 < 64 := Int.emod_lt_of_pos _ (by decide)
  have h2 : 2 ^ (((n - 1) % 64).toNat + 1) ≤ 2 ^ 64 := Nat.pow_le_pow_right (by decide) (by omega)
  have : (2 : Nat) ^ 64 = 18446744073709551616 := by decide
  omega

theorem testBit_lt {a : Nat} (h : a < 18446744073709551616) {j : Nat} (hj : 64 ≤ j) : a.testBit j = false := by
  apply Nat.testBit_lt_two_pow
  calc a < 2 ^ 64 := h
    _ ≤ 2 ^ j := Nat.pow_le_pow_right (by decide) hj
theorem word_ext {a b : Nat} (ha : a < 18446744073709551616) (hb : b < 18446744073709551616) (h : ∀ j, j < 64 → a.testBit j = b.testBit j) : a = b := by
  apply Nat.eq_of_testBit_eq
  intro j
  by_cases hj : j < 64
  · exact h j hj
  · rw [testBit_lt ha (by omega), testBit_lt hb (by omega)]
theorem not_bit (b : Nat) (hb : b < 18446744073709551616) (j : Nat) : (18446744073709551615 - b).testBit j = (decide (j < 64) && !b.testBit j) := by
  have : 18446744073709551615 - b = 2 ^ 64 - (b + 1) := by omega
  rw [this, Nat.testBit_two_pow_sub_succ hb]
theorem andNot_bit (a b : Nat) (ha : a < 18446744073709551616) (hb : b < 18446744073709551616) (j : Nat) : (a &&& (18446744073709551615 - b)).testBit j = (a.testBit j && !b.testBit j) := by
  rw [Nat.testBit_and, not_bit b hb]
  by_cases hj : j < 64
  · simp [hj]
  · simp [testBit_lt ha (show 64 ≤ j by omega)]
theorem and_lt {a : Nat} (ha : a < 18446744073709551616) (b : Nat) : a &&& b < 18446744073709551616 := Nat.lt_of_le_of_lt Nat.and_le_left ha
theorem or_lt {a b : Nat} (ha : a < 18446744073709551616) (hb : b < 18446744073709551616) : a ||| b < 18446744073709551616 := Nat.or_lt_two_pow (n := 64) ha hb
theorem pow_bit_lt {j : Nat} (h : j < 64) : 2 ^ j < 18446744073709551616 := by
  have : (2 : Nat) ^ j < 2 ^ 64 := Nat.pow_lt_pow_right (by decide) h
  exact this

/-- A set of N n, of len words f, whose numbers P tells. -/
structure IsSet (n len : Nat) (f : Nat → Nat) (P : Nat → Bool) : Prop where
  hle : n ≤ 8192
  hlen : len = (n + 63) / 64
  hbit : ∀ k, k < 64 * len → bitAt f k = P k
  hout : ∀ k, n ≤ k → P k = false

/-- What Check lets by. -/
def Ok (n : Int) (len : Nat) (f : Nat → Nat) : Prop := 0 ≤ n ∧ n ≤ 8192 ∧ (len : Int) = (n + 63) / 64 ∧ ∀ k : Nat, n ≤ k → k < 64 * len → bitAt f k = false

theorem IsSet.ok {n len : Nat} {f : Nat → Nat} {P : Nat → Bool} (h : IsSet n len f P) : Ok n len f := by
  refine ⟨by omega, by have := h.hle; omega, by have := h.hlen; omega, fun k h1 h2 => ?_⟩
  rw [h.hbit k h2]; exact h.hout k (by omega)
theorem Ok.isSet {n : Int} {len : Nat} {f : Nat → Nat} (h : Ok n len f) : ∃ m : Nat, n = m ∧ IsSet m len f (fun k => decide (k < 64 * len) && bitAt f k) := by
  obtain ⟨h0, h1, h2, h3⟩ := h
  obtain ⟨m, rfl⟩ := Int.eq_ofNat_of_zero_le h0
  refine ⟨m, rfl, by omega, by omega, fun k hk => by simp [hk], fun k hk => ?_⟩
  by_cases h : k < 64 * len
  · simp [h, h3 k (by omega) h]
  · simp [h]

/-- One set has one list of words. -/
theorem IsSet.uniq {n l l' : Nat} {f g : Nat → Nat} {P : Nat → Bool} (h : IsSet n l f P) (h' : IsSet n l' g P) (hf : ∀ i, i < l → f i < 18446744073709551616) (hg : ∀ i, i < l' → g i < 18446744073709551616) :
    l = l' ∧ ∀ i, i < l → f i = g i := by
  have e : l = l' := by rw [h.hlen, h'.hlen]
  subst e
  refine ⟨rfl, fun i hi => word_ext (hf i hi) (hg i hi) fun j hj => ?_⟩
  have a := h.hbit (64 * i + j) (by omega)
  have b := h'.hbit (64 * i + j) (by omega)
  have e1 : (64 * i + j) / 64 = i := by omega
  have e2 : (64 * i + j) % 64 = j := by omega
  unfold bitAt at a b
  rw [e1, e2] at a b
  rw [a, b]

/-- What Check asks of the last word. -/
theorem ok_last {n : Int} {len m : Nat} {f : Nat → Nat} (h0 : 0 < n) (h1 : n ≤ 8192) (h2 : (len : Int) = (n + 63) / 64) (hm : m + 1 = len) (hf : ∀ i, i < len → f i < 18446744073709551616) :
    (bits .andNot .u64 (f m : Nat) (mask n : Nat) = 0) ↔ Ok n len f := by
  have hfm := hf m (by omega)
  rw [u64_andNot_nat _ _ hfm (mask_lt n)]
  constructor
  · intro h
    have hz : f m &&& (18446744073709551615 - mask n) = 0 := by omega
    refine ⟨by omega, h1, h2, fun k hk hk2 => ?_⟩
    have e : k / 64 = m := by omega
    unfold bitAt
    rw [e]
    have := andNot_bit (f m) (mask n) hfm (mask_lt n) (k % 64)
    rw [hz, Nat.zero_testBit, mask_bit, decide_eq_false (by omega)] at this
    simpa using this.symm
  · rintro ⟨_, _, _, h⟩
    have : f m &&& (18446744073709551615 - mask n) = 0 := by
      apply word_ext (and_lt hfm _) (by decide)
      intro j hj
      rw [andNot_bit _ _ hfm (mask_lt n), mask_bit, Nat.zero_testBit]
      by_cases hjn : j ≤ ((n - 1) % 64).toNat
      · simp [hjn]
      · have := h (64 * m + j) (by omega) (by omega)
        unfold bitAt at this
        rw [show (64 * m + j) / 64 = m by omega, show (64 * m + j) % 64 = j by omega] at this
        simp [this]
    rw [this]; rfl

/-- The same, in a block from B on that may be written. -/
structure OwnU (B : Nat) (w : World) (ao : Option Addr) (len : Nat) (f : Nat → Nat) : Prop where
  small : ∀ i, i < len → f i < 18446744073709551616
  lt : ∀ a, ao = some a → a.block < w.heap.size ∧ B ≤ a.block
  row : 0 < len → ∃ b cur, ao = some ⟨b, 0, none⟩ ∧ w.heap[b]? = some (.cells cur 37 (0, 0)) ∧ cur.size = len ∧ ∀ i, i < len → cur[i]? = some (.int .u64 (f i : Nat))

theorem OwnU.at_ {B : Nat} {w : World} {ao : Option Addr} {len : Nat} {f : Nat → Nat} (h : OwnU B w ao len f) (hl : 0 < len) :
    ∃ b, ao = some ⟨b, 0, none⟩ ∧ ∀ i, i < len → w.cell? ⟨b, i, none⟩ = some (.int .u64 (f i : Nat)) ∧ w.frozen? ⟨b, i, none⟩ = false := by
  obtain ⟨b, cur, e, hh, _, hc⟩ := h.row hl
  exact ⟨b, e, fun i hi => ⟨by rw [cell_of_row w b i cur 37 (0, 0) hh]; exact hc i hi, frozen_of_row w b i cur 37 hh⟩⟩

theorem OwnU.rd {B : Nat} {w : World} {ao : Option Addr} {len : Nat} {f : Nat → Nat} (h : OwnU B w ao len f) : RdU w ao len f := by
  refine ⟨h.small, fun hl => ?_⟩
  obtain ⟨b, e, hc⟩ := h.at_ hl
  exact ⟨b, 0, e, (h.lt _ e).1, fun i hi => by rw [Nat.zero_add]; exact (hc i hi).1⟩

theorem OwnU.mono {B B' : Nat} {w : World} {ao : Option Addr} {len : Nat} {f : Nat → Nat} (h : OwnU B w ao len f) (hB : B' ≤ B) : OwnU B' w ao len f :=
  ⟨h.small, fun a e => ⟨(h.lt a e).1, Nat.le_trans hB (h.lt a e).2⟩, h.row⟩

theorem OwnU.below {B : Nat} {w w' : World} {ao : Option Addr} {len : Nat} {f : Nat → Nat} (h : OwnU B w ao len f) (hb : Below w.heap.size w w') : OwnU B w' ao len f := by
  refine ⟨h.small, fun a e => ⟨Nat.lt_of_lt_of_le (h.lt a e).1 hb.size, (h.lt a e).2⟩, fun hl => ?_⟩
  obtain ⟨b, cur, e, hh, hc⟩ := h.row hl
  have hlt := (h.lt _ e).1
  exact ⟨b, cur, e, by rw [hb.block b hlt]; exact hh, hc⟩

/-- What is owned behind a store into it. -/
theorem OwnU.set {B : Nat} {w : World} {ao : Option Addr} {len : Nat} {f : Nat → Nat} (h : OwnU B w ao len f) {b i v : Nat} (e : ao = some ⟨b, 0, none⟩) (hi : i < len) (hv : v < 18446744073709551616) :
    OwnU B (w.setCell ⟨b, i, none⟩ (.int .u64 (v : Nat))) ao len (upd f i v) := by
  refine ⟨fun j hj => ?_, fun a ea => ?_, fun hl => ?_⟩
  · unfold upd; split
    · exact hv
    · exact h.small j hj
  · have := h.lt a ea; simpa [World.setCell] using this
  · obtain ⟨b', cur, e', hh, hsz, hc⟩ := h.row hl
    obtain rfl : b' = b := by rw [e] at e'; simpa using e'.symm
    refine ⟨b', cur.setIfInBounds i (.int .u64 (v : Nat)), e, heap_setCell_same w b' i cur 37 _ hh, by simpa using hsz, fun j hj => ?_⟩
    by_cases hji : j = i
    · subst hji
      simp [upd, hsz, hj]
    · rw [Array.getElem?_setIfInBounds_ne (by omega)]
      simp only [upd, if_neg hji]
      exact hc j hj

theorem OwnU.drewN {B : Nat} {w : World} {ao : Option Addr} {len : Nat} {f : Nat → Nat} (h : OwnU B w ao len f) (n : Nat) : OwnU B (w.drewN n) ao len f := h.below (below_drewN (Below.refl _ _) n)
theorem OwnU.alloc {B : Nat} {w : World} {ao : Option Addr} {len : Nat} {f : Nat → Nat} (h : OwnU B w ao len f) (o : Obj) : OwnU B (w.alloc o) ao len f := h.below ((Below.refl _ _).alloc (Nat.le_refl _) o)
theorem OwnU.drew {B : Nat} {w : World} {ao : Option Addr} {len : Nat} {f : Nat → Nat} (h : OwnU B w ao len f) : OwnU B w.drew ao len f := h.below (Below.refl _ _).drew
theorem OwnU.but {B : Nat} {w w' : World} {ao ax : Option Addr} {len : Nat} {f : Nat → Nat} (h : OwnU B w ao len f) (hb : But ax w w') (hne : ∀ a c, ao = some a → ax = some c → c.block ≠ a.block) : OwnU B w' ao len f := by
  refine ⟨h.small, fun a e => ⟨Nat.lt_of_lt_of_le (h.lt a e).1 hb.size, (h.lt a e).2⟩, fun hl => ?_⟩
  obtain ⟨b, cur, e, hh, hc⟩ := h.row hl
  have hlt := (h.lt _ e).1
  exact ⟨b, cur, e, by rw [hb.block b hlt (fun c ec => by have := hne _ c e ec; exact this)]; exact hh, hc⟩
/-- What make leaves. -/
theorem ownU_made {B : Nat} {w : World} {g n : Nat} (h : w.ownsRow B 37 1 (.slice (some ⟨g, 0, none⟩) n n) n (madeCells #[Value.int .u64 0] n).toList) (hlt : g < w.heap.size) (hB : B ≤ g) :
    OwnU B w (some ⟨g, 0, none⟩) n (fun _ => 0) := by
  refine ⟨fun _ _ => by decide, fun a e => ?_, fun hl => ?_⟩
  · obtain rfl := Option.some.inj e; exact ⟨hlt, hB⟩
  · rcases h.2 with ⟨h', _⟩ | ⟨g', cap', cur, h', _, hg, _, _, hsz, htake⟩
    · simp at h'
    · simp only [Value.slice.injEq, Option.some.injEq, Addr.mk.injEq, and_true, true_and] at h'
      obtain ⟨rfl, rfl⟩ := h'
      refine ⟨g, cur, rfl, hg, by simpa using hsz, fun i hi => ?_⟩
      have e : cur.toList[i]? = ((madeCells #[Value.int .u64 0] n).toList)[i]? := by
        rw [← htake, List.getElem?_take, if_pos (by omega)]
      rw [← Array.getElem?_toList, e]
      rw [toList_madeCells_one, List.getElem?_replicate, if_pos (by omega)]
      rfl

theorem RdU.alloc {w : World} {ao : Option Addr} {len : Nat} {f : Nat → Nat} (h : RdU w ao len f) (o : Obj) : RdU (w.alloc o) ao len f := h.below ((Below.refl _ _).alloc (Nat.le_refl _) o)
theorem RdU.drewN {w : World} {ao : Option Addr} {len : Nat} {f : Nat → Nat} (h : RdU w ao len f) (n : Nat) : RdU (w.drewN n) ao len f := h.below (below_drewN (Below.refl _ _) n)
theorem bcell {W w1 : World} (hb : Below W.heap.size W w1) : (∀ b o, b < W.heap.size → w1.cell? ⟨b, o, none⟩ = W.cell? ⟨b, o, none⟩) ∧ (∀ b o, b < W.heap.size → w1.frozen? ⟨b, o, none⟩ = W.frozen? ⟨b, o, none⟩) :=
  ⟨fun b o h => hb.cell (p := ⟨b, o, none⟩) h, fun b o h => hb.frozen (p := ⟨b, o, none⟩) h⟩
theorem rdu_none (w : World) (ao : Option Addr) (f : Nat → Nat) : RdU w ao 0 f := ⟨fun i h => by omega, fun h => by omega⟩
set_option maxHeartbeats 400000 in
theorem wordsOf_any (n : Int) (w : World) (h0 : 0 ≤ n) (h1 : n ≤ 8192) :
    Calls Try.prog 49 #[.int .i64 n] w fun e w' => e = .returned (.int .i64 ((n + 63) / 64)) ∧ w' = w := by
  go_enter Try.func49, Try.ntmps49
  go_wp2
  go_ret
  exact ⟨rfl, rfl⟩

set_option maxHeartbeats 400000 in
theorem lastMask_any (n : Int) (w : World) (h0 : 1 ≤ n) (h1 : n ≤ 8192) :
    Calls Try.prog 50 #[.int .i64 n] w fun e w' => e = .returned (.int .u64 (mask n : Nat)) ∧ w' = w := by
  go_enter Try.func50, Try.ntmps50
  go_wp2
  go_ret
  exact ⟨congrArg _ (mask_eq n), rfl⟩

theorem quiet2 {P : Program} {f : FuncId} {args : Array Value} {w : World} {k n : Nat} {v : Value}
    (h : Calls P f args (w.drewN (k + n)) fun e w' => e = .returned v ∧ w' = w.drewN (k + n)) :
    Calls P f args (w.drewN (k + n)) fun e w' => e = .returned v ∧ ∃ m, w' = w.drewN (k + m) :=
  h.mono fun _ _ h => ⟨h.1, n, h.2⟩
-- Check, n < 0
set_option maxHeartbeats 400000 in
theorem check_neg (n : Int) (ao : Option Addr) (len cap : Nat) (w : World) (h0 : n < 0) :
    Calls Try.prog 42 #[.agg #[.int .i64 n, .slice ao len cap]] w fun e w' => e = .returned (.int .i64 10) ∧ Below w.heap.size w w' := by
  have hd : decide (n < 0) = true := by simpa using h0
  go_enter Try.func42, Try.ntmps42
  go_wp2
  go_quiet (fail)
  go_wp2
  go_ret
  exact ⟨rfl, below_drewN ((Below.refl _ _).alloc (Nat.le_refl _) _) _⟩

-- Check, n > 8192
set_option maxHeartbeats 400000 in
theorem check_big (n : Int) (ao : Option Addr) (len cap : Nat) (w : World) (h0 : 8192 < n) :
    Calls Try.prog 42 #[.agg #[.int .i64 n, .slice ao len cap]] w fun e w' => e = .returned (.int .i64 10) ∧ Below w.heap.size w w' := by
  have hd : decide (n < 0) = false := by simp; omega
  have hd2 : decide (8192 < n) = true := by simp; omega
  go_enter Try.func42, Try.ntmps42
  go_wp2
  go_quiet (fail)
  go_wp2
  go_ret
  exact ⟨rfl, below_drewN ((Below.refl _ _).alloc (Nat.le_refl _) _) _⟩

set_option maxHeartbeats 400000 in
theorem check_len (n : Int) (ao : Option Addr) (len cap : Nat) (w : World) (h0 : 0 ≤ n) (h1 : n ≤ 8192) (h2 : (len : Int) ≠ (n + 63) / 64) :
    Calls Try.prog 42 #[.agg #[.int .i64 n, .slice ao len cap]] w fun e w' => e = .returned (.int .i64 10) ∧ Below w.heap.size w w' := by
  have hd : decide (n < 0) = false := by simp; omega
  have hd2 : decide (8192 < n) = false := by simp; omega
  have hd3 : ((len : Int) != (n + 63) / 64) = true := by simpa using h2
  go_enter Try.func42, Try.ntmps42
  go_wp2
  go_quiet ((go_at_call 49; exact Calls.quiet_of_same (wordsOf_any n _ (by omega) (by omega))))
  go_wp2
  go_ret
  exact ⟨rfl, below_drewN ((Below.refl _ _).alloc (Nat.le_refl _) _) _⟩

set_option maxHeartbeats 400000 in
theorem check_zero (n : Int) (ao : Option Addr) (len cap : Nat) (w : World) (h0 : n = 0) (h2 : len = 0) :
    Calls Try.prog 42 #[.agg #[.int .i64 n, .slice ao len cap]] w fun e w' => e = .returned (.int .i64 0) ∧ Below w.heap.size w w' := by
  subst h0 h2
  go_enter Try.func42, Try.ntmps42
  go_wp2
  go_quiet ((go_at_call 49; exact Calls.quiet_of_same (wordsOf_any 0 _ (by omega) (by omega))))
  go_wp2
  go_quiet (fail)
  go_wp2
  go_ret
  exact ⟨rfl, below_drewN (below_drewN ((Below.refl _ _).alloc (Nat.le_refl _) _) _) _⟩


theorem wrapi64_in (n : Int) (h : -9223372036854775808 ≤ n) (h' : n ≤ 9223372036854775807) : IntKind.i64.wrap n = n := by
  simp [IntKind.wrap, IntKind.bits, IntKind.signed]; omega
set_option maxHeartbeats 400000 in
theorem check_pos (n : Int) (b off : Nat) (len m cap : Nat) (x : Nat) (w : World) (h0 : 0 < n) (h1 : n ≤ 8192) (h2 : (len : Int) = (n + 63) / 64) (hm : m + 1 = len)
    (hc : w.cell? ⟨b, off + m, none⟩ = some (.int .u64 x)) (hb : b < w.heap.size) :
    Calls Try.prog 42 #[.agg #[.int .i64 n, .slice (some ⟨b, off, none⟩) len cap]] w fun e w' => e = .returned (.int .i64 (if bits .andNot .u64 (x : Int) (mask n : Nat) = 0 then 0 else 10)) ∧ Below w.heap.size w w' := by
  have hl2 : (m : Int) ≤ 128 := by omega
  have hd : decide (n < 0) = false := by simp; omega
  have hd2 : decide (8192 < n) = false := by simp; omega
  have hd3 : ((len : Int) != (n + 63) / 64) = false := by simpa using h2
  have hd4 : decide (0 < n) = true := by simp; omega
  have H2 : Hid ((len : Int) = (n + 63) / 64) := h2
  have hwr : IntKind.i64.wrap ((len : Int) - 1) = m := by rw [wrapi64_in _ (by omega) (by omega)]; omega
  have hml : (m : Int) < (len : Int) := by omega
  clear hm
  clear h2
  by_cases hz : bits .andNot .u64 (x : Int) (mask n : Nat) = 0
  · rw [if_pos hz]
    have hz1 : (bits .andNot .u64 (x : Int) (mask n : Nat) != 0) = false := by simpa using hz
    have HZ : Hid (bits .andNot .u64 (x : Int) (mask n : Nat) = 0) := hz
    clear hz
    go_enter Try.func42, Try.ntmps42
    go_wp2
    go_quiet ((go_at_call 49; exact Calls.quiet_of_same (wordsOf_any n _ (by omega) (by omega))))
    go_wp2
    go_quiet ((go_at_call 50; exact quiet2 (lastMask_any n _ (by omega) (by omega))))
    go_wp2
    go_ret
    exact ⟨rfl, below_drewN (below_drewN ((Below.refl _ _).alloc (Nat.le_refl _) _) _) _⟩
  · rw [if_neg hz]
    have hz1 : (bits .andNot .u64 (x : Int) (mask n : Nat) != 0) = true := by simpa using hz
    have HZ : Hid (¬ bits .andNot .u64 (x : Int) (mask n : Nat) = 0) := hz
    clear hz
    go_enter Try.func42, Try.ntmps42
    go_wp2
    go_quiet ((go_at_call 49; exact Calls.quiet_of_same (wordsOf_any n _ (by omega) (by omega))))
    go_wp2
    go_quiet ((go_at_call 50; exact quiet2 (lastMask_any n _ (by omega) (by omega))))
    go_wp2
    go_ret
    exact ⟨rfl, below_drewN (below_drewN ((Below.refl _ _).alloc (Nat.le_refl _) _) _) _⟩


theorem check_ok (n : Int) (ao : Option Addr) (len cap : Nat) (f : Nat → Nat) (w : World) (hr : RdU w ao len f) (hok : Ok n len f) :
    Calls Try.prog 42 #[.agg #[.int .i64 n, .slice ao len cap]] w fun e w' => e = .returned (.int .i64 0) ∧ Below w.heap.size w w' := by
  have hok' := hok
  obtain ⟨h0, h1, h2, h3⟩ := hok
  by_cases hz : n = 0
  · exact check_zero n ao len cap w hz (by omega)
  · obtain ⟨b, off, rfl, hb, hc⟩ := hr.at_ (by omega)
    have := check_pos n b off len (len - 1) cap (f (len - 1)) w (by omega) h1 h2 (by omega) (hc (len - 1) (by omega)) hb
    rwa [if_pos ((ok_last (by omega) h1 h2 (by omega) hr.small).2 hok')] at this
theorem check_bad (n : Int) (ao : Option Addr) (len cap : Nat) (f : Nat → Nat) (w : World) (hr : RdU w ao len f) (hok : ¬ Ok n len f) :
    Calls Try.prog 42 #[.agg #[.int .i64 n, .slice ao len cap]] w fun e w' => e = .returned (.int .i64 10) ∧ Below w.heap.size w w' := by
  by_cases h0 : n < 0
  · exact check_neg n ao len cap w h0
  by_cases h1 : 8192 < n
  · exact check_big n ao len cap w h1
  by_cases h2 : (len : Int) = (n + 63) / 64
  · by_cases hz : n = 0
    · exact absurd ⟨by omega, by omega, h2, fun k hk hl => by omega⟩ hok
    · obtain ⟨b, off, rfl, hb, hc⟩ := hr.at_ (by omega)
      have := check_pos n b off len (len - 1) cap (f (len - 1)) w (by omega) (by omega) h2 (by omega) (hc (len - 1) (by omega)) hb
      rwa [if_neg (fun h => hok ((ok_last (by omega) (by omega) h2 (by omega) hr.small).1 h))] at this
  · exact check_len n ao len cap w (by omega) (by omega) h2

theorem Try.info37 : (Try.prog.info? 37).map (fun i => (i.zero, i.size, i.bytes)) = some (some (.int .u64 0), 1, 8) := by kernel_rfl
theorem Try.size37 : (Try.prog.info? 37).map (·.size) = some 1 := by kernel_rfl
set_option maxHeartbeats 400000 in
theorem empty_pos (n : Nat) (w : World) (h0 : 0 < (n : Int)) (h1 : (n : Int) ≤ 8192) :
    Calls Try.prog 52 #[.int .i64 (n : Nat)] w fun e w' => ∃ ao len cap, e = .returned (.agg #[.int .i64 (n : Nat), .slice ao len cap]) ∧ OwnU w.heap.size w' ao len (fun _ => 0) ∧ len = (n + 63) / 64 ∧ Below w.heap.size w w' := by
  obtain ⟨i0, hi, hz0, hz1, hz2⟩ := info_parts Try.info37
  go_enter Try.func52, Try.ntmps52
  go_wp2_with fail
  refine (wordsOf_any n _ (by omega) (by omega)).mono ?_
  rintro e w1 ⟨rfl, rfl⟩
  go_wp2_with (at_make; refine wpList_make_full _ rfl _ _ 23 rfl w.heap.size 37 i0 (.int .u64 0) 1 Try.underlying23 hi hz0 hz1 .i64 .i64 _ _ ((n + 63) / 64) rfl rfl (by omega) (by omega) (by rw [hz2]; omega) (by unfold maxLen; omega) (by simp) ?_)
  intro w2 hown hgr
  have hb : Below _ _ w2 := (Below.refl _ _).grown hgr (Nat.le_refl _) (by simp)
  obtain ⟨hc, hf⟩ := bcell hb
  have hz : w.heap.size + 1 ≤ w2.heap.size := by have := hb.size; simpa using this
  have hlt : w.heap.size + 1 < w2.heap.size := by have := (hown.lt (w.heap.size + 1) (by simp [Value.ownBlock])).2; exact this
  have ho : OwnU w.heap.size w2 (some ⟨w.heap.size + 1, 0, none⟩) ((n + 63) / 64) (fun _ => 0) := by
    refine ownU_made ?_ hlt (by omega)
    simpa using hown
  clear hown hgr
  have HO : Hid (OwnU w.heap.size w2 (some ⟨w.heap.size + 1, 0, none⟩) ((n + 63) / 64) (fun _ => 0)) := ho
  clear ho
  go_wp2
  refine bodyPost_ret (v := .agg #[.int .i64 n, .slice (some ⟨w.heap.size + 1, 0, none⟩) ((n + 63) / 64) ((n + 63) / 64)]) (by simp [results, Try.results52, go_sem, hc]) rfl ⟨_, _, _, rfl, ?_, rfl, ?_⟩
  · refine HO.out.but (ax := some ⟨w.heap.size, 0, none⟩) ?_ ?_
    · exact ((But.refl _ _).setCell (p := ⟨w.heap.size, 0, none⟩) (.inl ⟨_, rfl, rfl⟩) _).setCell (p := ⟨w.heap.size, 1, none⟩) (.inl ⟨_, rfl, rfl⟩) _
    · intro a c ea ec
      simp at ea ec
      subst ea ec
      simp
  · have hb' : Below w.heap.size w w2 := ((Below.refl _ _).alloc (Nat.le_refl _) _).trans (hb.mono (by simp))
    exact (hb'.setCell (by simp) _).setCell (by simp) _

/-- Block b is a struct of two cells. -/
def Box (w : World) (b : Nat) (x y : Value) : Prop := w.heap[b]? = some (.cells #[x, y] 25 (0, 0))
theorem Box.lt {w : World} {b : Nat} {x y : Value} (h : Box w b x y) : b < w.heap.size := (Array.getElem?_eq_some_iff.1 h).1
theorem Box.new (w : World) (x y : Value) : Box (w.alloc (.cells #[x, y] 25)) w.heap.size x y := heap_alloc_new w _
theorem Box.new1 (w : World) (o : Obj) (x y : Value) : Box ((w.alloc o).alloc (.cells #[x, y] 25)) (w.heap.size + 1) x y := by
  have := Box.new (w.alloc o) x y
  simpa using this
theorem Box.new2 (w : World) (o o' : Obj) (x y : Value) : Box (((w.alloc o).alloc o').alloc (.cells #[x, y] 25)) (w.heap.size + 2) x y := by
  have := Box.new ((w.alloc o).alloc o') x y
  simpa using this
theorem Box.below {w w' : World} {b : Nat} {x y : Value} (h : Box w b x y) (hb : Below w.heap.size w w') : Box w' b x y := by
  unfold Box; rw [hb.block b h.lt]; exact h
theorem Box.belowB {B : Nat} {w w' : World} {b : Nat} {x y : Value} (h : Box w b x y) (hb : Below B w w') (hlt : b < B) : Box w' b x y := by
  unfold Box; rw [hb.block b hlt]; exact h
theorem Box.alloc {w : World} {b : Nat} {x y : Value} (h : Box w b x y) (o : Obj) : Box (w.alloc o) b x y := h.below ((Below.refl _ _).alloc (Nat.le_refl _) o)
theorem Box.drewN {w : World} {b : Nat} {x y : Value} (h : Box w b x y) (n : Nat) : Box (w.drewN n) b x y := h
theorem Box.drew {w : World} {b : Nat} {x y : Value} (h : Box w b x y) : Box w.drew b x y := h
theorem Box.but {ao : Option Addr} {w w' : World} {b : Nat} {x y : Value} (h : Box w b x y) (hb : But ao w w') (hne : ∀ a, ao = some a → a.block ≠ b) : Box w' b x y := by
  unfold Box; rw [hb.block b h.lt hne]; exact h
theorem Box.set0 {w : World} {b : Nat} {x y : Value} (h : Box w b x y) (u : Value) : Box (w.setCell ⟨b, 0, none⟩ u) b u y := by
  have := heap_setCell_same w b 0 #[x, y] 25 u h
  simpa [Box] using this
theorem Box.set1 {w : World} {b : Nat} {x y : Value} (h : Box w b x y) (u : Value) : Box (w.setCell ⟨b, 1, none⟩ u) b x u := by
  have := heap_setCell_same w b 1 #[x, y] 25 u h
  simpa [Box] using this
theorem Box.set {w : World} {b : Nat} {x y : Value} (h : Box w b x y) (u v : Value) : Box ((w.setCell ⟨b, 0, none⟩ u).setCell ⟨b, 1, none⟩ v) b u v := (h.set0 u).set1 v
theorem Box.other {w : World} {b : Nat} {x y : Value} (h : Box w b x y) {p : Addr} (hp : p.block ≠ b) (u : Value) : Box (w.setCell p u) b x y := by
  unfold Box; rw [Below.heap_setCell _ _ _ _ (Ne.symm hp)]; exact h
theorem Box.cells {w : World} {b : Nat} {x y : Value} (h : Box w b x y) :
    w.cell? ⟨b, 0, none⟩ = some x ∧ w.cell? ⟨b, 1, none⟩ = some y ∧ w.frozen? ⟨b, 0, none⟩ = false ∧ w.frozen? ⟨b, 1, none⟩ = false :=
  ⟨cell_of_row w b 0 _ 25 (0, 0) h, cell_of_row w b 1 _ 25 (0, 0) h, frozen_of_row w b 0 _ 25 h, frozen_of_row w b 1 _ 25 h⟩

set_option maxHeartbeats 400000 in
theorem empty_zero (w : World) : Calls Try.prog 52 #[.int .i64 0] w fun e w' => e = .returned (.agg #[.int .i64 0, .slice none 0 0]) ∧ Below w.heap.size w w' := by
  go_enter Try.func52, Try.ntmps52
  go_wp2
  refine bodyPost_ret (v := .agg #[.int .i64 0, .slice none 0 0]) (by simp [results, Try.results52, go_sem]) rfl ⟨rfl, ?_⟩
  exact (Below.refl _ _).alloc (Nat.le_refl _) _
/-- empty: the empty set of N n. -/
theorem empty_any (n : Nat) (w : World) (h1 : n ≤ 8192) :
    Calls Try.prog 52 #[.int .i64 (n : Nat)] w fun e w' => ∃ ao len cap, e = .returned (.agg #[.int .i64 (n : Nat), .slice ao len cap]) ∧ OwnU w.heap.size w' ao len (fun _ => 0) ∧ len = (n + 63) / 64 ∧ Below w.heap.size w w' := by
  by_cases h0 : n = 0
  · subst h0
    exact (empty_zero w).mono fun e w' ⟨he, hb⟩ => ⟨none, 0, 0, he, ⟨fun i hi => by omega, fun a e => by simp at e, fun hl => by omega⟩, by omega, hb⟩
  · exact empty_pos n w (by omega) (by omega)
theorem isSet_empty {n len : Nat} (hn : n ≤ 8192) (hl : len = (n + 63) / 64) : IsSet n len (fun _ => 0) (fun _ => false) :=
  ⟨hn, hl, fun k _ => by unfold bitAt; exact Nat.zero_testBit _, fun _ _ => rfl⟩

set_option maxHeartbeats 400000 in
theorem new_bad (n : Int) (lo : Option Addr) (ll lc : Nat) (w : World) (hn : n < 0 ∨ 8192 < n) :
    Calls Try.prog 48 #[.int .i64 n, .slice lo ll lc] w fun e w' => e = .returned (.tuple #[.agg #[.int .i64 0, .slice none 0 0], .int .i64 1]) ∧ Below w.heap.size w w' := by
  rcases hn with hn | hn
  · have hd : decide (n < 0) = true := by simpa using hn
    go_enter Try.func48, Try.ntmps48
    go_wp2
    refine bodyPost_ret (v := .tuple #[.agg #[.int .i64 0, .slice none 0 0], .int .i64 1]) (by simp [results, Try.results48, go_sem]) rfl ⟨rfl, (Below.refl _ _).alloc (Nat.le_refl _) _⟩
  · have hd : decide (n < 0) = false := by simp; omega
    have hd2 : decide (8192 < n) = true := by simpa using hn
    go_enter Try.func48, Try.ntmps48
    go_wp2
    refine bodyPost_ret (v := .tuple #[.agg #[.int .i64 0, .slice none 0 0], .int .i64 1]) (by simp [results, Try.results48, go_sem]) rfl ⟨rfl, (Below.refl _ _).alloc (Nat.le_refl _) _⟩

end Go.Proofs.Ytnjnaihogbnmaaa
