/- Shift: the walk. -/
import Derived.Test.YtehlmjjdegmnaaaDoorTwo
namespace Go.Proofs.YtehlmjjdegmnaaaDoor
open Go.RowKit
theorem and63 (k : Int) : bits BinOp.and IntKind.i64 k 63 = k % 64 := by
  have h1 : (BitVec.ofInt 64 (63 : Int)).toNat = 63 := by decide
  have h2 : ((BitVec.ofInt 64 k).toNat : Int) = k % 18446744073709551616 := by
    rw [BitVec.toNat_ofInt]
    have : (0 : Int) ≤ k % ((2 ^ 64 : Nat) : Int) := Int.emod_nonneg _ (by decide)
    rw [Int.toNat_of_nonneg this]; rfl
  show IntKind.i64.wrap ((BitVec.ofInt 64 k &&& BitVec.ofInt 64 (63 : Int)).toNat : Int) = _
  rw [BitVec.toNat_and, h1, nat_mask6]
  have e : (((BitVec.ofInt 64 k).toNat % 64 : Nat) : Int) = k % 64 := by
    rw [Int.natCast_emod, h2]; omega
  rw [e, wrapi64_in _ (by omega) (by omega)]
/-- The loop of Shift: below k the new words h, from k on 0. -/
structure RelS (w : World) (n bc : Nat) (ao ao2 : Option Addr) (len cap cap2 : Nat) (h : Nat → Nat) (k : Nat) (wr : World) : Prop where
  bc1 : Box wr bc (.int .i64 (n : Nat)) (.slice ao2 len cap2)
  own : Own (w.heap.size + 2) wr ao2 len (fun j => if j < k then h j else 0)
  b1 : Box wr w.heap.size (.int .i64 (n : Nat)) (.slice ao len cap)
  below : Below w.heap.size w wr
  b2 : Box wr (w.heap.size + 1) (.int .i64 0) (.slice none 0 0)
theorem RelS.next {w wr : World} {n bc : Nat} {ao ao2 : Option Addr} {len cap cap2 : Nat} {h : Nat → Nat} {k : Nat} (r : RelS w n bc ao ao2 len cap cap2 h k wr) (u : World) (hk : k < len) {b : Nat} (e : ao2 = some ⟨b, 0, none⟩)
    (hv : h k < 18446744073709551616) (hne : ∀ a, ao2 = some a → a.block ≠ bc) : RelS w n bc ao ao2 len cap cap2 h (k + 1) ((near wr u).setCell ⟨b, k, none⟩ (.int .u64 (h k : Nat))) := by
  have hl := (r.own.lt _ e).2
  have hl' : w.heap.size + 2 ≤ b := hl
  have hn := hne _ e
  refine ⟨(r.bc1.below (near_below wr u)).other (p := ⟨b, k, none⟩) hn _, ?_, (r.b1.below (near_below wr u)).other (p := ⟨b, k, none⟩) (by show b ≠ _; omega) _, ?_, (r.b2.below (near_below wr u)).other (p := ⟨b, k, none⟩) (by show b ≠ _; omega) _⟩
  · have := (r.own.below (near_below wr u)).set e hk hv
    have e2 : upd (fun j => if j < k then h j else 0) k (h k) = fun j => if j < k + 1 then h j else 0 := by
      funext j
      unfold upd
      by_cases hj : j = k
      · subst hj; simp
      · by_cases hj2 : j < k
        · simp [hj, hj2, Nat.lt_succ_of_lt hj2]
        · have : ¬ j < k + 1 := by omega
          simp [hj, hj2, this]
    rw [e2] at this
    exact this
  · exact (r.below.trans ((near_below wr u).mono r.below.size)).setCell (p := ⟨b, k, none⟩) (by show w.heap.size ≤ b; omega) _
theorem RelS.done {w wr : World} {n bc : Nat} {ao ao2 : Option Addr} {len cap cap2 : Nat} {h : Nat → Nat} (r : RelS w n bc ao ao2 len cap cap2 h len wr) : Own (w.heap.size + 2) wr ao2 len h := by
  have := r.own
  refine ⟨fun i hi => ?_, this.lt, fun hl => ?_⟩
  · have := this.small i hi; simpa [hi] using this
  · obtain ⟨b, cur, e, hh, hsz, hc⟩ := this.row hl
    exact ⟨b, cur, e, hh, hsz, fun i hi => by have := hc i hi; simpa [hi] using this⟩
/-- A word of what is shifted by 64 W + U. -/
def shw (len : Nat) (f : Nat → Nat) (W : Int) (U : Nat) (j : Nat) : Nat := (wd len f (j - W) * 2 ^ U % 18446744073709551616) ||| (wd len f (j - W - 1) / 2 ^ (64 - U))

theorem wd_bitI {n len : Nat} {f : Nat → Nat} {P : Nat → Bool} (h : IsSet n len f P) (q : Int) (s : Nat) (hs : s < 64) : (wd len f q).testBit s = (decide (0 ≤ 64 * q + s) && P (64 * q + s).toNat) := by
  unfold wd
  by_cases hq : 0 ≤ q ∧ q < len
  · rw [if_pos hq, decide_eq_true (by omega), Bool.true_and, ← h.hbit _ (by omega)]
    unfold bitAt
    rw [show (64 * q + s).toNat / 64 = q.toNat by omega, show (64 * q + s).toNat % 64 = s by omega]
  · rw [if_neg hq, Nat.zero_testBit]
    by_cases h0 : q < 0
    · rw [decide_eq_false (by omega)]; rfl
    · have := h.hlen
      rw [h.hout _ (by omega), Bool.and_false]
theorem shw_bit {n len : Nat} {f : Nat → Nat} {P : Nat → Bool} (h : IsSet n len f P) (hf : ∀ i, i < len → f i < 18446744073709551616) (W : Int) (U : Nat) (hU : U < 64) (i : Nat) :
    bitAt (shw len f W U) i = (decide (0 ≤ (i : Int) - (64 * W + U)) && P ((i : Int) - (64 * W + U)).toNat) := by
  have hr : i % 64 < 64 := Nat.mod_lt _ (by decide)
  have e : (i : Int) = 64 * ((i / 64 : Nat) : Int) + ((i % 64 : Nat) : Int) := by omega
  unfold bitAt shw
  generalize i / 64 = j at *
  generalize i % 64 = r at *
  have e2 : (18446744073709551616 : Nat) = 2 ^ 64 := by decide
  rw [e2, Nat.testBit_or, Nat.testBit_mod_two_pow, Nat.testBit_div_two_pow, ← Nat.shiftLeft_eq, Nat.testBit_shiftLeft, decide_eq_true hr, Bool.true_and]
  by_cases hru : U ≤ r
  · rw [decide_eq_true (show r ≥ U from hru), Bool.true_and, testBit_lt (wd_lt hf _) (show 64 ≤ r + (64 - U) by omega), Bool.or_false, wd_bitI h _ _ (by omega)]
    have e3 : 64 * ((j : Int) - W) + ((r - U : Nat) : Int) = (i : Int) - (64 * W + U) := by omega
    rw [e3]
  · rw [decide_eq_false (show ¬ r ≥ U from hru), Bool.false_and, Bool.false_or, wd_bitI h _ _ (by omega)]
    have e3 : 64 * ((j : Int) - W - 1) + ((r + (64 - U) : Nat) : Int) = (i : Int) - (64 * W + U) := by omega
    rw [e3]
theorem shw_lt {len : Nat} {f : Nat → Nat} (hf : ∀ i, i < len → f i < 18446744073709551616) (W : Int) (U j : Nat) : shw len f W U j < 18446744073709551616 :=
  or_lt (Nat.mod_lt _ (by decide)) (Nat.lt_of_le_of_lt (Nat.div_le_self _ _) (wd_lt hf _))
theorem shw_val {len : Nat} {f : Nat → Nat} (hf : ∀ i, i < len → f i < 18446744073709551616) (W : Int) (U j : Nat) :
    bits BinOp.or IntKind.u64 (IntKind.u64.wrap ((wd len f (j - W) : Nat) * 2 ^ U)) ((wd len f (j - W - 1) : Nat) / 2 ^ (64 - U)) = ((shw len f W U j : Nat) : Int) := by
  have h1 : IntKind.u64.wrap (((wd len f (j - W) : Nat) : Int) * 2 ^ U) = ((wd len f (j - W) * 2 ^ U % 18446744073709551616 : Nat) : Int) := by
    rw [IntKind.wrap_u64, Int.natCast_emod, Int.natCast_mul, Int.natCast_pow]; rfl
  have h2 : ((wd len f (j - W - 1) : Nat) : Int) / 2 ^ (64 - U) = ((wd len f (j - W - 1) / 2 ^ (64 - U) : Nat) : Int) := by
    rw [Int.natCast_ediv, Int.natCast_pow]; rfl
  rw [h1, h2, u64_or_nat _ _ (Nat.mod_lt _ (by decide)) (Nat.lt_of_le_of_lt (Nat.div_le_self _ _) (wd_lt hf _))]
  rfl
theorem set_shift {n len : Nat} {f g2 : Nat → Nat} {P : Nat → Bool} (h : IsSet n len f P) (hf : ∀ i, i < len → f i < 18446744073709551616) {W k : Int} {U : Nat} (hU : U < 64) (hk : k = 64 * W + U)
    (hb : ∀ i, i < 64 * len → bitAt g2 i = (bitAt (shw len f W U) i && decide (i < n))) : IsSet n len g2 (fun i => decide (0 ≤ (i : Int) - k) && P ((i : Int) - k).toNat && decide (i < n)) := by
  refine ⟨h.hle, h.hlen, fun i hi => ?_, fun i hi => ?_⟩
  · rw [hb i hi, shw_bit h hf W U hU i, hk]
  · rw [decide_eq_false (p := i < n) (by omega), Bool.and_false]

set_option maxHeartbeats 800000 in
/-- Shift. -/
theorem shift_any {w : World} {x : Value} {n : Nat} {P : Nat → Bool} (k : Int) (h : Arg w x n P) (hk1 : -9223372036854775808 ≤ k) (hk2 : k ≤ 9223372036854775807) :
    Calls Tryd.prog 35 #[x, .int .i64 k] w (RetSet w n fun i => decide (0 ≤ (i : Int) - k) && P ((i : Int) - k).toNat && decide (i < n)) := by
  obtain ⟨m, a0, l0, c0, rfl⟩ := h.shape
  have hB0 : Below w.heap.size w ((w.alloc (.cells #[.int .i64 m, .slice a0 l0 c0] 29)).alloc (.cells #[.int .i64 0, .slice none 0 0] 29)) := ((Below.refl _ _).alloc (Nat.le_refl _) _).alloc (by simp) _
  go_enter Tryd.func35, Tryd.ntmps35
  go_wp2_with fail
  refine (sound_any h hB0).mono ?_
  rintro e w1 ⟨ao, len, cap, f, rfl, hr, hs, hb⟩
  clear h
  have b1 := ((Box.new w (.int .i64 m) (.slice a0 l0 c0)).alloc (.cells #[.int .i64 0, .slice none 0 0] 29)).below hb
  have b2 := (Box.new1 w (.cells #[.int .i64 m, .slice a0 l0 c0] 29) (.int .i64 0) (.slice none 0 0)).below hb
  have hB1 : Below w.heap.size w w1 := hB0.trans (hb.mono (by simp; omega))
  clear hB0 hb
  obtain ⟨c10, c11, f10, f11⟩ := b1.cells
  go_wp2_with fail
  refine (empty_any n _ hs.hle).mono ?_
  rintro e w2 ⟨ao2, len2, cap2, rfl, ho2, hl2, hb2⟩
  obtain rfl : len2 = len := by rw [hl2, hs.hlen]
  have b1' := (b1.set (.int .i64 (n : Nat)) (.slice ao len2 cap)).below hb2
  have b2' := ((b2.other (p := ⟨w.heap.size, 0, none⟩) (by simp) (.int .i64 (n : Nat))).other (p := ⟨w.heap.size, 1, none⟩) (by simp) (.slice ao len2 cap)).below hb2
  have hB2 : Below w.heap.size w w2 := ((hB1.setCell (p := ⟨w.heap.size, 0, none⟩) (by simp) _).setCell (p := ⟨w.heap.size, 1, none⟩) (by simp) _).trans (hb2.mono (by have := b2.lt; simp; omega))
  have ho2' : Own (w.heap.size + 2) w2 ao2 len2 (fun _ => 0) := by
    have := b2.lt
    exact ho2.mono (by simp; omega)
  have hlt0 : w.heap.size < w2.heap.size := b1'.lt
  have hlt1 : w.heap.size + 1 < w2.heap.size := b2'.lt
  have hao : ∀ a, ao2 = some a → w.heap.size + 2 ≤ a.block ∧ a.block < w2.heap.size := fun a e => ⟨(ho2'.lt a e).2, (ho2'.lt a e).1⟩
  clear c10 c11 f10 f11 hl2 ho2 hb2 b1 b2 hB1
  have hle := hs.hle
  have hlm : (len2 : Int) ≤ 128 := by have := hs.hlen; omega
  obtain ⟨U, hU⟩ : ∃ U : Nat, k % 64 = U := ⟨(k % 64).toNat, by have : 0 ≤ k % 64 := Int.emod_nonneg _ (by decide); omega⟩
  have hU2 : (U : Int) < 64 := by rw [← hU]; exact Int.emod_lt_of_pos _ (by decide)
  obtain ⟨W, hW⟩ : ∃ W, k / 64 = W := ⟨_, rfl⟩
  have hkk : Hid (k = 64 * W + U) := by unfold Hid; omega
  have hW1 : -144115188075855872 ≤ W := by omega
  have hW2 : W ≤ 144115188075855872 := by omega
  have hand := and63 k
  rw [hU] at hand
  go_wp2_with fail
  clear hW hand hU
  have hne : ∀ a, ao2 = some a → a.block ≠ w2.heap.size := fun a e => by have := hao a e; omega
  go_loopw [21] (fun i wr => ∃ j : Nat, j ≤ len2 ∧ i = .int .i64 j ∧ RelS w n w2.heap.size ao ao2 len2 cap cap2 (shw len2 f W U) j wr) (fun i _ => len2 - (intOf i).toNat)
  case atStart => exact ⟨0, Nat.zero_le _, rfl, Box.new _ _ _, by simpa using ho2'.alloc _, b1'.alloc _, hB2.alloc (by omega) _, b2'.alloc _⟩
  case round =>
    obtain ⟨j, hj, rfl, hrel⟩ := hrel
    by_cases hlt : j < len2
    · obtain ⟨b, rfl, hc⟩ := hrel.own.at_ (by omega)
      have hck := hc j hlt
      have hbl := (hrel.own.lt _ rfl).1
      have t0 := Near.cell hrel.bc1.cells.1 hrel.bc1.lt
      have t1 := Near.cell hrel.bc1.cells.2.1 hrel.bc1.lt
      have t2 := Near.cell hrel.b1.cells.1 hrel.b1.lt
      have t3 := Near.cell hrel.b1.cells.2.1 hrel.b1.lt
      have t4 := Near.cell hck.1 hbl
      have t5 := Near.frozen hck.2 hbl
      have hki : (j : Int) < (len2 : Int) := by omega
      have hk0 : (0 : Int) ≤ (j : Int) := by omega
      have hU0 : (0 : Int) ≤ (U : Int) := by omega
      have hw1 : IntKind.i64.wrap ((j : Int) - W) = (j : Int) - W := wrapi64_in _ (by omega) (by omega)
      have hw2 : IntKind.i64.wrap ((j : Int) - W - 1) = (j : Int) - W - 1 := wrapi64_in _ (by omega) (by omega)
      have hw3 : IntKind.i64.wrap (64 - (U : Int)) = ((64 - U : Nat) : Int) := by rw [wrapi64_in _ (by omega) (by omega)]; omega
      have hw4 : (0 : Int) ≤ ((64 - U : Nat) : Int) := by omega
      have hrd : ∀ u : World, Rd (near wr u) ao len2 f := fun u => hr.below (hrel.below.trans ((near_below wr u).mono hrel.below.size))
      clear hc hck
      go_wp2_with fail
      refine wp_region_quiet_tail 21 (fun w' => ∃ u : World, w' = near wr u) (by kernel_rfl) (by kernel_rfl) (Near.start _) ?_
      simp only [List.take_succ_cons, List.take_zero, List.drop_succ_cons, List.drop_zero]
      repeat (go_big_quiet_step ((go_at_call 51; exact Near.call (wordAt_any _ _ _ _ _ f _ (hrd _)))))
      refine wpQuiet_nil ?_
      rintro _ ⟨u, rfl⟩
      go_wp2
      go_roundw
      case rel => exact ⟨j + 1, by omega, by go_num, by rw [shw_val hr.small]; exact hrel.next u hlt rfl (shw_lt hr.small _ _ _) hne⟩
      case measure => simp [intOf]; omega
    · obtain rfl : j = len2 := by omega
      have ho' := hrel.done
      have HL : Hid (j = (n + 63) / 64) := hs.hlen
      obtain ⟨q0, q1, q2, q3⟩ := hrel.bc1.cells
      have hB' := hrel.below
      have bc' := hrel.bc1
      have b2'' := hrel.b2
      go_wp2_with fail
      refine (cut_any ho' hle HL.out).mono ?_
      rintro e w3 ⟨rfl, g2, ho3, hbits, hbut⟩
      have b2f := b2''.but hbut (fun a e => by have := hao a e; omega)
      have bcf := bc'.but hbut hne
      have hB3 : Below w.heap.size w w3 := hB'.trans (hbut.below hB'.size fun a e => by have := hao a e; omega)
      have hset : IsSet n j g2 (fun i => decide (0 ≤ (i : Int) - k) && P ((i : Int) - k).toNat && decide (i < n)) := set_shift hs hr.small (by omega) hkk.out hbits
      clear q0 q1 q2 q3 hbut hbits hrel bc' b2'' ho' hB'
      obtain ⟨q0, q1, q2, q3⟩ := bcf.cells
      obtain ⟨r0, r1, r2, r3⟩ := b2f.cells
      have hne2 : w.heap.size + 1 ≠ w2.heap.size := by omega
      go_wp2
      refine bodyPost_ret (v := .agg #[.int .i64 n, .slice ao2 j cap2]) (by simp [results, Tryd.results35, go_sem, r0, r1]) rfl ⟨_, _, _, g2, rfl, (ho3.mono (by omega)).box (fun a e => by have := hao a e; omega) _ _, hset, ?_⟩
      exact (hB3.setCell (p := ⟨w.heap.size + 1, 0, none⟩) (by simp) _).setCell (p := ⟨w.heap.size + 1, 1, none⟩) (by simp) _
end Go.Proofs.YtehlmjjdegmnaaaDoor
