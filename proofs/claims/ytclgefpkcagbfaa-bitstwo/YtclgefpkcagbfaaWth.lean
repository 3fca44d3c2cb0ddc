/- With, Without: the walks. -/
import Derived.Test.YtclgefpkcagbfaaNear
namespace Go.Proofs.Ytclgefpkcagbfaa
open Go.RowKit
/-- What a call answers that makes a set: the set, in memory of its own; nothing old has turned. -/
def RetSet (w : World) (n : Nat) (P : Nat → Bool) (e : Ending) (w' : World) : Prop :=
  ∃ ao len cap f, e = .returned (.agg #[.int .i64 (n : Nat), .slice ao len cap]) ∧ Own w.heap.size w' ao len f ∧ IsSet n len f P ∧ Below w.heap.size w w'
set_option maxHeartbeats 400000 in
/-- With. -/
theorem with_any {w : World} {x : Value} {n : Nat} {P : Nat → Bool} (k : Int) (h : Arg w x n P) :
    Calls Try.prog 15 #[x, .int .i64 k] w (RetSet w n fun i => P i || decide ((i : Int) = k ∧ i < n)) := by
  obtain ⟨m, a0, l0, c0, rfl⟩ := h.shape
  have hB0 : Below w.heap.size w ((w.alloc (.cells #[.int .i64 m, .slice a0 l0 c0] 25)).alloc (.cells #[.int .i64 0, .slice none 0 0] 25)) := ((Below.refl _ _).alloc (Nat.le_refl _) _).alloc (by simp) _
  go_enter Try.func15, Try.ntmps15
  go_wp2_with fail
  refine (copied_any (h.below hB0)).mono ?_
  rintro e w1 ⟨ao, len, cap, f, rfl, ho, hs, hb⟩
  clear h
  have b2 := (Box.new1 w (.cells #[.int .i64 m, .slice a0 l0 c0] 25) (.int .i64 0) (.slice none 0 0)).below hb
  have hB1 : Below w.heap.size w w1 := hB0.trans (hb.mono (by simp; omega))
  have ho1 : Own (w.heap.size + 2) w1 ao len f := by simpa using ho
  clear hB0 hb ho
  have hlt1 : w.heap.size + 1 < w1.heap.size := b2.lt
  go_wp2_with fail
  refine (put_any k (ho1.alloc _) hs).mono ?_
  rintro e w2 ⟨rfl, g, ho2, hs2, hbut⟩
  have b2' := (b2.alloc _).but hbut (fun a e => by have := ho1.lt a e; omega)
  have b3' := (Box.new w1 _ _).but hbut (fun a e => by have := ho1.lt a e; omega)
  have hB2 : Below w.heap.size w w2 := (hB1.alloc (by omega) _).trans (hbut.below (by simp; omega) fun a e => by have := ho1.lt a e; omega)
  have hao : ∀ a, ao = some a → w.heap.size + 2 ≤ a.block := fun a e => (ho1.lt a e).2
  clear hbut hs b2 hB1 ho1
  obtain ⟨c20, c21, f20, f21⟩ := b2'.cells
  obtain ⟨c30, c31, f30, f31⟩ := b3'.cells
  have hne2 : w.heap.size + 1 ≠ w1.heap.size := by omega
  go_wp2
  refine bodyPost_ret (v := .agg #[.int .i64 n, .slice ao len cap]) (by simp [results, Try.results15, go_sem, c20, c21]) rfl ⟨_, _, _, g, rfl, ?_, hs2, ?_⟩
  · refine (ho2.mono (by omega)).but (ax := some ⟨w.heap.size + 1, 0, none⟩) ?_ ?_
    · exact ((But.refl _ _).setCell (p := ⟨w.heap.size + 1, 0, none⟩) (.inl ⟨_, rfl, rfl⟩) _).setCell (p := ⟨w.heap.size + 1, 1, none⟩) (.inl ⟨_, rfl, rfl⟩) _
    · intro a c ea ec
      obtain rfl := Option.some.inj ec
      have := hao a ea
      show w.heap.size + 1 ≠ a.block
      omega
  · exact (hB2.setCell (p := ⟨w.heap.size + 1, 0, none⟩) (by simp) _).setCell (p := ⟨w.heap.size + 1, 1, none⟩) (by simp) _
theorem andNot_one (x k : Nat) (hx : x < 18446744073709551616) : bits .andNot .u64 (x : Int) (IntKind.u64.wrap (2 ^ (k % 64))) = ((x &&& (18446744073709551615 - 2 ^ (k % 64)) : Nat) : Int) := by
  rw [shl_one, u64_andNot_nat _ _ hx (pow_bit_lt (by omega))]
theorem bitAt_upd_andNot (f : Nat → Nat) (k i : Nat) (hx : f (k / 64) < 18446744073709551616) : bitAt (upd f (k / 64) (f (k / 64) &&& (18446744073709551615 - 2 ^ (k % 64)))) i = (bitAt f i && !decide (i = k)) := by
  unfold bitAt upd
  by_cases h : i / 64 = k / 64
  · rw [if_pos h, andNot_bit _ _ hx (pow_bit_lt (by omega)), h, Nat.testBit_two_pow]
    congr 2
    rw [decide_eq_decide]; omega
  · rw [if_neg h, decide_eq_false (by omega)]; simp
set_option maxHeartbeats 400000 in
theorem without_in {w : World} {x : Value} {n : Nat} {P : Nat → Bool} (k : Nat) (h : Arg w x n P) (hk : k < n) :
    Calls Try.prog 17 #[x, .int .i64 (k : Nat)] w (RetSet w n fun i => P i && !decide (i = k)) := by
  obtain ⟨m, a0, l0, c0, rfl⟩ := h.shape
  have hB0 : Below w.heap.size w ((w.alloc (.cells #[.int .i64 m, .slice a0 l0 c0] 25)).alloc (.cells #[.int .i64 0, .slice none 0 0] 25)) := ((Below.refl _ _).alloc (Nat.le_refl _) _).alloc (by simp) _
  go_enter Try.func17, Try.ntmps17
  go_wp2_with fail
  refine (copied_any (h.below hB0)).mono ?_
  rintro e w1 ⟨ao, len, cap, f, rfl, ho, hs, hb⟩
  clear h
  have b2 := (Box.new1 w (.cells #[.int .i64 m, .slice a0 l0 c0] 25) (.int .i64 0) (.slice none 0 0)).below hb
  have hB1 : Below w.heap.size w w1 := hB0.trans (hb.mono (by simp; omega))
  have ho1 : Own (w.heap.size + 2) w1 ao len f := by simpa using ho
  clear hB0 hb ho
  have hlt1 : w.heap.size + 1 < w1.heap.size := b2.lt
  have hle := hs.hle
  have hlen := hs.hlen
  obtain ⟨b, rfl, hc⟩ := ho1.at_ (by omega)
  have hbl := ho1.lt _ rfl
  have hcj := hc (k / 64) (by omega)
  obtain ⟨hcj1, hcj2⟩ := hcj
  have hx : Hid (f (k / 64) < 18446744073709551616) := ho1.small _ (by omega)
  have hkn : (k : Int) < (n : Int) := by omega
  have hkl : (k : Int) / 64 < (len : Int) := by omega
  have hn2 : (n : Int) ≤ 8192 := by omega
  have hb1 : b < w1.heap.size := hbl.1
  have HS : Hid (IsSet n len f P) := hs
  have HL : Hid (len = (n + 63) / 64) := hlen
  clear hlen hs hk hc
  obtain ⟨c20, c21, f20, f21⟩ := b2.cells
  go_wp2
  go_region
  go_wp2
  rw [andNot_one _ k hx]
  have hv : f (k / 64) &&& (18446744073709551615 - 2 ^ (k % 64)) < 18446744073709551616 := and_lt hx _
  have hl : k / 64 < len := by omega
  have hbk := hbl.2
  have bR := (((b2.other (p := ⟨b, k / 64, none⟩) (by show b ≠ _; omega) (.int .u64 (f (k / 64) &&& (18446744073709551615 - 2 ^ (k % 64)) : Nat))).set (.int .i64 (n : Nat)) (.slice (some ⟨b, 0, none⟩) len cap)).alloc (.cells #[.int .i64 (n : Nat), .slice (some ⟨b, 0, none⟩) len cap] 25)).cells
  refine bodyPost_ret (v := .agg #[.int .i64 n, .slice (some ⟨b, 0, none⟩) len cap]) (by simp [results, Try.results17, go_sem, bR.1, bR.2.1]) rfl ⟨_, _, _, upd f (k / 64) (f (k / 64) &&& (18446744073709551615 - 2 ^ (k % 64))), rfl, ?_, ⟨HS.out.hle, HS.out.hlen, fun i hi => ?_, fun i hi => ?_⟩, ?_⟩
  · refine Own.drew (Own.alloc (Own.but (ax := some ⟨w.heap.size + 1, 0, none⟩) ((ho1.mono (by omega)).set rfl hl hv) ?_ ?_) _)
    · exact ((But.refl _ _).setCell (p := ⟨w.heap.size + 1, 0, none⟩) (.inl ⟨_, rfl, rfl⟩) _).setCell (p := ⟨w.heap.size + 1, 1, none⟩) (.inl ⟨_, rfl, rfl⟩) _
    · intro a c ea ec
      obtain rfl := Option.some.inj ec
      obtain rfl := Option.some.inj ea
      show w.heap.size + 1 ≠ b
      omega
  · rw [bitAt_upd_andNot _ _ _ hx, HS.out.hbit i hi]
  · rw [HS.out.hout i hi]; rfl
  · exact ((((hB1.setCell (p := ⟨b, k / 64, none⟩) (by show w.heap.size ≤ b; omega) _).setCell (p := ⟨w.heap.size + 1, 0, none⟩) (by simp) _).setCell (p := ⟨w.heap.size + 1, 1, none⟩) (by simp) _).alloc (by simp; omega) _).drew
set_option maxHeartbeats 400000 in
theorem without_out {w : World} {x : Value} {n : Nat} {P : Nat → Bool} (k : Int) (h : Arg w x n P) (hk : k < 0 ∨ (n : Int) ≤ k) :
    Calls Try.prog 17 #[x, .int .i64 k] w (RetSet w n P) := by
  obtain ⟨m, a0, l0, c0, rfl⟩ := h.shape
  have hB0 : Below w.heap.size w ((w.alloc (.cells #[.int .i64 m, .slice a0 l0 c0] 25)).alloc (.cells #[.int .i64 0, .slice none 0 0] 25)) := ((Below.refl _ _).alloc (Nat.le_refl _) _).alloc (by simp) _
  go_enter Try.func17, Try.ntmps17
  go_wp2_with fail
  refine (copied_any (h.below hB0)).mono ?_
  rintro e w1 ⟨ao, len, cap, f, rfl, ho, hs, hb⟩
  clear h
  have b2 := (Box.new1 w (.cells #[.int .i64 m, .slice a0 l0 c0] 25) (.int .i64 0) (.slice none 0 0)).below hb
  have hB1 : Below w.heap.size w w1 := hB0.trans (hb.mono (by simp; omega))
  have ho1 : Own (w.heap.size + 2) w1 ao len f := by simpa using ho
  clear hB0 hb ho
  have hlt1 : w.heap.size + 1 < w1.heap.size := b2.lt
  have hbl : ∀ a, ao = some a → w.heap.size + 2 ≤ a.block := fun a e => (ho1.lt a e).2
  obtain ⟨c20, c21, f20, f21⟩ := b2.cells
  have fin : ∀ W : World, W = ((w1.setCell ⟨w.heap.size + 1, 0, none⟩ (.int .i64 (n : Nat))).setCell ⟨w.heap.size + 1, 1, none⟩ (.slice ao len cap)).alloc (.cells #[.int .i64 (n : Nat), .slice ao len cap] 25) → Own w.heap.size W ao len f ∧ Below w.heap.size w W := by
    rintro W rfl
    refine ⟨Own.alloc (Own.but (ax := some ⟨w.heap.size + 1, 0, none⟩) (ho1.mono (by omega)) ?_ ?_) _, ((hB1.setCell (p := ⟨w.heap.size + 1, 0, none⟩) (by simp) _).setCell (p := ⟨w.heap.size + 1, 1, none⟩) (by simp) _).alloc (by simp; omega) _⟩
    · exact ((But.refl _ _).setCell (p := ⟨w.heap.size + 1, 0, none⟩) (.inl ⟨_, rfl, rfl⟩) _).setCell (p := ⟨w.heap.size + 1, 1, none⟩) (.inl ⟨_, rfl, rfl⟩) _
    · intro a c ea ec
      obtain rfl := Option.some.inj ec
      have := hbl a ea
      show w.heap.size + 1 ≠ a.block
      omega
  have bR := ((b2.set (.int .i64 (n : Nat)) (.slice ao len cap)).alloc (.cells #[.int .i64 (n : Nat), .slice ao len cap] 25)).cells
  have FIN := fin _ rfl
  clear fin
  have F1 : Hid _ := FIN.1
  have F2 : Hid _ := FIN.2
  have R1 : Hid _ := bR.1
  have R2 : Hid _ := bR.2.1
  clear FIN bR
  rcases hk with hk | hk
  all_goals
    go_wp2
  all_goals try omega
  all_goals
    refine bodyPost_ret (v := .agg #[.int .i64 n, .slice ao len cap]) (by simp [results, Try.results17, go_sem, R1.out, R2.out]) rfl ⟨_, _, _, f, rfl, F1.out, hs, F2.out⟩
/-- Without. -/
theorem without_any {w : World} {x : Value} {n : Nat} {P : Nat → Bool} (k : Int) (h : Arg w x n P) :
    Calls Try.prog 17 #[x, .int .i64 k] w (RetSet w n fun i => P i && !decide ((i : Int) = k)) := by
  by_cases hk : k < 0 ∨ (n : Int) ≤ k
  · refine (without_out k h hk).mono fun e w' ⟨ao, len, cap, f, he, ho, hs, hb⟩ => ⟨ao, len, cap, f, he, ho, ⟨hs.hle, hs.hlen, fun i hi => ?_, fun i hi => ?_⟩, hb⟩
    · by_cases hin : i < n
      · rw [hs.hbit i hi, decide_eq_false (by omega)]; simp
      · rw [hs.hbit i hi, hs.hout i (by omega)]; rfl
    · rw [hs.hout i hi]; rfl
  · obtain ⟨j, rfl⟩ := Int.eq_ofNat_of_zero_le (show 0 ≤ k by omega)
    refine (without_in j h (by omega)).mono fun e w' ⟨ao, len, cap, f, he, ho, hs, hb⟩ => ⟨ao, len, cap, f, he, ho, ⟨hs.hle, hs.hlen, fun i hi => ?_, fun i hi => ?_⟩, hb⟩
    · rw [hs.hbit i hi]; congr 2; rw [decide_eq_decide]; omega
    · have := hs.hout i hi
      rw [← this]; congr 2; rw [decide_eq_decide]; omega
end Go.Proofs.Ytclgefpkcagbfaa
