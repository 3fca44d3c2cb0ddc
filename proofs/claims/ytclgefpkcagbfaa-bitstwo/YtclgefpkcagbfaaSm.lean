/- Same, Meet: the walks. -/
import Derived.Test.YtclgefpkcagbfaaEq
import Derived.Deep.RegionWith
import Derived.Deep.DeepCutAuto
import Derived.Deep.DrawnRows
namespace Go.Proofs.Ytclgefpkcagbfaa
open Go.RowKit
attribute [local go_sem ↓] Go.wp_at_zero Go.wp_at_succ

/-- What a call answers that tells whether p; nothing old has turned. -/
def RetBool (w : World) (p : Prop) (e : Ending) (w' : World) : Prop := ∃ b, e = .returned (.bool b) ∧ (b = true ↔ p) ∧ Below w.heap.size w w'
/-- The two arguments' boxes, as they were laid. -/
structure Inv2 (w : World) (x0 x1 y0 y1 : Value) (W : World) : Prop where
  below : Below w.heap.size w W
  b0 : Box W w.heap.size x0 x1
  b1 : Box W (w.heap.size + 1) y0 y1
theorem Inv2.next {w W W' : World} {x0 x1 y0 y1 : Value} (h : Inv2 w x0 x1 y0 y1 W) (hb : Below W.heap.size W W') : Inv2 w x0 x1 y0 y1 W' :=
  ⟨h.below.trans (hb.mono h.below.size), h.b0.below hb, h.b1.below hb⟩
theorem Inv2.drew {w W : World} {x0 x1 y0 y1 : Value} (h : Inv2 w x0 x1 y0 y1 W) : Inv2 w x0 x1 y0 y1 W.drew := h.next (Below.refl _ _).drew
theorem Inv2.start (w : World) (x0 x1 y0 y1 : Value) : Inv2 w x0 x1 y0 y1 ((w.alloc (.cells #[x0, x1] 25)).alloc (.cells #[y0, y1] 25)) :=
  ⟨((Below.refl _ _).alloc (Nat.le_refl _) _).alloc (by simp) _, (Box.new w x0 x1).alloc _, Box.new1 w _ y0 y1⟩
theorem sound_inv2 {w W : World} {x0 x1 y0 y1 x : Value} {n : Nat} {P : Nat → Bool} (h : Arg w x n P) (hI : Inv2 w x0 x1 y0 y1 W) :
    Calls Try.prog 40 #[x] W fun e w' => ∃ ao len cap f, e = .returned (.agg #[.int .i64 (n : Nat), .slice ao len cap]) ∧ Rd w ao len f ∧ IsSet n len f P ∧ Inv2 w x0 x1 y0 y1 w' :=
  (sound_any h hI.below).mono fun _ _ ⟨ao, len, cap, f, he, hr, hs, hb⟩ => ⟨ao, len, cap, f, he, hr, hs, hI.next hb⟩
/-- Behind 'a, b = sound(a), sound(b)'. -/
structure Pair (w : World) (n : Nat) (P : Nat → Bool) (m : Nat) (Q : Nat → Bool) (wx : World) : Prop where
  ex : ∃ ao len cap f ao2 len2 cap2 g, Box wx w.heap.size (.int .i64 (n : Nat)) (.slice ao len cap) ∧ Rd w ao len f ∧ IsSet n len f P ∧ Box wx (w.heap.size + 1) (.int .i64 (m : Nat)) (.slice ao2 len2 cap2) ∧ Rd w ao2 len2 g ∧ IsSet m len2 g Q ∧ Below w.heap.size w wx
theorem pair_of {w w2 : World} {x0 x1 y0 y1 : Value} {n : Nat} {P : Nat → Bool} {m : Nat} {Q : Nat → Bool} {ao ao2 : Option Addr} {len cap len2 cap2 : Nat} {f g : Nat → Nat} (hI : Inv2 w x0 x1 y0 y1 w2) (hr : Rd w ao len f) (hs : IsSet n len f P) (hr2 : Rd w ao2 len2 g) (hs2 : IsSet m len2 g Q) :
    Pair w n P m Q ((((w2.setCell ⟨w.heap.size, 0, none⟩ (.int .i64 (n : Nat))).setCell ⟨w.heap.size, 1, none⟩ (.slice ao len cap)).setCell ⟨w.heap.size + 1, 0, none⟩ (.int .i64 (m : Nat))).setCell ⟨w.heap.size + 1, 1, none⟩ (.slice ao2 len2 cap2)) := by
  refine ⟨ao, len, cap, f, ao2, len2, cap2, g, ?_, hr, hs, ?_, hr2, hs2, ?_⟩
  · exact ((hI.b0.set _ _).other (p := ⟨w.heap.size + 1, 0, none⟩) (by simp) _).other (p := ⟨w.heap.size + 1, 1, none⟩) (by simp) _
  · exact ((hI.b1.other (p := ⟨w.heap.size, 0, none⟩) (by simp) _).other (p := ⟨w.heap.size, 1, none⟩) (by simp) _).set _ _
  · exact (((hI.below.setCell (p := ⟨w.heap.size, 0, none⟩) (by simp) _).setCell (p := ⟨w.heap.size, 1, none⟩) (by simp) _).setCell (p := ⟨w.heap.size + 1, 0, none⟩) (by simp) _).setCell (p := ⟨w.heap.size + 1, 1, none⟩) (by simp) _

theorem eqW_iff {n l : Nat} {f g : Nat → Nat} {P Q : Nat → Bool} (h : IsSet n l f P) (h' : IsSet n l g Q) (hf : ∀ i, i < l → f i < 18446744073709551616) (hg : ∀ i, i < l → g i < 18446744073709551616) : eqW l f g = true ↔ ∀ k, P k = Q k := by
  unfold eqW
  rw [decide_eq_true_iff]
  constructor
  · intro e k
    by_cases hk : k < 64 * l
    · rw [← h.hbit k hk, ← h'.hbit k hk]; unfold bitAt; rw [e (k / 64) (by omega)]
    · have := h.hlen
      rw [h.hout k (by omega), h'.hout k (by omega)]
  · intro e i hi
    obtain rfl : P = Q := funext e
    exact (h.uniq h' hf hg).2 i hi

set_option maxHeartbeats 2000000 in
/-- Same. -/
theorem same_any {w : World} {x y : Value} {n m : Nat} {P Q : Nat → Bool} (h : Arg w x n P) (h2 : Arg w y m Q) :
    Calls Try.prog 27 #[x, y] w (RetBool w (n = m ∧ ∀ k, P k = Q k)) := by
  obtain ⟨m1, a1, l1, c1, rfl⟩ := h.shape
  obtain ⟨m2, a2, l2, c2, rfl⟩ := h2.shape
  have hI := Inv2.start w (.int .i64 m1) (.slice a1 l1 c1) (.int .i64 m2) (.slice a2 l2 c2)
  go_enter Try.func27, Try.ntmps27
  go_upto_region 1 with fail
  go_cut [5] (fun _ wx => Pair w n P m Q wx)
  case first =>
    go_region_with (first
      | (go_at_call_of 40 (Value.agg #[.int .i64 m1, .slice a1 l1 c1]); refine (sound_inv2 (x0 := .int .i64 m1) (x1 := .slice a1 l1 c1) (y0 := .int .i64 m2) (y1 := .slice a2 l2 c2) h ?_).mono ?_; (repeat (first | exact hI | refine Inv2.drew ?_)); rintro e w1 ⟨ao, len, cap, f, rfl, hr, hs, hI1⟩; obtain ⟨k0, k1, k2, k3⟩ := hI1.b1.cells)
      | (go_at_call_of 40 (Value.agg #[.int .i64 m2, .slice a2 l2 c2]); refine (sound_inv2 (x0 := .int .i64 m1) (x1 := .slice a1 l1 c1) (y0 := .int .i64 m2) (y1 := .slice a2 l2 c2) h2 ?_).mono ?_; (repeat (first | exact hI1 | refine Inv2.drew ?_)); rintro e w2 ⟨ao2, len2, cap2, g, rfl, hr2, hs2, hI2⟩; obtain ⟨j0, j1, j2, j3⟩ := hI2.b1.cells; obtain ⟨i0, i1, i2, i3⟩ := hI2.b0.cells))
    all_goals go_wp2_with fail
    all_goals go_meet
    all_goals exact pair_of hI2 hr hs hr2 hs2
  case rest =>
    obtain ⟨ao, len, cap, f, ao2, len2, cap2, g, b0, hr, hs, b1, hr2, hs2, hB⟩ := hcut.ex
    clear hcut h h2 hI
    obtain ⟨p0, p1, p2, p3⟩ := b0.cells
    obtain ⟨q0, q1, q2, q3⟩ := b1.cells
    by_cases hnm : n = m
    · subst hnm
      obtain rfl : len2 = len := by rw [hs.hlen, hs2.hlen]
      have hl : (len2 : Int) ≤ 128 := by have := hs.hle; have := hs.hlen; omega
      have he : ((n : Int) == (n : Int)) = true := by simp
      go_wp2_with fail
      refine (equal_same ao ao2 len2 cap cap2 f g _ (hr.below hB) (hr2.below hB) (by omega)).mono ?_
      rintro e w1 ⟨rfl, q, rfl⟩
      have E : Hid (eqW len2 f g = true ↔ ∀ k, P k = Q k) := eqW_iff hs hs2 hr.small hr2.small
      go_wp2
      go_ret
      exact ⟨_, rfl, by simpa using E.out, below_drewN hB _⟩
    · have he : ((n : Int) == (m : Int)) = false := by rw [beq_eq_false_iff_ne]; omega
      go_wp2
      go_ret
      exact ⟨false, rfl, by simp [hnm], hB⟩
theorem meet_yes {n len m len2 : Nat} {f g : Nat → Nat} {P Q : Nat → Bool} (h : IsSet n len f P) (h2 : IsSet m len2 g Q) (hf : ∀ i, i < len → f i < 18446744073709551616) {k : Nat} (hk : k < len) (hz : ¬ f k &&& wd len2 g k = 0) : ∃ i, P i = true ∧ Q i = true := by
  obtain ⟨j, hj⟩ := Nat.exists_testBit_of_ne_zero hz
  have hj64 : j < 64 := by
    by_cases h64 : j < 64
    · exact h64
    · rw [testBit_lt (and_lt (hf k hk) _) (by omega)] at hj; cases hj
  have hb := (set_and h h2).hbit (64 * k + j) (by omega)
  have e : bitAt (fun j => f j &&& wd len2 g j) (64 * k + j) = (f k &&& wd len2 g k).testBit j := by
    unfold bitAt
    rw [show (64 * k + j) / 64 = k by omega, show (64 * k + j) % 64 = j by omega]
  rw [e, hj] at hb
  refine ⟨64 * k + j, ?_⟩
  simpa using hb.symm
theorem meet_no {n len m len2 : Nat} {f g : Nat → Nat} {P Q : Nat → Bool} (h : IsSet n len f P) (h2 : IsSet m len2 g Q) (hz : ∀ k, k < len → f k &&& wd len2 g k = 0) : ¬ ∃ i, P i = true ∧ Q i = true := by
  rintro ⟨i, hp, hq⟩
  by_cases hi : i < 64 * len
  · have hb := (set_and h h2).hbit i hi
    have e : bitAt (fun j => f j &&& wd len2 g j) i = false := by
      show (f (i / 64) &&& wd len2 g ((i / 64 : Nat) : Int)).testBit (i % 64) = false
      rw [hz (i / 64) (by omega), Nat.zero_testBit]
    rw [e] at hb
    simp [hp, hq] at hb
  · have := h.hlen
    rw [h.hout i (by omega)] at hp; cases hp
set_option maxHeartbeats 2000000 in
/-- Meet. -/
theorem meet_any {w : World} {x y : Value} {n m : Nat} {P Q : Nat → Bool} (h : Arg w x n P) (h2 : Arg w y m Q) :
    Calls Try.prog 26 #[x, y] w (RetBool w (∃ k, P k = true ∧ Q k = true)) := by
  obtain ⟨m1, a1, l1, c1, rfl⟩ := h.shape
  obtain ⟨m2, a2, l2, c2, rfl⟩ := h2.shape
  have hI := Inv2.start w (.int .i64 m1) (.slice a1 l1 c1) (.int .i64 m2) (.slice a2 l2 c2)
  go_enter Try.func26, Try.ntmps26
  go_upto_region 1 with fail
  go_cut [7] (fun _ wx => Pair w n P m Q wx)
  case first =>
    go_region_with (first
      | (go_at_call_of 40 (Value.agg #[.int .i64 m1, .slice a1 l1 c1]); refine (sound_inv2 (x0 := .int .i64 m1) (x1 := .slice a1 l1 c1) (y0 := .int .i64 m2) (y1 := .slice a2 l2 c2) h ?_).mono ?_; (repeat (first | exact hI | refine Inv2.drew ?_)); rintro e w1 ⟨ao, len, cap, f, rfl, hr, hs, hI1⟩; obtain ⟨k0, k1, k2, k3⟩ := hI1.b1.cells)
      | (go_at_call_of 40 (Value.agg #[.int .i64 m2, .slice a2 l2 c2]); refine (sound_inv2 (x0 := .int .i64 m1) (x1 := .slice a1 l1 c1) (y0 := .int .i64 m2) (y1 := .slice a2 l2 c2) h2 ?_).mono ?_; (repeat (first | exact hI1 | refine Inv2.drew ?_)); rintro e w2 ⟨ao2, len2, cap2, g, rfl, hr2, hs2, hI2⟩; obtain ⟨j0, j1, j2, j3⟩ := hI2.b1.cells; obtain ⟨i0, i1, i2, i3⟩ := hI2.b0.cells))
    all_goals go_wp2_with fail
    all_goals go_meet
    all_goals exact pair_of hI2 hr hs hr2 hs2
  case rest =>
    obtain ⟨ao, len, cap, f, ao2, len2, cap2, g, b0, hr, hs, b1, hr2, hs2, hB⟩ := hcut.ex
    clear hcut h h2 hI
    obtain ⟨p0, p1, p2, p3⟩ := b0.cells
    obtain ⟨q0, q1, q2, q3⟩ := b1.cells
    have hl : (len : Int) ≤ 128 := by have := hs.hle; have := hs.hlen; omega
    go_wp2_with fail
    go_loopw [14] (fun i wr => ∃ k : Nat, k ≤ len ∧ i = .int .i64 k ∧ (∀ j, j < k → f j &&& wd len2 g j = 0) ∧ Below wc.heap.size wc wr) (fun i _ => len - (intOf i).toNat)
    case atStart => exact ⟨0, Nat.zero_le _, rfl, fun j hj => by omega, Below.refl _ _⟩
    case round =>
      obtain ⟨k, hk, rfl, hall, hbw⟩ := hrel
      have HA : Hid (∀ j, j < k → f j &&& wd len2 g j = 0) := hall
      clear hall
      have hBr : Below w.heap.size w wr := hB.trans (hbw.mono hB.size)
      by_cases hlt : k < len
      · obtain ⟨b, off, rfl, hb, hc⟩ := hr.at_ (by omega)
        have t1 : wr.cell? ⟨b, off + k, none⟩ = some (.int .u64 (f k : Nat)) := by rw [hBr.cell (p := ⟨b, off + k, none⟩) hb]; exact hc k hlt
        have hki : (k : Int) < (len : Int) := by omega
        obtain ⟨s0, s1, s2, s3⟩ := (b1.below hbw).cells
        have hrd := hr2.below hBr
        have hand : Hid (bits .and .u64 (f k : Nat) (wd len2 g k : Nat) = ((f k &&& wd len2 g k : Nat) : Int)) := u64_and_nat _ _ (hr.small k hlt) (wd_lt hr2.small _)
        clear hc p0 p1 p2 p3 q0 q1 q2 q3
        go_wp2_with fail
        refine (wordAt_any m k ao2 len2 cap2 g _ hrd).mono ?_
        rintro e w2 ⟨rfl, hb2⟩
        by_cases hz : f k &&& wd len2 g k = 0
        · have hz1 : (bits .and .u64 (f k : Nat) (wd len2 g k : Nat) != 0) = false := by rw [hand.out, hz]; rfl
          have HZ : Hid (f k &&& wd len2 g k = 0) := hz
          clear hz
          go_wp2
          go_roundw
          case rel => exact ⟨k + 1, by omega, by go_num, fun j hj => (if h : j = k then by rw [h]; exact HZ.out else HA.out j (by omega)), hbw.trans (hb2.mono hbw.size)⟩
          case measure => simp [intOf]; omega
        · have hz1 : (bits .and .u64 (f k : Nat) (wd len2 g k : Nat) != 0) = true := by rw [hand.out, bne_iff_ne]; omega
          have HM : Hid (∃ i, P i = true ∧ Q i = true) := meet_yes hs hs2 hr.small hlt hz
          clear hz
          go_wp2
          go_ret
          exact ⟨true, rfl, by simpa using HM.out, hBr.trans (hb2.mono hBr.size)⟩
      · have HM : Hid (¬ ∃ i, P i = true ∧ Q i = true) := meet_no hs hs2 (fun j hj => HA.out j (by omega))
        go_wp2
        go_ret
        exact ⟨false, rfl, by simpa using HM.out, hBr⟩
end Go.Proofs.Ytclgefpkcagbfaa
