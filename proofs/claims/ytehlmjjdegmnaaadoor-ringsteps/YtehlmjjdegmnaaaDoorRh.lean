/- The reference's Has, New, Exact: the walks. -/
import Derived.Test.YtehlmjjdegmnaaaDoorRc
import Derived.Test.YtehlmjjdegmnaaaDoorNew
import Derived.Deep.RegionHeld3
namespace Go.Proofs.YtehlmjjdegmnaaaDoor
open Go.RowKit
attribute [local go_sem ↓] Go.wp_at_zero Go.wp_at_succ
set_option maxHeartbeats 400000 in
theorem rhas_out {w : World} {x : Value} {n : Nat} {P : Nat → Bool} (k : Int) (h : Arg w x n P) (hk : k < 0 ∨ (n : Int) ≤ k) :
    Calls Tryd.prog 44 #[x, .int .i64 k] w fun e w' => e = .returned (.bool false) ∧ Below w.heap.size w w' := by
  obtain ⟨m, a0, l0, c0, rfl⟩ := h.shape
  have hB0 : Below w.heap.size w (w.alloc (.cells #[.int .i64 m, .slice a0 l0 c0] 29)) := (Below.refl _ _).alloc (Nat.le_refl _) _
  go_enter Tryd.func44, Tryd.ntmps44
  go_wp2_with fail
  refine (may_any h hB0).mono ?_
  rintro e w1 ⟨ao, len, cap, f, rfl, hr, hs, hb⟩
  clear h
  have b1 := (Box.new w (.int .i64 m) (.slice a0 l0 c0)).below hb
  have hB1 : Below w.heap.size w w1 := hB0.trans (hb.mono (by simp))
  clear hB0 hb
  obtain ⟨c10, c11, f10, f11⟩ := b1.cells
  have hB2 : Hid (∀ u v, Below w.heap.size w ((w1.setCell ⟨w.heap.size, 0, none⟩ u).setCell ⟨w.heap.size, 1, none⟩ v)) := fun u v => (hB1.setCell (p := ⟨w.heap.size, 0, none⟩) (by simp) _).setCell (p := ⟨w.heap.size, 1, none⟩) (by simp) _
  rcases hk with hk | hk
  · have hd : decide (0 ≤ k) = false := by simp; omega
    go_wp2
    go_ret
    exact ⟨rfl, hB2.out _ _⟩
  · have hd : decide (0 ≤ k) = true := by simp; omega
    have hd2 : decide (k < (n : Int)) = false := by simp; omega
    go_wp2
    go_ret
    exact ⟨rfl, hB2.out _ _⟩
set_option maxHeartbeats 400000 in
theorem rhas_in {w : World} {x : Value} {n : Nat} {P : Nat → Bool} (j : Nat) (h : Arg w x n P) (hj : j < n) :
    Calls Tryd.prog 44 #[x, .int .i64 (j : Nat)] w fun e w' => e = .returned (.bool (P j)) ∧ Below w.heap.size w w' := by
  obtain ⟨m, a0, l0, c0, rfl⟩ := h.shape
  have hB0 : Below w.heap.size w (w.alloc (.cells #[.int .i64 m, .slice a0 l0 c0] 29)) := (Below.refl _ _).alloc (Nat.le_refl _) _
  go_enter Tryd.func44, Tryd.ntmps44
  go_wp2_with fail
  refine (may_any h hB0).mono ?_
  rintro e w1 ⟨ao, len, cap, f, rfl, hr, hs, hb⟩
  clear h
  have b1 := (Box.new w (.int .i64 m) (.slice a0 l0 c0)).below hb
  have hB1 : Below w.heap.size w w1 := hB0.trans (hb.mono (by simp))
  clear hB0 hb
  obtain ⟨c10, c11, f10, f11⟩ := b1.cells
  have hB2 : Hid (∀ u v, Below w.heap.size w ((w1.setCell ⟨w.heap.size, 0, none⟩ u).setCell ⟨w.heap.size, 1, none⟩ v)) := fun u v => (hB1.setCell (p := ⟨w.heap.size, 0, none⟩) (by simp) _).setCell (p := ⟨w.heap.size, 1, none⟩) (by simp) _
  have hd : decide (0 ≤ (j : Int)) = true := by simp
  have hd2 : decide ((j : Int) < (n : Int)) = true := by simp; omega
  have hle := hs.hle
  have HL := hs.hlen
  have HP : Hid (bitAt f j = P j) := hs.hbit j (by omega)
  have hr2 := hr.below (hB2.out (.int .i64 (n : Nat)) (.slice ao len cap))
  have hj64 : j < 64 * len := by omega
  clear HL
  go_wp2_with fail
  refine (rin_rd cap hr2 j hj64 (by omega)).mono ?_
  rintro e w' ⟨rfl, hw⟩
  subst hw
  rw [HP.out]
  go_wp2
  go_ret
  exact ⟨rfl, hB2.out _ _⟩
/-- Has. -/
theorem rhas_any {w : World} {x : Value} {n : Nat} {P : Nat → Bool} (k : Int) (h : Arg w x n P) :
    Calls Tryd.prog 44 #[x, .int .i64 k] w fun e w' => e = .returned (.bool (decide (0 ≤ k) && decide (k < n) && P k.toNat)) ∧ Below w.heap.size w w' := by
  by_cases hk : k < 0 ∨ (n : Int) ≤ k
  · have e : (decide (0 ≤ k) && decide (k < n) && P k.toNat) = false := by
      rcases hk with hk | hk
      · rw [decide_eq_false (by omega)]; rfl
      · rw [decide_eq_false (p := k < n) (by omega)]; simp
    rw [e]; exact rhas_out k h hk
  · obtain ⟨j, rfl⟩ := Int.eq_ofNat_of_zero_le (show 0 ≤ k by omega)
    have e : (decide ((0 : Int) ≤ (j : Nat)) && decide (((j : Nat) : Int) < n) && P ((j : Nat) : Int).toNat) = P j := by
      rw [decide_eq_true (by omega), decide_eq_true (p := ((j : Nat) : Int) < n) (by omega), Int.toNat_natCast]; simp
    rw [e]; exact rhas_in j h (by omega)

set_option maxHeartbeats 400000 in
theorem exact_no (n m : Int) (ao bo : Option Addr) (la ca lb cb : Nat) (w : World) (h : n ≠ m ∨ la ≠ lb) :
    Calls Tryd.prog 9 #[.agg #[.int .i64 n, .slice ao la ca], .agg #[.int .i64 m, .slice bo lb cb]] w fun e w' => e = .returned (.bool false) ∧ Below w.heap.size w w' := by
  by_cases hnm : n = m
  · subst hnm
    have hd : (n != n) = false := by simp
    have hd2 : ((la : Int) != (lb : Int)) = true := by rw [bne_iff_ne]; omega
    go_enter Tryd.func9, Tryd.ntmps9
    go_wp2
    go_ret
    exact ⟨rfl, ((Below.refl _ _).alloc (Nat.le_refl _) _).alloc (by simp) _⟩
  · have hd : (n != m) = true := by rw [bne_iff_ne]; exact hnm
    go_enter Tryd.func9, Tryd.ntmps9
    go_wp2
    go_ret
    exact ⟨rfl, ((Below.refl _ _).alloc (Nat.le_refl _) _).alloc (by simp) _⟩
set_option maxHeartbeats 400000 in
theorem exact_yes (n : Int) (ao bo : Option Addr) (l ca cb : Nat) (f g : Nat → Nat) (w : World) (hra : Rd w ao l f) (hrb : Rd w bo l g) (hm : (l : Int) ≤ 9223372036854775807) (hfg : ∀ i, i < l → f i = g i) :
    Calls Tryd.prog 9 #[.agg #[.int .i64 n, .slice ao l ca], .agg #[.int .i64 n, .slice bo l cb]] w fun e w' => e = .returned (.bool true) ∧ Below w.heap.size w w' := by
  have hd : (n != n) = false := by simp
  have hd2 : ((l : Int) != (l : Int)) = false := by simp
  have HF : Hid (∀ i, i < l → f i = g i) := hfg
  clear hfg
  have hB : Below w.heap.size w ((w.alloc (.cells #[.int .i64 n, .slice ao l ca] 29)).alloc (.cells #[.int .i64 n, .slice bo l cb] 29)) := ((Below.refl _ _).alloc (Nat.le_refl _) _).alloc (by simp) _
  have b0 := (Box.new w (.int .i64 n) (.slice ao l ca)).alloc (.cells #[.int .i64 n, .slice bo l cb] 29)
  have b1 := Box.new1 w (.cells #[.int .i64 n, .slice ao l ca] 29) (.int .i64 n) (.slice bo l cb)
  have ha := hra.below hB
  have hb := hrb.below hB
  go_enter Tryd.func9, Tryd.ntmps9
  go_wp2_with fail
  generalize ((w.alloc (.cells #[.int .i64 n, .slice ao l ca] 29)).alloc (.cells #[.int .i64 n, .slice bo l cb] 29)) = wA at *
  obtain ⟨p0, p1, p2, p3⟩ := b0.cells
  obtain ⟨q0, q1, q2, q3⟩ := b1.cells
  go_loopw [5] (fun i wr => ∃ k : Nat, k ≤ l ∧ i = .int .i64 k ∧ ∃ q, wr = wA.drewN q) (fun i _ => l - (intOf i).toNat)
  case atStart => exact ⟨0, Nat.zero_le _, rfl, 0, rfl⟩
  case round =>
    obtain ⟨k, hk, rfl, q, rfl⟩ := hrel
    by_cases hlt : k < l
    · obtain ⟨x, off, rfl, hx, hc⟩ := ha.at_ (by omega)
      obtain ⟨x2, off2, rfl, hx2, hc2⟩ := hb.at_ (by omega)
      have t1 := hc k hlt
      have t2 := hc2 k hlt
      rw [← HF.out k hlt] at t2
      have hki : (k : Int) < (l : Int) := by omega
      have hnb : (((f k : Nat) : Int) != ((f k : Nat) : Int)) = false := by simp
      clear hc hc2
      go_wp2
      go_quiet (fail)
      go_wp2
      go_roundw
      case rel => exact ⟨k + 1, by omega, by go_num, _, rfl⟩
      case measure => simp [intOf]; omega
    · go_wp2
      go_ret
      exact ⟨rfl, below_drewN hB _⟩
/-- Exact of two values that are one set. -/
theorem exact_same {w : World} {x y : Value} {n : Nat} {P Q : Nat → Bool} (h : SetAt w x n P) (h2 : SetAt w y n Q) (e : ∀ i, P i = Q i) : Calls Tryd.prog 9 #[x, y] w fun e w' => e = .returned (.bool true) ∧ Below w.heap.size w w' := by
  obtain rfl : P = Q := funext e
  obtain ⟨ao, l, ca, f, rfl, hra, hs⟩ := h
  obtain ⟨bo, l2, cb, g, rfl, hrb, hs2⟩ := h2
  obtain ⟨rfl, hfg⟩ := hs.uniq hs2 hra.small hrb.small
  exact exact_yes n ao bo l ca cb f g w hra hrb (by have := hs.hle; have := hs.hlen; omega) hfg
end Go.Proofs.YtehlmjjdegmnaaaDoor
