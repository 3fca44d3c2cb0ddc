/- First: the walk. -/
import Derived.Test.YthgjklhjfpillaaDoorRt
namespace Go.Proofs.YthgjklhjfpillaaDoor
open Go.RowKit
/-- What First answers. -/
def RetF (w : World) (P : Nat → Bool) (e : Ending) (w' : World) : Prop :=
  ((∃ k : Nat, k < 256 ∧ e = .returned (.tuple #[.int .u8 (k : Nat), .bool true]) ∧ P k = true ∧ ∀ j, j < k → P j = false) ∨ (e = .returned (.tuple #[.int .u8 0, .bool false]) ∧ ∀ j, j < 256 → P j = false)) ∧ Below w.heap.size w w'
theorem Low.lt {x k : Nat} (h : Low x k) (hx : x < 18446744073709551616) : k < 64 := by
  rcases Nat.lt_or_ge k 64 with h' | h'
  · exact h'
  · have := testBit_lt hx h'; rw [h.yes] at this; cases this
theorem C4.low0 {P : Nat → Bool} {a b c d k : Nat} (h : C4 P a b c d)  (hl : Low a k) : P (0 + k) = true ∧ ∀ j, j < 0 + k → P j = false := by
  have hk := hl.lt h.la
  refine ⟨by have := h.ha k hk; rw [hl.yes] at this; rw [Nat.zero_add]; exact this.symm, fun j hj => ?_⟩
  have := h.ha (j - 0) (by omega)
  rw [hl.no _ (by omega), show j - 0 = j by omega] at this
  exact this.symm
theorem C4.low1 {P : Nat → Bool} {a b c d k : Nat} (h : C4 P a b c d) (za : a = 0) (hl : Low b k) : P (64 + k) = true ∧ ∀ j, j < 64 + k → P j = false := by
  have hk := hl.lt h.lb
  refine ⟨by have := h.hb k hk; rw [hl.yes] at this; exact this.symm, fun j hj => ?_⟩
  by_cases h0 : j < 64
  · have := h.ha (j - 0) (by omega)
    rw [za, Nat.zero_testBit, show j - 0 = j by omega] at this
    exact this.symm
  have := h.hb (j - 64) (by omega)
  rw [hl.no _ (by omega), show 64 + (j - 64) = j by omega] at this
  exact this.symm
theorem C4.low2 {P : Nat → Bool} {a b c d k : Nat} (h : C4 P a b c d) (za : a = 0) (zb : b = 0) (hl : Low c k) : P (128 + k) = true ∧ ∀ j, j < 128 + k → P j = false := by
  have hk := hl.lt h.lc
  refine ⟨by have := h.hc k hk; rw [hl.yes] at this; exact this.symm, fun j hj => ?_⟩
  by_cases h0 : j < 64
  · have := h.ha (j - 0) (by omega)
    rw [za, Nat.zero_testBit, show j - 0 = j by omega] at this
    exact this.symm
  by_cases h1 : j < 128
  · have := h.hb (j - 64) (by omega)
    rw [zb, Nat.zero_testBit, show 64 + (j - 64) = j by omega] at this
    exact this.symm
  have := h.hc (j - 128) (by omega)
  rw [hl.no _ (by omega), show 128 + (j - 128) = j by omega] at this
  exact this.symm
theorem C4.low3 {P : Nat → Bool} {a b c d k : Nat} (h : C4 P a b c d) (za : a = 0) (zb : b = 0) (zc : c = 0) (hl : Low d k) : P (192 + k) = true ∧ ∀ j, j < 192 + k → P j = false := by
  have hk := hl.lt h.ld
  refine ⟨by have := h.hd k hk; rw [hl.yes] at this; exact this.symm, fun j hj => ?_⟩
  by_cases h0 : j < 64
  · have := h.ha (j - 0) (by omega)
    rw [za, Nat.zero_testBit, show j - 0 = j by omega] at this
    exact this.symm
  by_cases h1 : j < 128
  · have := h.hb (j - 64) (by omega)
    rw [zb, Nat.zero_testBit, show 64 + (j - 64) = j by omega] at this
    exact this.symm
  by_cases h2 : j < 192
  · have := h.hc (j - 128) (by omega)
    rw [zc, Nat.zero_testBit, show 128 + (j - 128) = j by omega] at this
    exact this.symm
  have := h.hd (j - 192) (by omega)
  rw [hl.no _ (by omega), show 192 + (j - 192) = j by omega] at this
  exact this.symm
theorem C4.zero {P : Nat → Bool} {a b c d : Nat} (h : C4 P a b c d) (za : a = 0) (zb : b = 0) (zc : c = 0) (zd : d = 0) : ∀ j, j < 256 → P j = false := by
  intro j hj
  by_cases h0 : j < 64
  · have := h.ha j h0; rw [za, Nat.zero_testBit] at this; exact this.symm
  by_cases h1 : j < 128
  · have := h.hb (j - 64) (by omega)
    rw [zb, Nat.zero_testBit, show 64 + (j - 64) = j by omega] at this; exact this.symm
  by_cases h2 : j < 192
  · have := h.hc (j - 128) (by omega)
    rw [zc, Nat.zero_testBit, show 128 + (j - 128) = j by omega] at this; exact this.symm
  · have := h.hd (j - 192) (by omega)
    rw [zd, Nat.zero_testBit, show 192 + (j - 192) = j by omega] at this; exact this.symm
set_option maxRecDepth 10000 in
set_option maxHeartbeats 2000000 in
theorem first_c {P : Nat → Bool} {a b c d : Nat} (h4 : C4 P a b c d) (w : World) (hT : Tab w) : Calls Tryd.prog 23 #[.agg #[.int .u64 (a : Nat), .int .u64 (b : Nat), .int .u64 (c : Nat), .int .u64 (d : Nat)]] w (RetF w P) := by
  have hB : Below w.heap.size w (w.alloc (.cells #[.int .u64 (a : Nat), .int .u64 (b : Nat), .int .u64 (c : Nat), .int .u64 (d : Nat)] 26)) := (Below.refl _ _).alloc (Nat.le_refl _) _
  have hT1 := hT.below hB
  have i0 := idx0 (.int .u64 (a : Nat)) (.int .u64 (b : Nat)) (.int .u64 (c : Nat)) (.int .u64 (d : Nat))
  have i1 := idx1 (.int .u64 (a : Nat)) (.int .u64 (b : Nat)) (.int .u64 (c : Nat)) (.int .u64 (d : Nat))
  have i2 := idx2 (.int .u64 (a : Nat)) (.int .u64 (b : Nat)) (.int .u64 (c : Nat)) (.int .u64 (d : Nat))
  have i3 := idx3 (.int .u64 (a : Nat)) (.int .u64 (b : Nat)) (.int .u64 (c : Nat)) (.int .u64 (d : Nat))
  go_enter Tryd.func23, Tryd.ntmps23
  go_wp2
  go_loopw [7] (fun i wr => wr = w.alloc (.cells #[.int .u64 (a : Nat), .int .u64 (b : Nat), .int .u64 (c : Nat), .int .u64 (d : Nat)] 26) ∧ ((i = .int .i64 0) ∨ (i = .int .i64 1 ∧ Hid (a = 0)) ∨ (i = .int .i64 2 ∧ Hid (a = 0) ∧ Hid (b = 0)) ∨ (i = .int .i64 3 ∧ Hid (a = 0) ∧ Hid (b = 0) ∧ Hid (c = 0)) ∨ (i = .int .i64 4 ∧ Hid (a = 0) ∧ Hid (b = 0) ∧ Hid (c = 0) ∧ Hid (d = 0)))) (fun i _ => 4 - (intOf i).toNat)
  case atStart => exact ⟨rfl, .inl rfl⟩
  case round =>
    obtain ⟨rfl, hh⟩ := hrel
    rcases hh with rfl | ⟨rfl, za⟩ | ⟨rfl, za, zb⟩ | ⟨rfl, za, zb, zc⟩ | ⟨rfl, za, zb, zc, zd⟩
    · by_cases h0 : a = 0
      · have za : Hid (a = 0) := h0
        have hz : ((a : Int) != 0) = false := by simp [h0]
        clear h0
        go_wp2
        go_roundw
        case rel => exact ⟨trivial, .inr (.inl ⟨rfl, za⟩)⟩
        case measure => decide
      · obtain ⟨k, hk, hlow⟩ := low_ex 64 a h4.la h0
        have HL : Hid _ := h4.low0  hlow
        have hnz : ((a : Int) != 0) = true := by simpa using h0
        have hc : ((0 + k : Nat) : Int) = k := by omega
        have hki : (k : Int) < 64 := by omega
        have htz := tz_any a k _ hT1 hlow h4.la
        clear hlow h4 hT
        go_wp2_with (go_at_call 50; refine htz.mono ?_; rintro e w' ⟨rfl, rfl⟩)
        exact bodyPost_ret (v := .tuple #[.int .u8 ((0 + k : Nat) : Int), .bool true]) (by rw [hc]; simp [results, Tryd.results23, go_sem]) rfl ⟨.inl ⟨0 + k, by omega, rfl, HL.out.1, HL.out.2⟩, hB⟩
    · by_cases h0 : b = 0
      · have zb : Hid (b = 0) := h0
        have hz : ((b : Int) != 0) = false := by simp [h0]
        clear h0
        go_wp2
        go_roundw
        case rel => exact ⟨trivial, .inr (.inr (.inl ⟨rfl, za, zb⟩))⟩
        case measure => decide
      · obtain ⟨k, hk, hlow⟩ := low_ex 64 b h4.lb h0
        have HL : Hid _ := h4.low1 za hlow
        have hnz : ((b : Int) != 0) = true := by simpa using h0
        have hc : ((64 + k : Nat) : Int) = (64 : Int) + k := by omega
        have hki : (k : Int) < 64 := by omega
        have htz := tz_any b k _ hT1 hlow h4.lb
        clear hlow h4 hT
        go_wp2_with (go_at_call 50; refine htz.mono ?_; rintro e w' ⟨rfl, rfl⟩)
        exact bodyPost_ret (v := .tuple #[.int .u8 ((64 + k : Nat) : Int), .bool true]) (by rw [hc]; simp [results, Tryd.results23, go_sem]) rfl ⟨.inl ⟨64 + k, by omega, rfl, HL.out.1, HL.out.2⟩, hB⟩
    · by_cases h0 : c = 0
      · have zc : Hid (c = 0) := h0
        have hz : ((c : Int) != 0) = false := by simp [h0]
        clear h0
        go_wp2
        go_roundw
        case rel => exact ⟨trivial, .inr (.inr (.inr (.inl ⟨rfl, za, zb, zc⟩)))⟩
        case measure => decide
      · obtain ⟨k, hk, hlow⟩ := low_ex 64 c h4.lc h0
        have HL : Hid _ := h4.low2 za zb hlow
        have hnz : ((c : Int) != 0) = true := by simpa using h0
        have hc : ((128 + k : Nat) : Int) = (128 : Int) + k := by omega
        have hki : (k : Int) < 64 := by omega
        have htz := tz_any c k _ hT1 hlow h4.lc
        clear hlow h4 hT
        go_wp2_with (go_at_call 50; refine htz.mono ?_; rintro e w' ⟨rfl, rfl⟩)
        exact bodyPost_ret (v := .tuple #[.int .u8 ((128 + k : Nat) : Int), .bool true]) (by rw [hc]; simp [results, Tryd.results23, go_sem]) rfl ⟨.inl ⟨128 + k, by omega, rfl, HL.out.1, HL.out.2⟩, hB⟩
    · by_cases h0 : d = 0
      · have zd : Hid (d = 0) := h0
        have hz : ((d : Int) != 0) = false := by simp [h0]
        clear h0
        go_wp2
        go_roundw
        case rel => exact ⟨trivial, .inr (.inr (.inr (.inr ⟨rfl, za, zb, zc, zd⟩)))⟩
        case measure => decide
      · obtain ⟨k, hk, hlow⟩ := low_ex 64 d h4.ld h0
        have HL : Hid _ := h4.low3 za zb zc hlow
        have hnz : ((d : Int) != 0) = true := by simpa using h0
        have hc : ((192 + k : Nat) : Int) = (192 : Int) + k := by omega
        have hki : (k : Int) < 64 := by omega
        have htz := tz_any d k _ hT1 hlow h4.ld
        clear hlow h4 hT
        go_wp2_with (go_at_call 50; refine htz.mono ?_; rintro e w' ⟨rfl, rfl⟩)
        exact bodyPost_ret (v := .tuple #[.int .u8 ((192 + k : Nat) : Int), .bool true]) (by rw [hc]; simp [results, Tryd.results23, go_sem]) rfl ⟨.inl ⟨192 + k, by omega, rfl, HL.out.1, HL.out.2⟩, hB⟩
    · have HN : Hid _ := h4.zero za zb zc zd
      go_wp2
      exact bodyPost_ret (v := .tuple #[.int .u8 0, .bool false]) (by simp [results, Tryd.results23, go_sem]) rfl ⟨.inr ⟨rfl, HN.out⟩, hB⟩
end Go.Proofs.YthgjklhjfpillaaDoor
