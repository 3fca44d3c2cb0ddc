/- The reference of token: one: the walks. -/
import Derived.Test.YtlmmiicibjfcdaaQ36
namespace Go.Proofs.Ytlmmiicibjfcdaa.X
open Go.RowKit
/-- A token, a place and an error in this ending. -/
def RetO (w : World) (t : Value) (en er : Int) (e : Ending) (w' : World) : Prop := e = .returned (.tuple #[t, .int .i64 en, .int .i64 er]) ∧ Below w.heap.size w w'
set_option maxRecDepth 20000 in
set_option maxHeartbeats 2000000 in
theorem ro_esc_bad (bb off n cap at_ : Nat) (z : Nat → Nat) (w : World) (hr : Rd w (some ⟨bb, off, none⟩) n z) (ha : at_ < n) (hq : z at_ = 92) (k : Int) (b a0 a1 a2 a3 : Nat) (nt : Bool) (l m : Int) (lz : Bool) (a : Nat)  (hE : ∀ W, Below w.heap.size w W → Calls Try.prog 89 #[.slice (some ⟨bb, off, none⟩) n cap, .int .i64 (at_ : Nat)] W fun e w' => e = .returned (.tuple #[.agg #[.int .i64 k, .int .u8 (b : Nat), .int .u64 (a0 : Nat), .int .u64 (a1 : Nat), .int .u64 (a2 : Nat), .int .u64 (a3 : Nat), .bool nt, .int .i64 l, .int .i64 m, .bool lz, .int .i64 (a : Nat)], .int .i64 0]) ∧ Below W.heap.size W w') : Calls Try.prog 79 #[.slice (some ⟨bb, off, none⟩) n cap, .int .i64 (at_ : Nat)] w (RetO w (tokV k b a0 a1 a2 a3 nt l m lz a) (at_ : Nat) 40) := by
  have t0 := cell1 hr at_ ha
  have i1 : (at_ : Int) < (n : Int) := by omega
  rw [hq] at t0
  clear hr hq ha
  have HE : Hid (∀ W, Below w.heap.size w W → Calls Try.prog 89 #[.slice (some ⟨bb, off, none⟩) n cap, .int .i64 (at_ : Nat)] W fun e w' => e = .returned (.tuple #[.agg #[.int .i64 k, .int .u8 (b : Nat), .int .u64 (a0 : Nat), .int .u64 (a1 : Nat), .int .u64 (a2 : Nat), .int .u64 (a3 : Nat), .bool nt, .int .i64 l, .int .i64 m, .bool lz, .int .i64 (a : Nat)], .int .i64 0]) ∧ Below W.heap.size W w') := hE
  clear hE
  have k0 := fl0 w
  have hB0 : Below w.heap.size w (w.alloc (.cells #[.int .i64 0, .int .u8 0, .int .u64 0, .int .u64 0, .int .u64 0, .int .u64 0, .bool false, .int .i64 0, .int .i64 0, .bool false, .int .i64 0] 42)) := bel1 w _
  go_enter Try.func79, Try.ntmps79
  go_wp2_with fail
  refine (HE.out _ (bel1 _ _)).mono ?_
  rintro e w1 ⟨rfl, hb⟩
  clear t0 HE
  have k1 := (k0.below hb).alloc (.cells #[.int .i64 k, .int .u8 (b : Nat), .int .u64 (a0 : Nat), .int .u64 (a1 : Nat), .int .u64 (a2 : Nat), .int .u64 (a3 : Nat), .bool nt, .int .i64 l, .int .i64 m, .bool lz, .int .i64 (a : Nat)] 42)
  have hB1 := ((hB0.trans (hb.mono hB0.size)).alloc (by have := hb.size; simp at this; omega) (.cells #[.int .i64 k, .int .u8 (b : Nat), .int .u64 (a0 : Nat), .int .u64 (a1 : Nat), .int .u64 (a2 : Nat), .int .u64 (a3 : Nat), .bool nt, .int .i64 l, .int .i64 m, .bool lz, .int .i64 (a : Nat)] 42))
  obtain ⟨⟨b0, b1, b2, b3, b4, b5, b6, b7, b8, b9, b10⟩, g0, g1, g2, g3, g4, g5, g6, g7, g8, g9, g10⟩ := k1.eleven
  have F := (k1.put11 (.int .i64 k) (.int .u8 (b : Nat)) (.int .u64 (a0 : Nat)) (.int .u64 (a1 : Nat)) (.int .u64 (a2 : Nat)) (.int .u64 (a3 : Nat)) (.bool nt) (.int .i64 l) (.int .i64 m) (.bool lz) (.int .i64 (a : Nat))).eleven.1
  have hB4 := below_put11 (b := w.heap.size) hB1 (Nat.le_refl _) (.int .i64 k) (.int .u8 (b : Nat)) (.int .u64 (a0 : Nat)) (.int .u64 (a1 : Nat)) (.int .u64 (a2 : Nat)) (.int .u64 (a3 : Nat)) (.bool nt) (.int .i64 l) (.int .i64 m) (.bool lz) (.int .i64 (a : Nat))
  simp only [put11] at F hB4
  obtain ⟨F0, F1, F2, F3, F4, F5, F6, F7, F8, F9, F10⟩ := F
  have HF : Hid (Below w.heap.size w _) := hB4
  clear hB4 hB1 k0 k1 hB0
  clear hb
  go_wp2
  exact bodyPost_ret (v := .tuple #[tokV k b a0 a1 a2 a3 nt l m lz a, .int .i64 (at_ : Nat), .int .i64 40]) (by simp [results, Try.results79, go_sem, tokV, F0, F1, F2, F3, F4, F5, F6, F7, F8, F9, F10]) rfl ⟨rfl, HF.out⟩
set_option maxRecDepth 20000 in
set_option maxHeartbeats 2000000 in
theorem ro_esc (bb off n cap at_ : Nat) (z : Nat → Nat) (w : World) (hr : Rd w (some ⟨bb, off, none⟩) n z) (ha : at_ < n) (hq : z at_ = 92) (k : Int) (b a0 a1 a2 a3 : Nat) (nt : Bool) (l m : Int) (lz : Bool) (a : Nat) (en : Nat) (h0 : 0 < en) (hE : ∀ W, Below w.heap.size w W → Calls Try.prog 89 #[.slice (some ⟨bb, off, none⟩) n cap, .int .i64 (at_ : Nat)] W fun e w' => e = .returned (.tuple #[.agg #[.int .i64 k, .int .u8 (b : Nat), .int .u64 (a0 : Nat), .int .u64 (a1 : Nat), .int .u64 (a2 : Nat), .int .u64 (a3 : Nat), .bool nt, .int .i64 l, .int .i64 m, .bool lz, .int .i64 (a : Nat)], .int .i64 (en : Nat)]) ∧ Below W.heap.size W w') : Calls Try.prog 79 #[.slice (some ⟨bb, off, none⟩) n cap, .int .i64 (at_ : Nat)] w (RetO w (tokV k b a0 a1 a2 a3 nt l m lz a) (en : Nat) 0) := by
  have t0 := cell1 hr at_ ha
  have i1 : (at_ : Int) < (n : Int) := by omega
  rw [hq] at t0
  have j0 : ((en : Int) == 0) = false := by simp; omega
  clear h0
  clear hr hq ha
  have HE : Hid (∀ W, Below w.heap.size w W → Calls Try.prog 89 #[.slice (some ⟨bb, off, none⟩) n cap, .int .i64 (at_ : Nat)] W fun e w' => e = .returned (.tuple #[.agg #[.int .i64 k, .int .u8 (b : Nat), .int .u64 (a0 : Nat), .int .u64 (a1 : Nat), .int .u64 (a2 : Nat), .int .u64 (a3 : Nat), .bool nt, .int .i64 l, .int .i64 m, .bool lz, .int .i64 (a : Nat)], .int .i64 (en : Nat)]) ∧ Below W.heap.size W w') := hE
  clear hE
  have k0 := fl0 w
  have hB0 : Below w.heap.size w (w.alloc (.cells #[.int .i64 0, .int .u8 0, .int .u64 0, .int .u64 0, .int .u64 0, .int .u64 0, .bool false, .int .i64 0, .int .i64 0, .bool false, .int .i64 0] 42)) := bel1 w _
  go_enter Try.func79, Try.ntmps79
  go_wp2_with fail
  refine (HE.out _ (bel1 _ _)).mono ?_
  rintro e w1 ⟨rfl, hb⟩
  clear t0 HE
  have k1 := (k0.below hb).alloc (.cells #[.int .i64 k, .int .u8 (b : Nat), .int .u64 (a0 : Nat), .int .u64 (a1 : Nat), .int .u64 (a2 : Nat), .int .u64 (a3 : Nat), .bool nt, .int .i64 l, .int .i64 m, .bool lz, .int .i64 (a : Nat)] 42)
  have hB1 := ((hB0.trans (hb.mono hB0.size)).alloc (by have := hb.size; simp at this; omega) (.cells #[.int .i64 k, .int .u8 (b : Nat), .int .u64 (a0 : Nat), .int .u64 (a1 : Nat), .int .u64 (a2 : Nat), .int .u64 (a3 : Nat), .bool nt, .int .i64 l, .int .i64 m, .bool lz, .int .i64 (a : Nat)] 42))
  obtain ⟨⟨b0, b1, b2, b3, b4, b5, b6, b7, b8, b9, b10⟩, g0, g1, g2, g3, g4, g5, g6, g7, g8, g9, g10⟩ := k1.eleven
  have F := (k1.put11 (.int .i64 k) (.int .u8 (b : Nat)) (.int .u64 (a0 : Nat)) (.int .u64 (a1 : Nat)) (.int .u64 (a2 : Nat)) (.int .u64 (a3 : Nat)) (.bool nt) (.int .i64 l) (.int .i64 m) (.bool lz) (.int .i64 (a : Nat))).eleven.1
  have hB4 := below_put11 (b := w.heap.size) hB1 (Nat.le_refl _) (.int .i64 k) (.int .u8 (b : Nat)) (.int .u64 (a0 : Nat)) (.int .u64 (a1 : Nat)) (.int .u64 (a2 : Nat)) (.int .u64 (a3 : Nat)) (.bool nt) (.int .i64 l) (.int .i64 m) (.bool lz) (.int .i64 (a : Nat))
  simp only [put11] at F hB4
  obtain ⟨F0, F1, F2, F3, F4, F5, F6, F7, F8, F9, F10⟩ := F
  have HF : Hid (Below w.heap.size w _) := hB4
  clear hB4 hB1 k0 k1 hB0
  clear hb
  go_wp2
  exact bodyPost_ret (v := .tuple #[tokV k b a0 a1 a2 a3 nt l m lz a, .int .i64 (en : Nat), .int .i64 0]) (by simp [results, Try.results79, go_sem, tokV, F0, F1, F2, F3, F4, F5, F6, F7, F8, F9, F10]) rfl ⟨rfl, HF.out⟩
set_option maxRecDepth 20000 in
set_option maxHeartbeats 2000000 in
theorem ro_star (bb off n cap at_ : Nat) (z : Nat → Nat) (w : World) (hr : Rd w (some ⟨bb, off, none⟩) n z) (ha : at_ < n) (hq : z at_ = 42) (k : Int) (b a0 a1 a2 a3 : Nat) (nt : Bool) (l m : Int) (lz : Bool) (a : Nat) (en : Nat) (h0 : 0 < en) (hE : ∀ W, Below w.heap.size w W → Calls Try.prog 91 #[.slice (some ⟨bb, off, none⟩) n cap, .int .i64 (at_ : Nat)] W fun e w' => e = .returned (.tuple #[.agg #[.int .i64 k, .int .u8 (b : Nat), .int .u64 (a0 : Nat), .int .u64 (a1 : Nat), .int .u64 (a2 : Nat), .int .u64 (a3 : Nat), .bool nt, .int .i64 l, .int .i64 m, .bool lz, .int .i64 (a : Nat)], .int .i64 (en : Nat)]) ∧ Below W.heap.size W w') : Calls Try.prog 79 #[.slice (some ⟨bb, off, none⟩) n cap, .int .i64 (at_ : Nat)] w (RetO w (tokV k b a0 a1 a2 a3 nt l m lz a) (en : Nat) 0) := by
  have t0 := cell1 hr at_ ha
  have i1 : (at_ : Int) < (n : Int) := by omega
  rw [hq] at t0
  have j0 : ((en : Int) == 0) = false := by simp; omega
  clear h0
  clear hr hq ha
  have HE : Hid (∀ W, Below w.heap.size w W → Calls Try.prog 91 #[.slice (some ⟨bb, off, none⟩) n cap, .int .i64 (at_ : Nat)] W fun e w' => e = .returned (.tuple #[.agg #[.int .i64 k, .int .u8 (b : Nat), .int .u64 (a0 : Nat), .int .u64 (a1 : Nat), .int .u64 (a2 : Nat), .int .u64 (a3 : Nat), .bool nt, .int .i64 l, .int .i64 m, .bool lz, .int .i64 (a : Nat)], .int .i64 (en : Nat)]) ∧ Below W.heap.size W w') := hE
  clear hE
  have k0 := fl0 w
  have hB0 : Below w.heap.size w (w.alloc (.cells #[.int .i64 0, .int .u8 0, .int .u64 0, .int .u64 0, .int .u64 0, .int .u64 0, .bool false, .int .i64 0, .int .i64 0, .bool false, .int .i64 0] 42)) := bel1 w _
  go_enter Try.func79, Try.ntmps79
  go_wp2_with fail
  refine (HE.out _ (bel1 _ _)).mono ?_
  rintro e w1 ⟨rfl, hb⟩
  clear t0 HE
  have k1 := (k0.below hb).alloc (.cells #[.int .i64 k, .int .u8 (b : Nat), .int .u64 (a0 : Nat), .int .u64 (a1 : Nat), .int .u64 (a2 : Nat), .int .u64 (a3 : Nat), .bool nt, .int .i64 l, .int .i64 m, .bool lz, .int .i64 (a : Nat)] 42)
  have hB1 := ((hB0.trans (hb.mono hB0.size)).alloc (by have := hb.size; simp at this; omega) (.cells #[.int .i64 k, .int .u8 (b : Nat), .int .u64 (a0 : Nat), .int .u64 (a1 : Nat), .int .u64 (a2 : Nat), .int .u64 (a3 : Nat), .bool nt, .int .i64 l, .int .i64 m, .bool lz, .int .i64 (a : Nat)] 42))
  obtain ⟨⟨b0, b1, b2, b3, b4, b5, b6, b7, b8, b9, b10⟩, g0, g1, g2, g3, g4, g5, g6, g7, g8, g9, g10⟩ := k1.eleven
  have F := (k1.put11 (.int .i64 k) (.int .u8 (b : Nat)) (.int .u64 (a0 : Nat)) (.int .u64 (a1 : Nat)) (.int .u64 (a2 : Nat)) (.int .u64 (a3 : Nat)) (.bool nt) (.int .i64 l) (.int .i64 m) (.bool lz) (.int .i64 (a : Nat))).eleven.1
  have hB4 := below_put11 (b := w.heap.size) hB1 (Nat.le_refl _) (.int .i64 k) (.int .u8 (b : Nat)) (.int .u64 (a0 : Nat)) (.int .u64 (a1 : Nat)) (.int .u64 (a2 : Nat)) (.int .u64 (a3 : Nat)) (.bool nt) (.int .i64 l) (.int .i64 m) (.bool lz) (.int .i64 (a : Nat))
  simp only [put11] at F hB4
  obtain ⟨F0, F1, F2, F3, F4, F5, F6, F7, F8, F9, F10⟩ := F
  have HF : Hid (Below w.heap.size w _) := hB4
  clear hB4 hB1 k0 k1 hB0
  clear hb
  go_wp2
  exact bodyPost_ret (v := .tuple #[tokV k b a0 a1 a2 a3 nt l m lz a, .int .i64 (en : Nat), .int .i64 0]) (by simp [results, Try.results79, go_sem, tokV, F0, F1, F2, F3, F4, F5, F6, F7, F8, F9, F10]) rfl ⟨rfl, HF.out⟩
set_option maxRecDepth 20000 in
set_option maxHeartbeats 2000000 in
theorem ro_plus (bb off n cap at_ : Nat) (z : Nat → Nat) (w : World) (hr : Rd w (some ⟨bb, off, none⟩) n z) (ha : at_ < n) (hq : z at_ = 43) (k : Int) (b a0 a1 a2 a3 : Nat) (nt : Bool) (l m : Int) (lz : Bool) (a : Nat) (en : Nat) (h0 : 0 < en) (hE : ∀ W, Below w.heap.size w W → Calls Try.prog 91 #[.slice (some ⟨bb, off, none⟩) n cap, .int .i64 (at_ : Nat)] W fun e w' => e = .returned (.tuple #[.agg #[.int .i64 k, .int .u8 (b : Nat), .int .u64 (a0 : Nat), .int .u64 (a1 : Nat), .int .u64 (a2 : Nat), .int .u64 (a3 : Nat), .bool nt, .int .i64 l, .int .i64 m, .bool lz, .int .i64 (a : Nat)], .int .i64 (en : Nat)]) ∧ Below W.heap.size W w') : Calls Try.prog 79 #[.slice (some ⟨bb, off, none⟩) n cap, .int .i64 (at_ : Nat)] w (RetO w (tokV k b a0 a1 a2 a3 nt l m lz a) (en : Nat) 0) := by
  have t0 := cell1 hr at_ ha
  have i1 : (at_ : Int) < (n : Int) := by omega
  rw [hq] at t0
  have j0 : ((en : Int) == 0) = false := by simp; omega
  clear h0
  clear hr hq ha
  have HE : Hid (∀ W, Below w.heap.size w W → Calls Try.prog 91 #[.slice (some ⟨bb, off, none⟩) n cap, .int .i64 (at_ : Nat)] W fun e w' => e = .returned (.tuple #[.agg #[.int .i64 k, .int .u8 (b : Nat), .int .u64 (a0 : Nat), .int .u64 (a1 : Nat), .int .u64 (a2 : Nat), .int .u64 (a3 : Nat), .bool nt, .int .i64 l, .int .i64 m, .bool lz, .int .i64 (a : Nat)], .int .i64 (en : Nat)]) ∧ Below W.heap.size W w') := hE
  clear hE
  have k0 := fl0 w
  have hB0 : Below w.heap.size w (w.alloc (.cells #[.int .i64 0, .int .u8 0, .int .u64 0, .int .u64 0, .int .u64 0, .int .u64 0, .bool false, .int .i64 0, .int .i64 0, .bool false, .int .i64 0] 42)) := bel1 w _
  go_enter Try.func79, Try.ntmps79
  go_wp2_with fail
  refine (HE.out _ (bel1 _ _)).mono ?_
  rintro e w1 ⟨rfl, hb⟩
  clear t0 HE
  have k1 := (k0.below hb).alloc (.cells #[.int .i64 k, .int .u8 (b : Nat), .int .u64 (a0 : Nat), .int .u64 (a1 : Nat), .int .u64 (a2 : Nat), .int .u64 (a3 : Nat), .bool nt, .int .i64 l, .int .i64 m, .bool lz, .int .i64 (a : Nat)] 42)
  have hB1 := ((hB0.trans (hb.mono hB0.size)).alloc (by have := hb.size; simp at this; omega) (.cells #[.int .i64 k, .int .u8 (b : Nat), .int .u64 (a0 : Nat), .int .u64 (a1 : Nat), .int .u64 (a2 : Nat), .int .u64 (a3 : Nat), .bool nt, .int .i64 l, .int .i64 m, .bool lz, .int .i64 (a : Nat)] 42))
  obtain ⟨⟨b0, b1, b2, b3, b4, b5, b6, b7, b8, b9, b10⟩, g0, g1, g2, g3, g4, g5, g6, g7, g8, g9, g10⟩ := k1.eleven
  have F := (k1.put11 (.int .i64 k) (.int .u8 (b : Nat)) (.int .u64 (a0 : Nat)) (.int .u64 (a1 : Nat)) (.int .u64 (a2 : Nat)) (.int .u64 (a3 : Nat)) (.bool nt) (.int .i64 l) (.int .i64 m) (.bool lz) (.int .i64 (a : Nat))).eleven.1
  have hB4 := below_put11 (b := w.heap.size) hB1 (Nat.le_refl _) (.int .i64 k) (.int .u8 (b : Nat)) (.int .u64 (a0 : Nat)) (.int .u64 (a1 : Nat)) (.int .u64 (a2 : Nat)) (.int .u64 (a3 : Nat)) (.bool nt) (.int .i64 l) (.int .i64 m) (.bool lz) (.int .i64 (a : Nat))
  simp only [put11] at F hB4
  obtain ⟨F0, F1, F2, F3, F4, F5, F6, F7, F8, F9, F10⟩ := F
  have HF : Hid (Below w.heap.size w _) := hB4
  clear hB4 hB1 k0 k1 hB0
  clear hb
  go_wp2
  exact bodyPost_ret (v := .tuple #[tokV k b a0 a1 a2 a3 nt l m lz a, .int .i64 (en : Nat), .int .i64 0]) (by simp [results, Try.results79, go_sem, tokV, F0, F1, F2, F3, F4, F5, F6, F7, F8, F9, F10]) rfl ⟨rfl, HF.out⟩
set_option maxRecDepth 20000 in
set_option maxHeartbeats 2000000 in
theorem ro_quest (bb off n cap at_ : Nat) (z : Nat → Nat) (w : World) (hr : Rd w (some ⟨bb, off, none⟩) n z) (ha : at_ < n) (hq : z at_ = 63) (k : Int) (b a0 a1 a2 a3 : Nat) (nt : Bool) (l m : Int) (lz : Bool) (a : Nat) (en : Nat) (h0 : 0 < en) (hE : ∀ W, Below w.heap.size w W → Calls Try.prog 91 #[.slice (some ⟨bb, off, none⟩) n cap, .int .i64 (at_ : Nat)] W fun e w' => e = .returned (.tuple #[.agg #[.int .i64 k, .int .u8 (b : Nat), .int .u64 (a0 : Nat), .int .u64 (a1 : Nat), .int .u64 (a2 : Nat), .int .u64 (a3 : Nat), .bool nt, .int .i64 l, .int .i64 m, .bool lz, .int .i64 (a : Nat)], .int .i64 (en : Nat)]) ∧ Below W.heap.size W w') : Calls Try.prog 79 #[.slice (some ⟨bb, off, none⟩) n cap, .int .i64 (at_ : Nat)] w (RetO w (tokV k b a0 a1 a2 a3 nt l m lz a) (en : Nat) 0) := by
  have t0 := cell1 hr at_ ha
  have i1 : (at_ : Int) < (n : Int) := by omega
  rw [hq] at t0
  have j0 : ((en : Int) == 0) = false := by simp; omega
  clear h0
  clear hr hq ha
  have HE : Hid (∀ W, Below w.heap.size w W → Calls Try.prog 91 #[.slice (some ⟨bb, off, none⟩) n cap, .int .i64 (at_ : Nat)] W fun e w' => e = .returned (.tuple #[.agg #[.int .i64 k, .int .u8 (b : Nat), .int .u64 (a0 : Nat), .int .u64 (a1 : Nat), .int .u64 (a2 : Nat), .int .u64 (a3 : Nat), .bool nt, .int .i64 l, .int .i64 m, .bool lz, .int .i64 (a : Nat)], .int .i64 (en : Nat)]) ∧ Below W.heap.size W w') := hE
  clear hE
  have k0 := fl0 w
  have hB0 : Below w.heap.size w (w.alloc (.cells #[.int .i64 0, .int .u8 0, .int .u64 0, .int .u64 0, .int .u64 0, .int .u64 0, .bool false, .int .i64 0, .int .i64 0, .bool false, .int .i64 0] 42)) := bel1 w _
  go_enter Try.func79, Try.ntmps79
  go_wp2_with fail
  refine (HE.out _ (bel1 _ _)).mono ?_
  rintro e w1 ⟨rfl, hb⟩
  clear t0 HE
  have k1 := (k0.below hb).alloc (.cells #[.int .i64 k, .int .u8 (b : Nat), .int .u64 (a0 : Nat), .int .u64 (a1 : Nat), .int .u64 (a2 : Nat), .int .u64 (a3 : Nat), .bool nt, .int .i64 l, .int .i64 m, .bool lz, .int .i64 (a : Nat)] 42)
  have hB1 := ((hB0.trans (hb.mono hB0.size)).alloc (by have := hb.size; simp at this; omega) (.cells #[.int .i64 k, .int .u8 (b : Nat), .int .u64 (a0 : Nat), .int .u64 (a1 : Nat), .int .u64 (a2 : Nat), .int .u64 (a3 : Nat), .bool nt, .int .i64 l, .int .i64 m, .bool lz, .int .i64 (a : Nat)] 42))
  obtain ⟨⟨b0, b1, b2, b3, b4, b5, b6, b7, b8, b9, b10⟩, g0, g1, g2, g3, g4, g5, g6, g7, g8, g9, g10⟩ := k1.eleven
  have F := (k1.put11 (.int .i64 k) (.int .u8 (b : Nat)) (.int .u64 (a0 : Nat)) (.int .u64 (a1 : Nat)) (.int .u64 (a2 : Nat)) (.int .u64 (a3 : Nat)) (.bool nt) (.int .i64 l) (.int .i64 m) (.bool lz) (.int .i64 (a : Nat))).eleven.1
  have hB4 := below_put11 (b := w.heap.size) hB1 (Nat.le_refl _) (.int .i64 k) (.int .u8 (b : Nat)) (.int .u64 (a0 : Nat)) (.int .u64 (a1 : Nat)) (.int .u64 (a2 : Nat)) (.int .u64 (a3 : Nat)) (.bool nt) (.int .i64 l) (.int .i64 m) (.bool lz) (.int .i64 (a : Nat))
  simp only [put11] at F hB4
  obtain ⟨F0, F1, F2, F3, F4, F5, F6, F7, F8, F9, F10⟩ := F
  have HF : Hid (Below w.heap.size w _) := hB4
  clear hB4 hB1 k0 k1 hB0
  clear hb
  go_wp2
  exact bodyPost_ret (v := .tuple #[tokV k b a0 a1 a2 a3 nt l m lz a, .int .i64 (en : Nat), .int .i64 0]) (by simp [results, Try.results79, go_sem, tokV, F0, F1, F2, F3, F4, F5, F6, F7, F8, F9, F10]) rfl ⟨rfl, HF.out⟩
set_option maxRecDepth 20000 in
set_option maxHeartbeats 2000000 in
theorem ro_cnt_bad (bb off n cap at_ : Nat) (z : Nat → Nat) (w : World) (hr : Rd w (some ⟨bb, off, none⟩) n z) (ha : at_ < n) (hq : z at_ = 123) (k : Int) (b a0 a1 a2 a3 : Nat) (nt : Bool) (l m : Int) (lz : Bool) (a : Nat)  (hE : ∀ W, Below w.heap.size w W → Calls Try.prog 91 #[.slice (some ⟨bb, off, none⟩) n cap, .int .i64 (at_ : Nat)] W fun e w' => e = .returned (.tuple #[.agg #[.int .i64 k, .int .u8 (b : Nat), .int .u64 (a0 : Nat), .int .u64 (a1 : Nat), .int .u64 (a2 : Nat), .int .u64 (a3 : Nat), .bool nt, .int .i64 l, .int .i64 m, .bool lz, .int .i64 (a : Nat)], .int .i64 0]) ∧ Below W.heap.size W w') : Calls Try.prog 79 #[.slice (some ⟨bb, off, none⟩) n cap, .int .i64 (at_ : Nat)] w (RetO w (tokV 0 0 0 0 0 0 false 0 0 false 0) (at_ : Nat) 43) := by
  have t0 := cell1 hr at_ ha
  have i1 : (at_ : Int) < (n : Int) := by omega
  rw [hq] at t0
  clear hr hq ha
  have HE : Hid (∀ W, Below w.heap.size w W → Calls Try.prog 91 #[.slice (some ⟨bb, off, none⟩) n cap, .int .i64 (at_ : Nat)] W fun e w' => e = .returned (.tuple #[.agg #[.int .i64 k, .int .u8 (b : Nat), .int .u64 (a0 : Nat), .int .u64 (a1 : Nat), .int .u64 (a2 : Nat), .int .u64 (a3 : Nat), .bool nt, .int .i64 l, .int .i64 m, .bool lz, .int .i64 (a : Nat)], .int .i64 0]) ∧ Below W.heap.size W w') := hE
  clear hE
  have k0 := fl0 w
  have hB0 : Below w.heap.size w (w.alloc (.cells #[.int .i64 0, .int .u8 0, .int .u64 0, .int .u64 0, .int .u64 0, .int .u64 0, .bool false, .int .i64 0, .int .i64 0, .bool false, .int .i64 0] 42)) := bel1 w _
  go_enter Try.func79, Try.ntmps79
  go_wp2_with fail
  refine (HE.out _ (bel1 _ _)).mono ?_
  rintro e w1 ⟨rfl, hb⟩
  clear t0 HE
  have k1 := (k0.below hb).alloc (.cells #[.int .i64 k, .int .u8 (b : Nat), .int .u64 (a0 : Nat), .int .u64 (a1 : Nat), .int .u64 (a2 : Nat), .int .u64 (a3 : Nat), .bool nt, .int .i64 l, .int .i64 m, .bool lz, .int .i64 (a : Nat)] 42)
  have hB1 := ((hB0.trans (hb.mono hB0.size)).alloc (by have := hb.size; simp at this; omega) (.cells #[.int .i64 k, .int .u8 (b : Nat), .int .u64 (a0 : Nat), .int .u64 (a1 : Nat), .int .u64 (a2 : Nat), .int .u64 (a3 : Nat), .bool nt, .int .i64 l, .int .i64 m, .bool lz, .int .i64 (a : Nat)] 42))
  obtain ⟨⟨b0, b1, b2, b3, b4, b5, b6, b7, b8, b9, b10⟩, g0, g1, g2, g3, g4, g5, g6, g7, g8, g9, g10⟩ := k1.eleven
  have F := (k1.put11 (.int .i64 0) (.int .u8 0) (.int .u64 0) (.int .u64 0) (.int .u64 0) (.int .u64 0) (.bool false) (.int .i64 0) (.int .i64 0) (.bool false) (.int .i64 0)).eleven.1
  have hB4 := below_put11 (b := w.heap.size) hB1 (Nat.le_refl _) (.int .i64 0) (.int .u8 0) (.int .u64 0) (.int .u64 0) (.int .u64 0) (.int .u64 0) (.bool false) (.int .i64 0) (.int .i64 0) (.bool false) (.int .i64 0)
  simp only [put11] at F hB4
  obtain ⟨F0, F1, F2, F3, F4, F5, F6, F7, F8, F9, F10⟩ := F
  have HF : Hid (Below w.heap.size w _) := hB4
  clear hB4 hB1 k0 k1 hB0
  clear hb
  go_wp2
  exact bodyPost_ret (v := .tuple #[tokV 0 0 0 0 0 0 false 0 0 false 0, .int .i64 (at_ : Nat), .int .i64 43]) (by simp [results, Try.results79, go_sem, tokV, F0, F1, F2, F3, F4, F5, F6, F7, F8, F9, F10]) rfl ⟨rfl, HF.out⟩
set_option maxRecDepth 20000 in
set_option maxHeartbeats 2000000 in
theorem ro_cnt (bb off n cap at_ : Nat) (z : Nat → Nat) (w : World) (hr : Rd w (some ⟨bb, off, none⟩) n z) (ha : at_ < n) (hq : z at_ = 123) (k : Int) (b a0 a1 a2 a3 : Nat) (nt : Bool) (l m : Int) (lz : Bool) (a : Nat) (en : Nat) (h0 : 0 < en) (hE : ∀ W, Below w.heap.size w W → Calls Try.prog 91 #[.slice (some ⟨bb, off, none⟩) n cap, .int .i64 (at_ : Nat)] W fun e w' => e = .returned (.tuple #[.agg #[.int .i64 k, .int .u8 (b : Nat), .int .u64 (a0 : Nat), .int .u64 (a1 : Nat), .int .u64 (a2 : Nat), .int .u64 (a3 : Nat), .bool nt, .int .i64 l, .int .i64 m, .bool lz, .int .i64 (a : Nat)], .int .i64 (en : Nat)]) ∧ Below W.heap.size W w') : Calls Try.prog 79 #[.slice (some ⟨bb, off, none⟩) n cap, .int .i64 (at_ : Nat)] w (RetO w (tokV k b a0 a1 a2 a3 nt l m lz a) (en : Nat) 0) := by
  have t0 := cell1 hr at_ ha
  have i1 : (at_ : Int) < (n : Int) := by omega
  rw [hq] at t0
  have j0 : ((en : Int) == 0) = false := by simp; omega
  clear h0
  clear hr hq ha
  have HE : Hid (∀ W, Below w.heap.size w W → Calls Try.prog 91 #[.slice (some ⟨bb, off, none⟩) n cap, .int .i64 (at_ : Nat)] W fun e w' => e = .returned (.tuple #[.agg #[.int .i64 k, .int .u8 (b : Nat), .int .u64 (a0 : Nat), .int .u64 (a1 : Nat), .int .u64 (a2 : Nat), .int .u64 (a3 : Nat), .bool nt, .int .i64 l, .int .i64 m, .bool lz, .int .i64 (a : Nat)], .int .i64 (en : Nat)]) ∧ Below W.heap.size W w') := hE
  clear hE
  have k0 := fl0 w
  have hB0 : Below w.heap.size w (w.alloc (.cells #[.int .i64 0, .int .u8 0, .int .u64 0, .int .u64 0, .int .u64 0, .int .u64 0, .bool false, .int .i64 0, .int .i64 0, .bool false, .int .i64 0] 42)) := bel1 w _
  go_enter Try.func79, Try.ntmps79
  go_wp2_with fail
  refine (HE.out _ (bel1 _ _)).mono ?_
  rintro e w1 ⟨rfl, hb⟩
  clear t0 HE
  have k1 := (k0.below hb).alloc (.cells #[.int .i64 k, .int .u8 (b : Nat), .int .u64 (a0 : Nat), .int .u64 (a1 : Nat), .int .u64 (a2 : Nat), .int .u64 (a3 : Nat), .bool nt, .int .i64 l, .int .i64 m, .bool lz, .int .i64 (a : Nat)] 42)
  have hB1 := ((hB0.trans (hb.mono hB0.size)).alloc (by have := hb.size; simp at this; omega) (.cells #[.int .i64 k, .int .u8 (b : Nat), .int .u64 (a0 : Nat), .int .u64 (a1 : Nat), .int .u64 (a2 : Nat), .int .u64 (a3 : Nat), .bool nt, .int .i64 l, .int .i64 m, .bool lz, .int .i64 (a : Nat)] 42))
  obtain ⟨⟨b0, b1, b2, b3, b4, b5, b6, b7, b8, b9, b10⟩, g0, g1, g2, g3, g4, g5, g6, g7, g8, g9, g10⟩ := k1.eleven
  have F := (k1.put11 (.int .i64 k) (.int .u8 (b : Nat)) (.int .u64 (a0 : Nat)) (.int .u64 (a1 : Nat)) (.int .u64 (a2 : Nat)) (.int .u64 (a3 : Nat)) (.bool nt) (.int .i64 l) (.int .i64 m) (.bool lz) (.int .i64 (a : Nat))).eleven.1
  have hB4 := below_put11 (b := w.heap.size) hB1 (Nat.le_refl _) (.int .i64 k) (.int .u8 (b : Nat)) (.int .u64 (a0 : Nat)) (.int .u64 (a1 : Nat)) (.int .u64 (a2 : Nat)) (.int .u64 (a3 : Nat)) (.bool nt) (.int .i64 l) (.int .i64 m) (.bool lz) (.int .i64 (a : Nat))
  simp only [put11] at F hB4
  obtain ⟨F0, F1, F2, F3, F4, F5, F6, F7, F8, F9, F10⟩ := F
  have HF : Hid (Below w.heap.size w _) := hB4
  clear hB4 hB1 k0 k1 hB0
  clear hb
  go_wp2
  exact bodyPost_ret (v := .tuple #[tokV k b a0 a1 a2 a3 nt l m lz a, .int .i64 (en : Nat), .int .i64 0]) (by simp [results, Try.results79, go_sem, tokV, F0, F1, F2, F3, F4, F5, F6, F7, F8, F9, F10]) rfl ⟨rfl, HF.out⟩
set_option maxRecDepth 20000 in
set_option maxHeartbeats 2000000 in
theorem ro_brk (bb off n cap at_ : Nat) (z : Nat → Nat) (w : World) (hr : Rd w (some ⟨bb, off, none⟩) n z) (ha : at_ < n) (hq : z at_ = 91) (k : Int) (b a0 a1 a2 a3 : Nat) (nt : Bool) (l m : Int) (lz : Bool) (a : Nat) (en er : Int) (hE : ∀ W, Below w.heap.size w W → Calls Try.prog 90 #[.slice (some ⟨bb, off, none⟩) n cap, .int .i64 (at_ : Nat)] W fun e w' => e = .returned (.tuple #[.agg #[.int .i64 k, .int .u8 (b : Nat), .int .u64 (a0 : Nat), .int .u64 (a1 : Nat), .int .u64 (a2 : Nat), .int .u64 (a3 : Nat), .bool nt, .int .i64 l, .int .i64 m, .bool lz, .int .i64 (a : Nat)], .int .i64 en, .int .i64 er]) ∧ Below W.heap.size W w') : Calls Try.prog 79 #[.slice (some ⟨bb, off, none⟩) n cap, .int .i64 (at_ : Nat)] w (RetO w (tokV k b a0 a1 a2 a3 nt l m lz a) en er) := by
  have t0 := cell1 hr at_ ha
  have i1 : (at_ : Int) < (n : Int) := by omega
  rw [hq] at t0
  clear hr hq ha
  have HE : Hid (∀ W, Below w.heap.size w W → Calls Try.prog 90 #[.slice (some ⟨bb, off, none⟩) n cap, .int .i64 (at_ : Nat)] W fun e w' => e = .returned (.tuple #[.agg #[.int .i64 k, .int .u8 (b : Nat), .int .u64 (a0 : Nat), .int .u64 (a1 : Nat), .int .u64 (a2 : Nat), .int .u64 (a3 : Nat), .bool nt, .int .i64 l, .int .i64 m, .bool lz, .int .i64 (a : Nat)], .int .i64 en, .int .i64 er]) ∧ Below W.heap.size W w') := hE
  clear hE
  have k0 := fl0 w
  have hB0 : Below w.heap.size w (w.alloc (.cells #[.int .i64 0, .int .u8 0, .int .u64 0, .int .u64 0, .int .u64 0, .int .u64 0, .bool false, .int .i64 0, .int .i64 0, .bool false, .int .i64 0] 42)) := bel1 w _
  go_enter Try.func79, Try.ntmps79
  go_wp2_with fail
  refine (HE.out _ (bel1 _ _)).mono ?_
  rintro e w1 ⟨rfl, hb⟩
  clear t0 HE
  have k1 := k0.below hb
  have hB1 := (hB0.trans (hb.mono hB0.size))
  obtain ⟨⟨b0, b1, b2, b3, b4, b5, b6, b7, b8, b9, b10⟩, g0, g1, g2, g3, g4, g5, g6, g7, g8, g9, g10⟩ := k1.eleven
  have F := (k1.put11 (.int .i64 k) (.int .u8 (b : Nat)) (.int .u64 (a0 : Nat)) (.int .u64 (a1 : Nat)) (.int .u64 (a2 : Nat)) (.int .u64 (a3 : Nat)) (.bool nt) (.int .i64 l) (.int .i64 m) (.bool lz) (.int .i64 (a : Nat))).eleven.1
  have hB4 := below_put11 (b := w.heap.size) hB1 (Nat.le_refl _) (.int .i64 k) (.int .u8 (b : Nat)) (.int .u64 (a0 : Nat)) (.int .u64 (a1 : Nat)) (.int .u64 (a2 : Nat)) (.int .u64 (a3 : Nat)) (.bool nt) (.int .i64 l) (.int .i64 m) (.bool lz) (.int .i64 (a : Nat))
  simp only [put11] at F hB4
  obtain ⟨F0, F1, F2, F3, F4, F5, F6, F7, F8, F9, F10⟩ := F
  have HF : Hid (Below w.heap.size w _) := hB4
  clear hB4 hB1 k0 k1 hB0
  clear hb
  go_wp2
  exact bodyPost_ret (v := .tuple #[tokV k b a0 a1 a2 a3 nt l m lz a, .int .i64 en, .int .i64 er]) (by simp [results, Try.results79, go_sem, tokV, F0, F1, F2, F3, F4, F5, F6, F7, F8, F9, F10]) rfl ⟨rfl, HF.out⟩
set_option maxRecDepth 20000 in
set_option maxHeartbeats 2000000 in
theorem ro_close (bb off n cap at_ : Nat) (z : Nat → Nat) (w : World) (hr : Rd w (some ⟨bb, off, none⟩) n z) (hn : (n : Int) ≤ 1024) (ha : at_ < n) (hq : z at_ = 41) : Calls Try.prog 79 #[.slice (some ⟨bb, off, none⟩) n cap, .int .i64 (at_ : Nat)] w (RetO w (tokV 5 0 0 0 0 0 false 0 0 false 0) ((at_ : Int) + 1) 0) := by
  have t0 := cell1 hr at_ ha
  have i1 : (at_ : Int) < (n : Int) := by omega
  rw [hq] at t0
  clear hr hq ha
  go_enter Try.func79, Try.ntmps79
  go_wp2
  exact bodyPost_ret (v := .tuple #[tokV 5 0 0 0 0 0 false 0 0 false 0, .int .i64 ((at_ : Int) + 1), .int .i64 0]) (by simp [results, Try.results79, go_sem, tokV]) rfl ⟨rfl, bel1 _ _⟩
set_option maxRecDepth 20000 in
set_option maxHeartbeats 2000000 in
theorem ro_bar (bb off n cap at_ : Nat) (z : Nat → Nat) (w : World) (hr : Rd w (some ⟨bb, off, none⟩) n z) (hn : (n : Int) ≤ 1024) (ha : at_ < n) (hq : z at_ = 124) : Calls Try.prog 79 #[.slice (some ⟨bb, off, none⟩) n cap, .int .i64 (at_ : Nat)] w (RetO w (tokV 6 0 0 0 0 0 false 0 0 false 0) ((at_ : Int) + 1) 0) := by
  have t0 := cell1 hr at_ ha
  have i1 : (at_ : Int) < (n : Int) := by omega
  rw [hq] at t0
  clear hr hq ha
  go_enter Try.func79, Try.ntmps79
  go_wp2
  exact bodyPost_ret (v := .tuple #[tokV 6 0 0 0 0 0 false 0 0 false 0, .int .i64 ((at_ : Int) + 1), .int .i64 0]) (by simp [results, Try.results79, go_sem, tokV]) rfl ⟨rfl, bel1 _ _⟩
set_option maxRecDepth 20000 in
set_option maxHeartbeats 2000000 in
theorem ro_dot (bb off n cap at_ : Nat) (z : Nat → Nat) (w : World) (hr : Rd w (some ⟨bb, off, none⟩) n z) (hn : (n : Int) ≤ 1024) (ha : at_ < n) (hq : z at_ = 46) : Calls Try.prog 79 #[.slice (some ⟨bb, off, none⟩) n cap, .int .i64 (at_ : Nat)] w (RetO w (tokV 3 0 0 0 0 0 false 0 0 false 0) ((at_ : Int) + 1) 0) := by
  have t0 := cell1 hr at_ ha
  have i1 : (at_ : Int) < (n : Int) := by omega
  rw [hq] at t0
  clear hr hq ha
  go_enter Try.func79, Try.ntmps79
  go_wp2
  exact bodyPost_ret (v := .tuple #[tokV 3 0 0 0 0 0 false 0 0 false 0, .int .i64 ((at_ : Int) + 1), .int .i64 0]) (by simp [results, Try.results79, go_sem, tokV]) rfl ⟨rfl, bel1 _ _⟩
set_option maxRecDepth 20000 in
set_option maxHeartbeats 2000000 in
theorem ro_hat (bb off n cap at_ : Nat) (z : Nat → Nat) (w : World) (hr : Rd w (some ⟨bb, off, none⟩) n z) (hn : (n : Int) ≤ 1024) (ha : at_ < n) (hq : z at_ = 94) : Calls Try.prog 79 #[.slice (some ⟨bb, off, none⟩) n cap, .int .i64 (at_ : Nat)] w (RetO w (tokV 8 0 0 0 0 0 false 0 0 false 0) ((at_ : Int) + 1) 0) := by
  have t0 := cell1 hr at_ ha
  have i1 : (at_ : Int) < (n : Int) := by omega
  rw [hq] at t0
  clear hr hq ha
  go_enter Try.func79, Try.ntmps79
  go_wp2
  exact bodyPost_ret (v := .tuple #[tokV 8 0 0 0 0 0 false 0 0 false 0, .int .i64 ((at_ : Int) + 1), .int .i64 0]) (by simp [results, Try.results79, go_sem, tokV]) rfl ⟨rfl, bel1 _ _⟩
set_option maxRecDepth 20000 in
set_option maxHeartbeats 2000000 in
theorem ro_dollar (bb off n cap at_ : Nat) (z : Nat → Nat) (w : World) (hr : Rd w (some ⟨bb, off, none⟩) n z) (hn : (n : Int) ≤ 1024) (ha : at_ < n) (hq : z at_ = 36) : Calls Try.prog 79 #[.slice (some ⟨bb, off, none⟩) n cap, .int .i64 (at_ : Nat)] w (RetO w (tokV 9 0 0 0 0 0 false 0 0 false 0) ((at_ : Int) + 1) 0) := by
  have t0 := cell1 hr at_ ha
  have i1 : (at_ : Int) < (n : Int) := by omega
  rw [hq] at t0
  clear hr hq ha
  go_enter Try.func79, Try.ntmps79
  go_wp2
  exact bodyPost_ret (v := .tuple #[tokV 9 0 0 0 0 0 false 0 0 false 0, .int .i64 ((at_ : Int) + 1), .int .i64 0]) (by simp [results, Try.results79, go_sem, tokV]) rfl ⟨rfl, bel1 _ _⟩
set_option maxRecDepth 20000 in
set_option maxHeartbeats 2000000 in
theorem ro_open_end (bb off n cap at_ : Nat) (z : Nat → Nat) (w : World) (hr : Rd w (some ⟨bb, off, none⟩) n z) (hn : (n : Int) ≤ 1024) (ha : at_ < n) (hq : z at_ = 40) (h1 : ¬ at_ + 1 < n) : Calls Try.prog 79 #[.slice (some ⟨bb, off, none⟩) n cap, .int .i64 (at_ : Nat)] w (RetO w (tokV 4 0 0 0 0 0 false 0 0 false 0) ((at_ : Int) + 1) 0) := by
  have t0 := cell1 hr at_ ha
  have i1 : (at_ : Int) < (n : Int) := by omega
  rw [hq] at t0
  have j1 : (at_ : Int) + 1 ≥ (n : Int) := by omega
  clear h1
  clear hr hq ha
  go_enter Try.func79, Try.ntmps79
  go_wp2
  exact bodyPost_ret (v := .tuple #[tokV 4 0 0 0 0 0 false 0 0 false 0, .int .i64 ((at_ : Int) + 1), .int .i64 0]) (by simp [results, Try.results79, go_sem, tokV]) rfl ⟨rfl, bel1 _ _⟩
set_option maxRecDepth 20000 in
set_option maxHeartbeats 2000000 in
theorem ro_open_no (bb off n cap at_ : Nat) (z : Nat → Nat) (w : World) (hr : Rd w (some ⟨bb, off, none⟩) n z) (hn : (n : Int) ≤ 1024) (ha : at_ < n) (hq : z at_ = 40) (h1 : at_ + 1 < n) (x : Nat) (hx : z (at_ + 1) = x) (hx2 : x ≠ 63) : Calls Try.prog 79 #[.slice (some ⟨bb, off, none⟩) n cap, .int .i64 (at_ : Nat)] w (RetO w (tokV 4 0 0 0 0 0 false 0 0 false 0) ((at_ : Int) + 1) 0) := by
  have t0 := cell1 hr at_ ha
  have i1 : (at_ : Int) < (n : Int) := by omega
  rw [hq] at t0
  have j1 : ¬ ((at_ : Int) + 1 ≥ (n : Int)) := by omega
  have j2 : (at_ : Int) + 1 < (n : Int) := by omega
  have t1 := cell1 hr (at_ + 1) h1
  rw [hx] at t1
  have hxi : ¬ (x : Int) = 63 := by omega
  clear hx2 hx h1
  clear hr hq ha
  go_enter Try.func79, Try.ntmps79
  go_wp2
  exact bodyPost_ret (v := .tuple #[tokV 4 0 0 0 0 0 false 0 0 false 0, .int .i64 ((at_ : Int) + 1), .int .i64 0]) (by simp [results, Try.results79, go_sem, tokV]) rfl ⟨rfl, bel1 _ _⟩
set_option maxRecDepth 20000 in
set_option maxHeartbeats 2000000 in
theorem ro_open_bad_end (bb off n cap at_ : Nat) (z : Nat → Nat) (w : World) (hr : Rd w (some ⟨bb, off, none⟩) n z) (hn : (n : Int) ≤ 1024) (ha : at_ < n) (hq : z at_ = 40) (h1 : at_ + 1 < n) (hx : z (at_ + 1) = 63) (h2 : ¬ at_ + 2 < n) : Calls Try.prog 79 #[.slice (some ⟨bb, off, none⟩) n cap, .int .i64 (at_ : Nat)] w (RetO w (tokV 0 0 0 0 0 0 false 0 0 false 0) (at_ : Nat) 44) := by
  have t0 := cell1 hr at_ ha
  have i1 : (at_ : Int) < (n : Int) := by omega
  rw [hq] at t0
  have j1 : ¬ ((at_ : Int) + 1 ≥ (n : Int)) := by omega
  have j2 : (at_ : Int) + 1 < (n : Int) := by omega
  have j3 : (at_ : Int) + 2 ≥ (n : Int) := by omega
  have t1 := cell1 hr (at_ + 1) h1
  rw [hx] at t1
  clear hx h1 h2
  clear hr hq ha
  go_enter Try.func79, Try.ntmps79
  go_wp2
  exact bodyPost_ret (v := .tuple #[tokV 0 0 0 0 0 0 false 0 0 false 0, .int .i64 (at_ : Nat), .int .i64 44]) (by simp [results, Try.results79, go_sem, tokV]) rfl ⟨rfl, bel1 _ _⟩
set_option maxRecDepth 20000 in
set_option maxHeartbeats 2000000 in
theorem ro_open_bad (bb off n cap at_ : Nat) (z : Nat → Nat) (w : World) (hr : Rd w (some ⟨bb, off, none⟩) n z) (hn : (n : Int) ≤ 1024) (ha : at_ < n) (hq : z at_ = 40) (h1 : at_ + 1 < n) (hx : z (at_ + 1) = 63) (h2 : at_ + 2 < n) (x : Nat) (hy : z (at_ + 2) = x) (hx2 : x ≠ 58) : Calls Try.prog 79 #[.slice (some ⟨bb, off, none⟩) n cap, .int .i64 (at_ : Nat)] w (RetO w (tokV 0 0 0 0 0 0 false 0 0 false 0) (at_ : Nat) 44) := by
  have t0 := cell1 hr at_ ha
  have i1 : (at_ : Int) < (n : Int) := by omega
  rw [hq] at t0
  have j1 : ¬ ((at_ : Int) + 1 ≥ (n : Int)) := by omega
  have j2 : (at_ : Int) + 1 < (n : Int) := by omega
  have j3 : ¬ ((at_ : Int) + 2 ≥ (n : Int)) := by omega
  have j4 : (at_ : Int) + 2 < (n : Int) := by omega
  have t1 := cell1 hr (at_ + 1) h1
  rw [hx] at t1
  have t2 := cell1 hr (at_ + 2) h2
  rw [hy] at t2
  have hxi : ¬ (x : Int) = 58 := by omega
  clear hx h1 h2 hy hx2
  clear hr hq ha
  go_enter Try.func79, Try.ntmps79
  go_wp2
  exact bodyPost_ret (v := .tuple #[tokV 0 0 0 0 0 0 false 0 0 false 0, .int .i64 (at_ : Nat), .int .i64 44]) (by simp [results, Try.results79, go_sem, tokV]) rfl ⟨rfl, bel1 _ _⟩
set_option maxRecDepth 20000 in
set_option maxHeartbeats 2000000 in
theorem ro_open_yes (bb off n cap at_ : Nat) (z : Nat → Nat) (w : World) (hr : Rd w (some ⟨bb, off, none⟩) n z) (hn : (n : Int) ≤ 1024) (ha : at_ < n) (hq : z at_ = 40) (h1 : at_ + 1 < n) (hx : z (at_ + 1) = 63) (h2 : at_ + 2 < n) (hy : z (at_ + 2) = 58) : Calls Try.prog 79 #[.slice (some ⟨bb, off, none⟩) n cap, .int .i64 (at_ : Nat)] w (RetO w (tokV 4 0 0 0 0 0 false 0 0 false 0) ((at_ : Int) + 3) 0) := by
  have t0 := cell1 hr at_ ha
  have i1 : (at_ : Int) < (n : Int) := by omega
  rw [hq] at t0
  have j1 : ¬ ((at_ : Int) + 1 ≥ (n : Int)) := by omega
  have j2 : (at_ : Int) + 1 < (n : Int) := by omega
  have j3 : ¬ ((at_ : Int) + 2 ≥ (n : Int)) := by omega
  have j4 : (at_ : Int) + 2 < (n : Int) := by omega
  have t1 := cell1 hr (at_ + 1) h1
  rw [hx] at t1
  have t2 := cell1 hr (at_ + 2) h2
  rw [hy] at t2
  clear hx h1 h2 hy
  clear hr hq ha
  go_enter Try.func79, Try.ntmps79
  go_wp2
  exact bodyPost_ret (v := .tuple #[tokV 4 0 0 0 0 0 false 0 0 false 0, .int .i64 ((at_ : Int) + 3), .int .i64 0]) (by simp [results, Try.results79, go_sem, tokV]) rfl ⟨rfl, bel1 _ _⟩
set_option maxRecDepth 20000 in
set_option maxHeartbeats 2000000 in
theorem ro_byte (bb off n cap at_ : Nat) (z : Nat → Nat) (w : World) (hr : Rd w (some ⟨bb, off, none⟩) n z) (hn : (n : Int) ≤ 1024) (ha : at_ < n) (x : Nat) (hq : z at_ = x) (hne : x ≠ 92 ∧ x ≠ 91 ∧ x ≠ 42 ∧ x ≠ 43 ∧ x ≠ 63 ∧ x ≠ 123 ∧ x ≠ 40 ∧ x ≠ 41 ∧ x ≠ 124 ∧ x ≠ 46 ∧ x ≠ 94 ∧ x ≠ 36) : Calls Try.prog 79 #[.slice (some ⟨bb, off, none⟩) n cap, .int .i64 (at_ : Nat)] w (RetO w (tokV 1 x 0 0 0 0 false 0 0 false 0) ((at_ : Int) + 1) 0) := by
  have t0 := cell1 hr at_ ha
  have i1 : (at_ : Int) < (n : Int) := by omega
  rw [hq] at t0
  have q92 : ¬ (x : Int) = 92 := by omega
  have q91 : ¬ (x : Int) = 91 := by omega
  have q42 : ¬ (x : Int) = 42 := by omega
  have q43 : ¬ (x : Int) = 43 := by omega
  have q63 : ¬ (x : Int) = 63 := by omega
  have q123 : ¬ (x : Int) = 123 := by omega
  have q40 : ¬ (x : Int) = 40 := by omega
  have q41 : ¬ (x : Int) = 41 := by omega
  have q124 : ¬ (x : Int) = 124 := by omega
  have q46 : ¬ (x : Int) = 46 := by omega
  have q94 : ¬ (x : Int) = 94 := by omega
  have q36 : ¬ (x : Int) = 36 := by omega
  clear hr hq ha hne
  have HB : Hid (∀ W, Calls Try.prog 92 #[.int .u8 (x : Nat)] W fun e w' => e = .returned (.agg #[.int .i64 1, .int .u8 (x : Nat), .int .u64 0, .int .u64 0, .int .u64 0, .int .u64 0, .bool false, .int .i64 0, .int .i64 0, .bool false, .int .i64 0]) ∧ Below W.heap.size W w') := fun W => aByte_v x W
  have k0 := fl0 w
  have hB0 : Below w.heap.size w (w.alloc (.cells #[.int .i64 0, .int .u8 0, .int .u64 0, .int .u64 0, .int .u64 0, .int .u64 0, .bool false, .int .i64 0, .int .i64 0, .bool false, .int .i64 0] 42)) := bel1 w _
  go_enter Try.func79, Try.ntmps79
  go_wp2_with fail
  refine (HB.out _).mono ?_
  rintro e w1 ⟨rfl, hb⟩
  clear t0 HB
  have k1 := k0.below hb
  have hB1 := (hB0.trans (hb.mono hB0.size))
  obtain ⟨⟨b0, b1, b2, b3, b4, b5, b6, b7, b8, b9, b10⟩, g0, g1, g2, g3, g4, g5, g6, g7, g8, g9, g10⟩ := k1.eleven
  have F := (k1.put11 (.int .i64 1) (.int .u8 (x : Nat)) (.int .u64 0) (.int .u64 0) (.int .u64 0) (.int .u64 0) (.bool false) (.int .i64 0) (.int .i64 0) (.bool false) (.int .i64 0)).eleven.1
  have hB4 := below_put11 (b := w.heap.size) hB1 (Nat.le_refl _) (.int .i64 1) (.int .u8 (x : Nat)) (.int .u64 0) (.int .u64 0) (.int .u64 0) (.int .u64 0) (.bool false) (.int .i64 0) (.int .i64 0) (.bool false) (.int .i64 0)
  simp only [put11] at F hB4
  obtain ⟨F0, F1, F2, F3, F4, F5, F6, F7, F8, F9, F10⟩ := F
  have HF : Hid (Below w.heap.size w _) := hB4
  clear hB4 hB1 k0 k1 hB0
  clear hb
  go_wp2
  exact bodyPost_ret (v := .tuple #[tokV 1 x 0 0 0 0 false 0 0 false 0, .int .i64 ((at_ : Int) + 1), .int .i64 0]) (by simp [results, Try.results79, go_sem, tokV, F0, F1, F2, F3, F4, F5, F6, F7, F8, F9, F10]) rfl ⟨rfl, HF.out⟩
end Go.Proofs.Ytlmmiicibjfcdaa.X
