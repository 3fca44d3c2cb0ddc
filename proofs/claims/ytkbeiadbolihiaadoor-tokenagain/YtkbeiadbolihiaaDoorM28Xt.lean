/- token: Text: the walk. -/
import Derived.Test.YtkbeiadbolihiaaDoorM25Ct
import Derived.Test.YtkbeiadbolihiaaDoorM27Cu
namespace Go.Proofs.YtkbeiadbolihiaaDoor
open Go.RowKit Go.Shelf
/-- The text of a token that may be. -/
def txtB (k : Int) (b : Nat) (P : Nat → Bool) (nt : Bool) (l m : Int) (lz : Bool) : List UInt8 :=
  if k = 1 then litB b else if k = 2 then clsB P nt else if k = 3 then [46] else if k = 4 then [40, 63, 58] else if k = 5 then [41] else if k = 6 then [124] else if k = 8 then [94] else if k = 9 then [36] else repB l.toNat m lz
def tokB (k : Int) (b : Nat) (P : Nat → Bool) (nt : Bool) (l m : Int) (lz : Bool) (t : Int) : List UInt8 := if chk k b P nt l m lz t then txtB k b P nt l m lz else []
section
variable {P : Nat → Bool} (b a0 a1 a2 a3 : Nat) (nt : Bool) (l m : Int) (lz : Bool) (t : Int) (w : World)
theorem text_bad (k : Int) (h4 : C4 P a0 a1 a2 a3) (hc : chk k b P nt l m lz t = false) : Calls Tryd.prog 10 #[tokI k b a0 a1 a2 a3 nt l m lz t] w (RetS w (tokB k b P nt l m lz t)) := by
  have hB : Below w.heap.size w (w.alloc (.cells #[.int .i64 k, .int .u8 (b : Nat), .int .u64 (a0 : Nat), .int .u64 (a1 : Nat), .int .u64 (a2 : Nat), .int .u64 (a3 : Nat), .bool nt, .int .i64 l, .int .i64 m, .bool lz, .int .i64 t] 26)) := (Below.refl _ _).alloc (Nat.le_refl _) _
  have HC := check_all k b a0 a1 a2 a3 nt l m lz t (w.alloc (.cells #[.int .i64 k, .int .u8 (b : Nat), .int .u64 (a0 : Nat), .int .u64 (a1 : Nat), .int .u64 (a2 : Nat), .int .u64 (a3 : Nat), .bool nt, .int .i64 l, .int .i64 m, .bool lz, .int .i64 t] 26)) h4
  rw [hc] at HC
  have HE : Hid (tokB k b P nt l m lz t = []) := by show tokB k b P nt l m lz t = []; unfold tokB; rw [hc]; rfl
  unfold RetN at HC
  clear hc h4
  unfold tokI at *
  go_enter Tryd.func10, Tryd.ntmps10
  go_wp2_with (go_at_call 8; refine HC.mono ?_; rintro e w1 ⟨rfl, hb⟩)
  go_ret
  exact ⟨by rw [HE.out]; rfl, hB.trans (hb.mono hB.size)⟩
set_option maxRecDepth 20000 in
set_option maxHeartbeats 1000000 in
theorem text_3 (h4 : C4 P a0 a1 a2 a3) (hc : chk 3 b P nt l m lz t = true) : Calls Tryd.prog 10 #[tokI 3 b a0 a1 a2 a3 nt l m lz t] w (RetS w (tokB 3 b P nt l m lz t)) := by
  have hB : Below w.heap.size w (w.alloc (.cells #[.int .i64 3, .int .u8 (b : Nat), .int .u64 (a0 : Nat), .int .u64 (a1 : Nat), .int .u64 (a2 : Nat), .int .u64 (a3 : Nat), .bool nt, .int .i64 l, .int .i64 m, .bool lz, .int .i64 t] 26)) := (Below.refl _ _).alloc (Nat.le_refl _) _
  have HC := check_all 3 b a0 a1 a2 a3 nt l m lz t (w.alloc (.cells #[.int .i64 3, .int .u8 (b : Nat), .int .u64 (a0 : Nat), .int .u64 (a1 : Nat), .int .u64 (a2 : Nat), .int .u64 (a3 : Nat), .bool nt, .int .i64 l, .int .i64 m, .bool lz, .int .i64 t] 26)) h4
  rw [hc] at HC
  have hk := Cl.new w 26 [.int .i64 3, .int .u8 (b : Nat), .int .u64 (a0 : Nat), .int .u64 (a1 : Nat), .int .u64 (a2 : Nat), .int .u64 (a3 : Nat), .bool nt, .int .i64 l, .int .i64 m, .bool lz, .int .i64 t]
  have HE : Hid (tokB 3 b P nt l m lz t = [46]) := by show tokB 3 b P nt l m lz t = [46]; unfold tokB; rw [hc]; rfl
  unfold RetN at HC
  clear hc h4
  unfold tokI at *
  go_enter Tryd.func10, Tryd.ntmps10
  go_wp2_with (first | (go_at_call 8; refine HC.mono ?_; rintro e w1 ⟨rfl, hb⟩; obtain ⟨x0, x1, x2, x3, x4, x5, x6, x7, x8, x9, x10⟩ := (hk.below hb).eleven.1))
  go_ret
  exact ⟨by rw [HE.out]; rfl, hB.trans (hb.mono hB.size)⟩
set_option maxRecDepth 20000 in
set_option maxHeartbeats 1000000 in
theorem text_4 (h4 : C4 P a0 a1 a2 a3) (hc : chk 4 b P nt l m lz t = true) : Calls Tryd.prog 10 #[tokI 4 b a0 a1 a2 a3 nt l m lz t] w (RetS w (tokB 4 b P nt l m lz t)) := by
  have hB : Below w.heap.size w (w.alloc (.cells #[.int .i64 4, .int .u8 (b : Nat), .int .u64 (a0 : Nat), .int .u64 (a1 : Nat), .int .u64 (a2 : Nat), .int .u64 (a3 : Nat), .bool nt, .int .i64 l, .int .i64 m, .bool lz, .int .i64 t] 26)) := (Below.refl _ _).alloc (Nat.le_refl _) _
  have HC := check_all 4 b a0 a1 a2 a3 nt l m lz t (w.alloc (.cells #[.int .i64 4, .int .u8 (b : Nat), .int .u64 (a0 : Nat), .int .u64 (a1 : Nat), .int .u64 (a2 : Nat), .int .u64 (a3 : Nat), .bool nt, .int .i64 l, .int .i64 m, .bool lz, .int .i64 t] 26)) h4
  rw [hc] at HC
  have hk := Cl.new w 26 [.int .i64 4, .int .u8 (b : Nat), .int .u64 (a0 : Nat), .int .u64 (a1 : Nat), .int .u64 (a2 : Nat), .int .u64 (a3 : Nat), .bool nt, .int .i64 l, .int .i64 m, .bool lz, .int .i64 t]
  have HE : Hid (tokB 4 b P nt l m lz t = [40, 63, 58]) := by show tokB 4 b P nt l m lz t = [40, 63, 58]; unfold tokB; rw [hc]; rfl
  unfold RetN at HC
  clear hc h4
  unfold tokI at *
  go_enter Tryd.func10, Tryd.ntmps10
  go_wp2_with (first | (go_at_call 8; refine HC.mono ?_; rintro e w1 ⟨rfl, hb⟩; obtain ⟨x0, x1, x2, x3, x4, x5, x6, x7, x8, x9, x10⟩ := (hk.below hb).eleven.1))
  go_ret
  exact ⟨by rw [HE.out]; rfl, hB.trans (hb.mono hB.size)⟩
set_option maxRecDepth 20000 in
set_option maxHeartbeats 1000000 in
theorem text_5 (h4 : C4 P a0 a1 a2 a3) (hc : chk 5 b P nt l m lz t = true) : Calls Tryd.prog 10 #[tokI 5 b a0 a1 a2 a3 nt l m lz t] w (RetS w (tokB 5 b P nt l m lz t)) := by
  have hB : Below w.heap.size w (w.alloc (.cells #[.int .i64 5, .int .u8 (b : Nat), .int .u64 (a0 : Nat), .int .u64 (a1 : Nat), .int .u64 (a2 : Nat), .int .u64 (a3 : Nat), .bool nt, .int .i64 l, .int .i64 m, .bool lz, .int .i64 t] 26)) := (Below.refl _ _).alloc (Nat.le_refl _) _
  have HC := check_all 5 b a0 a1 a2 a3 nt l m lz t (w.alloc (.cells #[.int .i64 5, .int .u8 (b : Nat), .int .u64 (a0 : Nat), .int .u64 (a1 : Nat), .int .u64 (a2 : Nat), .int .u64 (a3 : Nat), .bool nt, .int .i64 l, .int .i64 m, .bool lz, .int .i64 t] 26)) h4
  rw [hc] at HC
  have hk := Cl.new w 26 [.int .i64 5, .int .u8 (b : Nat), .int .u64 (a0 : Nat), .int .u64 (a1 : Nat), .int .u64 (a2 : Nat), .int .u64 (a3 : Nat), .bool nt, .int .i64 l, .int .i64 m, .bool lz, .int .i64 t]
  have HE : Hid (tokB 5 b P nt l m lz t = [41]) := by show tokB 5 b P nt l m lz t = [41]; unfold tokB; rw [hc]; rfl
  unfold RetN at HC
  clear hc h4
  unfold tokI at *
  go_enter Tryd.func10, Tryd.ntmps10
  go_wp2_with (first | (go_at_call 8; refine HC.mono ?_; rintro e w1 ⟨rfl, hb⟩; obtain ⟨x0, x1, x2, x3, x4, x5, x6, x7, x8, x9, x10⟩ := (hk.below hb).eleven.1))
  go_ret
  exact ⟨by rw [HE.out]; rfl, hB.trans (hb.mono hB.size)⟩
set_option maxRecDepth 20000 in
set_option maxHeartbeats 1000000 in
theorem text_6 (h4 : C4 P a0 a1 a2 a3) (hc : chk 6 b P nt l m lz t = true) : Calls Tryd.prog 10 #[tokI 6 b a0 a1 a2 a3 nt l m lz t] w (RetS w (tokB 6 b P nt l m lz t)) := by
  have hB : Below w.heap.size w (w.alloc (.cells #[.int .i64 6, .int .u8 (b : Nat), .int .u64 (a0 : Nat), .int .u64 (a1 : Nat), .int .u64 (a2 : Nat), .int .u64 (a3 : Nat), .bool nt, .int .i64 l, .int .i64 m, .bool lz, .int .i64 t] 26)) := (Below.refl _ _).alloc (Nat.le_refl _) _
  have HC := check_all 6 b a0 a1 a2 a3 nt l m lz t (w.alloc (.cells #[.int .i64 6, .int .u8 (b : Nat), .int .u64 (a0 : Nat), .int .u64 (a1 : Nat), .int .u64 (a2 : Nat), .int .u64 (a3 : Nat), .bool nt, .int .i64 l, .int .i64 m, .bool lz, .int .i64 t] 26)) h4
  rw [hc] at HC
  have hk := Cl.new w 26 [.int .i64 6, .int .u8 (b : Nat), .int .u64 (a0 : Nat), .int .u64 (a1 : Nat), .int .u64 (a2 : Nat), .int .u64 (a3 : Nat), .bool nt, .int .i64 l, .int .i64 m, .bool lz, .int .i64 t]
  have HE : Hid (tokB 6 b P nt l m lz t = [124]) := by show tokB 6 b P nt l m lz t = [124]; unfold tokB; rw [hc]; rfl
  unfold RetN at HC
  clear hc h4
  unfold tokI at *
  go_enter Tryd.func10, Tryd.ntmps10
  go_wp2_with (first | (go_at_call 8; refine HC.mono ?_; rintro e w1 ⟨rfl, hb⟩; obtain ⟨x0, x1, x2, x3, x4, x5, x6, x7, x8, x9, x10⟩ := (hk.below hb).eleven.1))
  go_ret
  exact ⟨by rw [HE.out]; rfl, hB.trans (hb.mono hB.size)⟩
set_option maxRecDepth 20000 in
set_option maxHeartbeats 1000000 in
theorem text_8 (h4 : C4 P a0 a1 a2 a3) (hc : chk 8 b P nt l m lz t = true) : Calls Tryd.prog 10 #[tokI 8 b a0 a1 a2 a3 nt l m lz t] w (RetS w (tokB 8 b P nt l m lz t)) := by
  have hB : Below w.heap.size w (w.alloc (.cells #[.int .i64 8, .int .u8 (b : Nat), .int .u64 (a0 : Nat), .int .u64 (a1 : Nat), .int .u64 (a2 : Nat), .int .u64 (a3 : Nat), .bool nt, .int .i64 l, .int .i64 m, .bool lz, .int .i64 t] 26)) := (Below.refl _ _).alloc (Nat.le_refl _) _
  have HC := check_all 8 b a0 a1 a2 a3 nt l m lz t (w.alloc (.cells #[.int .i64 8, .int .u8 (b : Nat), .int .u64 (a0 : Nat), .int .u64 (a1 : Nat), .int .u64 (a2 : Nat), .int .u64 (a3 : Nat), .bool nt, .int .i64 l, .int .i64 m, .bool lz, .int .i64 t] 26)) h4
  rw [hc] at HC
  have hk := Cl.new w 26 [.int .i64 8, .int .u8 (b : Nat), .int .u64 (a0 : Nat), .int .u64 (a1 : Nat), .int .u64 (a2 : Nat), .int .u64 (a3 : Nat), .bool nt, .int .i64 l, .int .i64 m, .bool lz, .int .i64 t]
  have HE : Hid (tokB 8 b P nt l m lz t = [94]) := by show tokB 8 b P nt l m lz t = [94]; unfold tokB; rw [hc]; rfl
  unfold RetN at HC
  clear hc h4
  unfold tokI at *
  go_enter Tryd.func10, Tryd.ntmps10
  go_wp2_with (first | (go_at_call 8; refine HC.mono ?_; rintro e w1 ⟨rfl, hb⟩; obtain ⟨x0, x1, x2, x3, x4, x5, x6, x7, x8, x9, x10⟩ := (hk.below hb).eleven.1))
  go_ret
  exact ⟨by rw [HE.out]; rfl, hB.trans (hb.mono hB.size)⟩
set_option maxRecDepth 20000 in
set_option maxHeartbeats 1000000 in
theorem text_9 (h4 : C4 P a0 a1 a2 a3) (hc : chk 9 b P nt l m lz t = true) : Calls Tryd.prog 10 #[tokI 9 b a0 a1 a2 a3 nt l m lz t] w (RetS w (tokB 9 b P nt l m lz t)) := by
  have hB : Below w.heap.size w (w.alloc (.cells #[.int .i64 9, .int .u8 (b : Nat), .int .u64 (a0 : Nat), .int .u64 (a1 : Nat), .int .u64 (a2 : Nat), .int .u64 (a3 : Nat), .bool nt, .int .i64 l, .int .i64 m, .bool lz, .int .i64 t] 26)) := (Below.refl _ _).alloc (Nat.le_refl _) _
  have HC := check_all 9 b a0 a1 a2 a3 nt l m lz t (w.alloc (.cells #[.int .i64 9, .int .u8 (b : Nat), .int .u64 (a0 : Nat), .int .u64 (a1 : Nat), .int .u64 (a2 : Nat), .int .u64 (a3 : Nat), .bool nt, .int .i64 l, .int .i64 m, .bool lz, .int .i64 t] 26)) h4
  rw [hc] at HC
  have hk := Cl.new w 26 [.int .i64 9, .int .u8 (b : Nat), .int .u64 (a0 : Nat), .int .u64 (a1 : Nat), .int .u64 (a2 : Nat), .int .u64 (a3 : Nat), .bool nt, .int .i64 l, .int .i64 m, .bool lz, .int .i64 t]
  have HE : Hid (tokB 9 b P nt l m lz t = [36]) := by show tokB 9 b P nt l m lz t = [36]; unfold tokB; rw [hc]; rfl
  unfold RetN at HC
  clear hc h4
  unfold tokI at *
  go_enter Tryd.func10, Tryd.ntmps10
  go_wp2_with (first | (go_at_call 8; refine HC.mono ?_; rintro e w1 ⟨rfl, hb⟩; obtain ⟨x0, x1, x2, x3, x4, x5, x6, x7, x8, x9, x10⟩ := (hk.below hb).eleven.1))
  go_ret
  exact ⟨by rw [HE.out]; rfl, hB.trans (hb.mono hB.size)⟩
set_option maxRecDepth 20000 in
set_option maxHeartbeats 1000000 in
theorem text_1 (hb8 : b < 256) (h4 : C4 P a0 a1 a2 a3) (hc : chk 1 b P nt l m lz t = true) : Calls Tryd.prog 10 #[tokI 1 b a0 a1 a2 a3 nt l m lz t] w (RetS w (tokB 1 b P nt l m lz t)) := by
  have hB : Below w.heap.size w (w.alloc (.cells #[.int .i64 1, .int .u8 (b : Nat), .int .u64 (a0 : Nat), .int .u64 (a1 : Nat), .int .u64 (a2 : Nat), .int .u64 (a3 : Nat), .bool nt, .int .i64 l, .int .i64 m, .bool lz, .int .i64 t] 26)) := (Below.refl _ _).alloc (Nat.le_refl _) _
  have HC := check_all 1 b a0 a1 a2 a3 nt l m lz t (w.alloc (.cells #[.int .i64 1, .int .u8 (b : Nat), .int .u64 (a0 : Nat), .int .u64 (a1 : Nat), .int .u64 (a2 : Nat), .int .u64 (a3 : Nat), .bool nt, .int .i64 l, .int .i64 m, .bool lz, .int .i64 t] 26)) h4
  rw [hc] at HC
  have hk := Cl.new w 26 [.int .i64 1, .int .u8 (b : Nat), .int .u64 (a0 : Nat), .int .u64 (a1 : Nat), .int .u64 (a2 : Nat), .int .u64 (a3 : Nat), .bool nt, .int .i64 l, .int .i64 m, .bool lz, .int .i64 t]
  have HL := fun W => literal_any b W hb8
  unfold RetS at HL
  have HE : Hid (tokB 1 b P nt l m lz t = litB b) := by show tokB 1 b P nt l m lz t = litB b; unfold tokB; rw [hc]; rfl
  unfold RetN at HC
  clear hc h4
  unfold tokI at *
  go_enter Tryd.func10, Tryd.ntmps10
  go_wp2_with (first | (go_at_call 8; refine HC.mono ?_; rintro e w1 ⟨rfl, hb⟩; obtain ⟨x0, x1, x2, x3, x4, x5, x6, x7, x8, x9, x10⟩ := (hk.below hb).eleven.1) | (go_at_call 22; refine (HL _).mono ?_; rintro e w2 ⟨rfl, hb2⟩))
  go_ret
  exact ⟨by rw [HE.out]; rfl, hB.trans ((hb.trans (hb2.mono hb.size)).mono hB.size)⟩
set_option maxRecDepth 20000 in
set_option maxHeartbeats 1000000 in
theorem text_2 (hT : Tab w) {q : Nat} (hq : q < 256) (hPq : P q = true) (h4 : C4 P a0 a1 a2 a3) (hc : chk 2 b P nt l m lz t = true) : Calls Tryd.prog 10 #[tokI 2 b a0 a1 a2 a3 nt l m lz t] w (RetS w (tokB 2 b P nt l m lz t)) := by
  have hB : Below w.heap.size w (w.alloc (.cells #[.int .i64 2, .int .u8 (b : Nat), .int .u64 (a0 : Nat), .int .u64 (a1 : Nat), .int .u64 (a2 : Nat), .int .u64 (a3 : Nat), .bool nt, .int .i64 l, .int .i64 m, .bool lz, .int .i64 t] 26)) := (Below.refl _ _).alloc (Nat.le_refl _) _
  have HC := check_all 2 b a0 a1 a2 a3 nt l m lz t (w.alloc (.cells #[.int .i64 2, .int .u8 (b : Nat), .int .u64 (a0 : Nat), .int .u64 (a1 : Nat), .int .u64 (a2 : Nat), .int .u64 (a3 : Nat), .bool nt, .int .i64 l, .int .i64 m, .bool lz, .int .i64 t] 26)) h4
  rw [hc] at HC
  have hk := Cl.new w 26 [.int .i64 2, .int .u8 (b : Nat), .int .u64 (a0 : Nat), .int .u64 (a1 : Nat), .int .u64 (a2 : Nat), .int .u64 (a3 : Nat), .bool nt, .int .i64 l, .int .i64 m, .bool lz, .int .i64 t]
  have HL : ∀ W, Below w.heap.size w W → _ := fun W hW => classText_c h4 nt W (hT.below hW) hq hPq
  unfold RetS at HL
  have HE : Hid (tokB 2 b P nt l m lz t = clsB P nt) := by show tokB 2 b P nt l m lz t = clsB P nt; unfold tokB; rw [hc]; rfl
  unfold RetN at HC
  clear hc h4
  unfold tokI at *
  go_enter Tryd.func10, Tryd.ntmps10
  go_wp2_with (first | (go_at_call 8; refine HC.mono ?_; rintro e w1 ⟨rfl, hb⟩; obtain ⟨x0, x1, x2, x3, x4, x5, x6, x7, x8, x9, x10⟩ := (hk.below hb).eleven.1) | (go_at_call 23; refine (HL _ (hB.trans (hb.mono hB.size))).mono ?_; rintro e w2 ⟨rfl, hb2⟩))
  go_ret
  exact ⟨by rw [HE.out]; rfl, hB.trans ((hb.trans (hb2.mono hb.size)).mono hB.size)⟩
set_option maxRecDepth 20000 in
set_option maxHeartbeats 1000000 in
theorem text_7 (hT : Pow w) (n : Nat) (hn : n ≤ 1000) (hln : l = n) (hm : m = -1 ∨ ((n : Int) ≤ m ∧ m ≤ 1000)) (h4 : C4 P a0 a1 a2 a3) (hc : chk 7 b P nt l m lz t = true) : Calls Tryd.prog 10 #[tokI 7 b a0 a1 a2 a3 nt l m lz t] w (RetS w (tokB 7 b P nt l m lz t)) := by
  have hB : Below w.heap.size w (w.alloc (.cells #[.int .i64 7, .int .u8 (b : Nat), .int .u64 (a0 : Nat), .int .u64 (a1 : Nat), .int .u64 (a2 : Nat), .int .u64 (a3 : Nat), .bool nt, .int .i64 l, .int .i64 m, .bool lz, .int .i64 t] 26)) := (Below.refl _ _).alloc (Nat.le_refl _) _
  have HC := check_all 7 b a0 a1 a2 a3 nt l m lz t (w.alloc (.cells #[.int .i64 7, .int .u8 (b : Nat), .int .u64 (a0 : Nat), .int .u64 (a1 : Nat), .int .u64 (a2 : Nat), .int .u64 (a3 : Nat), .bool nt, .int .i64 l, .int .i64 m, .bool lz, .int .i64 t] 26)) h4
  rw [hc] at HC
  have hk := Cl.new w 26 [.int .i64 7, .int .u8 (b : Nat), .int .u64 (a0 : Nat), .int .u64 (a1 : Nat), .int .u64 (a2 : Nat), .int .u64 (a3 : Nat), .bool nt, .int .i64 l, .int .i64 m, .bool lz, .int .i64 t]
  have HL : ∀ W, Below w.heap.size w W → _ := fun W hW => repeatText_any 7 b a0 a1 a2 a3 nt n m lz t hn hm W (hT.below hW)
  unfold RetS tokI at HL
  rw [← hln] at HL
  rw [show repB n m lz = repB l.toNat m lz by rw [hln]; rfl] at HL
  have HE : Hid (tokB 7 b P nt l m lz t = repB l.toNat m lz) := by show tokB 7 b P nt l m lz t = repB l.toNat m lz; unfold tokB; rw [hc]; rfl
  unfold RetN at HC
  clear hc h4 hln hm
  unfold tokI at *
  go_enter Tryd.func10, Tryd.ntmps10
  go_wp2_with (first | (go_at_call 8; refine HC.mono ?_; rintro e w1 ⟨rfl, hb⟩; obtain ⟨x0, x1, x2, x3, x4, x5, x6, x7, x8, x9, x10⟩ := (hk.below hb).eleven.1) | (go_at_call 24; refine (HL _ (hB.trans (hb.mono hB.size))).mono ?_; rintro e w2 ⟨rfl, hb2⟩))
  go_ret
  exact ⟨by rw [HE.out]; rfl, hB.trans ((hb.trans (hb2.mono hb.size)).mono hB.size)⟩
end
end Go.Proofs.YtkbeiadbolihiaaDoor
