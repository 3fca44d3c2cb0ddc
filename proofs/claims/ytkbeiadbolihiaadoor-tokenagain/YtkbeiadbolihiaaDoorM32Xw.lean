/- The reference of token: times as a whole. The reference of token: Text: the walk. The reference of token: Text of a class: the walk. token: Text and the reference's Text: one answer. -/
import Derived.Test.YtkbeiadbolihiaaDoorM31Tm
import Derived.Test.YtkbeiadbolihiaaDoorM28Xt
import Derived.Test.YtkbeiadbolihiaaDoorM23Ha
namespace Go.Proofs.YtkbeiadbolihiaaDoor
open Go.RowKit Go.Shelf
theorem times_any (k : Int) (b a0 a1 a2 a3 : Nat) (nt : Bool) (l : Nat) (m : Int) (lz : Bool) (t : Int) (hl : l ≤ 1000) (hm : m = -1 ∨ ((l : Int) ≤ m ∧ m ≤ 1000)) (w : World) : Calls Tryd.prog 29 #[tokI k b a0 a1 a2 a3 nt (l : Nat) m lz t] w (RetS w (repB l m lz)) := by
  have hl3 : l = 0 ∨ l = 1 ∨ 2 ≤ l := by omega
  rcases hm with rfl | ⟨h1, h2⟩
  · rcases hl3 with rfl | rfl | h
    · cases lz
      · exact tm_star_f k b a0 a1 a2 a3 nt t w
      · exact tm_star_t k b a0 a1 a2 a3 nt t w
    · cases lz
      · exact tm_plus_f k b a0 a1 a2 a3 nt t w
      · exact tm_plus_t k b a0 a1 a2 a3 nt t w
    · cases lz
      · exact tm_from_f k b a0 a1 a2 a3 nt l hl h t w
      · exact tm_from_t k b a0 a1 a2 a3 nt l hl h t w
  · obtain ⟨n, rfl⟩ := Int.eq_ofNat_of_zero_le (show 0 ≤ m by omega)
    by_cases e : n = l
    · subst e
      rcases hl3 with rfl | rfl | h
      · cases lz
        · exact tm_just0_f k b a0 a1 a2 a3 nt t w
        · exact tm_just0_t k b a0 a1 a2 a3 nt t w
      · cases lz
        · exact tm_just1_f k b a0 a1 a2 a3 nt t w
        · exact tm_just1_t k b a0 a1 a2 a3 nt t w
      · cases lz
        · exact tm_justm_f k b a0 a1 a2 a3 nt n hl h t w
        · exact tm_justm_t k b a0 a1 a2 a3 nt n hl h t w
    · have hln : l < n := by omega
      have hn : n ≤ 1000 := by omega
      rcases hl3 with rfl | rfl | h
      · by_cases e1 : n = 1
        · subst e1
          cases lz
          · exact tm_may_f k b a0 a1 a2 a3 nt t w
          · exact tm_may_t k b a0 a1 a2 a3 nt t w
        · cases lz
          · exact tm_both0_f k b a0 a1 a2 a3 nt n hn (by omega) t w
          · exact tm_both0_t k b a0 a1 a2 a3 nt n hn (by omega) t w
      · cases lz
        · exact tm_both1_f k b a0 a1 a2 a3 nt n hn (by omega) t w
        · exact tm_both1_t k b a0 a1 a2 a3 nt n hn (by omega) t w
      · cases lz
        · exact tm_bothm_f k b a0 a1 a2 a3 nt l n h hn hln t w
        · exact tm_bothm_t k b a0 a1 a2 a3 nt l n h hn hln t w
end Go.Proofs.YtkbeiadbolihiaaDoor
namespace Go.Proofs.YtkbeiadbolihiaaDoor
open Go.RowKit Go.Shelf
section
variable {P : Nat → Bool} (b a0 a1 a2 a3 : Nat) (nt : Bool) (l m : Int) (lz : Bool) (t : Int) (w : World)
theorem rtext_bad (k : Int) (h4 : C4 P a0 a1 a2 a3) (hc : chk k b P nt l m lz t = false) : Calls Tryd.prog 11 #[tokI k b a0 a1 a2 a3 nt l m lz t] w (RetS w (tokB k b P nt l m lz t)) := by
  have hB : Below w.heap.size w (w.alloc (.cells #[.int .i64 k, .int .u8 (b : Nat), .int .u64 (a0 : Nat), .int .u64 (a1 : Nat), .int .u64 (a2 : Nat), .int .u64 (a3 : Nat), .bool nt, .int .i64 l, .int .i64 m, .bool lz, .int .i64 t] 26)) := (Below.refl _ _).alloc (Nat.le_refl _) _
  have HC := rcheck_all k b a0 a1 a2 a3 nt l m lz t (w.alloc (.cells #[.int .i64 k, .int .u8 (b : Nat), .int .u64 (a0 : Nat), .int .u64 (a1 : Nat), .int .u64 (a2 : Nat), .int .u64 (a3 : Nat), .bool nt, .int .i64 l, .int .i64 m, .bool lz, .int .i64 t] 26)) h4
  rw [hc] at HC
  have HE : Hid (tokB k b P nt l m lz t = []) := by show tokB k b P nt l m lz t = []; unfold tokB; rw [hc]; rfl
  unfold RetN at HC
  clear hc h4
  unfold tokI at *
  go_enter Tryd.func11, Tryd.ntmps11
  go_wp2_with (go_at_call 9; refine HC.mono ?_; rintro e w1 ⟨rfl, hb⟩)
  go_ret
  exact ⟨by rw [HE.out]; rfl, hB.trans (hb.mono hB.size)⟩
set_option maxRecDepth 20000 in
set_option maxHeartbeats 1000000 in
theorem rtext_3 (h4 : C4 P a0 a1 a2 a3) (hc : chk 3 b P nt l m lz t = true) : Calls Tryd.prog 11 #[tokI 3 b a0 a1 a2 a3 nt l m lz t] w (RetS w (tokB 3 b P nt l m lz t)) := by
  have hB : Below w.heap.size w (w.alloc (.cells #[.int .i64 3, .int .u8 (b : Nat), .int .u64 (a0 : Nat), .int .u64 (a1 : Nat), .int .u64 (a2 : Nat), .int .u64 (a3 : Nat), .bool nt, .int .i64 l, .int .i64 m, .bool lz, .int .i64 t] 26)) := (Below.refl _ _).alloc (Nat.le_refl _) _
  have HC := rcheck_all 3 b a0 a1 a2 a3 nt l m lz t (w.alloc (.cells #[.int .i64 3, .int .u8 (b : Nat), .int .u64 (a0 : Nat), .int .u64 (a1 : Nat), .int .u64 (a2 : Nat), .int .u64 (a3 : Nat), .bool nt, .int .i64 l, .int .i64 m, .bool lz, .int .i64 t] 26)) h4
  rw [hc] at HC
  have hk := Cl.new w 26 [.int .i64 3, .int .u8 (b : Nat), .int .u64 (a0 : Nat), .int .u64 (a1 : Nat), .int .u64 (a2 : Nat), .int .u64 (a3 : Nat), .bool nt, .int .i64 l, .int .i64 m, .bool lz, .int .i64 t]
  have HE : Hid (tokB 3 b P nt l m lz t = [46]) := by show tokB 3 b P nt l m lz t = [46]; unfold tokB; rw [hc]; rfl
  unfold RetN at HC
  clear hc h4
  unfold tokI at *
  go_enter Tryd.func11, Tryd.ntmps11
  go_wp2_with (first | (go_at_call 9; refine HC.mono ?_; rintro e w1 ⟨rfl, hb⟩; obtain ⟨x0, x1, x2, x3, x4, x5, x6, x7, x8, x9, x10⟩ := (hk.below hb).eleven.1))
  go_ret
  exact ⟨by rw [HE.out]; rfl, hB.trans (hb.mono hB.size)⟩
set_option maxRecDepth 20000 in
set_option maxHeartbeats 1000000 in
theorem rtext_4 (h4 : C4 P a0 a1 a2 a3) (hc : chk 4 b P nt l m lz t = true) : Calls Tryd.prog 11 #[tokI 4 b a0 a1 a2 a3 nt l m lz t] w (RetS w (tokB 4 b P nt l m lz t)) := by
  have hB : Below w.heap.size w (w.alloc (.cells #[.int .i64 4, .int .u8 (b : Nat), .int .u64 (a0 : Nat), .int .u64 (a1 : Nat), .int .u64 (a2 : Nat), .int .u64 (a3 : Nat), .bool nt, .int .i64 l, .int .i64 m, .bool lz, .int .i64 t] 26)) := (Below.refl _ _).alloc (Nat.le_refl _) _
  have HC := rcheck_all 4 b a0 a1 a2 a3 nt l m lz t (w.alloc (.cells #[.int .i64 4, .int .u8 (b : Nat), .int .u64 (a0 : Nat), .int .u64 (a1 : Nat), .int .u64 (a2 : Nat), .int .u64 (a3 : Nat), .bool nt, .int .i64 l, .int .i64 m, .bool lz, .int .i64 t] 26)) h4
  rw [hc] at HC
  have hk := Cl.new w 26 [.int .i64 4, .int .u8 (b : Nat), .int .u64 (a0 : Nat), .int .u64 (a1 : Nat), .int .u64 (a2 : Nat), .int .u64 (a3 : Nat), .bool nt, .int .i64 l, .int .i64 m, .bool lz, .int .i64 t]
  have HE : Hid (tokB 4 b P nt l m lz t = [40, 63, 58]) := by show tokB 4 b P nt l m lz t = [40, 63, 58]; unfold tokB; rw [hc]; rfl
  unfold RetN at HC
  clear hc h4
  unfold tokI at *
  go_enter Tryd.func11, Tryd.ntmps11
  go_wp2_with (first | (go_at_call 9; refine HC.mono ?_; rintro e w1 ⟨rfl, hb⟩; obtain ⟨x0, x1, x2, x3, x4, x5, x6, x7, x8, x9, x10⟩ := (hk.below hb).eleven.1))
  go_ret
  exact ⟨by rw [HE.out]; rfl, hB.trans (hb.mono hB.size)⟩
set_option maxRecDepth 20000 in
set_option maxHeartbeats 1000000 in
theorem rtext_5 (h4 : C4 P a0 a1 a2 a3) (hc : chk 5 b P nt l m lz t = true) : Calls Tryd.prog 11 #[tokI 5 b a0 a1 a2 a3 nt l m lz t] w (RetS w (tokB 5 b P nt l m lz t)) := by
  have hB : Below w.heap.size w (w.alloc (.cells #[.int .i64 5, .int .u8 (b : Nat), .int .u64 (a0 : Nat), .int .u64 (a1 : Nat), .int .u64 (a2 : Nat), .int .u64 (a3 : Nat), .bool nt, .int .i64 l, .int .i64 m, .bool lz, .int .i64 t] 26)) := (Below.refl _ _).alloc (Nat.le_refl _) _
  have HC := rcheck_all 5 b a0 a1 a2 a3 nt l m lz t (w.alloc (.cells #[.int .i64 5, .int .u8 (b : Nat), .int .u64 (a0 : Nat), .int .u64 (a1 : Nat), .int .u64 (a2 : Nat), .int .u64 (a3 : Nat), .bool nt, .int .i64 l, .int .i64 m, .bool lz, .int .i64 t] 26)) h4
  rw [hc] at HC
  have hk := Cl.new w 26 [.int .i64 5, .int .u8 (b : Nat), .int .u64 (a0 : Nat), .int .u64 (a1 : Nat), .int .u64 (a2 : Nat), .int .u64 (a3 : Nat), .bool nt, .int .i64 l, .int .i64 m, .bool lz, .int .i64 t]
  have HE : Hid (tokB 5 b P nt l m lz t = [41]) := by show tokB 5 b P nt l m lz t = [41]; unfold tokB; rw [hc]; rfl
  unfold RetN at HC
  clear hc h4
  unfold tokI at *
  go_enter Tryd.func11, Tryd.ntmps11
  go_wp2_with (first | (go_at_call 9; refine HC.mono ?_; rintro e w1 ⟨rfl, hb⟩; obtain ⟨x0, x1, x2, x3, x4, x5, x6, x7, x8, x9, x10⟩ := (hk.below hb).eleven.1))
  go_ret
  exact ⟨by rw [HE.out]; rfl, hB.trans (hb.mono hB.size)⟩
set_option maxRecDepth 20000 in
set_option maxHeartbeats 1000000 in
theorem rtext_6 (h4 : C4 P a0 a1 a2 a3) (hc : chk 6 b P nt l m lz t = true) : Calls Tryd.prog 11 #[tokI 6 b a0 a1 a2 a3 nt l m lz t] w (RetS w (tokB 6 b P nt l m lz t)) := by
  have hB : Below w.heap.size w (w.alloc (.cells #[.int .i64 6, .int .u8 (b : Nat), .int .u64 (a0 : Nat), .int .u64 (a1 : Nat), .int .u64 (a2 : Nat), .int .u64 (a3 : Nat), .bool nt, .int .i64 l, .int .i64 m, .bool lz, .int .i64 t] 26)) := (Below.refl _ _).alloc (Nat.le_refl _) _
  have HC := rcheck_all 6 b a0 a1 a2 a3 nt l m lz t (w.alloc (.cells #[.int .i64 6, .int .u8 (b : Nat), .int .u64 (a0 : Nat), .int .u64 (a1 : Nat), .int .u64 (a2 : Nat), .int .u64 (a3 : Nat), .bool nt, .int .i64 l, .int .i64 m, .bool lz, .int .i64 t] 26)) h4
  rw [hc] at HC
  have hk := Cl.new w 26 [.int .i64 6, .int .u8 (b : Nat), .int .u64 (a0 : Nat), .int .u64 (a1 : Nat), .int .u64 (a2 : Nat), .int .u64 (a3 : Nat), .bool nt, .int .i64 l, .int .i64 m, .bool lz, .int .i64 t]
  have HE : Hid (tokB 6 b P nt l m lz t = [124]) := by show tokB 6 b P nt l m lz t = [124]; unfold tokB; rw [hc]; rfl
  unfold RetN at HC
  clear hc h4
  unfold tokI at *
  go_enter Tryd.func11, Tryd.ntmps11
  go_wp2_with (first | (go_at_call 9; refine HC.mono ?_; rintro e w1 ⟨rfl, hb⟩; obtain ⟨x0, x1, x2, x3, x4, x5, x6, x7, x8, x9, x10⟩ := (hk.below hb).eleven.1))
  go_ret
  exact ⟨by rw [HE.out]; rfl, hB.trans (hb.mono hB.size)⟩
set_option maxRecDepth 20000 in
set_option maxHeartbeats 1000000 in
theorem rtext_8 (h4 : C4 P a0 a1 a2 a3) (hc : chk 8 b P nt l m lz t = true) : Calls Tryd.prog 11 #[tokI 8 b a0 a1 a2 a3 nt l m lz t] w (RetS w (tokB 8 b P nt l m lz t)) := by
  have hB : Below w.heap.size w (w.alloc (.cells #[.int .i64 8, .int .u8 (b : Nat), .int .u64 (a0 : Nat), .int .u64 (a1 : Nat), .int .u64 (a2 : Nat), .int .u64 (a3 : Nat), .bool nt, .int .i64 l, .int .i64 m, .bool lz, .int .i64 t] 26)) := (Below.refl _ _).alloc (Nat.le_refl _) _
  have HC := rcheck_all 8 b a0 a1 a2 a3 nt l m lz t (w.alloc (.cells #[.int .i64 8, .int .u8 (b : Nat), .int .u64 (a0 : Nat), .int .u64 (a1 : Nat), .int .u64 (a2 : Nat), .int .u64 (a3 : Nat), .bool nt, .int .i64 l, .int .i64 m, .bool lz, .int .i64 t] 26)) h4
  rw [hc] at HC
  have hk := Cl.new w 26 [.int .i64 8, .int .u8 (b : Nat), .int .u64 (a0 : Nat), .int .u64 (a1 : Nat), .int .u64 (a2 : Nat), .int .u64 (a3 : Nat), .bool nt, .int .i64 l, .int .i64 m, .bool lz, .int .i64 t]
  have HE : Hid (tokB 8 b P nt l m lz t = [94]) := by show tokB 8 b P nt l m lz t = [94]; unfold tokB; rw [hc]; rfl
  unfold RetN at HC
  clear hc h4
  unfold tokI at *
  go_enter Tryd.func11, Tryd.ntmps11
  go_wp2_with (first | (go_at_call 9; refine HC.mono ?_; rintro e w1 ⟨rfl, hb⟩; obtain ⟨x0, x1, x2, x3, x4, x5, x6, x7, x8, x9, x10⟩ := (hk.below hb).eleven.1))
  go_ret
  exact ⟨by rw [HE.out]; rfl, hB.trans (hb.mono hB.size)⟩
set_option maxRecDepth 20000 in
set_option maxHeartbeats 1000000 in
theorem rtext_9 (h4 : C4 P a0 a1 a2 a3) (hc : chk 9 b P nt l m lz t = true) : Calls Tryd.prog 11 #[tokI 9 b a0 a1 a2 a3 nt l m lz t] w (RetS w (tokB 9 b P nt l m lz t)) := by
  have hB : Below w.heap.size w (w.alloc (.cells #[.int .i64 9, .int .u8 (b : Nat), .int .u64 (a0 : Nat), .int .u64 (a1 : Nat), .int .u64 (a2 : Nat), .int .u64 (a3 : Nat), .bool nt, .int .i64 l, .int .i64 m, .bool lz, .int .i64 t] 26)) := (Below.refl _ _).alloc (Nat.le_refl _) _
  have HC := rcheck_all 9 b a0 a1 a2 a3 nt l m lz t (w.alloc (.cells #[.int .i64 9, .int .u8 (b : Nat), .int .u64 (a0 : Nat), .int .u64 (a1 : Nat), .int .u64 (a2 : Nat), .int .u64 (a3 : Nat), .bool nt, .int .i64 l, .int .i64 m, .bool lz, .int .i64 t] 26)) h4
  rw [hc] at HC
  have hk := Cl.new w 26 [.int .i64 9, .int .u8 (b : Nat), .int .u64 (a0 : Nat), .int .u64 (a1 : Nat), .int .u64 (a2 : Nat), .int .u64 (a3 : Nat), .bool nt, .int .i64 l, .int .i64 m, .bool lz, .int .i64 t]
  have HE : Hid (tokB 9 b P nt l m lz t = [36]) := by show tokB 9 b P nt l m lz t = [36]; unfold tokB; rw [hc]; rfl
  unfold RetN at HC
  clear hc h4
  unfold tokI at *
  go_enter Tryd.func11, Tryd.ntmps11
  go_wp2_with (first | (go_at_call 9; refine HC.mono ?_; rintro e w1 ⟨rfl, hb⟩; obtain ⟨x0, x1, x2, x3, x4, x5, x6, x7, x8, x9, x10⟩ := (hk.below hb).eleven.1))
  go_ret
  exact ⟨by rw [HE.out]; rfl, hB.trans (hb.mono hB.size)⟩
set_option maxRecDepth 20000 in
set_option maxHeartbeats 1000000 in
theorem rtext_1 (hb8 : b < 256) (h4 : C4 P a0 a1 a2 a3) (hc : chk 1 b P nt l m lz t = true) : Calls Tryd.prog 11 #[tokI 1 b a0 a1 a2 a3 nt l m lz t] w (RetS w (tokB 1 b P nt l m lz t)) := by
  have hB : Below w.heap.size w (w.alloc (.cells #[.int .i64 1, .int .u8 (b : Nat), .int .u64 (a0 : Nat), .int .u64 (a1 : Nat), .int .u64 (a2 : Nat), .int .u64 (a3 : Nat), .bool nt, .int .i64 l, .int .i64 m, .bool lz, .int .i64 t] 26)) := (Below.refl _ _).alloc (Nat.le_refl _) _
  have HC := rcheck_all 1 b a0 a1 a2 a3 nt l m lz t (w.alloc (.cells #[.int .i64 1, .int .u8 (b : Nat), .int .u64 (a0 : Nat), .int .u64 (a1 : Nat), .int .u64 (a2 : Nat), .int .u64 (a3 : Nat), .bool nt, .int .i64 l, .int .i64 m, .bool lz, .int .i64 t] 26)) h4
  rw [hc] at HC
  have hk := Cl.new w 26 [.int .i64 1, .int .u8 (b : Nat), .int .u64 (a0 : Nat), .int .u64 (a1 : Nat), .int .u64 (a2 : Nat), .int .u64 (a3 : Nat), .bool nt, .int .i64 l, .int .i64 m, .bool lz, .int .i64 t]
  have HL := fun W => rliteral_any b W hb8
  unfold RetS at HL
  have HE : Hid (tokB 1 b P nt l m lz t = litB b) := by show tokB 1 b P nt l m lz t = litB b; unfold tokB; rw [hc]; rfl
  unfold RetN at HC
  clear hc h4
  unfold tokI at *
  go_enter Tryd.func11, Tryd.ntmps11
  go_wp2_with (first | (go_at_call 9; refine HC.mono ?_; rintro e w1 ⟨rfl, hb⟩; obtain ⟨x0, x1, x2, x3, x4, x5, x6, x7, x8, x9, x10⟩ := (hk.below hb).eleven.1) | (go_at_call 25; refine (HL _).mono ?_; rintro e w2 ⟨rfl, hb2⟩))
  go_ret
  exact ⟨by rw [HE.out]; rfl, hB.trans ((hb.trans (hb2.mono hb.size)).mono hB.size)⟩
set_option maxRecDepth 20000 in
set_option maxHeartbeats 1000000 in
theorem rtext_7 (n : Nat) (hn : n ≤ 1000) (hln : l = n) (hm : m = -1 ∨ ((n : Int) ≤ m ∧ m ≤ 1000)) (h4 : C4 P a0 a1 a2 a3) (hc : chk 7 b P nt l m lz t = true) : Calls Tryd.prog 11 #[tokI 7 b a0 a1 a2 a3 nt l m lz t] w (RetS w (tokB 7 b P nt l m lz t)) := by
  have hB : Below w.heap.size w (w.alloc (.cells #[.int .i64 7, .int .u8 (b : Nat), .int .u64 (a0 : Nat), .int .u64 (a1 : Nat), .int .u64 (a2 : Nat), .int .u64 (a3 : Nat), .bool nt, .int .i64 l, .int .i64 m, .bool lz, .int .i64 t] 26)) := (Below.refl _ _).alloc (Nat.le_refl _) _
  have HC := rcheck_all 7 b a0 a1 a2 a3 nt l m lz t (w.alloc (.cells #[.int .i64 7, .int .u8 (b : Nat), .int .u64 (a0 : Nat), .int .u64 (a1 : Nat), .int .u64 (a2 : Nat), .int .u64 (a3 : Nat), .bool nt, .int .i64 l, .int .i64 m, .bool lz, .int .i64 t] 26)) h4
  rw [hc] at HC
  have hk := Cl.new w 26 [.int .i64 7, .int .u8 (b : Nat), .int .u64 (a0 : Nat), .int .u64 (a1 : Nat), .int .u64 (a2 : Nat), .int .u64 (a3 : Nat), .bool nt, .int .i64 l, .int .i64 m, .bool lz, .int .i64 t]
  have HL := fun W => times_any 7 b a0 a1 a2 a3 nt n m lz t hn hm W
  unfold RetS tokI at HL
  rw [← hln] at HL
  rw [show repB n m lz = repB l.toNat m lz by rw [hln]; rfl] at HL
  have HE : Hid (tokB 7 b P nt l m lz t = repB l.toNat m lz) := by show tokB 7 b P nt l m lz t = repB l.toNat m lz; unfold tokB; rw [hc]; rfl
  unfold RetN at HC
  clear hc h4 hln hm
  unfold tokI at *
  go_enter Tryd.func11, Tryd.ntmps11
  go_wp2_with (first | (go_at_call 9; refine HC.mono ?_; rintro e w1 ⟨rfl, hb⟩; obtain ⟨x0, x1, x2, x3, x4, x5, x6, x7, x8, x9, x10⟩ := (hk.below hb).eleven.1) | (go_at_call 29; refine (HL _).mono ?_; rintro e w2 ⟨rfl, hb2⟩))
  go_ret
  exact ⟨by rw [HE.out]; rfl, hB.trans ((hb.trans (hb2.mono hb.size)).mono hB.size)⟩
end
end Go.Proofs.YtkbeiadbolihiaaDoor
namespace Go.Proofs.YtkbeiadbolihiaaDoor
open Go.RowKit Go.Shelf
theorem mem_come {P : Nat → Bool} {n x : Nat} : x ∈ come P n ↔ x < n ∧ P x = true := by
  unfold come; rw [List.mem_filter, List.mem_range]
theorem come_one {P : Nat → Bool} {k : Nat} (hk : k < 256) (hP : P k = true) (hmin : ∀ j, j < k → P j = false) : ∃ r, come P 256 = k :: r ∧ (eqC P (ofN (fun _ => k) 1) = true ↔ r = []) := by
  obtain ⟨r, hr⟩ := come_head hP hmin 256 hk
  refine ⟨r, hr, ?_⟩
  have hnd : (k :: r).Nodup := by
    rw [← hr]
    exact (List.nodup_range (n := 256)).filter P
  have hk1 : ∀ x, ofN (fun _ => k) 1 x = (x == k) := fun x => by simp [ofN, ins]
  constructor
  · intro h
    rw [eqC_iff] at h
    cases r with
    | nil => rfl
    | cons y r =>
      exfalso
      have hy : y ∈ come P 256 := by rw [hr]; simp
      obtain ⟨h1, h2⟩ := mem_come.1 hy
      have := h y h1
      rw [h2, hk1] at this
      have e : y = k := by simpa using this.symm
      subst e
      simp at hnd
  · rintro rfl
    rw [eqC_iff]
    intro x hx
    rw [hk1]
    cases hp : P x
    · symm
      rw [beq_eq_false_iff_ne]
      rintro rfl
      rw [hP] at hp; cases hp
    · have : x ∈ come P 256 := mem_come.2 ⟨hx, hp⟩
      rw [hr] at this
      simp at this
      simp [this]
theorem row_first {W : World} {B k cap : Nat} {ao : Option Addr} {r : List Nat} (h : W.ownsRow B 5 1 (.slice ao (k :: r).length cap) (k :: r).length (byt (k :: r))) : ∃ g, ao = some ⟨g, 0, none⟩ ∧ W.cell? ⟨g, 0, none⟩ = some (.int .u8 (k : Nat)) := by
  rcases h.2 with ⟨_, h0⟩ | ⟨g, cap', cur, e, _⟩
  · simp at h0
  · obtain ⟨rfl, -, rfl⟩ : ao = some ⟨g, 0, none⟩ ∧ (k :: r).length = (k :: r).length ∧ cap = cap' := by simpa using e
    refine ⟨g, rfl, ?_⟩
    rw [h.cellAt 0 (by simp)]
    simp [byt]
set_option maxRecDepth 20000 in
set_option maxHeartbeats 2000000 in
theorem rtext_2 {P : Nat → Bool} (b a0 a1 a2 a3 : Nat) (nt : Bool) (l m : Int) (lz : Bool) (t : Int) (w : World) {k : Nat} (hk : k < 256) (hP : P k = true) (hmin : ∀ j, j < k → P j = false) (h4 : C4 P a0 a1 a2 a3) (hc : chk 2 b P nt l m lz t = true) : Calls Tryd.prog 11 #[tokI 2 b a0 a1 a2 a3 nt l m lz t] w (RetS w (tokB 2 b P nt l m lz t)) := by
  have hB : Below w.heap.size w (w.alloc (.cells #[.int .i64 2, .int .u8 (b : Nat), .int .u64 (a0 : Nat), .int .u64 (a1 : Nat), .int .u64 (a2 : Nat), .int .u64 (a3 : Nat), .bool nt, .int .i64 l, .int .i64 m, .bool lz, .int .i64 t] 26)) := (Below.refl _ _).alloc (Nat.le_refl _) _
  have HC := rcheck_all 2 b a0 a1 a2 a3 nt l m lz t (w.alloc (.cells #[.int .i64 2, .int .u8 (b : Nat), .int .u64 (a0 : Nat), .int .u64 (a1 : Nat), .int .u64 (a2 : Nat), .int .u64 (a3 : Nat), .bool nt, .int .i64 l, .int .i64 m, .bool lz, .int .i64 t] 26)) h4
  rw [hc] at HC
  have hkc := Cl.new w 26 [.int .i64 2, .int .u8 (b : Nat), .int .u64 (a0 : Nat), .int .u64 (a1 : Nat), .int .u64 (a2 : Nat), .int .u64 (a3 : Nat), .bool nt, .int .i64 l, .int .i64 m, .bool lz, .int .i64 t]
  have HE : tokB 2 b P nt l m lz t = clsB P nt := by unfold tokB; rw [hc]; rfl
  rw [HE]
  have HT1 : Hid (∀ W, Calls Tryd.prog 26 #[.agg #[.int .u64 (a0 : Nat), .int .u64 (a1 : Nat), .int .u64 (a2 : Nat), .int .u64 (a3 : Nat)]] W (RetS W (textB P))) := fun W => rtext_c h4 W
  have HT2 : Hid (∀ W, Calls Tryd.prog 27 #[.agg #[.int .u64 (a0 : Nat), .int .u64 (a1 : Nat), .int .u64 (a2 : Nat), .int .u64 (a3 : Nat)]] W (RetBs W (come P 256))) := fun W => rbytes_c h4 W
  obtain ⟨r, hr, hiff⟩ := come_one hk hP hmin
  have hf := find_some hk hP hmin
  have hcs : clsS P = if eqC P (ofN (fun _ => k) 1) then [91] ++ innB k ++ [93] else textB P := by unfold clsS; rw [hf]
  have htl := text_len P
  have hcl := cls_len P
  obtain ⟨S, hS⟩ : ∃ S : ByteArray, S = ⟨(textB P).toArray⟩ := ⟨_, rfl⟩
  have hss : S.size = (textB P).length := by rw [hS, size_str]
  have HS : Hid (S = ⟨(textB P).toArray⟩) := hS
  have hs1' : 1 ≤ S.size := by omega
  have hs2' : S.size ≤ 3000 := by omega
  have HSS : Hid (S.size = (textB P).length) := hss
  have HT3 : Hid (∀ W, Calls Tryd.prog 26 #[.agg #[.int .u64 (a0 : Nat), .int .u64 (a1 : Nat), .int .u64 (a2 : Nat), .int .u64 (a3 : Nat)]] W fun e w' => e = .returned (.string S) ∧ Below W.heap.size W w') := fun W => by
    have := HT1.out W
    unfold RetS at this
    rw [← hS] at this
    exact this
  have hs1 : (⟨#[91]⟩ : ByteArray).size = 1 := rfl
  have hs2 : (⟨#[93]⟩ : ByteArray).size = 1 := rfl
  have hs3 : (⟨#[91, 94]⟩ : ByteArray).size = 2 := rfl
  have hsa := sz_app
  unfold RetN at HC
  clear hS hss HT1 HE hc hf hP hmin h4 htl hcl
  unfold tokI at *
  cases r with
  | nil =>
    rw [hr] at HT2
    rw [if_pos (hiff.2 rfl)] at hcs
    have hil := innB_len k
    obtain ⟨V, hV⟩ : ∃ V : ByteArray, V = ⟨(innB k).toArray⟩ := ⟨_, rfl⟩
    have hvs : V.size ≤ 4 := by rw [hV, size_str]; exact hil
    have HIn : Hid (∀ W, Calls Tryd.prog 28 #[.int .u8 (k : Nat)] W fun e w' => e = .returned (.string V) ∧ Below W.heap.size W w') := fun W => by
      have := rinner_any k W hk
      unfold RetS at this
      rw [← hV] at this
      exact this
    have HV : Hid ((⟨#[91]⟩ : ByteArray) ++ V ++ ⟨#[93]⟩ = ⟨(clsS P).toArray⟩) := by
      show (⟨#[91]⟩ : ByteArray) ++ V ++ ⟨#[93]⟩ = ⟨(clsS P).toArray⟩
      rw [hcs, hV, ← str_app, ← str_app]
    have HX : Hid ((⟨#[91, 94]⟩ : ByteArray) ++ ((⟨#[91]⟩ : ByteArray) ++ V ++ ⟨#[93]⟩).extract 1 (1 + V.size + 1) = ⟨(clsB P true).toArray⟩) := by
      have hz : 1 + V.size + 1 = (clsS P).length := by
        have := congrArg ByteArray.size HV.out
        rw [hsa, hsa, hs1, hs2] at this
        exact this.trans (size_str _)
      show (⟨#[91, 94]⟩ : ByteArray) ++ ((⟨#[91]⟩ : ByteArray) ++ V ++ ⟨#[93]⟩).extract 1 (1 + V.size + 1) = ⟨(clsB P true).toArray⟩
      rw [HV.out, hz, ext_drop]
      exact str_app [91, 94] _
    clear hcs hV hiff hr
    cases nt
    all_goals go_enter Tryd.func11, Tryd.ntmps11
    all_goals go_wp2_with (first | (go_at_call 9; refine HC.mono ?_; rintro e w1 ⟨rfl, hb⟩; obtain ⟨x0, x1, x2, x3, x4, x5, x6, x7, x8, x9, x10⟩ := (hkc.below hb).eleven.1) | (go_at_call 26; refine (HT3.out _).mono ?_; rintro e w2 ⟨rfl, hb2⟩; clear x0 x1 x2 x3 x4 x5 x6 x7 x8 x9 x10; obtain ⟨x0, x1, x2, x3, x4, x5, x6, x7, x8, x9, x10⟩ := ((hkc.below hb).below hb2).eleven.1) | (go_at_call 27; refine (HT2.out _).mono ?_; rintro e w3 ⟨ao, cap, rfl, ho, hb3⟩; obtain ⟨g, rfl, hg⟩ := row_first ho; clear ho; clear x0 x1 x2 x3 x4 x5 x6 x7 x8 x9 x10; obtain ⟨x0, x1, x2, x3, x4, x5, x6, x7, x8, x9, x10⟩ := (((hkc.below hb).below hb2).below hb3).eleven.1) | (go_at_call 28; refine (HIn.out _).mono ?_; rintro e w4 ⟨rfl, hb4⟩; clear hg; clear x0 x1 x2 x3 x4 x5 x6 x7 x8 x9 x10; obtain ⟨x0, x1, x2, x3, x4, x5, x6, x7, x8, x9, x10⟩ := ((((hkc.below hb).below hb2).below hb3).below hb4).eleven.1))
    all_goals go_ret
    all_goals first | exact ⟨by rw [show clsB P false = clsS P from rfl, ← HV.out]; rfl, hB.trans ((((hb.trans (hb2.mono hb.size)).trans (hb3.mono (Nat.le_trans hb.size hb2.size))).trans (hb4.mono (Nat.le_trans (Nat.le_trans hb.size hb2.size) hb3.size))).mono hB.size)⟩ | exact ⟨by rw [← HX.out]; rfl, hB.trans ((((hb.trans (hb2.mono hb.size)).trans (hb3.mono (Nat.le_trans hb.size hb2.size))).trans (hb4.mono (Nat.le_trans (Nat.le_trans hb.size hb2.size) hb3.size))).mono hB.size)⟩
  | cons y r =>
    rw [hr] at HT2
    have hno : ¬ eqC P (ofN (fun _ => k) 1) = true := fun h => by cases hiff.1 h
    rw [if_neg hno] at hcs
    have HV : Hid (S = ⟨(clsS P).toArray⟩) := by
      show S = ⟨(clsS P).toArray⟩
      rw [hcs]; exact HS.out
    have HX : Hid ((⟨#[91, 94]⟩ : ByteArray) ++ S.extract 1 S.size = ⟨(clsB P true).toArray⟩) := by
      show (⟨#[91, 94]⟩ : ByteArray) ++ S.extract 1 S.size = ⟨(clsB P true).toArray⟩
      rw [HSS.out, ← hcs, HV.out, ext_drop]
      exact str_app [91, 94] _
    have hcl := come_len P 256
    rw [hr] at hcl
    obtain ⟨N, hN⟩ : ∃ N, (k :: y :: r).length = N := ⟨_, rfl⟩
    have hN1 : ((N : Int) == 1) = false := by simp at hN; simp; omega
    have hN2 : (N : Int) ≤ 256 := by omega
    have HT4 : Hid (∀ W, Calls Tryd.prog 27 #[.agg #[.int .u64 (a0 : Nat), .int .u64 (a1 : Nat), .int .u64 (a2 : Nat), .int .u64 (a3 : Nat)]] W fun e w' => ∃ ao cap, e = .returned (.slice ao N cap) ∧ Below W.heap.size W w') := fun W => (HT2.out W).mono fun e w' ⟨ao, cap, he, _, hb⟩ => ⟨ao, cap, by rw [← hN]; exact he, hb⟩
    clear hcs hiff hr hno hN HT2 hcl
    cases nt
    all_goals go_enter Tryd.func11, Tryd.ntmps11
    all_goals go_wp2_with (first | (go_at_call 9; refine HC.mono ?_; rintro e w1 ⟨rfl, hb⟩; obtain ⟨x0, x1, x2, x3, x4, x5, x6, x7, x8, x9, x10⟩ := (hkc.below hb).eleven.1) | (go_at_call 26; refine (HT3.out _).mono ?_; rintro e w2 ⟨rfl, hb2⟩; clear x0 x1 x2 x3 x4 x5 x6 x7 x8 x9 x10; obtain ⟨x0, x1, x2, x3, x4, x5, x6, x7, x8, x9, x10⟩ := ((hkc.below hb).below hb2).eleven.1) | (go_at_call 27; refine (HT4.out _).mono ?_; rintro e w3 ⟨ao, cap, rfl, hb3⟩; clear x0 x1 x2 x3 x4 x5 x6 x7 x8 x9 x10; obtain ⟨x0, x1, x2, x3, x4, x5, x6, x7, x8, x9, x10⟩ := (((hkc.below hb).below hb2).below hb3).eleven.1))
    all_goals go_ret
    all_goals first | exact ⟨by rw [show clsB P false = clsS P from rfl, ← HV.out]; rfl, hB.trans (((hb.trans (hb2.mono hb.size)).trans (hb3.mono (Nat.le_trans hb.size hb2.size))).mono hB.size)⟩ | exact ⟨by rw [← HX.out]; rfl, hB.trans (((hb.trans (hb2.mono hb.size)).trans (hb3.mono (Nat.le_trans hb.size hb2.size))).mono hB.size)⟩
end Go.Proofs.YtkbeiadbolihiaaDoor
namespace Go.Proofs.YtkbeiadbolihiaaDoor
open Go.RowKit Go.Shelf
theorem first_ex (P : Nat → Bool) : ∀ n, (∀ j, j < n → P j = false) ∨ ∃ k, k < n ∧ P k = true ∧ ∀ j, j < k → P j = false
  | 0 => .inl fun j hj => by omega
  | n + 1 => by
    rcases first_ex P n with h | ⟨k, hk, hp, hm⟩
    · cases hn : P n
      · exact .inl fun j hj => (if e : j = n then e ▸ hn else h j (by omega))
      · exact .inr ⟨n, by omega, hn, h⟩
    · exact .inr ⟨k, by omega, hp, hm⟩
/-- What a token that may be is. -/
theorem chk_kind {k : Int} {b : Nat} {P : Nat → Bool} {nt : Bool} {l m : Int} {lz : Bool} {t : Int} (h : chk k b P nt l m lz t = true) :
    k = 1 ∨ (k = 2 ∧ ∃ q, q < 256 ∧ P q = true ∧ ∀ j, j < q → P j = false) ∨ k = 3 ∨ k = 4 ∨ k = 5 ∨ k = 6 ∨ (k = 7 ∧ ∃ n : Nat, n ≤ 1000 ∧ l = n ∧ (m = -1 ∨ ((n : Int) ≤ m ∧ m ≤ 1000))) ∨ k = 8 ∨ k = 9 := by
  unfold chk at h
  simp only [Bool.and_eq_true] at h
  obtain ⟨_, h5⟩ := h
  by_cases e2 : k = 2
  · rw [if_pos e2] at h5
    refine .inr (.inl ⟨e2, ?_⟩)
    unfold mayP at h5
    simp only [Bool.and_eq_true] at h5
    rcases first_ex P 256 with h | h
    · have : eqC P (fun _ => false) = true := (eqC_iff _ _).2 h
      rw [this] at h5
      cases h5.1
    · exact h
  rw [if_neg e2] at h5
  by_cases e7 : k = 7
  · rw [if_pos e7] at h5
    unfold repP at h5
    simp only [Bool.and_eq_true, decide_eq_true_eq] at h5
    obtain ⟨⟨h1, h2⟩, h3⟩ := h5
    obtain ⟨n, rfl⟩ := Int.eq_ofNat_of_zero_le h1
    refine .inr (.inr (.inr (.inr (.inr (.inr (.inl ⟨e7, n, ?_, rfl, ?_⟩))))))
    · split at h2 <;> omega
    · by_cases em : m = -1
      · exact .inl em
      · rw [if_neg em] at h2 h3
        exact .inr ⟨h2, h3⟩
  rw [if_neg e7] at h5
  simp only [Bool.and_eq_true, decide_eq_true_eq] at h5
  omega
theorem text_all {P : Nat → Bool} (k : Int) (b a0 a1 a2 a3 : Nat) (nt : Bool) (l m : Int) (lz : Bool) (t : Int) (w : World) (hb : b < 256) (hT : Tab w) (hW : Pow w) (h4 : C4 P a0 a1 a2 a3) : Calls Tryd.prog 10 #[tokI k b a0 a1 a2 a3 nt l m lz t] w (RetS w (tokB k b P nt l m lz t)) := by
  cases hc : chk k b P nt l m lz t with
  | false => exact text_bad b a0 a1 a2 a3 nt l m lz t w k h4 hc
  | true =>
    rcases chk_kind hc with rfl | ⟨rfl, q, hq, hP, _⟩ | rfl | rfl | rfl | rfl | ⟨rfl, n, hn, hl, hm⟩ | rfl | rfl
    · exact text_1 b a0 a1 a2 a3 nt l m lz t w hb h4 hc
    · exact text_2 b a0 a1 a2 a3 nt l m lz t w hT hq hP h4 hc
    · exact text_3 b a0 a1 a2 a3 nt l m lz t w h4 hc
    · exact text_4 b a0 a1 a2 a3 nt l m lz t w h4 hc
    · exact text_5 b a0 a1 a2 a3 nt l m lz t w h4 hc
    · exact text_6 b a0 a1 a2 a3 nt l m lz t w h4 hc
    · exact text_7 b a0 a1 a2 a3 nt l m lz t w hW n hn hl hm h4 hc
    · exact text_8 b a0 a1 a2 a3 nt l m lz t w h4 hc
    · exact text_9 b a0 a1 a2 a3 nt l m lz t w h4 hc
theorem rtext_all {P : Nat → Bool} (k : Int) (b a0 a1 a2 a3 : Nat) (nt : Bool) (l m : Int) (lz : Bool) (t : Int) (w : World) (hb : b < 256) (h4 : C4 P a0 a1 a2 a3) : Calls Tryd.prog 11 #[tokI k b a0 a1 a2 a3 nt l m lz t] w (RetS w (tokB k b P nt l m lz t)) := by
  cases hc : chk k b P nt l m lz t with
  | false => exact rtext_bad b a0 a1 a2 a3 nt l m lz t w k h4 hc
  | true =>
    rcases chk_kind hc with rfl | ⟨rfl, q, hq, hP, hm⟩ | rfl | rfl | rfl | rfl | ⟨rfl, n, hn, hl, hm⟩ | rfl | rfl
    · exact rtext_1 b a0 a1 a2 a3 nt l m lz t w hb h4 hc
    · exact rtext_2 b a0 a1 a2 a3 nt l m lz t w hq hP hm h4 hc
    · exact rtext_3 b a0 a1 a2 a3 nt l m lz t w h4 hc
    · exact rtext_4 b a0 a1 a2 a3 nt l m lz t w h4 hc
    · exact rtext_5 b a0 a1 a2 a3 nt l m lz t w h4 hc
    · exact rtext_6 b a0 a1 a2 a3 nt l m lz t w h4 hc
    · exact rtext_7 b a0 a1 a2 a3 nt l m lz t w n hn hl hm h4 hc
    · exact rtext_8 b a0 a1 a2 a3 nt l m lz t w h4 hc
    · exact rtext_9 b a0 a1 a2 a3 nt l m lz t w h4 hc
theorem eqT_self (k : Int) (b a0 a1 a2 a3 : Nat) (nt : Bool) (l m : Int) (lz : Bool) (t : Int) : eqT k b a0 a1 a2 a3 nt l m lz t k b a0 a1 a2 a3 nt l m lz t = true := by
  unfold eqT; simp
end Go.Proofs.YtkbeiadbolihiaaDoor
