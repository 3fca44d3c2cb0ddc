/- Check and the reference's Check: one answer. token: Text: the walk. The reference of token: num: the walk. -/
import Derived.Test.YtkbeiadbolihiaaDoorM20Cw
import Derived.Test.YtkbeiadbolihiaaDoorM15Ct
import Derived.Test.YtkbeiadbolihiaaDoorM11Cn
import Derived.Test.YtkbeiadbolihiaaDoorM14Lt
namespace Go.Proofs.YtkbeiadbolihiaaDoor
open Go.RowKit
theorem eqz {P : Nat → Bool} {a0 a1 a2 a3 : Nat} (h4 : C4 P a0 a1 a2 a3) : ((a0 : Int) == ((0 : Nat) : Int) && (a1 : Int) == ((0 : Nat) : Int) && (a2 : Int) == ((0 : Nat) : Int) && (a3 : Int) == ((0 : Nat) : Int)) = eqC P fun _ => false := eq4_iff h4 c4_none
theorem eqb (b : Nat) : ((b : Int) == ((0 : Nat) : Int)) = (b == 0) := by
  rw [Bool.eq_iff_iff]; simp
theorem check_all {P : Nat → Bool} (k : Int) (b a0 a1 a2 a3 : Nat) (nt : Bool) (l m : Int) (lz : Bool) (t : Int) (w : World) (h4 : C4 P a0 a1 a2 a3) : Calls Tryd.prog 8 #[tokI k b a0 a1 a2 a3 nt l m lz t] w (RetN w (erV (chk k b P nt l m lz t))) := by
  have ez := eqz h4
  have eb := eqb b
  have key : ∀ (k : Int), 3 ≤ k → k ≤ 9 → k ≠ 7 → (decide (0 ≤ t) && eqT k b a0 a1 a2 a3 nt l m lz t k 0 0 0 0 0 false 0 0 false t) = chk k b P nt l m lz t := by
    intro k h1 h2 h3
    unfold eqT chk
    rw [ez, eb, if_neg (by omega), if_neg (by omega), if_neg (by omega), if_neg (by omega), if_neg (by omega), decide_eq_true (show 1 ≤ k by omega), decide_eq_true h2]
    cases nt <;> cases lz <;> simp [Bool.and_assoc]
  by_cases e1 : k = 1
  · subst e1
    rw [show chk 1 b P nt l m lz t = (decide (0 ≤ t) && eqT 1 b a0 a1 a2 a3 nt l m lz t 1 b 0 0 0 0 false 0 0 false t) by
      unfold eqT chk; rw [ez]; cases nt <;> cases lz <;> simp [Bool.and_assoc]]
    exact check_1 b a0 a1 a2 a3 nt l m lz t w
  by_cases e2 : k = 2
  · subst e2
    rw [show chk 2 b P nt l m lz t = (decide (0 ≤ t) && mayP P nt && eqT 2 b a0 a1 a2 a3 nt l m lz t 2 0 a0 a1 a2 a3 nt 0 0 false t) by
      unfold eqT chk; rw [eb]; cases nt <;> cases lz <;> simp [Bool.and_assoc] <;> cases mayP P _ <;> simp]
    exact check_2 b a0 a1 a2 a3 nt l m lz t w h4
  by_cases e7 : k = 7
  · subst e7
    rw [show chk 7 b P nt l m lz t = (decide (0 ≤ t) && repP l m && eqT 7 b a0 a1 a2 a3 nt l m lz t 7 0 0 0 0 0 false l m lz t) by
      unfold eqT chk; rw [ez, eb]; cases nt <;> simp [Bool.and_assoc] <;> cases repP l m <;> simp]
    exact check_7 b a0 a1 a2 a3 nt l m lz t w
  by_cases e3 : k = 3
  · subst e3; rw [← key 3 (by omega) (by omega) (by omega)]; exact check_3 b a0 a1 a2 a3 nt l m lz t w
  by_cases e4 : k = 4
  · subst e4; rw [← key 4 (by omega) (by omega) (by omega)]; exact check_4 b a0 a1 a2 a3 nt l m lz t w
  by_cases e5 : k = 5
  · subst e5; rw [← key 5 (by omega) (by omega) (by omega)]; exact check_5 b a0 a1 a2 a3 nt l m lz t w
  by_cases e6 : k = 6
  · subst e6; rw [← key 6 (by omega) (by omega) (by omega)]; exact check_6 b a0 a1 a2 a3 nt l m lz t w
  by_cases e8 : k = 8
  · subst e8; rw [← key 8 (by omega) (by omega) (by omega)]; exact check_8 b a0 a1 a2 a3 nt l m lz t w
  by_cases e9 : k = 9
  · subst e9; rw [← key 9 (by omega) (by omega) (by omega)]; exact check_9 b a0 a1 a2 a3 nt l m lz t w
  have hk : k < 1 ∨ 9 < k := by omega
  have e : chk k b P nt l m lz t = false := by
    unfold chk
    rcases hk with h | h
    · simp [e2, e7, show ¬ 1 ≤ k by omega]
    · simp [e2, e7, show ¬ k ≤ 9 by omega]
  rw [e]
  exact check_other k hk b a0 a1 a2 a3 nt l m lz t w
theorem rcheck_all {P : Nat → Bool} (k : Int) (b a0 a1 a2 a3 : Nat) (nt : Bool) (l m : Int) (lz : Bool) (t : Int) (w : World) (h4 : C4 P a0 a1 a2 a3) : Calls Tryd.prog 9 #[tokI k b a0 a1 a2 a3 nt l m lz t] w (RetN w (erV (chk k b P nt l m lz t))) := by
  by_cases e1 : k = 1
  · subst e1; exact rck_1 b a0 a1 a2 a3 nt l m lz t w h4
  by_cases e2 : k = 2
  · subst e2; exact rck_2 b a0 a1 a2 a3 nt l m lz t w h4
  by_cases e7 : k = 7
  · subst e7; exact rck_7 b a0 a1 a2 a3 nt l m lz t w h4
  by_cases h1 : k < 1
  · exact rck_lo k h1 b a0 a1 a2 a3 nt l m lz t w h4
  by_cases h9 : 9 < k
  · exact rck_hi k h9 b a0 a1 a2 a3 nt l m lz t w h4
  exact rck_s k ⟨by omega, by omega, e7⟩ b a0 a1 a2 a3 nt l m lz t w h4
end Go.Proofs.YtkbeiadbolihiaaDoor
namespace Go.Proofs.YtkbeiadbolihiaaDoor
open Go.RowKit Go.Shelf
/-- The text of a token that may be. -/
def txtB (k : Int) (b : Nat) (P : Nat → Bool) (nt : Bool) (l m : Int) (lz : Bool) : List UInt8 :=
  if k = 1 then litB b else if k = 2 then clsB P nt else if k = 3 then [46] else if k = 4 then [40, 63, 58] else if k = 5 then [41] else if k = 6 then [124] else if k = 8 then [94] else if k = 9 then [36] else repB l.toNat m lz
def tokB (k : Int) (b : Nat) (P : Nat → Bool) (nt : Bool) (l m : Int) (lz : Bool) (t : Int) : List UInt8 := if chk k b P nt l m lz t then txtB k b P nt l m lz else []
section
variable {P : Nat → Bool} (b a0 a1 a2 a3 : Nat) (nt : Bool) (l m : Int) (lz : Bool) (t : Int) (w : World)
theorem text_bad (k : Int) (h4 : C4 P a0 a1 a2 a3) (hc : chk k b P nt l m lz t = false) : Calls Tryd.prog 10 #[tokI k b a0 a1 a2 a3 nt l m lz t] w (RetS w (tokB k b P nt l m lz t)) := by
  have hB : Below w.heap.size w (w.alloc (.cells #[.int .i64 k, .int .u8 (b : Nat), .int .u64 (a0 : Nat), .int .u64 (a1 : Nat), .int .u64 (a2 : Nat), .int .u64 (a3 : Nat), .bool nt, .int .i64 l, .int .i64 m, .bool lz, .int .i64 t] 26)) := (Below.refl _ _).alloc (Nat.le_refl _) _
  have HC := check_all k b a0 a1 a2 a3 nt l m lz t (w.alloc (.cells #[.int .i64 k, .int .u8 (b : Nat), .int .u64 (a0 : Nat), .int .u64 (a1 : Nat), .int .u64 (a2 : Nat), .int .u64 (a3 : Nat), .bool nt, .int .i64 l, .int .i64 m, .bool lz, .int .i64 t] 26)) h4
  rw [hc] at HC
  have HE : Hid (tokB k b P nt l m lz t = []) := by show tokB k b P nt l m lz t = []; unfold tokB; rw [hc]; rfl
  unfold RetN at HC
  clear hc h4
  unfold tokI at *
  go_enter Tryd.func10, Tryd.ntmps10
  go_wp2_with (go_at_call 8; refine HC.mono ?_; rintro e w1 ⟨rfl, hb⟩)
  go_ret
  exact ⟨by rw [HE.out]; rfl, hB.trans (hb.mono hB.size)⟩
set_option maxRecDepth 20000 in
set_option maxHeartbeats 1000000 in
theorem text_3 (h4 : C4 P a0 a1 a2 a3) (hc : chk 3 b P nt l m lz t = true) : Calls Tryd.prog 10 #[tokI 3 b a0 a1 a2 a3 nt l m lz t] w (RetS w (tokB 3 b P nt l m lz t)) := by
  have hB : Below w.heap.size w (w.alloc (.cells #[.int .i64 3, .int .u8 (b : Nat), .int .u64 (a0 : Nat), .int .u64 (a1 : Nat), .int .u64 (a2 : Nat), .int .u64 (a3 : Nat), .bool nt, .int .i64 l, .int .i64 m, .bool lz, .int .i64 t] 26)) := (Below.refl _ _).alloc (Nat.le_refl _) _
  have HC := check_all 3 b a0 a1 a2 a3 nt l m lz t (w.alloc (.cells #[.int .i64 3, .int .u8 (b : Nat), .int .u64 (a0 : Nat), .int .u64 (a1 : Nat), .int .u64 (a2 : Nat), .int .u64 (a3 : Nat), .bool nt, .int .i64 l, .int .i64 m, .bool lz, .int .i64 t] 26)) h4
  rw [hc] at HC
  have hk := Cl.new w 26 [.int .i64 3, .int .u8 (b : Nat), .int .u64 (a0 : Nat), .int .u64 (a1 : Nat), .int .u64 (a2 : Nat), .int .u64 (a3 : Nat), .bool nt, .int .i64 l, .int .i64 m, .bool lz, .int .i64 t]
  have HE : Hid (tokB 3 b P nt l m lz t = [46]) := by show tokB 3 b P nt l m lz t = [46]; unfold tokB; rw [hc]; rfl
  unfold RetN at HC
  clear hc h4
  unfold tokI at *
  go_enter Tryd.func10, Tryd.ntmps10
  go_wp2_with (first | (go_at_call 8; refine HC.mono ?_; rintro e w1 ⟨rfl, hb⟩; obtain ⟨x0, x1, x2, x3, x4, x5, x6, x7, x8, x9, x10⟩ := (hk.below hb).eleven.1))
  go_ret
  exact ⟨by rw [HE.out]; rfl, hB.trans (hb.mono hB.size)⟩
set_option maxRecDepth 20000 in
set_option maxHeartbeats 1000000 in
theorem text_4 (h4 : C4 P a0 a1 a2 a3) (hc : chk 4 b P nt l m lz t = true) : Calls Tryd.prog 10 #[tokI 4 b a0 a1 a2 a3 nt l m lz t] w (RetS w (tokB 4 b P nt l m lz t)) := by
  have hB : Below w.heap.size w (w.alloc (.cells #[.int .i64 4, .int .u8 (b : Nat), .int .u64 (a0 : Nat), .int .u64 (a1 : Nat), .int .u64 (a2 : Nat), .int .u64 (a3 : Nat), .bool nt, .int .i64 l, .int .i64 m, .bool lz, .int .i64 t] 26)) := (Below.refl _ _).alloc (Nat.le_refl _) _
  have HC := check_all 4 b a0 a1 a2 a3 nt l m lz t (w.alloc (.cells #[.int .i64 4, .int .u8 (b : Nat), .int .u64 (a0 : Nat), .int .u64 (a1 : Nat), .int .u64 (a2 : Nat), .int .u64 (a3 : Nat), .bool nt, .int .i64 l, .int .i64 m, .bool lz, .int .i64 t] 26)) h4
  rw [hc] at HC
  have hk := Cl.new w 26 [.int .i64 4, .int .u8 (b : Nat), .int .u64 (a0 : Nat), .int .u64 (a1 : Nat), .int .u64 (a2 : Nat), .int .u64 (a3 : Nat), .bool nt, .int .i64 l, .int .i64 m, .bool lz, .int .i64 t]
  have HE : Hid (tokB 4 b P nt l m lz t = [40, 63, 58]) := by show tokB 4 b P nt l m lz t = [40, 63, 58]; unfold tokB; rw [hc]; rfl
  unfold RetN at HC
  clear hc h4
  unfold tokI at *
  go_enter Tryd.func10, Tryd.ntmps10
  go_wp2_with (first | (go_at_call 8; refine HC.mono ?_; rintro e w1 ⟨rfl, hb⟩; obtain ⟨x0, x1, x2, x3, x4, x5, x6, x7, x8, x9, x10⟩ := (hk.below hb).eleven.1))
  go_ret
  exact ⟨by rw [HE.out]; rfl, hB.trans (hb.mono hB.size)⟩
set_option maxRecDepth 20000 in
set_option maxHeartbeats 1000000 in
theorem text_5 (h4 : C4 P a0 a1 a2 a3) (hc : chk 5 b P nt l m lz t = true) : Calls Tryd.prog 10 #[tokI 5 b a0 a1 a2 a3 nt l m lz t] w (RetS w (tokB 5 b P nt l m lz t)) := by
  have hB : Below w.heap.size w (w.alloc (.cells #[.int .i64 5, .int .u8 (b : Nat), .int .u64 (a0 : Nat), .int .u64 (a1 : Nat), .int .u64 (a2 : Nat), .int .u64 (a3 : Nat), .bool nt, .int .i64 l, .int .i64 m, .bool lz, .int .i64 t] 26)) := (Below.refl _ _).alloc (Nat.le_refl _) _
  have HC := check_all 5 b a0 a1 a2 a3 nt l m lz t (w.alloc (.cells #[.int .i64 5, .int .u8 (b : Nat), .int .u64 (a0 : Nat), .int .u64 (a1 : Nat), .int .u64 (a2 : Nat), .int .u64 (a3 : Nat), .bool nt, .int .i64 l, .int .i64 m, .bool lz, .int .i64 t] 26)) h4
  rw [hc] at HC
  have hk := Cl.new w 26 [.int .i64 5, .int .u8 (b : Nat), .int .u64 (a0 : Nat), .int .u64 (a1 : Nat), .int .u64 (a2 : Nat), .int .u64 (a3 : Nat), .bool nt, .int .i64 l, .int .i64 m, .bool lz, .int .i64 t]
  have HE : Hid (tokB 5 b P nt l m lz t = [41]) := by show tokB 5 b P nt l m lz t = [41]; unfold tokB; rw [hc]; rfl
  unfold RetN at HC
  clear hc h4
  unfold tokI at *
  go_enter Tryd.func10, Tryd.ntmps10
  go_wp2_with (first | (go_at_call 8; refine HC.mono ?_; rintro e w1 ⟨rfl, hb⟩; obtain ⟨x0, x1, x2, x3, x4, x5, x6, x7, x8, x9, x10⟩ := (hk.below hb).eleven.1))
  go_ret
  exact ⟨by rw [HE.out]; rfl, hB.trans (hb.mono hB.size)⟩
set_option maxRecDepth 20000 in
set_option maxHeartbeats 1000000 in
theorem text_6 (h4 : C4 P a0 a1 a2 a3) (hc : chk 6 b P nt l m lz t = true) : Calls Tryd.prog 10 #[tokI 6 b a0 a1 a2 a3 nt l m lz t] w (RetS w (tokB 6 b P nt l m lz t)) := by
  have hB : Below w.heap.size w (w.alloc (.cells #[.int .i64 6, .int .u8 (b : Nat), .int .u64 (a0 : Nat), .int .u64 (a1 : Nat), .int .u64 (a2 : Nat), .int .u64 (a3 : Nat), .bool nt, .int .i64 l, .int .i64 m, .bool lz, .int .i64 t] 26)) := (Below.refl _ _).alloc (Nat.le_refl _) _
  have HC := check_all 6 b a0 a1 a2 a3 nt l m lz t (w.alloc (.cells #[.int .i64 6, .int .u8 (b : Nat), .int .u64 (a0 : Nat), .int .u64 (a1 : Nat), .int .u64 (a2 : Nat), .int .u64 (a3 : Nat), .bool nt, .int .i64 l, .int .i64 m, .bool lz, .int .i64 t] 26)) h4
  rw [hc] at HC
  have hk := Cl.new w 26 [.int .i64 6, .int .u8 (b : Nat), .int .u64 (a0 : Nat), .int .u64 (a1 : Nat), .int .u64 (a2 : Nat), .int .u64 (a3 : Nat), .bool nt, .int .i64 l, .int .i64 m, .bool lz, .int .i64 t]
  have HE : Hid (tokB 6 b P nt l m lz t = [124]) := by show tokB 6 b P nt l m lz t = [124]; unfold tokB; rw [hc]; rfl
  unfold RetN at HC
  clear hc h4
  unfold tokI at *
  go_enter Tryd.func10, Tryd.ntmps10
  go_wp2_with (first | (go_at_call 8; refine HC.mono ?_; rintro e w1 ⟨rfl, hb⟩; obtain ⟨x0, x1, x2, x3, x4, x5, x6, x7, x8, x9, x10⟩ := (hk.below hb).eleven.1))
  go_ret
  exact ⟨by rw [HE.out]; rfl, hB.trans (hb.mono hB.size)⟩
set_option maxRecDepth 20000 in
set_option maxHeartbeats 1000000 in
theorem text_8 (h4 : C4 P a0 a1 a2 a3) (hc : chk 8 b P nt l m lz t = true) : Calls Tryd.prog 10 #[tokI 8 b a0 a1 a2 a3 nt l m lz t] w (RetS w (tokB 8 b P nt l m lz t)) := by
  have hB : Below w.heap.size w (w.alloc (.cells #[.int .i64 8, .int .u8 (b : Nat), .int .u64 (a0 : Nat), .int .u64 (a1 : Nat), .int .u64 (a2 : Nat), .int .u64 (a3 : Nat), .bool nt, .int .i64 l, .int .i64 m, .bool lz, .int .i64 t] 26)) := (Below.refl _ _).alloc (Nat.le_refl _) _
  have HC := check_all 8 b a0 a1 a2 a3 nt l m lz t (w.alloc (.cells #[.int .i64 8, .int .u8 (b : Nat), .int .u64 (a0 : Nat), .int .u64 (a1 : Nat), .int .u64 (a2 : Nat), .int .u64 (a3 : Nat), .bool nt, .int .i64 l, .int .i64 m, .bool lz, .int .i64 t] 26)) h4
  rw [hc] at HC
  have hk := Cl.new w 26 [.int .i64 8, .int .u8 (b : Nat), .int .u64 (a0 : Nat), .int .u64 (a1 : Nat), .int .u64 (a2 : Nat), .int .u64 (a3 : Nat), .bool nt, .int .i64 l, .int .i64 m, .bool lz, .int .i64 t]
  have HE : Hid (tokB 8 b P nt l m lz t = [94]) := by show tokB 8 b P nt l m lz t = [94]; unfold tokB; rw [hc]; rfl
  unfold RetN at HC
  clear hc h4
  unfold tokI at *
  go_enter Tryd.func10, Tryd.ntmps10
  go_wp2_with (first | (go_at_call 8; refine HC.mono ?_; rintro e w1 ⟨rfl, hb⟩; obtain ⟨x0, x1, x2, x3, x4, x5, x6, x7, x8, x9, x10⟩ := (hk.below hb).eleven.1))
  go_ret
  exact ⟨by rw [HE.out]; rfl, hB.trans (hb.mono hB.size)⟩
set_option maxRecDepth 20000 in
set_option maxHeartbeats 1000000 in
theorem text_9 (h4 : C4 P a0 a1 a2 a3) (hc : chk 9 b P nt l m lz t = true) : Calls Tryd.prog 10 #[tokI 9 b a0 a1 a2 a3 nt l m lz t] w (RetS w (tokB 9 b P nt l m lz t)) := by
  have hB : Below w.heap.size w (w.alloc (.cells #[.int .i64 9, .int .u8 (b : Nat), .int .u64 (a0 : Nat), .int .u64 (a1 : Nat), .int .u64 (a2 : Nat), .int .u64 (a3 : Nat), .bool nt, .int .i64 l, .int .i64 m, .bool lz, .int .i64 t] 26)) := (Below.refl _ _).alloc (Nat.le_refl _) _
  have HC := check_all 9 b a0 a1 a2 a3 nt l m lz t (w.alloc (.cells #[.int .i64 9, .int .u8 (b : Nat), .int .u64 (a0 : Nat), .int .u64 (a1 : Nat), .int .u64 (a2 : Nat), .int .u64 (a3 : Nat), .bool nt, .int .i64 l, .int .i64 m, .bool lz, .int .i64 t] 26)) h4
  rw [hc] at HC
  have hk := Cl.new w 26 [.int .i64 9, .int .u8 (b : Nat), .int .u64 (a0 : Nat), .int .u64 (a1 : Nat), .int .u64 (a2 : Nat), .int .u64 (a3 : Nat), .bool nt, .int .i64 l, .int .i64 m, .bool lz, .int .i64 t]
  have HE : Hid (tokB 9 b P nt l m lz t = [36]) := by show tokB 9 b P nt l m lz t = [36]; unfold tokB; rw [hc]; rfl
  unfold RetN at HC
  clear hc h4
  unfold tokI at *
  go_enter Tryd.func10, Tryd.ntmps10
  go_wp2_with (first | (go_at_call 8; refine HC.mono ?_; rintro e w1 ⟨rfl, hb⟩; obtain ⟨x0, x1, x2, x3, x4, x5, x6, x7, x8, x9, x10⟩ := (hk.below hb).eleven.1))
  go_ret
  exact ⟨by rw [HE.out]; rfl, hB.trans (hb.mono hB.size)⟩
set_option maxRecDepth 20000 in
set_option maxHeartbeats 1000000 in
theorem text_1 (hb8 : b < 256) (h4 : C4 P a0 a1 a2 a3) (hc : chk 1 b P nt l m lz t = true) : Calls Tryd.prog 10 #[tokI 1 b a0 a1 a2 a3 nt l m lz t] w (RetS w (tokB 1 b P nt l m lz t)) := by
  have hB : Below w.heap.size w (w.alloc (.cells #[.int .i64 1, .int .u8 (b : Nat), .int .u64 (a0 : Nat), .int .u64 (a1 : Nat), .int .u64 (a2 : Nat), .int .u64 (a3 : Nat), .bool nt, .int .i64 l, .int .i64 m, .bool lz, .int .i64 t] 26)) := (Below.refl _ _).alloc (Nat.le_refl _) _
  have HC := check_all 1 b a0 a1 a2 a3 nt l m lz t (w.alloc (.cells #[.int .i64 1, .int .u8 (b : Nat), .int .u64 (a0 : Nat), .int .u64 (a1 : Nat), .int .u64 (a2 : Nat), .int .u64 (a3 : Nat), .bool nt, .int .i64 l, .int .i64 m, .bool lz, .int .i64 t] 26)) h4
  rw [hc] at HC
  have hk := Cl.new w 26 [.int .i64 1, .int .u8 (b : Nat), .int .u64 (a0 : Nat), .int .u64 (a1 : Nat), .int .u64 (a2 : Nat), .int .u64 (a3 : Nat), .bool nt, .int .i64 l, .int .i64 m, .bool lz, .int .i64 t]
  have HL := fun W => literal_any b W hb8
  unfold RetS at HL
  have HE : Hid (tokB 1 b P nt l m lz t = litB b) := by show tokB 1 b P nt l m lz t = litB b; unfold tokB; rw [hc]; rfl
  unfold RetN at HC
  clear hc h4
  unfold tokI at *
  go_enter Tryd.func10, Tryd.ntmps10
  go_wp2_with (first | (go_at_call 8; refine HC.mono ?_; rintro e w1 ⟨rfl, hb⟩; obtain ⟨x0, x1, x2, x3, x4, x5, x6, x7, x8, x9, x10⟩ := (hk.below hb).eleven.1) | (go_at_call 22; refine (HL _).mono ?_; rintro e w2 ⟨rfl, hb2⟩))
  go_ret
  exact ⟨by rw [HE.out]; rfl, hB.trans ((hb.trans (hb2.mono hb.size)).mono hB.size)⟩
set_option maxRecDepth 20000 in
set_option maxHeartbeats 1000000 in
theorem text_2 (hT : Tab w) {q : Nat} (hq : q < 256) (hPq : P q = true) (h4 : C4 P a0 a1 a2 a3) (hc : chk 2 b P nt l m lz t = true) : Calls Tryd.prog 10 #[tokI 2 b a0 a1 a2 a3 nt l m lz t] w (RetS w (tokB 2 b P nt l m lz t)) := by
  have hB : Below w.heap.size w (w.alloc (.cells #[.int .i64 2, .int .u8 (b : Nat), .int .u64 (a0 : Nat), .int .u64 (a1 : Nat), .int .u64 (a2 : Nat), .int .u64 (a3 : Nat), .bool nt, .int .i64 l, .int .i64 m, .bool lz, .int .i64 t] 26)) := (Below.refl _ _).alloc (Nat.le_refl _) _
  have HC := check_all 2 b a0 a1 a2 a3 nt l m lz t (w.alloc (.cells #[.int .i64 2, .int .u8 (b : Nat), .int .u64 (a0 : Nat), .int .u64 (a1 : Nat), .int .u64 (a2 : Nat), .int .u64 (a3 : Nat), .bool nt, .int .i64 l, .int .i64 m, .bool lz, .int .i64 t] 26)) h4
  rw [hc] at HC
  have hk := Cl.new w 26 [.int .i64 2, .int .u8 (b : Nat), .int .u64 (a0 : Nat), .int .u64 (a1 : Nat), .int .u64 (a2 : Nat), .int .u64 (a3 : Nat), .bool nt, .int .i64 l, .int .i64 m, .bool lz, .int .i64 t]
  have HL : ∀ W, Below w.heap.size w W → _ := fun W hW => classText_c h4 nt W (hT.below hW) hq hPq
  unfold RetS at HL
  have HE : Hid (tokB 2 b P nt l m lz t = clsB P nt) := by show tokB 2 b P nt l m lz t = clsB P nt; unfold tokB; rw [hc]; rfl
  unfold RetN at HC
  clear hc h4
  unfold tokI at *
  go_enter Tryd.func10, Tryd.ntmps10
  go_wp2_with (first | (go_at_call 8; refine HC.mono ?_; rintro e w1 ⟨rfl, hb⟩; obtain ⟨x0, x1, x2, x3, x4, x5, x6, x7, x8, x9, x10⟩ := (hk.below hb).eleven.1) | (go_at_call 23; refine (HL _ (hB.trans (hb.mono hB.size))).mono ?_; rintro e w2 ⟨rfl, hb2⟩))
  go_ret
  exact ⟨by rw [HE.out]; rfl, hB.trans ((hb.trans (hb2.mono hb.size)).mono hB.size)⟩
set_option maxRecDepth 20000 in
set_option maxHeartbeats 1000000 in
theorem text_7 (hT : Pow w) (n : Nat) (hn : n ≤ 1000) (hln : l = n) (hm : m = -1 ∨ ((n : Int) ≤ m ∧ m ≤ 1000)) (h4 : C4 P a0 a1 a2 a3) (hc : chk 7 b P nt l m lz t = true) : Calls Tryd.prog 10 #[tokI 7 b a0 a1 a2 a3 nt l m lz t] w (RetS w (tokB 7 b P nt l m lz t)) := by
  have hB : Below w.heap.size w (w.alloc (.cells #[.int .i64 7, .int .u8 (b : Nat), .int .u64 (a0 : Nat), .int .u64 (a1 : Nat), .int .u64 (a2 : Nat), .int .u64 (a3 : Nat), .bool nt, .int .i64 l, .int .i64 m, .bool lz, .int .i64 t] 26)) := (Below.refl _ _).alloc (Nat.le_refl _) _
  have HC := check_all 7 b a0 a1 a2 a3 nt l m lz t (w.alloc (.cells #[.int .i64 7, .int .u8 (b : Nat), .int .u64 (a0 : Nat), .int .u64 (a1 : Nat), .int .u64 (a2 : Nat), .int .u64 (a3 : Nat), .bool nt, .int .i64 l, .int .i64 m, .bool lz, .int .i64 t] 26)) h4
  rw [hc] at HC
  have hk := Cl.new w 26 [.int .i64 7, .int .u8 (b : Nat), .int .u64 (a0 : Nat), .int .u64 (a1 : Nat), .int .u64 (a2 : Nat), .int .u64 (a3 : Nat), .bool nt, .int .i64 l, .int .i64 m, .bool lz, .int .i64 t]
  have HL : ∀ W, Below w.heap.size w W → _ := fun W hW => repeatText_any 7 b a0 a1 a2 a3 nt n m lz t hn hm W (hT.below hW)
  unfold RetS tokI at HL
  rw [← hln] at HL
  rw [show repB n m lz = repB l.toNat m lz by rw [hln]; rfl] at HL
  have HE : Hid (tokB 7 b P nt l m lz t = repB l.toNat m lz) := by show tokB 7 b P nt l m lz t = repB l.toNat m lz; unfold tokB; rw [hc]; rfl
  unfold RetN at HC
  clear hc h4 hln hm
  unfold tokI at *
  go_enter Tryd.func10, Tryd.ntmps10
  go_wp2_with (first | (go_at_call 8; refine HC.mono ?_; rintro e w1 ⟨rfl, hb⟩; obtain ⟨x0, x1, x2, x3, x4, x5, x6, x7, x8, x9, x10⟩ := (hk.below hb).eleven.1) | (go_at_call 24; refine (HL _ (hB.trans (hb.mono hB.size))).mono ?_; rintro e w2 ⟨rfl, hb2⟩))
  go_ret
  exact ⟨by rw [HE.out]; rfl, hB.trans ((hb.trans (hb2.mono hb.size)).mono hB.size)⟩
end
end Go.Proofs.YtkbeiadbolihiaaDoor
namespace Go.Proofs.YtkbeiadbolihiaaDoor
open Go.RowKit Go.Shelf
theorem conv_dig (w : World) (x : Nat) : (convert 34 9 (.slice (some ⟨w.heap.size, 0, none⟩) 1 1)).run Tryd.prog (w.alloc (.cells #[.int .u8 (x : Nat)] 5)) = .ok (.string ⟨#[x.toUInt8]⟩) (w.alloc (.cells #[.int .u8 (x : Nat)] 5)) := by
  rw [run_convert_bytes_arg _ 34 5 Tryd.underlying34 Tryd.underlying5 w.heap.size 0 1 1 [(x : Int)] rfl (fun i hi => ?_) 9 Tryd.underlying9]
  · congr 2
  · obtain rfl : i = 0 := by omega
    exact (Cl.new w 5 [.int .u8 (x : Nat)]).cell 0 rfl
theorem dec_small (n : Nat) (h : n < 10) : Lib.decDigits n = [(48 + n).toUInt8] := by
  rw [Lib.decDigits, dif_pos h]
theorem dec_more (n : Nat) (h : ¬ n < 10) : Lib.decDigits n = Lib.decDigits (n / 10) ++ [(48 + n % 10).toUInt8] := by
  rw [Lib.decDigits, dif_neg h]
/-- What num has written, and what is left. -/
structure NuI (w : World) (N n : Nat) (S : List UInt8) (wr : World) : Prop where
  le : n ≤ 1000
  all : (S = [] ∧ n = N) ∨ (S ≠ [] ∧ (n = 0 → Lib.decDigits N = S) ∧ (0 < n → Lib.decDigits N = Lib.decDigits n ++ S))
  bel : Below w.heap.size w wr
theorem NuI.next {w wr : World} {N n : Nat} {S : List UInt8} (h : NuI w N n S wr) (hgo : 0 < n ∨ S = []) {wr' : World} (hb : Below w.heap.size w wr') : NuI w N (n / 10) ((48 + n % 10).toUInt8 :: S) wr' := by
  refine ⟨by have := h.le; omega, .inr ⟨by simp, fun h0 => ?_, fun h0 => ?_⟩, hb⟩
  · have hn : n < 10 := by omega
    have e := dec_small n hn
    rw [show n % 10 = n by omega]
    rcases h.all with ⟨rfl, rfl⟩ | ⟨hS, h1, h2⟩
    · exact e
    · rcases hgo with hg | hg
      · rw [h2 hg, e]; rfl
      · exact absurd hg hS
  · have hn : ¬ n < 10 := by omega
    have e := dec_more n hn
    rcases h.all with ⟨rfl, rfl⟩ | ⟨hS, h1, h2⟩
    · exact e
    · rw [h2 (by omega), e, List.append_assoc]; rfl
theorem NuI.len {w wr : World} {N n : Nat} {S : List UInt8} (h : NuI w N n S wr) (hN : N ≤ 1000) : S.length ≤ 4 := by
  have hd := dec_len N hN
  rcases h.all with ⟨rfl, _⟩ | ⟨hS, h1, h2⟩
  · simp
  · by_cases h0 : n = 0
    · rw [← h1 h0]; exact hd
    · have := h2 (by omega)
      rw [this, List.length_append] at hd
      omega
/-- One for a text of no bytes. -/
def emp : Value → Nat
  | .string s => if s.size = 0 then 1 else 0
  | _ => 0
set_option maxRecDepth 20000 in
set_option maxHeartbeats 2000000 in
theorem num_any (N : Nat) (hN : N ≤ 1000) (w : World) : Calls Tryd.prog 45 #[.int .i64 (N : Nat)] w (RetS w (Lib.decDigits N)) := by
  have hI0 : NuI w N N [] w := ⟨hN, .inl ⟨rfl, rfl⟩, Below.refl _ _⟩
  go_enter Tryd.func45, Tryd.ntmps45
  go_wp2
  go_loopw [0, 3] (fun i u wr => ∃ (n : Nat) (S : List UInt8), i = .int .i64 (n : Nat) ∧ u = .string ⟨S.toArray⟩ ∧ NuI w N n S wr) (fun i u _ => (intOf i).toNat + emp u)
  case atStart => exact ⟨N, [], rfl, rfl, hI0⟩
  case round =>
    obtain ⟨n, S, rfl, rfl, hI⟩ := hrel
    clear hI0
    have hlen := hI.len hN
    have hle := hI.le
    have ex : ((48 + n % 10 : Nat) : Int) = 48 + (n : Int) % 10 := by omega
    have hc1 : ∀ W : World, (convert 34 9 (.slice (some ⟨W.heap.size, 0, none⟩) 1 1)).run Tryd.prog (W.alloc (.cells #[.int .u8 (48 + (n : Int) % 10)] 5)) = .ok (.string ⟨#[(48 + n % 10).toUInt8]⟩) (W.alloc (.cells #[.int .u8 (48 + (n : Int) % 10)] 5)) := fun W => by
      rw [← ex]; exact conv_dig W (48 + n % 10)
    have hs1 : (⟨#[(48 + n % 10).toUInt8]⟩ : ByteArray).size = 1 := rfl
    obtain ⟨U, hU⟩ : ∃ U : ByteArray, U = ⟨S.toArray⟩ := ⟨_, rfl⟩
    have hsz : U.size ≤ 4 := by rw [hU, size_str]; exact hlen
    have hst : Hid ((⟨#[(48 + n % 10).toUInt8]⟩ : ByteArray) ++ U = ⟨((48 + n % 10).toUInt8 :: S).toArray⟩) := by
      show (⟨#[(48 + n % 10).toUInt8]⟩ : ByteArray) ++ U = ⟨((48 + n % 10).toUInt8 :: S).toArray⟩
      rw [hU]; exact str_app [(48 + n % 10).toUInt8] S
    have HQ : Hid ((n : Int) / 10 = ((n / 10 : Nat) : Int)) := by show (n : Int) / 10 = ((n / 10 : Nat) : Int); omega
    have HB : Hid (Below w.heap.size w (wr.alloc (.cells #[.int .u8 (48 + (n : Int) % 10)] 5))) := hI.bel.alloc hI.bel.size _
    have HN : Hid (∀ wr', (0 < n ∨ S = []) → Below w.heap.size w wr' → NuI w N (n / 10) ((48 + n % 10).toUInt8 :: S) wr') := fun wr' hgo hb => hI.next hgo hb
    have HF : Hid (n = 0 → S ≠ [] → RetS w (Lib.decDigits N) (.returned (.string ⟨S.toArray⟩)) wr) := fun h0 hS => by
      rcases hI.all with ⟨h1, _⟩ | ⟨_, h1, _⟩
      · exact absurd h1 hS
      · rw [h1 h0]; exact ⟨rfl, hI.bel⟩
    have hem : Hid (emp (.string ⟨((48 + n % 10).toUInt8 :: S).toArray⟩) = 0) := by
      show (if (⟨((48 + n % 10).toUInt8 :: S).toArray⟩ : ByteArray).size = 0 then 1 else 0) = 0
      rw [size_str, if_neg (by simp)]
    have hem0 : Hid (S = [] → emp (.string ⟨S.toArray⟩) = 1) := fun h => by subst h; rfl
    clear ex hlen hI
    generalize (48 + n % 10).toUInt8 = x at *
    obtain ⟨X, hX⟩ : ∃ X : ByteArray, X = ⟨#[x]⟩ := ⟨_, rfl⟩
    rw [← hX] at hc1 hs1 hst
    by_cases h0 : 0 < n
    · have hgt : (n : Int) > 0 := by omega
      rw [← hU]
      clear hX hU
      go_wp2
      go_roundw
      case rel => exact ⟨n / 10, x :: S, by rw [HQ.out], by rw [hst.out], HN.out _ (.inl h0) HB.out⟩
      case measure =>
        rw [hst.out, hem.out]
        simp [intOf]
        omega
    · obtain rfl : n = 0 := by omega
      cases S with
      | nil =>
        obtain rfl : U = ⟨#[]⟩ := hU
        have hs0 : (⟨#[]⟩ : ByteArray).size = 0 := rfl
        have hc2 : ∀ W : World, (convert 34 9 (.slice (some ⟨W.heap.size, 0, none⟩) 1 1)).run Tryd.prog (W.alloc (.cells #[.int .u8 48] 5)) = .ok (.string X) (W.alloc (.cells #[.int .u8 48] 5)) := hc1
        clear hX hc1
        go_wp2
        go_roundw
        case rel => exact ⟨0, [x], rfl, by rw [hst.out], HN.out _ (.inr rfl) HB.out⟩
        case measure =>
          rw [hst.out, hem.out]
          decide
      | cons y S =>
        have hne : (U.toList == ([] : List UInt8)) = false := by
          rw [hU]
          simp [ByteArray.toList_eq]
        rw [← hU]
        have HF2 := HF.out rfl (by simp)
        rw [← hU] at HF2
        have HF3 : Hid (RetS w (Lib.decDigits N) (.returned (.string U)) wr) := HF2
        clear hU HF2 HF hX
        go_wp2
        go_ret
        exact HF3.out
end Go.Proofs.YtkbeiadbolihiaaDoor
