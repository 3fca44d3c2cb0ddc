/- The reference of token: escape: the other walks. The reference of token: escape and repeat as a whole. The reference of token: unit, and the class of a unit. The reference of token: classOf: the walk. -/
import Derived.Test.YtlmmiicibjfcdaaQ35
import Derived.Test.YtlmmiicibjfcdaaQ33
import Derived.Test.YtlmmiicibjfcdaaQ09
namespace Go.Proofs.Ytlmmiicibjfcdaa.X
open Go.RowKit
theorem conv35 (x : Int) (h : 0 ≤ x ∧ x < 256) (W : World) : (convert 3 5 (.int .i64 x)).run Try.prog W = .ok (.int .u8 x) W := by
  have hk : Try.prog.intKind 5 = .u8 := by kernel_rfl
  rw [run_convert_int W 3 5 .i64 _ (by rw [Try.underlying3]; rfl) (by rw [hk]; exact Try.underlying5), hk, show IntKind.u8.wrap x = x from IntWalk.u8_in x (by omega)]
set_option maxRecDepth 20000 in
set_option maxHeartbeats 2000000 in
theorem re_x0 (bb off n cap at_ : Nat) (z : Nat → Nat) (w : World) (hr : Rd w (some ⟨bb, off, none⟩) n z) (hn : (n : Int) ≤ 1024) (h1 : at_ + 1 < n) (hq : z (at_ + 1) = 120) (h3 : ¬ at_ + 3 < n) : Calls Try.prog 89 #[.slice (some ⟨bb, off, none⟩) n cap, .int .i64 (at_ : Nat)] w (RetP w (tokV 0 0 0 0 0 0 false 0 0 false 0) 0) := by
  have t0 := cell1 hr (at_ + 1) h1
  have i1 : (at_ : Int) + 1 < (n : Int) := by omega
  have i2 : ¬ ((at_ : Int) + 1 ≥ (n : Int)) := by omega
  rw [hq] at t0
  have i3 : ¬ ((at_ : Int) + 3 < (n : Int)) := by omega
  clear hr hq
  go_enter Try.func89, Try.ntmps89
  go_wp2
  exact bodyPost_ret (v := .tuple #[tokV 0 0 0 0 0 0 false 0 0 false 0, .int .i64 0]) (by simp [results, Try.results89, go_sem, tokV]) rfl ⟨rfl, bel1 _ _⟩
set_option maxRecDepth 20000 in
set_option maxHeartbeats 2000000 in
theorem re_x1 (bb off n cap at_ : Nat) (z : Nat → Nat) (w : World) (hr : Rd w (some ⟨bb, off, none⟩) n z) (hn : (n : Int) ≤ 1024) (h1 : at_ + 1 < n) (hq : z (at_ + 1) = 120) (h3 : at_ + 3 < n) (hh : hexR (z (at_ + 2)) < 0) : Calls Try.prog 89 #[.slice (some ⟨bb, off, none⟩) n cap, .int .i64 (at_ : Nat)] w (RetP w (tokV 0 0 0 0 0 0 false 0 0 false 0) 0) := by
  have t0 := cell1 hr (at_ + 1) h1
  have i1 : (at_ : Int) + 1 < (n : Int) := by omega
  have i2 : ¬ ((at_ : Int) + 1 ≥ (n : Int)) := by omega
  have t2 := cell1 hr (at_ + 2) (by omega)
  have t3 := cell1 hr (at_ + 3) h3
  have s2 := hr.small (at_ + 2) (by omega)
  have s3 := hr.small (at_ + 3) h3
  have i3 : (at_ : Int) + 3 < (n : Int) := by omega
  have i4 : (at_ : Int) + 2 < (n : Int) := by omega
  rw [hq] at t0
  have HX : Hid (∀ W, Calls Try.prog 107 #[.int .u8 (z (at_ + 2) : Nat)] W fun e w' => e = .returned (.int .i64 (hexR (z (at_ + 2)))) ∧ w' = W) := fun W => rhex_any _ W s2
  have hh2 : ¬ (hexR (z (at_ + 2)) ≥ 0) := by omega
  clear hr hq hh s2 s3 t3
  generalize hexR (z (at_ + 2)) = d1 at *
  generalize z (at_ + 2) = q1 at *
  go_enter Try.func89, Try.ntmps89
  go_wp2_with fail
  refine (HX.out _).mono ?_
  rintro e w1 ⟨rfl, rfl⟩
  go_wp2
  exact bodyPost_ret (v := .tuple #[tokV 0 0 0 0 0 0 false 0 0 false 0, .int .i64 0]) (by simp [results, Try.results89, go_sem, tokV]) rfl ⟨rfl, bel1 _ _⟩
set_option maxRecDepth 20000 in
set_option maxHeartbeats 2000000 in
theorem re_x2 (bb off n cap at_ : Nat) (z : Nat → Nat) (w : World) (hr : Rd w (some ⟨bb, off, none⟩) n z) (hn : (n : Int) ≤ 1024) (h1 : at_ + 1 < n) (hq : z (at_ + 1) = 120) (h3 : at_ + 3 < n) (hg : 0 ≤ hexR (z (at_ + 2))) (hh : hexR (z (at_ + 3)) < 0) : Calls Try.prog 89 #[.slice (some ⟨bb, off, none⟩) n cap, .int .i64 (at_ : Nat)] w (RetP w (tokV 0 0 0 0 0 0 false 0 0 false 0) 0) := by
  have t0 := cell1 hr (at_ + 1) h1
  have i1 : (at_ : Int) + 1 < (n : Int) := by omega
  have i2 : ¬ ((at_ : Int) + 1 ≥ (n : Int)) := by omega
  have t2 := cell1 hr (at_ + 2) (by omega)
  have t3 := cell1 hr (at_ + 3) h3
  have s2 := hr.small (at_ + 2) (by omega)
  have s3 := hr.small (at_ + 3) h3
  have i3 : (at_ : Int) + 3 < (n : Int) := by omega
  have i4 : (at_ : Int) + 2 < (n : Int) := by omega
  rw [hq] at t0
  have HX : Hid (∀ W, Calls Try.prog 107 #[.int .u8 (z (at_ + 2) : Nat)] W fun e w' => e = .returned (.int .i64 (hexR (z (at_ + 2)))) ∧ w' = W) := fun W => rhex_any _ W s2
  have HY : Hid (∀ W, Calls Try.prog 107 #[.int .u8 (z (at_ + 3) : Nat)] W fun e w' => e = .returned (.int .i64 (hexR (z (at_ + 3)))) ∧ w' = W) := fun W => rhex_any _ W s3
  have hh2 : ¬ (hexR (z (at_ + 3)) ≥ 0) := by omega
  have hg2 : hexR (z (at_ + 2)) ≥ 0 := hg
  clear hr hq hh hg s2 s3
  generalize hexR (z (at_ + 2)) = d1 at *
  generalize hexR (z (at_ + 3)) = d2 at *
  generalize z (at_ + 2) = q1 at *
  generalize z (at_ + 3) = q2 at *
  go_enter Try.func89, Try.ntmps89
  go_wp2_with fail
  refine (HX.out _).mono ?_
  rintro e w1 ⟨rfl, rfl⟩
  go_wp2_with fail
  refine (HY.out _).mono ?_
  rintro e w1 ⟨rfl, rfl⟩
  go_wp2
  exact bodyPost_ret (v := .tuple #[tokV 0 0 0 0 0 0 false 0 0 false 0, .int .i64 0]) (by simp [results, Try.results89, go_sem, tokV]) rfl ⟨rfl, bel1 _ _⟩
set_option maxRecDepth 20000 in
set_option maxHeartbeats 2000000 in
theorem re_x3 (bb off n cap at_ : Nat) (z : Nat → Nat) (w : World) (hr : Rd w (some ⟨bb, off, none⟩) n z) (hn : (n : Int) ≤ 1024) (h1 : at_ + 1 < n) (hq : z (at_ + 1) = 120) (h3 : at_ + 3 < n) (hg : 0 ≤ hexR (z (at_ + 2)) ∧ hexR (z (at_ + 2)) ≤ 15) (hh : 0 ≤ hexR (z (at_ + 3)) ∧ hexR (z (at_ + 3)) ≤ 15) (b : Nat) (hb : 16 * hexR (z (at_ + 2)) + hexR (z (at_ + 3)) = (b : Int)) : Calls Try.prog 89 #[.slice (some ⟨bb, off, none⟩) n cap, .int .i64 (at_ : Nat)] w (RetP w (tokV 1 b 0 0 0 0 false 0 0 false 0) ((at_ : Int) + 4)) := by
  have t0 := cell1 hr (at_ + 1) h1
  have i1 : (at_ : Int) + 1 < (n : Int) := by omega
  have i2 : ¬ ((at_ : Int) + 1 ≥ (n : Int)) := by omega
  have t2 := cell1 hr (at_ + 2) (by omega)
  have t3 := cell1 hr (at_ + 3) h3
  have s2 := hr.small (at_ + 2) (by omega)
  have s3 := hr.small (at_ + 3) h3
  have i3 : (at_ : Int) + 3 < (n : Int) := by omega
  have i4 : (at_ : Int) + 2 < (n : Int) := by omega
  rw [hq] at t0
  have HX : Hid (∀ W, Calls Try.prog 107 #[.int .u8 (z (at_ + 2) : Nat)] W fun e w' => e = .returned (.int .i64 (hexR (z (at_ + 2)))) ∧ w' = W) := fun W => rhex_any _ W s2
  have HY : Hid (∀ W, Calls Try.prog 107 #[.int .u8 (z (at_ + 3) : Nat)] W fun e w' => e = .returned (.int .i64 (hexR (z (at_ + 3)))) ∧ w' = W) := fun W => rhex_any _ W s3
  have hcv := conv35 (16 * hexR (z (at_ + 2)) + hexR (z (at_ + 3))) (by omega)
  have HB : Hid (∀ W, Calls Try.prog 92 #[.int .u8 (16 * hexR (z (at_ + 2)) + hexR (z (at_ + 3)))] W fun e w' => e = .returned (.agg #[.int .i64 1, .int .u8 (b : Nat), .int .u64 0, .int .u64 0, .int .u64 0, .int .u64 0, .bool false, .int .i64 0, .int .i64 0, .bool false, .int .i64 0]) ∧ Below W.heap.size W w') := fun W => by
    rw [hb]
    exact aByte_v b W
  have hg1 : hexR (z (at_ + 2)) ≥ 0 := hg.1
  have hh1 : hexR (z (at_ + 3)) ≥ 0 := hh.1
  have hg2 : hexR (z (at_ + 2)) ≤ 15 := hg.2
  have hh2 : hexR (z (at_ + 3)) ≤ 15 := hh.2
  have k0 := fl0 w
  have hB0 : Below w.heap.size w (w.alloc (.cells #[.int .i64 0, .int .u8 0, .int .u64 0, .int .u64 0, .int .u64 0, .int .u64 0, .bool false, .int .i64 0, .int .i64 0, .bool false, .int .i64 0] 42)) := bel1 w _
  have hbl : bb < (w.alloc (.cells #[.int .i64 0, .int .u8 0, .int .u64 0, .int .u64 0, .int .u64 0, .int .u64 0, .bool false, .int .i64 0, .int .i64 0, .bool false, .int .i64 0] 42)).heap.size := by
    obtain ⟨b', o', e', hl', _⟩ := hr.at_ (by omega)
    cases e'
    simp; omega
  replace t0 := t0 (.cells #[.int .i64 0, .int .u8 0, .int .u64 0, .int .u64 0, .int .u64 0, .int .u64 0, .bool false, .int .i64 0, .int .i64 0, .bool false, .int .i64 0] 42)
  replace t2 := t2 (.cells #[.int .i64 0, .int .u8 0, .int .u64 0, .int .u64 0, .int .u64 0, .int .u64 0, .bool false, .int .i64 0, .int .i64 0, .bool false, .int .i64 0] 42)
  replace t3 := t3 (.cells #[.int .i64 0, .int .u8 0, .int .u64 0, .int .u64 0, .int .u64 0, .int .u64 0, .bool false, .int .i64 0, .int .i64 0, .bool false, .int .i64 0] 42)
  have H42 : Hid (∀ q W, q < 256 → Calls Try.prog 107 #[.int .u8 (q : Nat)] W fun e w' => e = .returned (.int .i64 (hexR q)) ∧ w' = W) := fun q W h => rhex_any q W h
  clear hr hq hh hg hb
  generalize z (at_ + 2) = q1 at *
  generalize z (at_ + 3) = q2 at *
  go_enter Try.func89, Try.ntmps89
  go_wp2_with fail
  refine (HX.out _).mono ?_
  rintro e w1 ⟨rfl, rfl⟩
  go_wp2_with fail
  refine (HY.out _).mono ?_
  rintro e w1 ⟨rfl, rfl⟩
  go_wp2_with fail
  have HBl : Hid (Below w.heap.size w (w.alloc (.cells #[.int .i64 0, .int .u8 0, .int .u64 0, .int .u64 0, .int .u64 0, .int .u64 0, .bool false, .int .i64 0, .int .i64 0, .bool false, .int .i64 0] 42))) := hB0
  have HK0 : Hid (Cl (w.alloc (.cells #[.int .i64 0, .int .u8 0, .int .u64 0, .int .u64 0, .int .u64 0, .int .u64 0, .bool false, .int .i64 0, .int .i64 0, .bool false, .int .i64 0] 42)) w.heap.size 42 [.int .i64 0, .int .u8 0, .int .u64 0, .int .u64 0, .int .u64 0, .int .u64 0, .bool false, .int .i64 0, .int .i64 0, .bool false, .int .i64 0]) := k0
  have x2 : IntKind.i64.wrap ((at_ : Int) + 2) = (at_ : Int) + 2 := IntWalk.i64_in _ (by omega)
  have x3 : IntKind.i64.wrap ((at_ : Int) + 3) = (at_ : Int) + 3 := IntWalk.i64_in _ (by omega)
  have x4 : IntKind.i64.wrap ((at_ : Int) + 4) = (at_ : Int) + 4 := IntWalk.i64_in _ (by omega)
  have x5 : IntKind.i64.wrap (16 * hexR q1) = 16 * hexR q1 := IntWalk.i64_in _ (by omega)
  have x6 : IntKind.i64.wrap (16 * hexR q1 + hexR q2) = 16 * hexR q1 + hexR q2 := IntWalk.i64_in _ (by omega)
  have j2 : (0 : Int) ≤ (at_ : Int) + 2 := by omega
  have j3 : (0 : Int) ≤ (at_ : Int) + 3 := by omega
  rw [show off + (at_ + 2) = off + ((at_ : Int) + 2).toNat by omega] at t2
  rw [show off + (at_ + 3) = off + ((at_ : Int) + 3).toNat by omega] at t3
  clear t0 k0 hB0 H42 hbl i1 i2
  go_region_with (first | (go_at_call_of 107 (Value.int .u8 (q1 : Nat)); refine (HX.out _).mono ?_; rintro e w' ⟨rfl, rfl⟩) | (go_at_call_of 107 (Value.int .u8 (q2 : Nat)); refine (HY.out _).mono ?_; rintro e w' ⟨rfl, rfl⟩) | (
    go_at_call 92
    refine (HB.out _).mono ?_
    rintro e w1 ⟨rfl, hb⟩
    have k1 := HK0.out.drew.below hb
    have hB1 := HBl.out.drew.trans (hb.mono HBl.out.size)
    obtain ⟨⟨b0, b1, b2, b3, b4, b5, b6, b7, b8, b9, b10⟩, g0, g1, g2, g3, g4, g5, g6, g7, g8, g9, g10⟩ := k1.eleven
    have F := (k1.put11 (.int .i64 1) (.int .u8 (b : Nat)) (.int .u64 0) (.int .u64 0) (.int .u64 0) (.int .u64 0) (.bool false) (.int .i64 0) (.int .i64 0) (.bool false) (.int .i64 0)).eleven.1
    have hB4 := below_put11 (b := w.heap.size) hB1 (Nat.le_refl _) (.int .i64 1) (.int .u8 (b : Nat)) (.int .u64 0) (.int .u64 0) (.int .u64 0) (.int .u64 0) (.bool false) (.int .i64 0) (.int .i64 0) (.bool false) (.int .i64 0)
    simp only [put11] at F hB4
    obtain ⟨F0, F1, F2, F3, F4, F5, F6, F7, F8, F9, F10⟩ := F
    have HF : Hid (Below w.heap.size w _) := hB4
    clear hB4 k1 hB1 hb t2 t3))
  all_goals go_wp2
  all_goals exact bodyPost_ret (v := .tuple #[tokV 1 b 0 0 0 0 false 0 0 false 0, .int .i64 ((at_ : Int) + 4)]) (by simp [results, Try.results89, go_sem, tokV, F0, F1, F2, F3, F4, F5, F6, F7, F8, F9, F10]) rfl ⟨rfl, HF.out⟩
set_option maxRecDepth 20000 in
set_option maxHeartbeats 2000000 in
theorem re_let (bb off n cap at_ : Nat) (z : Nat → Nat) (w : World) (hr : Rd w (some ⟨bb, off, none⟩) n z) (hn : (n : Int) ≤ 1024) (h1 : at_ + 1 < n) (q : Nat) (hq : z (at_ + 1) = q) (hne : q ≠ 100 ∧ q ≠ 119 ∧ q ≠ 115 ∧ q ≠ 68 ∧ q ≠ 87 ∧ q ≠ 83 ∧ q ≠ 110 ∧ q ≠ 114 ∧ q ≠ 116 ∧ q ≠ 120) (hl : letP q = true) : Calls Try.prog 89 #[.slice (some ⟨bb, off, none⟩) n cap, .int .i64 (at_ : Nat)] w (RetP w (tokV 0 0 0 0 0 0 false 0 0 false 0) 0) := by
  have t0 := cell1 hr (at_ + 1) h1
  have i1 : (at_ : Int) + 1 < (n : Int) := by omega
  have i2 : ¬ ((at_ : Int) + 1 ≥ (n : Int)) := by omega
  rw [hq] at t0
  have e100 : ((q : Int) == 100) = false := by rw [beq_eq_false_iff_ne]; omega
  have e119 : ((q : Int) == 119) = false := by rw [beq_eq_false_iff_ne]; omega
  have e115 : ((q : Int) == 115) = false := by rw [beq_eq_false_iff_ne]; omega
  have e68 : ((q : Int) == 68) = false := by rw [beq_eq_false_iff_ne]; omega
  have e87 : ((q : Int) == 87) = false := by rw [beq_eq_false_iff_ne]; omega
  have e83 : ((q : Int) == 83) = false := by rw [beq_eq_false_iff_ne]; omega
  have e110 : ((q : Int) == 110) = false := by rw [beq_eq_false_iff_ne]; omega
  have e114 : ((q : Int) == 114) = false := by rw [beq_eq_false_iff_ne]; omega
  have e116 : ((q : Int) == 116) = false := by rw [beq_eq_false_iff_ne]; omega
  have e120 : ((q : Int) == 120) = false := by rw [beq_eq_false_iff_ne]; omega
  have hs : q < 256 := by rw [← hq]; exact hr.small _ h1
  have HL : Hid (∀ W, Calls Try.prog 108 #[.int .u8 (q : Nat)] W fun e w' => e = .returned (.bool (letP q)) ∧ w' = W) := fun W => rletter_b q W
  have HD : Hid (∀ W, Calls Try.prog 109 #[.int .u8 (q : Nat)] W fun e w' => e = .returned (.bool (digP q)) ∧ w' = W) := fun W => rdigit_b q W
  rw [hl] at HL
  clear hr hq hne hl HD hs
  go_enter Try.func89, Try.ntmps89
  go_wp2_with fail
  refine (HL.out _).mono ?_
  rintro e w1 ⟨rfl, rfl⟩
  go_wp2
  exact bodyPost_ret (v := .tuple #[tokV 0 0 0 0 0 0 false 0 0 false 0, .int .i64 0]) (by simp [results, Try.results89, go_sem, tokV]) rfl ⟨rfl, bel1 _ _⟩
set_option maxRecDepth 20000 in
set_option maxHeartbeats 2000000 in
theorem re_dig (bb off n cap at_ : Nat) (z : Nat → Nat) (w : World) (hr : Rd w (some ⟨bb, off, none⟩) n z) (hn : (n : Int) ≤ 1024) (h1 : at_ + 1 < n) (q : Nat) (hq : z (at_ + 1) = q) (hne : q ≠ 100 ∧ q ≠ 119 ∧ q ≠ 115 ∧ q ≠ 68 ∧ q ≠ 87 ∧ q ≠ 83 ∧ q ≠ 110 ∧ q ≠ 114 ∧ q ≠ 116 ∧ q ≠ 120) (hl : letP q = false) (hd : digP q = true) : Calls Try.prog 89 #[.slice (some ⟨bb, off, none⟩) n cap, .int .i64 (at_ : Nat)] w (RetP w (tokV 0 0 0 0 0 0 false 0 0 false 0) 0) := by
  have t0 := cell1 hr (at_ + 1) h1
  have i1 : (at_ : Int) + 1 < (n : Int) := by omega
  have i2 : ¬ ((at_ : Int) + 1 ≥ (n : Int)) := by omega
  rw [hq] at t0
  have e100 : ((q : Int) == 100) = false := by rw [beq_eq_false_iff_ne]; omega
  have e119 : ((q : Int) == 119) = false := by rw [beq_eq_false_iff_ne]; omega
  have e115 : ((q : Int) == 115) = false := by rw [beq_eq_false_iff_ne]; omega
  have e68 : ((q : Int) == 68) = false := by rw [beq_eq_false_iff_ne]; omega
  have e87 : ((q : Int) == 87) = false := by rw [beq_eq_false_iff_ne]; omega
  have e83 : ((q : Int) == 83) = false := by rw [beq_eq_false_iff_ne]; omega
  have e110 : ((q : Int) == 110) = false := by rw [beq_eq_false_iff_ne]; omega
  have e114 : ((q : Int) == 114) = false := by rw [beq_eq_false_iff_ne]; omega
  have e116 : ((q : Int) == 116) = false := by rw [beq_eq_false_iff_ne]; omega
  have e120 : ((q : Int) == 120) = false := by rw [beq_eq_false_iff_ne]; omega
  have hs : q < 256 := by rw [← hq]; exact hr.small _ h1
  have HL : Hid (∀ W, Calls Try.prog 108 #[.int .u8 (q : Nat)] W fun e w' => e = .returned (.bool (letP q)) ∧ w' = W) := fun W => rletter_b q W
  have HD : Hid (∀ W, Calls Try.prog 109 #[.int .u8 (q : Nat)] W fun e w' => e = .returned (.bool (digP q)) ∧ w' = W) := fun W => rdigit_b q W
  rw [hl] at HL
  rw [hd] at HD
  clear hr hq hne hl hd hs
  go_enter Try.func89, Try.ntmps89
  go_wp2_with fail
  refine (HL.out _).mono ?_
  rintro e w1 ⟨rfl, rfl⟩
  go_wp2_with fail
  refine (HD.out _).mono ?_
  rintro e w1 ⟨rfl, rfl⟩
  go_wp2
  exact bodyPost_ret (v := .tuple #[tokV 0 0 0 0 0 0 false 0 0 false 0, .int .i64 0]) (by simp [results, Try.results89, go_sem, tokV]) rfl ⟨rfl, bel1 _ _⟩
set_option maxRecDepth 20000 in
set_option maxHeartbeats 2000000 in
theorem re_plain (bb off n cap at_ : Nat) (z : Nat → Nat) (w : World) (hr : Rd w (some ⟨bb, off, none⟩) n z) (hn : (n : Int) ≤ 1024) (h1 : at_ + 1 < n) (q : Nat) (hq : z (at_ + 1) = q) (hne : q ≠ 100 ∧ q ≠ 119 ∧ q ≠ 115 ∧ q ≠ 68 ∧ q ≠ 87 ∧ q ≠ 83 ∧ q ≠ 110 ∧ q ≠ 114 ∧ q ≠ 116 ∧ q ≠ 120) (hl : letP q = false) (hd : digP q = false) : Calls Try.prog 89 #[.slice (some ⟨bb, off, none⟩) n cap, .int .i64 (at_ : Nat)] w (RetP w (tokV 1 q 0 0 0 0 false 0 0 false 0) ((at_ : Int) + 2)) := by
  have t0 := cell1 hr (at_ + 1) h1
  have i1 : (at_ : Int) + 1 < (n : Int) := by omega
  have i2 : ¬ ((at_ : Int) + 1 ≥ (n : Int)) := by omega
  rw [hq] at t0
  have e100 : ((q : Int) == 100) = false := by rw [beq_eq_false_iff_ne]; omega
  have e119 : ((q : Int) == 119) = false := by rw [beq_eq_false_iff_ne]; omega
  have e115 : ((q : Int) == 115) = false := by rw [beq_eq_false_iff_ne]; omega
  have e68 : ((q : Int) == 68) = false := by rw [beq_eq_false_iff_ne]; omega
  have e87 : ((q : Int) == 87) = false := by rw [beq_eq_false_iff_ne]; omega
  have e83 : ((q : Int) == 83) = false := by rw [beq_eq_false_iff_ne]; omega
  have e110 : ((q : Int) == 110) = false := by rw [beq_eq_false_iff_ne]; omega
  have e114 : ((q : Int) == 114) = false := by rw [beq_eq_false_iff_ne]; omega
  have e116 : ((q : Int) == 116) = false := by rw [beq_eq_false_iff_ne]; omega
  have e120 : ((q : Int) == 120) = false := by rw [beq_eq_false_iff_ne]; omega
  have hs : q < 256 := by rw [← hq]; exact hr.small _ h1
  have HL : Hid (∀ W, Calls Try.prog 108 #[.int .u8 (q : Nat)] W fun e w' => e = .returned (.bool (letP q)) ∧ w' = W) := fun W => rletter_b q W
  have HD : Hid (∀ W, Calls Try.prog 109 #[.int .u8 (q : Nat)] W fun e w' => e = .returned (.bool (digP q)) ∧ w' = W) := fun W => rdigit_b q W
  rw [hl] at HL
  rw [hd] at HD
  clear hr hq hne hl hd hs
  have HB : Hid (∀ W, Calls Try.prog 92 #[.int .u8 (q : Nat)] W fun e w' => e = .returned (.agg #[.int .i64 1, .int .u8 (q : Nat), .int .u64 0, .int .u64 0, .int .u64 0, .int .u64 0, .bool false, .int .i64 0, .int .i64 0, .bool false, .int .i64 0]) ∧ Below W.heap.size W w') := fun W => aByte_v q W
  have k0 := fl0 w
  have hB0 : Below w.heap.size w (w.alloc (.cells #[.int .i64 0, .int .u8 0, .int .u64 0, .int .u64 0, .int .u64 0, .int .u64 0, .bool false, .int .i64 0, .int .i64 0, .bool false, .int .i64 0] 42)) := bel1 w _
  go_enter Try.func89, Try.ntmps89
  go_wp2_with fail
  refine (HL.out _).mono ?_
  rintro e w1 ⟨rfl, rfl⟩
  go_wp2_with fail
  refine (HD.out _).mono ?_
  rintro e w1 ⟨rfl, rfl⟩
  go_wp2_with fail
  refine (HB.out _).mono ?_
  rintro e w1 ⟨rfl, hb⟩
  clear t0 HB HL HD
  have k1 := k0.below hb
  obtain ⟨⟨b0, b1, b2, b3, b4, b5, b6, b7, b8, b9, b10⟩, g0, g1, g2, g3, g4, g5, g6, g7, g8, g9, g10⟩ := k1.eleven
  have F := (k1.put11 (.int .i64 1) (.int .u8 (q : Nat)) (.int .u64 0) (.int .u64 0) (.int .u64 0) (.int .u64 0) (.bool false) (.int .i64 0) (.int .i64 0) (.bool false) (.int .i64 0)).eleven.1
  have hB4 := below_put11 (b := w.heap.size) (hB0.trans (hb.mono hB0.size)) (Nat.le_refl _) (.int .i64 1) (.int .u8 (q : Nat)) (.int .u64 0) (.int .u64 0) (.int .u64 0) (.int .u64 0) (.bool false) (.int .i64 0) (.int .i64 0) (.bool false) (.int .i64 0)
  simp only [put11] at F hB4
  obtain ⟨F0, F1, F2, F3, F4, F5, F6, F7, F8, F9, F10⟩ := F
  have HF : Hid (Below w.heap.size w _) := hB4
  clear hB4 k0 k1 hb hB0
  go_wp2
  exact bodyPost_ret (v := .tuple #[tokV 1 q 0 0 0 0 false 0 0 false 0, .int .i64 ((at_ : Int) + 2)]) (by simp [results, Try.results89, go_sem, tokV, F0, F1, F2, F3, F4, F5, F6, F7, F8, F9, F10]) rfl ⟨rfl, HF.out⟩
end Go.Proofs.Ytlmmiicibjfcdaa.X
namespace Go.Proofs.Ytlmmiicibjfcdaa.X
open Go.RowKit
/-- A token as the reference reads it: its place is 0. -/
def _root_.Go.Proofs.Ytlmmiicibjfcdaa.TokS.z (s : TokS) : TokS := { s with at_ := 0 }
/-- What the reference answers of a token and a place; 0: there is none. -/
def refR (s : TokS) : Value × Int := if s.er = 0 then (tokOf s.z, (s.en : Nat)) else (tokV 0 0 0 0 0 0 false 0 0 false 0, 0)
theorem refR_bad {s : TokS} (h : s.er ≠ 0) : refR s = (tokV 0 0 0 0 0 0 false 0 0 false 0, 0) := by unfold refR; rw [if_neg h]
theorem refR_sgn (k : Int) (b a e : Nat) : refR (.sgn k b a e) = (tokV k b 0 0 0 0 false 0 0 false 0, ((e : Nat) : Int)) := by
  unfold refR
  rw [if_pos (show (TokS.sgn k b a e).er = 0 from rfl), tokOf_none _ rfl]; rfl
theorem refR_cls (P : Nat → Bool) (nt : Bool) (a e : Nat) : refR (.cls P nt a e) = (tokV 2 0 (wds P 0) (wds P 1) (wds P 2) (wds P 3) nt 0 0 false 0, ((e : Nat) : Int)) := by
  unfold refR
  rw [if_pos (show (TokS.cls P nt a e).er = 0 from rfl)]; rfl
theorem refR_rep (l m : Int) (lz : Bool) (a e : Nat) : refR (.rep l m lz a e) = (tokV 7 0 0 0 0 0 false l m lz 0, ((e : Nat) : Int)) := by
  unfold refR
  rw [if_pos (show (TokS.rep l m lz a e).er = 0 from rfl), tokOf_none _ rfl]; rfl
theorem hex_or (d1 d2 : Nat) (h : d2 < 16) : d1 * 16 ||| d2 = 16 * d1 + d2 := by
  rw [Nat.mul_comm, show (16 : Nat) = 2 ^ 4 from rfl]
  exact (Nat.two_pow_add_eq_or_of_lt (i := 4) h d1).symm
theorem hexR_yes {b : Nat} (h : (hexP b).2 = true) : hexR b = ((hexP b).1 : Int) := by unfold hexR; rw [if_pos h]
theorem hexR_no {b : Nat} (h : (hexP b).2 = false) : hexR b = -1 := by unfold hexR; rw [h]; rfl
theorem rescape_any (ao : Option Addr) (n cap at_ : Nat) (z : Nat → Nat) (w : World) (hr : Rd w ao n z) (hn : (n : Int) ≤ 1024) (ha : at_ < n) : Calls Try.prog 89 #[.slice ao n cap, .int .i64 (at_ : Nat)] w (RetP w (refR (escS z n at_)).1 (refR (escS z n at_)).2) := by
  obtain ⟨bb, off, rfl, _, _⟩ := hr.at_ (by omega)
  unfold escS
  by_cases h0 : n < at_ + 2
  · rw [if_pos h0, refR_bad (by simp [TokS.bad])]
    exact re_short bb off n cap at_ w hn ha (by omega)
  rw [if_neg h0]
  have h1 : at_ + 1 < n := by omega
  by_cases hc : z (at_ + 1) = 100 ∨ z (at_ + 1) = 119 ∨ z (at_ + 1) = 115 ∨ z (at_ + 1) = 68 ∨ z (at_ + 1) = 87 ∨ z (at_ + 1) = 83
  · rw [if_pos hc, refR_cls]
    rcases hc with hq | hq | hq | hq | hq | hq
    · rw [hq]; exact re_c100 bb off n cap at_ z w hr hn h1 hq
    · rw [hq]; exact re_c119 bb off n cap at_ z w hr hn h1 hq
    · rw [hq]; exact re_c115 bb off n cap at_ z w hr hn h1 hq
    · rw [hq]; exact re_c68 bb off n cap at_ z w hr hn h1 hq
    · rw [hq]; exact re_c87 bb off n cap at_ z w hr hn h1 hq
    · rw [hq]; exact re_c83 bb off n cap at_ z w hr hn h1 hq
  rw [if_neg hc]
  by_cases hq : z (at_ + 1) = 110
  · rw [if_pos hq, refR_sgn]; exact re_b110 bb off n cap at_ z w hr hn h1 hq
  rw [if_neg hq]
  by_cases hq2 : z (at_ + 1) = 114
  · rw [if_pos hq2, refR_sgn]; exact re_b114 bb off n cap at_ z w hr hn h1 hq2
  rw [if_neg hq2]
  by_cases hq3 : z (at_ + 1) = 116
  · rw [if_pos hq3, refR_sgn]; exact re_b116 bb off n cap at_ z w hr hn h1 hq3
  rw [if_neg hq3]
  by_cases hq4 : z (at_ + 1) = 120
  · rw [if_pos hq4]
    unfold hexV
    by_cases h3 : at_ + 3 < n
    · rw [if_pos (show at_ + 2 + 2 ≤ n by omega)]
      cases g1 : (hexP (z (at_ + 2))).2 with
      | false =>
        rw [if_neg (by simp), refR_bad (by simp [TokS.bad])]
        exact re_x1 bb off n cap at_ z w hr hn h1 hq4 h3 (by rw [hexR_no g1]; decide)
      | true =>
        have e1 := hexR_yes g1
        have l1 := hexP_lt (z (at_ + 2))
        cases g2 : (hexP (z (at_ + 2 + 1))).2 with
        | false =>
          rw [if_neg (by simp), refR_bad (by simp [TokS.bad])]
          exact re_x2 bb off n cap at_ z w hr hn h1 hq4 h3 (by omega) (by rw [show at_ + 3 = at_ + 2 + 1 from rfl, hexR_no g2]; decide)
        | true =>
          have e2 := hexR_yes g2
          have l2 := hexP_lt (z (at_ + 2 + 1))
          rw [if_pos (by rfl), refR_sgn]
          exact re_x3 bb off n cap at_ z w hr hn h1 hq4 h3 (by omega) (by rw [show at_ + 3 = at_ + 2 + 1 from rfl]; omega) _ (by rw [show at_ + 3 = at_ + 2 + 1 from rfl, e1, e2, hex_or _ _ l2]; omega)
    · rw [if_neg (show ¬ at_ + 2 + 2 ≤ n by omega), if_neg (by simp), refR_bad (by simp [TokS.bad])]
      exact re_x0 bb off n cap at_ z w hr hn h1 hq4 h3
  rw [if_neg hq4]
  have hne : z (at_ + 1) ≠ 100 ∧ z (at_ + 1) ≠ 119 ∧ z (at_ + 1) ≠ 115 ∧ z (at_ + 1) ≠ 68 ∧ z (at_ + 1) ≠ 87 ∧ z (at_ + 1) ≠ 83 ∧ z (at_ + 1) ≠ 110 ∧ z (at_ + 1) ≠ 114 ∧ z (at_ + 1) ≠ 116 ∧ z (at_ + 1) ≠ 120 := by omega
  cases hl : letP (z (at_ + 1)) with
  | true => rw [if_pos rfl, refR_bad (by simp [TokS.bad])]; exact re_let bb off n cap at_ z w hr hn h1 _ rfl hne hl
  | false =>
    rw [if_neg (by decide)]
    cases hd : digP (z (at_ + 1)) with
    | true => rw [if_pos rfl, refR_bad (by simp [TokS.bad])]; exact re_dig bb off n cap at_ z w hr hn h1 _ rfl hne hl hd
    | false => rw [if_neg (by decide), refR_sgn]; exact re_plain bb off n cap at_ z w hr hn h1 _ rfl hne hl hd
theorem rrepeat_any (ao : Option Addr) (n cap at_ : Nat) (z : Nat → Nat) (w : World) (hr : Rd w ao n z) (hn : (n : Int) ≤ 1024) (ha : at_ < n) (hq : z at_ = 42 ∨ z at_ = 43 ∨ z at_ = 63 ∨ z at_ = 123) : Calls Try.prog 91 #[.slice ao n cap, .int .i64 (at_ : Nat)] w (RetP w (refR (rptS z n at_)).1 (refR (rptS z n at_)).2) := by
  obtain ⟨bb, off, rfl, _, _⟩ := hr.at_ (by omega)
  have simple : ∀ l m : Int, repS z n at_ = (l, m, at_ + 1, 0) →
      (∀ h2 : at_ + 1 < n, z (at_ + 1) = 63 → Calls Try.prog 91 #[.slice (some ⟨bb, off, none⟩) n cap, .int .i64 (at_ : Nat)] w (RetP w (tokV 7 0 0 0 0 0 false l m true 0) ((at_ : Int) + 1 + 1))) →
      (∀ h2 : at_ + 1 < n, z (at_ + 1) ≠ 63 → Calls Try.prog 91 #[.slice (some ⟨bb, off, none⟩) n cap, .int .i64 (at_ : Nat)] w (RetP w (tokV 7 0 0 0 0 0 false l m false 0) ((at_ : Int) + 1))) →
      (∀ h2 : ¬ at_ + 1 < n, Calls Try.prog 91 #[.slice (some ⟨bb, off, none⟩) n cap, .int .i64 (at_ : Nat)] w (RetP w (tokV 7 0 0 0 0 0 false l m false 0) ((at_ : Int) + 1))) →
      Calls Try.prog 91 #[.slice (some ⟨bb, off, none⟩) n cap, .int .i64 (at_ : Nat)] w (RetP w (refR (rptS z n at_)).1 (refR (rptS z n at_)).2) := by
    intro l m e hy hno hend
    unfold rptS
    rw [e]
    simp only []
    rw [if_neg (by decide)]
    by_cases h2 : at_ + 1 < n
    · by_cases h3 : z (at_ + 1) = 63
      · rw [if_pos (hasP_eq h2 h3), refR_rep]; exact hy h2 h3
      · rw [if_neg (by rw [hasP_ne h3]; decide), refR_rep]; exact hno h2 h3
    · rw [if_neg (by rw [hasP_out h2]; decide), refR_rep]; exact hend h2
  rcases hq with hq | hq | hq | hq
  · exact simple 0 (-1) (by unfold repS; rw [if_neg (by omega), if_pos hq]) (fun h2 h3 => rr_star_yes bb off n cap at_ z w hr hn ha hq h2 h3) (fun h2 h3 => rr_star_no bb off n cap at_ z w hr hn ha hq h2 h3) (fun h2 => rr_star_end bb off n cap at_ z w hr hn ha hq h2)
  · exact simple 1 (-1) (by unfold repS; rw [if_pos hq]) (fun h2 h3 => rr_plus_yes bb off n cap at_ z w hr hn ha hq h2 h3) (fun h2 h3 => rr_plus_no bb off n cap at_ z w hr hn ha hq h2 h3) (fun h2 => rr_plus_end bb off n cap at_ z w hr hn ha hq h2)
  · exact simple 0 1 (by unfold repS; rw [if_neg (by omega), if_neg (by omega), if_pos hq]) (fun h2 h3 => rr_quest_yes bb off n cap at_ z w hr hn ha hq h2 h3) (fun h2 h3 => rr_quest_no bb off n cap at_ z w hr hn ha hq h2 h3) (fun h2 => rr_quest_end bb off n cap at_ z w hr hn ha hq h2)
  · have hC := fun W (hb : Below w.heap.size w W) => rcount_any (some ⟨bb, off, none⟩) n cap at_ z W (hr.below hb) hn ha
    have e : repS z n at_ = cntV z n at_ := by unfold repS; rw [if_neg (by omega), if_neg (by omega), if_neg (by omega)]
    unfold rptS
    rw [e]
    unfold rcntR at hC
    by_cases her : (cntV z n at_).2.2.2 = 0
    · have hlt := cntV_lt her
      simp only [if_pos her] at hC
      rw [if_neg (by simp [her])]
      generalize (cntV z n at_).1 = l at *
      generalize (cntV z n at_).2.1 = m at *
      generalize (cntV z n at_).2.2.1 = en at *
      by_cases h2 : en < n
      · by_cases h3 : z en = 63
        · rw [if_pos (hasP_eq h2 h3), refR_rep]
          exact rr_count_yes bb off n cap at_ z w hr hn ha hq l m en (by omega) h2 h3 hC
        · rw [if_neg (by rw [hasP_ne h3]; decide), refR_rep]
          exact rr_count_no bb off n cap at_ z w hr hn ha hq l m en (by omega) h2 h3 hC
      · rw [if_neg (by rw [hasP_out h2]; decide), refR_rep]
        exact rr_count_end bb off n cap at_ z w hr hn ha hq l m en (by omega) h2 (by omega) hC
    · simp only [if_neg her] at hC
      rw [if_pos her, refR_bad her]
      exact rr_count_bad bb off n cap at_ z w hr hn ha hq hC
end Go.Proofs.Ytlmmiicibjfcdaa.X
namespace Go.Proofs.Ytlmmiicibjfcdaa.X
open Go.RowKit
set_option maxRecDepth 20000 in
set_option maxHeartbeats 2000000 in
theorem ru_esc (bb off n cap at_ : Nat) (z : Nat → Nat) (w : World) (hr : Rd w (some ⟨bb, off, none⟩) n z) (ha : at_ < n) (hq : z at_ = 92) (k : Int) (b a0 a1 a2 a3 : Nat) (nt : Bool) (l m : Int) (lz : Bool) (a : Nat) (en : Int) (hE : ∀ W, Below w.heap.size w W → Calls Try.prog 89 #[.slice (some ⟨bb, off, none⟩) n cap, .int .i64 (at_ : Nat)] W fun e w' => e = .returned (.tuple #[.agg #[.int .i64 k, .int .u8 (b : Nat), .int .u64 (a0 : Nat), .int .u64 (a1 : Nat), .int .u64 (a2 : Nat), .int .u64 (a3 : Nat), .bool nt, .int .i64 l, .int .i64 m, .bool lz, .int .i64 (a : Nat)], .int .i64 en]) ∧ Below W.heap.size W w') : Calls Try.prog 110 #[.slice (some ⟨bb, off, none⟩) n cap, .int .i64 (at_ : Nat)] w (RetP w (tokV k b a0 a1 a2 a3 nt l m lz a) en) := by
  have t0 := cell1 hr at_ ha
  have i1 : (at_ : Int) < (n : Int) := by omega
  rw [hq] at t0
  clear hr hq ha
  have HE : Hid (∀ W, Below w.heap.size w W → Calls Try.prog 89 #[.slice (some ⟨bb, off, none⟩) n cap, .int .i64 (at_ : Nat)] W fun e w' => e = .returned (.tuple #[.agg #[.int .i64 k, .int .u8 (b : Nat), .int .u64 (a0 : Nat), .int .u64 (a1 : Nat), .int .u64 (a2 : Nat), .int .u64 (a3 : Nat), .bool nt, .int .i64 l, .int .i64 m, .bool lz, .int .i64 (a : Nat)], .int .i64 en]) ∧ Below W.heap.size W w') := hE
  clear hE
  have k0 := fl0 w
  have hB0 : Below w.heap.size w (w.alloc (.cells #[.int .i64 0, .int .u8 0, .int .u64 0, .int .u64 0, .int .u64 0, .int .u64 0, .bool false, .int .i64 0, .int .i64 0, .bool false, .int .i64 0] 42)) := bel1 w _
  go_enter Try.func110, Try.ntmps110
  go_wp2_with fail
  refine (HE.out _ (bel1 _ _)).mono ?_
  rintro e w1 ⟨rfl, hb⟩
  clear t0 HE
  have k1 := k0.below hb
  obtain ⟨⟨b0, b1, b2, b3, b4, b5, b6, b7, b8, b9, b10⟩, g0, g1, g2, g3, g4, g5, g6, g7, g8, g9, g10⟩ := k1.eleven
  have F := (k1.put11 (.int .i64 k) (.int .u8 (b : Nat)) (.int .u64 (a0 : Nat)) (.int .u64 (a1 : Nat)) (.int .u64 (a2 : Nat)) (.int .u64 (a3 : Nat)) (.bool nt) (.int .i64 l) (.int .i64 m) (.bool lz) (.int .i64 (a : Nat))).eleven.1
  have hB4 := below_put11 (b := w.heap.size) (hB0.trans (hb.mono hB0.size)) (Nat.le_refl _) (.int .i64 k) (.int .u8 (b : Nat)) (.int .u64 (a0 : Nat)) (.int .u64 (a1 : Nat)) (.int .u64 (a2 : Nat)) (.int .u64 (a3 : Nat)) (.bool nt) (.int .i64 l) (.int .i64 m) (.bool lz) (.int .i64 (a : Nat))
  simp only [put11] at F hB4
  obtain ⟨F0, F1, F2, F3, F4, F5, F6, F7, F8, F9, F10⟩ := F
  have HF : Hid (Below w.heap.size w _) := hB4
  clear hB4 k0 k1 hb hB0
  go_wp2
  exact bodyPost_ret (v := .tuple #[tokV k b a0 a1 a2 a3 nt l m lz a, .int .i64 en]) (by simp [results, Try.results110, go_sem, tokV, F0, F1, F2, F3, F4, F5, F6, F7, F8, F9, F10]) rfl ⟨rfl, HF.out⟩
set_option maxRecDepth 20000 in
set_option maxHeartbeats 2000000 in
theorem ru_byte (bb off n cap at_ : Nat) (z : Nat → Nat) (w : World) (hr : Rd w (some ⟨bb, off, none⟩) n z) (hn : (n : Int) ≤ 1024) (ha : at_ < n) (x : Nat) (hx : z at_ = x) (hq : x ≠ 92) : Calls Try.prog 110 #[.slice (some ⟨bb, off, none⟩) n cap, .int .i64 (at_ : Nat)] w (RetP w (tokV 1 x 0 0 0 0 false 0 0 false 0) ((at_ : Int) + 1)) := by
  have t0 := cell1 hr at_ ha
  have i1 : (at_ : Int) < (n : Int) := by omega
  rw [hx] at t0
  have hqi : ¬ (x : Int) = 92 := by omega
  clear hr hx hq ha
  have HB : Hid (∀ W, Calls Try.prog 92 #[.int .u8 (x : Nat)] W fun e w' => e = .returned (.agg #[.int .i64 1, .int .u8 (x : Nat), .int .u64 0, .int .u64 0, .int .u64 0, .int .u64 0, .bool false, .int .i64 0, .int .i64 0, .bool false, .int .i64 0]) ∧ Below W.heap.size W w') := fun W => aByte_v x W
  have k0 := fl0 w
  have hB0 : Below w.heap.size w (w.alloc (.cells #[.int .i64 0, .int .u8 0, .int .u64 0, .int .u64 0, .int .u64 0, .int .u64 0, .bool false, .int .i64 0, .int .i64 0, .bool false, .int .i64 0] 42)) := bel1 w _
  go_enter Try.func110, Try.ntmps110
  go_wp2_with fail
  refine (HB.out _).mono ?_
  rintro e w1 ⟨rfl, hb⟩
  clear t0 HB
  have k1 := k0.below hb
  obtain ⟨⟨b0, b1, b2, b3, b4, b5, b6, b7, b8, b9, b10⟩, g0, g1, g2, g3, g4, g5, g6, g7, g8, g9, g10⟩ := k1.eleven
  have F := (k1.put11 (.int .i64 1) (.int .u8 (x : Nat)) (.int .u64 0) (.int .u64 0) (.int .u64 0) (.int .u64 0) (.bool false) (.int .i64 0) (.int .i64 0) (.bool false) (.int .i64 0)).eleven.1
  have hB4 := below_put11 (b := w.heap.size) (hB0.trans (hb.mono hB0.size)) (Nat.le_refl _) (.int .i64 1) (.int .u8 (x : Nat)) (.int .u64 0) (.int .u64 0) (.int .u64 0) (.int .u64 0) (.bool false) (.int .i64 0) (.int .i64 0) (.bool false) (.int .i64 0)
  simp only [put11] at F hB4
  obtain ⟨F0, F1, F2, F3, F4, F5, F6, F7, F8, F9, F10⟩ := F
  have HF : Hid (Below w.heap.size w _) := hB4
  clear hB4 k0 k1 hb hB0
  go_wp2
  exact bodyPost_ret (v := .tuple #[tokV 1 x 0 0 0 0 false 0 0 false 0, .int .i64 ((at_ : Int) + 1)]) (by simp [results, Try.results110, go_sem, tokV, F0, F1, F2, F3, F4, F5, F6, F7, F8, F9, F10]) rfl ⟨rfl, HF.out⟩
theorem runit_any (ao : Option Addr) (n cap at_ : Nat) (z : Nat → Nat) (w : World) (hr : Rd w ao n z) (hn : (n : Int) ≤ 1024) (ha : at_ < n) : Calls Try.prog 110 #[.slice ao n cap, .int .i64 (at_ : Nat)] w (RetP w (refR (uniS z n at_)).1 (refR (uniS z n at_)).2) := by
  unfold uniS
  by_cases hq : z at_ = 92
  · rw [if_pos hq]
    have hE := fun W (hb : Below w.heap.size w W) => rescape_any ao n cap at_ z W (hr.below hb) hn ha
    obtain ⟨bb, off, rfl, _, _⟩ := hr.at_ (by omega)
    generalize escS z n at_ = s at *
    unfold refR at *
    by_cases he : s.er = 0
    · simp only [if_pos he] at *
      exact ru_esc bb off n cap at_ z w hr ha hq _ _ _ _ _ _ _ _ _ _ _ _ hE
    · simp only [if_neg he] at *
      exact ru_esc bb off n cap at_ z w hr ha hq 0 0 0 0 0 0 false 0 0 false 0 0 hE
  · rw [if_neg hq, refR_sgn]
    obtain ⟨bb, off, rfl, _, _⟩ := hr.at_ (by omega)
    exact ru_byte bb off n cap at_ z w hr hn ha _ rfl hq
end Go.Proofs.Ytlmmiicibjfcdaa.X
namespace Go.Proofs.Ytlmmiicibjfcdaa.X
open Go.RowKit
set_option maxRecDepth 10000 in
set_option maxHeartbeats 2000000 in
theorem classOf_class {P : Nat → Bool} {a0 a1 a2 a3 : Nat} (h4 : C4 P a0 a1 a2 a3) (nt : Bool) (l m : Int) (lz : Bool) (at_ : Nat) (w : World) : Calls Try.prog 112 #[tokV 2 0 a0 a1 a2 a3 nt l m lz at_] w (RetC w P) := by
  unfold tokV
  go_enter Try.func112, Try.ntmps112
  go_wp2
  exact bodyPost_ret (v := .agg #[.int .u64 (a0 : Nat), .int .u64 (a1 : Nat), .int .u64 (a2 : Nat), .int .u64 (a3 : Nat)]) (by simp [results, Try.results112, go_sem]) rfl ⟨⟨a0, a1, a2, a3, rfl, h4⟩, bel2 _ _ _⟩
set_option maxRecDepth 10000 in
set_option maxHeartbeats 2000000 in
theorem classOf_byte (b : Nat) (hb : b < 256) (at_ : Nat) (w : World) : Calls Try.prog 112 #[tokV 1 b 0 0 0 0 false 0 0 false at_] w (RetC w (ofN (fun _ => b) 1)) := by
  unfold tokV
  have hO : Hid (∀ W : World, Calls Try.prog 32 #[.slice (some ⟨W.heap.size, 0, none⟩) 1 1] (W.alloc (.cells #[.int .u8 (b : Nat)] 5)) (RetC (W.alloc (.cells #[.int .u8 (b : Nat)] 5)) (ofN (fun _ => b) 1))) := fun W => rof_any _ 1 1 (fun _ => b) _ (rd_one _ _ hb) (by decide)
  go_enter Try.func112, Try.ntmps112
  go_wp2_with fail
  have hO1 := hO.out ((w.alloc (.cells #[.int .i64 1, .int .u8 (b : Nat), .int .u64 0, .int .u64 0, .int .u64 0, .int .u64 0, .bool false, .int .i64 0, .int .i64 0, .bool false, .int .i64 (at_ : Nat)] 42)).alloc (.cells #[.int .u64 0, .int .u64 0, .int .u64 0, .int .u64 0] 40))
  simp only [World.size_alloc] at hO1
  refine hO1.mono ?_
  rintro e w1 ⟨⟨a, b', c, d, rfl, h4⟩, hb1⟩
  have hx : Bx w1 (w.heap.size + 1) (.int .u64 0) (.int .u64 0) (.int .u64 0) (.int .u64 0) := by
    have := ((Bx.new (w.alloc (.cells #[.int .i64 1, .int .u8 (b : Nat), .int .u64 0, .int .u64 0, .int .u64 0, .int .u64 0, .bool false, .int .i64 0, .int .i64 0, .bool false, .int .i64 (at_ : Nat)] 42)) (.int .u64 0) (.int .u64 0) (.int .u64 0) (.int .u64 0)).alloc (.cells #[.int .u8 (b : Nat)] 5)).below hb1
    simpa using this
  have hB1 : Below w.heap.size w w1 := (bel3 w _ _ _).trans (hb1.mono (by simp; omega))
  obtain ⟨y0, y1, y2, y3, v0, v1, v2, v3⟩ := hx.cells
  obtain ⟨z0, z1, z2, z3, _⟩ := (hx.set (.int .u64 (a : Nat)) (.int .u64 (b' : Nat)) (.int .u64 (c : Nat)) (.int .u64 (d : Nat))).cells
  have HB : Hid (Below w.heap.size w (put4 w1 (w.heap.size + 1) (.int .u64 (a : Nat)) (.int .u64 (b' : Nat)) (.int .u64 (c : Nat)) (.int .u64 (d : Nat)))) := below_put4 hB1 (by omega) _ _ _ _
  clear hb1 hO1 hB1
  go_wp2
  exact bodyPost_ret (v := .agg #[.int .u64 (a : Nat), .int .u64 (b' : Nat), .int .u64 (c : Nat), .int .u64 (d : Nat)]) (by simp [results, Try.results112, go_sem, z0, z1, z2, z3]) rfl ⟨⟨a, b', c, d, rfl, h4⟩, HB.out⟩
end Go.Proofs.Ytlmmiicibjfcdaa.X
