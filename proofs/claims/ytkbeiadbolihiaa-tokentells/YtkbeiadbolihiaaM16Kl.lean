/- The reference of token: escape: the other walks. token: bytesOf: the walk. -/
import Derived.Test.YtkbeiadbolihiaaM15Xf
import Derived.Test.YtkbeiadbolihiaaM08Kj
namespace Go.Proofs.Ytkbeiadbolihiaa
open Go.RowKit
theorem conv35 (x : Int) (h : 0 ≤ x ∧ x < 256) (W : World) : (convert 3 5 (.int .i64 x)).run Try.prog W = .ok (.int .u8 x) W := by
  have hk : Try.prog.intKind 5 = .u8 := by kernel_rfl
  rw [run_convert_int W 3 5 .i64 _ (by rw [Try.underlying3]; rfl) (by rw [hk]; exact Try.underlying5), hk, show IntKind.u8.wrap x = x from IntWalk.u8_in x (by omega)]
set_option maxRecDepth 20000 in
set_option maxHeartbeats 2000000 in
theorem re_x0 (bb off n cap at_ : Nat) (z : Nat → Nat) (w : World) (hr : Rd w (some ⟨bb, off, none⟩) n z) (hn : (n : Int) ≤ 1024) (h1 : at_ + 1 < n) (hq : z (at_ + 1) = 120) (h3 : ¬ at_ + 3 < n) : Calls Try.prog 24 #[.slice (some ⟨bb, off, none⟩) n cap, .int .i64 (at_ : Nat)] w (RetP w (tokV 0 0 0 0 0 0 false 0 0 false 0) 0) := by
  have t0 := cell1 hr (at_ + 1) h1
  have i1 : (at_ : Int) + 1 < (n : Int) := by omega
  have i2 : ¬ ((at_ : Int) + 1 ≥ (n : Int)) := by omega
  rw [hq] at t0
  have i3 : ¬ ((at_ : Int) + 3 < (n : Int)) := by omega
  clear hr hq
  go_enter Try.func24, Try.ntmps24
  go_wp2
  exact bodyPost_ret (v := .tuple #[tokV 0 0 0 0 0 0 false 0 0 false 0, .int .i64 0]) (by simp [results, Try.results24, go_sem, tokV]) rfl ⟨rfl, bel1 _ _⟩
set_option maxRecDepth 20000 in
set_option maxHeartbeats 2000000 in
theorem re_x1 (bb off n cap at_ : Nat) (z : Nat → Nat) (w : World) (hr : Rd w (some ⟨bb, off, none⟩) n z) (hn : (n : Int) ≤ 1024) (h1 : at_ + 1 < n) (hq : z (at_ + 1) = 120) (h3 : at_ + 3 < n) (hh : hexR (z (at_ + 2)) < 0) : Calls Try.prog 24 #[.slice (some ⟨bb, off, none⟩) n cap, .int .i64 (at_ : Nat)] w (RetP w (tokV 0 0 0 0 0 0 false 0 0 false 0) 0) := by
  have t0 := cell1 hr (at_ + 1) h1
  have i1 : (at_ : Int) + 1 < (n : Int) := by omega
  have i2 : ¬ ((at_ : Int) + 1 ≥ (n : Int)) := by omega
  have t2 := cell1 hr (at_ + 2) (by omega)
  have t3 := cell1 hr (at_ + 3) h3
  have s2 := hr.small (at_ + 2) (by omega)
  have s3 := hr.small (at_ + 3) h3
  have i3 : (at_ : Int) + 3 < (n : Int) := by omega
  have i4 : (at_ : Int) + 2 < (n : Int) := by omega
  rw [hq] at t0
  have HX : Hid (∀ W, Calls Try.prog 42 #[.int .u8 (z (at_ + 2) : Nat)] W fun e w' => e = .returned (.int .i64 (hexR (z (at_ + 2)))) ∧ w' = W) := fun W => rhex_any _ W s2
  have hh2 : ¬ (hexR (z (at_ + 2)) ≥ 0) := by omega
  clear hr hq hh s2 s3 t3
  generalize hexR (z (at_ + 2)) = d1 at *
  generalize z (at_ + 2) = q1 at *
  go_enter Try.func24, Try.ntmps24
  go_wp2_with fail
  refine (HX.out _).mono ?_
  rintro e w1 ⟨rfl, rfl⟩
  go_wp2
  exact bodyPost_ret (v := .tuple #[tokV 0 0 0 0 0 0 false 0 0 false 0, .int .i64 0]) (by simp [results, Try.results24, go_sem, tokV]) rfl ⟨rfl, bel1 _ _⟩
set_option maxRecDepth 20000 in
set_option maxHeartbeats 2000000 in
theorem re_x2 (bb off n cap at_ : Nat) (z : Nat → Nat) (w : World) (hr : Rd w (some ⟨bb, off, none⟩) n z) (hn : (n : Int) ≤ 1024) (h1 : at_ + 1 < n) (hq : z (at_ + 1) = 120) (h3 : at_ + 3 < n) (hg : 0 ≤ hexR (z (at_ + 2))) (hh : hexR (z (at_ + 3)) < 0) : Calls Try.prog 24 #[.slice (some ⟨bb, off, none⟩) n cap, .int .i64 (at_ : Nat)] w (RetP w (tokV 0 0 0 0 0 0 false 0 0 false 0) 0) := by
  have t0 := cell1 hr (at_ + 1) h1
  have i1 : (at_ : Int) + 1 < (n : Int) := by omega
  have i2 : ¬ ((at_ : Int) + 1 ≥ (n : Int)) := by omega
  have t2 := cell1 hr (at_ + 2) (by omega)
  have t3 := cell1 hr (at_ + 3) h3
  have s2 := hr.small (at_ + 2) (by omega)
  have s3 := hr.small (at_ + 3) h3
  have i3 : (at_ : Int) + 3 < (n : Int) := by omega
  have i4 : (at_ : Int) + 2 < (n : Int) := by omega
  rw [hq] at t0
  have HX : Hid (∀ W, Calls Try.prog 42 #[.int .u8 (z (at_ + 2) : Nat)] W fun e w' => e = .returned (.int .i64 (hexR (z (at_ + 2)))) ∧ w' = W) := fun W => rhex_any _ W s2
  have HY : Hid (∀ W, Calls Try.prog 42 #[.int .u8 (z (at_ + 3) : Nat)] W fun e w' => e = .returned (.int .i64 (hexR (z (at_ + 3)))) ∧ w' = W) := fun W => rhex_any _ W s3
  have hh2 : ¬ (hexR (z (at_ + 3)) ≥ 0) := by omega
  have hg2 : hexR (z (at_ + 2)) ≥ 0 := hg
  clear hr hq hh hg s2 s3
  generalize hexR (z (at_ + 2)) = d1 at *
  generalize hexR (z (at_ + 3)) = d2 at *
  generalize z (at_ + 2) = q1 at *
  generalize z (at_ + 3) = q2 at *
  go_enter Try.func24, Try.ntmps24
  go_wp2_with fail
  refine (HX.out _).mono ?_
  rintro e w1 ⟨rfl, rfl⟩
  go_wp2_with fail
  refine (HY.out _).mono ?_
  rintro e w1 ⟨rfl, rfl⟩
  go_wp2
  exact bodyPost_ret (v := .tuple #[tokV 0 0 0 0 0 0 false 0 0 false 0, .int .i64 0]) (by simp [results, Try.results24, go_sem, tokV]) rfl ⟨rfl, bel1 _ _⟩
set_option maxRecDepth 20000 in
set_option maxHeartbeats 2000000 in
theorem re_x3 (bb off n cap at_ : Nat) (z : Nat → Nat) (w : World) (hr : Rd w (some ⟨bb, off, none⟩) n z) (hn : (n : Int) ≤ 1024) (h1 : at_ + 1 < n) (hq : z (at_ + 1) = 120) (h3 : at_ + 3 < n) (hg : 0 ≤ hexR (z (at_ + 2)) ∧ hexR (z (at_ + 2)) ≤ 15) (hh : 0 ≤ hexR (z (at_ + 3)) ∧ hexR (z (at_ + 3)) ≤ 15) (b : Nat) (hb : 16 * hexR (z (at_ + 2)) + hexR (z (at_ + 3)) = (b : Int)) : Calls Try.prog 24 #[.slice (some ⟨bb, off, none⟩) n cap, .int .i64 (at_ : Nat)] w (RetP w (tokV 1 b 0 0 0 0 false 0 0 false 0) ((at_ : Int) + 4)) := by
  have t0 := cell1 hr (at_ + 1) h1
  have i1 : (at_ : Int) + 1 < (n : Int) := by omega
  have i2 : ¬ ((at_ : Int) + 1 ≥ (n : Int)) := by omega
  have t2 := cell1 hr (at_ + 2) (by omega)
  have t3 := cell1 hr (at_ + 3) h3
  have s2 := hr.small (at_ + 2) (by omega)
  have s3 := hr.small (at_ + 3) h3
  have i3 : (at_ : Int) + 3 < (n : Int) := by omega
  have i4 : (at_ : Int) + 2 < (n : Int) := by omega
  rw [hq] at t0
  have HX : Hid (∀ W, Calls Try.prog 42 #[.int .u8 (z (at_ + 2) : Nat)] W fun e w' => e = .returned (.int .i64 (hexR (z (at_ + 2)))) ∧ w' = W) := fun W => rhex_any _ W s2
  have HY : Hid (∀ W, Calls Try.prog 42 #[.int .u8 (z (at_ + 3) : Nat)] W fun e w' => e = .returned (.int .i64 (hexR (z (at_ + 3)))) ∧ w' = W) := fun W => rhex_any _ W s3
  have hcv := conv35 (16 * hexR (z (at_ + 2)) + hexR (z (at_ + 3))) (by omega)
  have HB : Hid (∀ W, Calls Try.prog 27 #[.int .u8 (16 * hexR (z (at_ + 2)) + hexR (z (at_ + 3)))] W fun e w' => e = .returned (.agg #[.int .i64 1, .int .u8 (b : Nat), .int .u64 0, .int .u64 0, .int .u64 0, .int .u64 0, .bool false, .int .i64 0, .int .i64 0, .bool false, .int .i64 0]) ∧ Below W.heap.size W w') := fun W => by
    rw [hb]
    exact aByte_v b W
  have hg1 : hexR (z (at_ + 2)) ≥ 0 := hg.1
  have hh1 : hexR (z (at_ + 3)) ≥ 0 := hh.1
  have hg2 : hexR (z (at_ + 2)) ≤ 15 := hg.2
  have hh2 : hexR (z (at_ + 3)) ≤ 15 := hh.2
  have k0 := fl0 w
  have hB0 : Below w.heap.size w (w.alloc (.cells #[.int .i64 0, .int .u8 0, .int .u64 0, .int .u64 0, .int .u64 0, .int .u64 0, .bool false, .int .i64 0, .int .i64 0, .bool false, .int .i64 0] 33)) := bel1 w _
  have hbl : bb < (w.alloc (.cells #[.int .i64 0, .int .u8 0, .int .u64 0, .int .u64 0, .int .u64 0, .int .u64 0, .bool false, .int .i64 0, .int .i64 0, .bool false, .int .i64 0] 33)).heap.size := by
    obtain ⟨b', o', e', hl', _⟩ := hr.at_ (by omega)
    cases e'
    simp; omega
  replace t0 := t0 (.cells #[.int .i64 0, .int .u8 0, .int .u64 0, .int .u64 0, .int .u64 0, .int .u64 0, .bool false, .int .i64 0, .int .i64 0, .bool false, .int .i64 0] 33)
  replace t2 := t2 (.cells #[.int .i64 0, .int .u8 0, .int .u64 0, .int .u64 0, .int .u64 0, .int .u64 0, .bool false, .int .i64 0, .int .i64 0, .bool false, .int .i64 0] 33)
  replace t3 := t3 (.cells #[.int .i64 0, .int .u8 0, .int .u64 0, .int .u64 0, .int .u64 0, .int .u64 0, .bool false, .int .i64 0, .int .i64 0, .bool false, .int .i64 0] 33)
  have H42 : Hid (∀ q W, q < 256 → Calls Try.prog 42 #[.int .u8 (q : Nat)] W fun e w' => e = .returned (.int .i64 (hexR q)) ∧ w' = W) := fun q W h => rhex_any q W h
  clear hr hq hh hg hb
  generalize z (at_ + 2) = q1 at *
  generalize z (at_ + 3) = q2 at *
  go_enter Try.func24, Try.ntmps24
  go_wp2_with fail
  refine (HX.out _).mono ?_
  rintro e w1 ⟨rfl, rfl⟩
  go_wp2_with fail
  refine (HY.out _).mono ?_
  rintro e w1 ⟨rfl, rfl⟩
  go_wp2_with fail
  have HBl : Hid (Below w.heap.size w (w.alloc (.cells #[.int .i64 0, .int .u8 0, .int .u64 0, .int .u64 0, .int .u64 0, .int .u64 0, .bool false, .int .i64 0, .int .i64 0, .bool false, .int .i64 0] 33))) := hB0
  have HK0 : Hid (Cl (w.alloc (.cells #[.int .i64 0, .int .u8 0, .int .u64 0, .int .u64 0, .int .u64 0, .int .u64 0, .bool false, .int .i64 0, .int .i64 0, .bool false, .int .i64 0] 33)) w.heap.size 33 [.int .i64 0, .int .u8 0, .int .u64 0, .int .u64 0, .int .u64 0, .int .u64 0, .bool false, .int .i64 0, .int .i64 0, .bool false, .int .i64 0]) := k0
  have x2 : IntKind.i64.wrap ((at_ : Int) + 2) = (at_ : Int) + 2 := IntWalk.i64_in _ (by omega)
  have x3 : IntKind.i64.wrap ((at_ : Int) + 3) = (at_ : Int) + 3 := IntWalk.i64_in _ (by omega)
  have x4 : IntKind.i64.wrap ((at_ : Int) + 4) = (at_ : Int) + 4 := IntWalk.i64_in _ (by omega)
  have x5 : IntKind.i64.wrap (16 * hexR q1) = 16 * hexR q1 := IntWalk.i64_in _ (by omega)
  have x6 : IntKind.i64.wrap (16 * hexR q1 + hexR q2) = 16 * hexR q1 + hexR q2 := IntWalk.i64_in _ (by omega)
  have j2 : (0 : Int) ≤ (at_ : Int) + 2 := by omega
  have j3 : (0 : Int) ≤ (at_ : Int) + 3 := by omega
  rw [show off + (at_ + 2) = off + ((at_ : Int) + 2).toNat by omega] at t2
  rw [show off + (at_ + 3) = off + ((at_ : Int) + 3).toNat by omega] at t3
  clear t0 k0 hB0 H42 hbl i1 i2
  go_region_with (first | (go_at_call_of 42 (Value.int .u8 (q1 : Nat)); refine (HX.out _).mono ?_; rintro e w' ⟨rfl, rfl⟩) | (go_at_call_of 42 (Value.int .u8 (q2 : Nat)); refine (HY.out _).mono ?_; rintro e w' ⟨rfl, rfl⟩) | (
    go_at_call 27
    refine (HB.out _).mono ?_
    rintro e w1 ⟨rfl, hb⟩
    have k1 := HK0.out.drew.below hb
    have hB1 := HBl.out.drew.trans (hb.mono HBl.out.size)
    obtain ⟨⟨b0, b1, b2, b3, b4, b5, b6, b7, b8, b9, b10⟩, g0, g1, g2, g3, g4, g5, g6, g7, g8, g9, g10⟩ := k1.eleven
    have F := (k1.put11 (.int .i64 1) (.int .u8 (b : Nat)) (.int .u64 0) (.int .u64 0) (.int .u64 0) (.int .u64 0) (.bool false) (.int .i64 0) (.int .i64 0) (.bool false) (.int .i64 0)).eleven.1
    have hB4 := below_put11 (b := w.heap.size) hB1 (Nat.le_refl _) (.int .i64 1) (.int .u8 (b : Nat)) (.int .u64 0) (.int .u64 0) (.int .u64 0) (.int .u64 0) (.bool false) (.int .i64 0) (.int .i64 0) (.bool false) (.int .i64 0)
    simp only [put11] at F hB4
    obtain ⟨F0, F1, F2, F3, F4, F5, F6, F7, F8, F9, F10⟩ := F
    have HF : Hid (Below w.heap.size w _) := hB4
    clear hB4 k1 hB1 hb t2 t3))
  all_goals go_wp2
  all_goals exact bodyPost_ret (v := .tuple #[tokV 1 b 0 0 0 0 false 0 0 false 0, .int .i64 ((at_ : Int) + 4)]) (by simp [results, Try.results24, go_sem, tokV, F0, F1, F2, F3, F4, F5, F6, F7, F8, F9, F10]) rfl ⟨rfl, HF.out⟩
set_option maxRecDepth 20000 in
set_option maxHeartbeats 2000000 in
theorem re_let (bb off n cap at_ : Nat) (z : Nat → Nat) (w : World) (hr : Rd w (some ⟨bb, off, none⟩) n z) (hn : (n : Int) ≤ 1024) (h1 : at_ + 1 < n) (q : Nat) (hq : z (at_ + 1) = q) (hne : q ≠ 100 ∧ q ≠ 119 ∧ q ≠ 115 ∧ q ≠ 68 ∧ q ≠ 87 ∧ q ≠ 83 ∧ q ≠ 110 ∧ q ≠ 114 ∧ q ≠ 116 ∧ q ≠ 120) (hl : letP q = true) : Calls Try.prog 24 #[.slice (some ⟨bb, off, none⟩) n cap, .int .i64 (at_ : Nat)] w (RetP w (tokV 0 0 0 0 0 0 false 0 0 false 0) 0) := by
  have t0 := cell1 hr (at_ + 1) h1
  have i1 : (at_ : Int) + 1 < (n : Int) := by omega
  have i2 : ¬ ((at_ : Int) + 1 ≥ (n : Int)) := by omega
  rw [hq] at t0
  have e100 : ((q : Int) == 100) = false := by rw [beq_eq_false_iff_ne]; omega
  have e119 : ((q : Int) == 119) = false := by rw [beq_eq_false_iff_ne]; omega
  have e115 : ((q : Int) == 115) = false := by rw [beq_eq_false_iff_ne]; omega
  have e68 : ((q : Int) == 68) = false := by rw [beq_eq_false_iff_ne]; omega
  have e87 : ((q : Int) == 87) = false := by rw [beq_eq_false_iff_ne]; omega
  have e83 : ((q : Int) == 83) = false := by rw [beq_eq_false_iff_ne]; omega
  have e110 : ((q : Int) == 110) = false := by rw [beq_eq_false_iff_ne]; omega
  have e114 : ((q : Int) == 114) = false := by rw [beq_eq_false_iff_ne]; omega
  have e116 : ((q : Int) == 116) = false := by rw [beq_eq_false_iff_ne]; omega
  have e120 : ((q : Int) == 120) = false := by rw [beq_eq_false_iff_ne]; omega
  have hs : q < 256 := by rw [← hq]; exact hr.small _ h1
  have HL : Hid (∀ W, Calls Try.prog 43 #[.int .u8 (q : Nat)] W fun e w' => e = .returned (.bool (letP q)) ∧ w' = W) := fun W => rletter_b q W
  have HD : Hid (∀ W, Calls Try.prog 44 #[.int .u8 (q : Nat)] W fun e w' => e = .returned (.bool (digP q)) ∧ w' = W) := fun W => rdigit_b q W
  rw [hl] at HL
  clear hr hq hne hl HD hs
  go_enter Try.func24, Try.ntmps24
  go_wp2_with fail
  refine (HL.out _).mono ?_
  rintro e w1 ⟨rfl, rfl⟩
  go_wp2
  exact bodyPost_ret (v := .tuple #[tokV 0 0 0 0 0 0 false 0 0 false 0, .int .i64 0]) (by simp [results, Try.results24, go_sem, tokV]) rfl ⟨rfl, bel1 _ _⟩
set_option maxRecDepth 20000 in
set_option maxHeartbeats 2000000 in
theorem re_dig (bb off n cap at_ : Nat) (z : Nat → Nat) (w : World) (hr : Rd w (some ⟨bb, off, none⟩) n z) (hn : (n : Int) ≤ 1024) (h1 : at_ + 1 < n) (q : Nat) (hq : z (at_ + 1) = q) (hne : q ≠ 100 ∧ q ≠ 119 ∧ q ≠ 115 ∧ q ≠ 68 ∧ q ≠ 87 ∧ q ≠ 83 ∧ q ≠ 110 ∧ q ≠ 114 ∧ q ≠ 116 ∧ q ≠ 120) (hl : letP q = false) (hd : digP q = true) : Calls Try.prog 24 #[.slice (some ⟨bb, off, none⟩) n cap, .int .i64 (at_ : Nat)] w (RetP w (tokV 0 0 0 0 0 0 false 0 0 false 0) 0) := by
  have t0 := cell1 hr (at_ + 1) h1
  have i1 : (at_ : Int) + 1 < (n : Int) := by omega
  have i2 : ¬ ((at_ : Int) + 1 ≥ (n : Int)) := by omega
  rw [hq] at t0
  have e100 : ((q : Int) == 100) = false := by rw [beq_eq_false_iff_ne]; omega
  have e119 : ((q : Int) == 119) = false := by rw [beq_eq_false_iff_ne]; omega
  have e115 : ((q : Int) == 115) = false := by rw [beq_eq_false_iff_ne]; omega
  have e68 : ((q : Int) == 68) = false := by rw [beq_eq_false_iff_ne]; omega
  have e87 : ((q : Int) == 87) = false := by rw [beq_eq_false_iff_ne]; omega
  have e83 : ((q : Int) == 83) = false := by rw [beq_eq_false_iff_ne]; omega
  have e110 : ((q : Int) == 110) = false := by rw [beq_eq_false_iff_ne]; omega
  have e114 : ((q : Int) == 114) = false := by rw [beq_eq_false_iff_ne]; omega
  have e116 : ((q : Int) == 116) = false := by rw [beq_eq_false_iff_ne]; omega
  have e120 : ((q : Int) == 120) = false := by rw [beq_eq_false_iff_ne]; omega
  have hs : q < 256 := by rw [← hq]; exact hr.small _ h1
  have HL : Hid (∀ W, Calls Try.prog 43 #[.int .u8 (q : Nat)] W fun e w' => e = .returned (.bool (letP q)) ∧ w' = W) := fun W => rletter_b q W
  have HD : Hid (∀ W, Calls Try.prog 44 #[.int .u8 (q : Nat)] W fun e w' => e = .returned (.bool (digP q)) ∧ w' = W) := fun W => rdigit_b q W
  rw [hl] at HL
  rw [hd] at HD
  clear hr hq hne hl hd hs
  go_enter Try.func24, Try.ntmps24
  go_wp2_with fail
  refine (HL.out _).mono ?_
  rintro e w1 ⟨rfl, rfl⟩
  go_wp2_with fail
  refine (HD.out _).mono ?_
  rintro e w1 ⟨rfl, rfl⟩
  go_wp2
  exact bodyPost_ret (v := .tuple #[tokV 0 0 0 0 0 0 false 0 0 false 0, .int .i64 0]) (by simp [results, Try.results24, go_sem, tokV]) rfl ⟨rfl, bel1 _ _⟩
set_option maxRecDepth 20000 in
set_option maxHeartbeats 2000000 in
theorem re_plain (bb off n cap at_ : Nat) (z : Nat → Nat) (w : World) (hr : Rd w (some ⟨bb, off, none⟩) n z) (hn : (n : Int) ≤ 1024) (h1 : at_ + 1 < n) (q : Nat) (hq : z (at_ + 1) = q) (hne : q ≠ 100 ∧ q ≠ 119 ∧ q ≠ 115 ∧ q ≠ 68 ∧ q ≠ 87 ∧ q ≠ 83 ∧ q ≠ 110 ∧ q ≠ 114 ∧ q ≠ 116 ∧ q ≠ 120) (hl : letP q = false) (hd : digP q = false) : Calls Try.prog 24 #[.slice (some ⟨bb, off, none⟩) n cap, .int .i64 (at_ : Nat)] w (RetP w (tokV 1 q 0 0 0 0 false 0 0 false 0) ((at_ : Int) + 2)) := by
  have t0 := cell1 hr (at_ + 1) h1
  have i1 : (at_ : Int) + 1 < (n : Int) := by omega
  have i2 : ¬ ((at_ : Int) + 1 ≥ (n : Int)) := by omega
  rw [hq] at t0
  have e100 : ((q : Int) == 100) = false := by rw [beq_eq_false_iff_ne]; omega
  have e119 : ((q : Int) == 119) = false := by rw [beq_eq_false_iff_ne]; omega
  have e115 : ((q : Int) == 115) = false := by rw [beq_eq_false_iff_ne]; omega
  have e68 : ((q : Int) == 68) = false := by rw [beq_eq_false_iff_ne]; omega
  have e87 : ((q : Int) == 87) = false := by rw [beq_eq_false_iff_ne]; omega
  have e83 : ((q : Int) == 83) = false := by rw [beq_eq_false_iff_ne]; omega
  have e110 : ((q : Int) == 110) = false := by rw [beq_eq_false_iff_ne]; omega
  have e114 : ((q : Int) == 114) = false := by rw [beq_eq_false_iff_ne]; omega
  have e116 : ((q : Int) == 116) = false := by rw [beq_eq_false_iff_ne]; omega
  have e120 : ((q : Int) == 120) = false := by rw [beq_eq_false_iff_ne]; omega
  have hs : q < 256 := by rw [← hq]; exact hr.small _ h1
  have HL : Hid (∀ W, Calls Try.prog 43 #[.int .u8 (q : Nat)] W fun e w' => e = .returned (.bool (letP q)) ∧ w' = W) := fun W => rletter_b q W
  have HD : Hid (∀ W, Calls Try.prog 44 #[.int .u8 (q : Nat)] W fun e w' => e = .returned (.bool (digP q)) ∧ w' = W) := fun W => rdigit_b q W
  rw [hl] at HL
  rw [hd] at HD
  clear hr hq hne hl hd hs
  have HB : Hid (∀ W, Calls Try.prog 27 #[.int .u8 (q : Nat)] W fun e w' => e = .returned (.agg #[.int .i64 1, .int .u8 (q : Nat), .int .u64 0, .int .u64 0, .int .u64 0, .int .u64 0, .bool false, .int .i64 0, .int .i64 0, .bool false, .int .i64 0]) ∧ Below W.heap.size W w') := fun W => aByte_v q W
  have k0 := fl0 w
  have hB0 : Below w.heap.size w (w.alloc (.cells #[.int .i64 0, .int .u8 0, .int .u64 0, .int .u64 0, .int .u64 0, .int .u64 0, .bool false, .int .i64 0, .int .i64 0, .bool false, .int .i64 0] 33)) := bel1 w _
  go_enter Try.func24, Try.ntmps24
  go_wp2_with fail
  refine (HL.out _).mono ?_
  rintro e w1 ⟨rfl, rfl⟩
  go_wp2_with fail
  refine (HD.out _).mono ?_
  rintro e w1 ⟨rfl, rfl⟩
  go_wp2_with fail
  refine (HB.out _).mono ?_
  rintro e w1 ⟨rfl, hb⟩
  clear t0 HB HL HD
  have k1 := k0.below hb
  obtain ⟨⟨b0, b1, b2, b3, b4, b5, b6, b7, b8, b9, b10⟩, g0, g1, g2, g3, g4, g5, g6, g7, g8, g9, g10⟩ := k1.eleven
  have F := (k1.put11 (.int .i64 1) (.int .u8 (q : Nat)) (.int .u64 0) (.int .u64 0) (.int .u64 0) (.int .u64 0) (.bool false) (.int .i64 0) (.int .i64 0) (.bool false) (.int .i64 0)).eleven.1
  have hB4 := below_put11 (b := w.heap.size) (hB0.trans (hb.mono hB0.size)) (Nat.le_refl _) (.int .i64 1) (.int .u8 (q : Nat)) (.int .u64 0) (.int .u64 0) (.int .u64 0) (.int .u64 0) (.bool false) (.int .i64 0) (.int .i64 0) (.bool false) (.int .i64 0)
  simp only [put11] at F hB4
  obtain ⟨F0, F1, F2, F3, F4, F5, F6, F7, F8, F9, F10⟩ := F
  have HF : Hid (Below w.heap.size w _) := hB4
  clear hB4 k0 k1 hb hB0
  go_wp2
  exact bodyPost_ret (v := .tuple #[tokV 1 q 0 0 0 0 false 0 0 false 0, .int .i64 ((at_ : Int) + 2)]) (by simp [results, Try.results24, go_sem, tokV, F0, F1, F2, F3, F4, F5, F6, F7, F8, F9, F10]) rfl ⟨rfl, HF.out⟩
end Go.Proofs.Ytkbeiadbolihiaa
namespace Go.Proofs.Ytkbeiadbolihiaa
open Go.RowKit
set_option maxRecDepth 10000 in
set_option maxHeartbeats 2000000 in
theorem bytesOf_class {P : Nat → Bool} {a0 a1 a2 a3 : Nat} (h4 : C4 P a0 a1 a2 a3) (nt : Bool) (l m : Int) (lz : Bool) (at_ : Nat) (w : World) : Calls Try.prog 58 #[tokV 2 0 a0 a1 a2 a3 nt l m lz at_] w (RetC w P) := by
  unfold tokV
  go_enter Try.func58, Try.ntmps58
  go_wp2
  exact bodyPost_ret (v := .agg #[.int .u64 (a0 : Nat), .int .u64 (a1 : Nat), .int .u64 (a2 : Nat), .int .u64 (a3 : Nat)]) (by simp [results, Try.results58, go_sem]) rfl ⟨⟨a0, a1, a2, a3, rfl, h4⟩, bel2 _ _ _⟩
set_option maxRecDepth 10000 in
set_option maxHeartbeats 2000000 in
theorem bytesOf_byte (b : Nat) (hb : b < 256) (at_ : Nat) (w : World) : Calls Try.prog 58 #[tokV 1 b 0 0 0 0 false 0 0 false at_] w (RetC w (ofN (fun _ => b) 1)) := by
  unfold tokV
  have hO : Hid (∀ W : World, Calls Try.prog 66 #[.slice (some ⟨W.heap.size, 0, none⟩) 1 1] (W.alloc (.cells #[.int .u8 (b : Nat)] 5)) (RetC (W.alloc (.cells #[.int .u8 (b : Nat)] 5)) (ofN (fun _ => b) 1))) := fun W => of_any _ 1 1 (fun _ => b) _ (rd_one _ _ hb) (by decide)
  go_enter Try.func58, Try.ntmps58
  go_wp2_with fail
  have hO1 := hO.out ((w.alloc (.cells #[.int .i64 1, .int .u8 (b : Nat), .int .u64 0, .int .u64 0, .int .u64 0, .int .u64 0, .bool false, .int .i64 0, .int .i64 0, .bool false, .int .i64 (at_ : Nat)] 33)).alloc (.cells #[.int .u64 0, .int .u64 0, .int .u64 0, .int .u64 0] 31))
  simp only [World.size_alloc] at hO1
  refine hO1.mono ?_
  rintro e w1 ⟨⟨a, b', c, d, rfl, h4⟩, hb1⟩
  have hx : Bx w1 (w.heap.size + 1) (.int .u64 0) (.int .u64 0) (.int .u64 0) (.int .u64 0) := by
    have := ((Bx.new (w.alloc (.cells #[.int .i64 1, .int .u8 (b : Nat), .int .u64 0, .int .u64 0, .int .u64 0, .int .u64 0, .bool false, .int .i64 0, .int .i64 0, .bool false, .int .i64 (at_ : Nat)] 33)) (.int .u64 0) (.int .u64 0) (.int .u64 0) (.int .u64 0)).alloc (.cells #[.int .u8 (b : Nat)] 5)).below hb1
    simpa using this
  have hB1 : Below w.heap.size w w1 := (bel3 w _ _ _).trans (hb1.mono (by simp; omega))
  obtain ⟨y0, y1, y2, y3, v0, v1, v2, v3⟩ := hx.cells
  obtain ⟨z0, z1, z2, z3, _⟩ := (hx.set (.int .u64 (a : Nat)) (.int .u64 (b' : Nat)) (.int .u64 (c : Nat)) (.int .u64 (d : Nat))).cells
  have HB : Hid (Below w.heap.size w (put4 w1 (w.heap.size + 1) (.int .u64 (a : Nat)) (.int .u64 (b' : Nat)) (.int .u64 (c : Nat)) (.int .u64 (d : Nat)))) := below_put4 hB1 (by omega) _ _ _ _
  clear hb1 hO1 hB1
  go_wp2
  exact bodyPost_ret (v := .agg #[.int .u64 (a : Nat), .int .u64 (b' : Nat), .int .u64 (c : Nat), .int .u64 (d : Nat)]) (by simp [results, Try.results58, go_sem, z0, z1, z2, z3]) rfl ⟨⟨a, b', c, d, rfl, h4⟩, HB.out⟩
end Go.Proofs.Ytkbeiadbolihiaa
