/- token: Check of a repeat, and of a class: the walk. The reference of token: Check: the walk. -/
import Derived.Test.YtkbeiadbolihiaaDoorM20Bt
import Derived.Test.YtkbeiadbolihiaaDoorM06Cl
import Derived.Deep.RegionWith
import Derived.Test.YtkbeiadbolihiaaDoorM02Str
namespace Go.Proofs.YtkbeiadbolihiaaDoor
open Go.RowKit
set_option maxRecDepth 20000 in
set_option maxHeartbeats 2000000 in
theorem check_7 (b a0 a1 a2 a3 : Nat) (nt : Bool) (l m : Int) (lz : Bool) (t : Int) (w : World) : Calls Tryd.prog 8 #[tokI 7 b a0 a1 a2 a3 nt l m lz t] w (RetN w (erV (decide (0 ≤ t) && repP l m && eqT 7 b a0 a1 a2 a3 nt l m lz t 7 0 0 0 0 0 false l m lz t))) := by
  have hB := below2 w (.cells #[.int .i64 7, .int .u8 (b : Nat), .int .u64 (a0 : Nat), .int .u64 (a1 : Nat), .int .u64 (a2 : Nat), .int .u64 (a3 : Nat), .bool nt, .int .i64 l, .int .i64 m, .bool lz, .int .i64 t] 26) (.cells #[.int .i64 7, .int .u8 0, .int .u64 0, .int .u64 0, .int .u64 0, .int .u64 0, .bool false, .int .i64 l, .int .i64 m, .bool lz, .int .i64 t] 26)
  have hr := mayRepeat_any l m
  unfold tokI
  by_cases ht : 0 ≤ t
  · have hge : t ≥ 0 := ht
    rw [decide_eq_true ht, Bool.true_and]
    cases hrp : repP l m with
    | true =>
      rw [hrp] at hr
      rw [Bool.true_and]
      cases hq : eqT 7 b a0 a1 a2 a3 nt l m lz t 7 0 0 0 0 0 false l m lz t with
      | true =>
        have hn : ∀ w, (Go.binOp BinOp.neq 26 (.agg #[.int .i64 7, .int .u8 (b : Nat), .int .u64 (a0 : Nat), .int .u64 (a1 : Nat), .int .u64 (a2 : Nat), .int .u64 (a3 : Nat), .bool nt, .int .i64 l, .int .i64 m, .bool lz, .int .i64 t]) (.agg #[.int .i64 7, .int .u8 0, .int .u64 0, .int .u64 0, .int .u64 0, .int .u64 0, .bool false, .int .i64 l, .int .i64 m, .bool lz, .int .i64 t])).run Tryd.prog w = .ok (.bool false) w := fun w => by
          have h := run_neq26 7 b a0 a1 a2 a3 nt l m lz t 7 0 0 0 0 0 false l m lz t w
          rw [hq] at h
          exact h
        clear hq
        go_enter Tryd.func8, Tryd.ntmps8
        go_wp2_with fail
        go_region
        all_goals
          go_wp2_with fail
          refine (hr _).mono ?_
          rintro e w' ⟨rfl, rfl⟩
          go_wp2
          go_ret
          exact ⟨rfl, hB.drew⟩
      | false =>
        have hn : ∀ w, (Go.binOp BinOp.neq 26 (.agg #[.int .i64 7, .int .u8 (b : Nat), .int .u64 (a0 : Nat), .int .u64 (a1 : Nat), .int .u64 (a2 : Nat), .int .u64 (a3 : Nat), .bool nt, .int .i64 l, .int .i64 m, .bool lz, .int .i64 t]) (.agg #[.int .i64 7, .int .u8 0, .int .u64 0, .int .u64 0, .int .u64 0, .int .u64 0, .bool false, .int .i64 l, .int .i64 m, .bool lz, .int .i64 t])).run Tryd.prog w = .ok (.bool true) w := fun w => by
          have h := run_neq26 7 b a0 a1 a2 a3 nt l m lz t 7 0 0 0 0 0 false l m lz t w
          rw [hq] at h
          exact h
        clear hq
        go_enter Tryd.func8, Tryd.ntmps8
        go_wp2_with fail
        go_region
        all_goals
          go_wp2_with fail
          refine (hr _).mono ?_
          rintro e w' ⟨rfl, rfl⟩
          go_wp2
          go_ret
          exact ⟨rfl, hB.drew⟩
    | false =>
      rw [hrp] at hr
      rw [Bool.false_and]
      go_enter Tryd.func8, Tryd.ntmps8
      go_wp2_with fail
      go_region
      all_goals
        go_wp2_with fail
        refine (hr _).mono ?_
        rintro e w' ⟨rfl, rfl⟩
        go_wp2
        go_ret
        exact ⟨rfl, hB.drew⟩
  · have hge : ¬ t ≥ 0 := by omega
    rw [decide_eq_false ht, Bool.false_and, Bool.false_and]
    clear hr
    go_enter Tryd.func8, Tryd.ntmps8
    go_wp2_with fail
    go_region
    all_goals
      go_wp2
      go_ret
      exact ⟨rfl, hB.drew⟩
set_option maxRecDepth 20000 in
set_option maxHeartbeats 2000000 in
theorem check_2 {P : Nat → Bool} (b a0 a1 a2 a3 : Nat) (nt : Bool) (l m : Int) (lz : Bool) (t : Int) (w : World) (h4 : C4 P a0 a1 a2 a3) : Calls Tryd.prog 8 #[tokI 2 b a0 a1 a2 a3 nt l m lz t] w (RetN w (erV (decide (0 ≤ t) && mayP P nt && eqT 2 b a0 a1 a2 a3 nt l m lz t 2 0 a0 a1 a2 a3 nt 0 0 false t))) := by
  have hB := below2 w (.cells #[.int .i64 2, .int .u8 (b : Nat), .int .u64 (a0 : Nat), .int .u64 (a1 : Nat), .int .u64 (a2 : Nat), .int .u64 (a3 : Nat), .bool nt, .int .i64 l, .int .i64 m, .bool lz, .int .i64 t] 26) (.cells #[.int .i64 2, .int .u8 0, .int .u64 (a0 : Nat), .int .u64 (a1 : Nat), .int .u64 (a2 : Nat), .int .u64 (a3 : Nat), .bool nt, .int .i64 0, .int .i64 0, .bool false, .int .i64 t] 26)
  have hr := mayClass_c h4 nt
  have HK1 : Hid (Cl (((w.alloc (.cells #[.int .i64 2, .int .u8 (b : Nat), .int .u64 (a0 : Nat), .int .u64 (a1 : Nat), .int .u64 (a2 : Nat), .int .u64 (a3 : Nat), .bool nt, .int .i64 l, .int .i64 m, .bool lz, .int .i64 t] 26)).alloc (.cells #[.int .i64 2, .int .u8 0, .int .u64 (a0 : Nat), .int .u64 (a1 : Nat), .int .u64 (a2 : Nat), .int .u64 (a3 : Nat), .bool nt, .int .i64 0, .int .i64 0, .bool false, .int .i64 t] 26)).drew) w.heap.size 26 [.int .i64 2, .int .u8 (b : Nat), .int .u64 (a0 : Nat), .int .u64 (a1 : Nat), .int .u64 (a2 : Nat), .int .u64 (a3 : Nat), .bool nt, .int .i64 l, .int .i64 m, .bool lz, .int .i64 t]) := ((Cl.new w 26 _).alloc _).drew
  have HK2 : Hid (Cl (((w.alloc (.cells #[.int .i64 2, .int .u8 (b : Nat), .int .u64 (a0 : Nat), .int .u64 (a1 : Nat), .int .u64 (a2 : Nat), .int .u64 (a3 : Nat), .bool nt, .int .i64 l, .int .i64 m, .bool lz, .int .i64 t] 26)).alloc (.cells #[.int .i64 2, .int .u8 0, .int .u64 (a0 : Nat), .int .u64 (a1 : Nat), .int .u64 (a2 : Nat), .int .u64 (a3 : Nat), .bool nt, .int .i64 0, .int .i64 0, .bool false, .int .i64 t] 26)).drew) (w.heap.size + 1) 26 [.int .i64 2, .int .u8 0, .int .u64 (a0 : Nat), .int .u64 (a1 : Nat), .int .u64 (a2 : Nat), .int .u64 (a3 : Nat), .bool nt, .int .i64 0, .int .i64 0, .bool false, .int .i64 t]) := by
    have := (Cl.new (w.alloc (.cells #[.int .i64 2, .int .u8 (b : Nat), .int .u64 (a0 : Nat), .int .u64 (a1 : Nat), .int .u64 (a2 : Nat), .int .u64 (a3 : Nat), .bool nt, .int .i64 l, .int .i64 m, .bool lz, .int .i64 t] 26)) 26 [.int .i64 2, .int .u8 0, .int .u64 (a0 : Nat), .int .u64 (a1 : Nat), .int .u64 (a2 : Nat), .int .u64 (a3 : Nat), .bool nt, .int .i64 0, .int .i64 0, .bool false, .int .i64 t]).drew
    rw [World.size_alloc] at this
    exact this
  unfold tokI
  by_cases ht : 0 ≤ t
  · have hge : t ≥ 0 := ht
    rw [decide_eq_true ht, Bool.true_and]
    cases hrp : mayP P nt with
    | true =>
      rw [hrp] at hr
      rw [Bool.true_and]
      cases hq : eqT 2 b a0 a1 a2 a3 nt l m lz t 2 0 a0 a1 a2 a3 nt 0 0 false t with
      | true =>
        have hn : ∀ w, (Go.binOp BinOp.neq 26 (.agg #[.int .i64 2, .int .u8 (b : Nat), .int .u64 (a0 : Nat), .int .u64 (a1 : Nat), .int .u64 (a2 : Nat), .int .u64 (a3 : Nat), .bool nt, .int .i64 l, .int .i64 m, .bool lz, .int .i64 t]) (.agg #[.int .i64 2, .int .u8 0, .int .u64 (a0 : Nat), .int .u64 (a1 : Nat), .int .u64 (a2 : Nat), .int .u64 (a3 : Nat), .bool nt, .int .i64 0, .int .i64 0, .bool false, .int .i64 t])).run Tryd.prog w = .ok (.bool false) w := fun w => by
          have h := run_neq26 2 b a0 a1 a2 a3 nt l m lz t 2 0 a0 a1 a2 a3 nt 0 0 false t w
          rw [hq] at h
          exact h
        clear hq
        go_enter Tryd.func8, Tryd.ntmps8
        go_wp2_with fail
        go_region
        all_goals
          go_wp2_with fail
          refine (hr _).mono ?_
          rintro e w' ⟨rfl, hb⟩
          have k1 := HK1.out.below hb
          have k2 := HK2.out.below hb
          have HB : Hid (Below w.heap.size w w') := (hB.drew).trans (hb.mono hB.size)
          obtain ⟨x0, x1, x2, x3, x4, x5, x6, x7, x8, x9, x10⟩ := k1.eleven.1
          obtain ⟨z0, z1, z2, z3, z4, z5, z6, z7, z8, z9, z10⟩ := k2.eleven.1
          clear k1 k2 hb
          go_wp2
          go_ret
          exact ⟨rfl, HB.out⟩
      | false =>
        have hn : ∀ w, (Go.binOp BinOp.neq 26 (.agg #[.int .i64 2, .int .u8 (b : Nat), .int .u64 (a0 : Nat), .int .u64 (a1 : Nat), .int .u64 (a2 : Nat), .int .u64 (a3 : Nat), .bool nt, .int .i64 l, .int .i64 m, .bool lz, .int .i64 t]) (.agg #[.int .i64 2, .int .u8 0, .int .u64 (a0 : Nat), .int .u64 (a1 : Nat), .int .u64 (a2 : Nat), .int .u64 (a3 : Nat), .bool nt, .int .i64 0, .int .i64 0, .bool false, .int .i64 t])).run Tryd.prog w = .ok (.bool true) w := fun w => by
          have h := run_neq26 2 b a0 a1 a2 a3 nt l m lz t 2 0 a0 a1 a2 a3 nt 0 0 false t w
          rw [hq] at h
          exact h
        clear hq
        go_enter Tryd.func8, Tryd.ntmps8
        go_wp2_with fail
        go_region
        all_goals
          go_wp2_with fail
          refine (hr _).mono ?_
          rintro e w' ⟨rfl, hb⟩
          have k1 := HK1.out.below hb
          have k2 := HK2.out.below hb
          have HB : Hid (Below w.heap.size w w') := (hB.drew).trans (hb.mono hB.size)
          obtain ⟨x0, x1, x2, x3, x4, x5, x6, x7, x8, x9, x10⟩ := k1.eleven.1
          obtain ⟨z0, z1, z2, z3, z4, z5, z6, z7, z8, z9, z10⟩ := k2.eleven.1
          clear k1 k2 hb
          go_wp2
          go_ret
          exact ⟨rfl, HB.out⟩
    | false =>
      rw [hrp] at hr
      rw [Bool.false_and]
      go_enter Tryd.func8, Tryd.ntmps8
      go_wp2_with fail
      go_region
      all_goals
        go_wp2_with fail
        refine (hr _).mono ?_
        rintro e w' ⟨rfl, hb⟩
        have HB : Hid (Below w.heap.size w w') := (hB.drew).trans (hb.mono hB.size)
        clear hb
        go_wp2
        go_ret
        exact ⟨rfl, HB.out⟩
  · have hge : ¬ t ≥ 0 := by omega
    rw [decide_eq_false ht, Bool.false_and, Bool.false_and]
    clear hr
    go_enter Tryd.func8, Tryd.ntmps8
    go_wp2_with fail
    go_region
    all_goals
      go_wp2
      go_ret
      exact ⟨rfl, hB.drew⟩
end Go.Proofs.YtkbeiadbolihiaaDoor
namespace Go.Proofs.YtkbeiadbolihiaaDoor
open Go.RowKit
/-- Whether a token may be. -/
def chk (k : Int) (b : Nat) (P : Nat → Bool) (nt : Bool) (l m : Int) (lz : Bool) (t : Int) : Bool :=
  decide (0 ≤ t) && (if k = 1 then true else b == 0) && (if k = 2 then true else eqC P (fun _ => false) && !nt) && (if k = 7 then true else l == 0 && m == 0 && !lz) && (if k = 2 then mayP P nt else if k = 7 then repP l m else decide (1 ≤ k) && decide (k ≤ 9))
set_option maxRecDepth 20000 in
set_option maxHeartbeats 4000000 in
theorem rck_1 {P : Nat → Bool} (b a0 a1 a2 a3 : Nat) (nt : Bool) (l m : Int) (lz : Bool) (t : Int) (w : World) (h4 : C4 P a0 a1 a2 a3) : Calls Tryd.prog 9 #[tokI 1 b a0 a1 a2 a3 nt l m lz t] w (RetN w (erV (chk 1 b P nt l m lz t))) := by
  have hz : ∀ W, (Go.binOp .neq 24 (.agg #[.int .u64 (a0 : Nat), .int .u64 (a1 : Nat), .int .u64 (a2 : Nat), .int .u64 (a3 : Nat)]) (.agg #[.int .u64 0, .int .u64 0, .int .u64 0, .int .u64 0])).run Tryd.prog W = .ok (.bool (!eqC P fun _ => false)) W := fun W => by
    have := neq4 (a0 : Int) a1 a2 a3 0 0 0 0 W
    rw [show (0 : Int) = ((0 : Nat) : Int) from rfl, eq4_iff h4 c4_none] at this
    exact this
  have HB : Hid (Below w.heap.size w (w.alloc (.cells #[.int .i64 1, .int .u8 (b : Nat), .int .u64 (a0 : Nat), .int .u64 (a1 : Nat), .int .u64 (a2 : Nat), .int .u64 (a3 : Nat), .bool nt, .int .i64 l, .int .i64 m, .bool lz, .int .i64 t] 26))) := (Below.refl _ _).alloc (Nat.le_refl _) _
  by_cases ht : t < 0
  · have ht0 : ¬ 0 ≤ t := by omega
    have HC : Hid (chk 1 b P nt l m lz t = false) := by show chk 1 b P nt l m lz t = false; unfold chk; simp [ht0]
    clear h4
    unfold tokI
    go_enter Tryd.func9, Tryd.ntmps9
    go_wp2
    go_ret
    exact ⟨by rw [HC.out]; rfl, HB.out⟩
  have ht0 : 0 ≤ t := by omega
  cases hzz : eqC P fun _ => false with
  | false =>
    rw [hzz] at hz
    have HC : Hid (chk 1 b P nt l m lz t = false) := by show chk 1 b P nt l m lz t = false; unfold chk; simp [ht0, hzz]
    clear h4 hzz
    unfold tokI
    go_enter Tryd.func9, Tryd.ntmps9
    go_wp2
    go_ret
    exact ⟨by rw [HC.out]; rfl, HB.out⟩
  | true =>
  rw [hzz] at hz
  cases nt with
  | true =>
    have HC : Hid (chk 1 b P true l m lz t = false) := by show chk 1 b P true l m lz t = false; unfold chk; simp [ht0, hzz]
    clear h4 hzz
    unfold tokI
    go_enter Tryd.func9, Tryd.ntmps9
    go_wp2
    go_ret
    exact ⟨by rw [HC.out]; rfl, HB.out⟩
  | false =>
  by_cases hl : l = 0
  case neg =>
    have hl0 : (l != 0) = true := by simp; omega
    have HC : Hid (chk 1 b P false l m lz t = false) := by show chk 1 b P false l m lz t = false; unfold chk; simp [ht0, hzz, hl]
    clear h4 hzz
    unfold tokI
    go_enter Tryd.func9, Tryd.ntmps9
    go_wp2
    go_ret
    exact ⟨by rw [HC.out]; rfl, HB.out⟩
  subst hl
  by_cases hm : m = 0
  case neg =>
    have hm0 : (m != 0) = true := by simp; omega
    have HC : Hid (chk 1 b P false 0 m lz t = false) := by show chk 1 b P false 0 m lz t = false; unfold chk; simp [ht0, hzz, hm]
    clear h4 hzz
    unfold tokI
    go_enter Tryd.func9, Tryd.ntmps9
    go_wp2
    go_ret
    exact ⟨by rw [HC.out]; rfl, HB.out⟩
  subst hm
  cases lz with
  | true =>
    have HC : Hid (chk 1 b P false 0 0 true t = false) := by show chk 1 b P false 0 0 true t = false; unfold chk; simp [ht0, hzz]
    clear h4 hzz
    unfold tokI
    go_enter Tryd.func9, Tryd.ntmps9
    go_wp2
    go_ret
    exact ⟨by rw [HC.out]; rfl, HB.out⟩
  | false =>
  have HC : Hid (chk 1 b P false 0 0 false t = true) := by show chk 1 b P false 0 0 false t = true; unfold chk; simp [ht0, hzz]
  clear h4 hzz
  unfold tokI
  go_enter Tryd.func9, Tryd.ntmps9
  go_wp2
  go_ret
  exact ⟨by rw [HC.out]; rfl, HB.out⟩
set_option maxRecDepth 20000 in
set_option maxHeartbeats 4000000 in
theorem rck_s (k : Int) (hk : 3 ≤ k ∧ k ≤ 9 ∧ k ≠ 7) {P : Nat → Bool} (b a0 a1 a2 a3 : Nat) (nt : Bool) (l m : Int) (lz : Bool) (t : Int) (w : World) (h4 : C4 P a0 a1 a2 a3) : Calls Tryd.prog 9 #[tokI k b a0 a1 a2 a3 nt l m lz t] w (RetN w (erV (chk k b P nt l m lz t))) := by
  have hz : ∀ W, (Go.binOp .neq 24 (.agg #[.int .u64 (a0 : Nat), .int .u64 (a1 : Nat), .int .u64 (a2 : Nat), .int .u64 (a3 : Nat)]) (.agg #[.int .u64 0, .int .u64 0, .int .u64 0, .int .u64 0])).run Tryd.prog W = .ok (.bool (!eqC P fun _ => false)) W := fun W => by
    have := neq4 (a0 : Int) a1 a2 a3 0 0 0 0 W
    rw [show (0 : Int) = ((0 : Nat) : Int) from rfl, eq4_iff h4 c4_none] at this
    exact this
  have HB : Hid (Below w.heap.size w (w.alloc (.cells #[.int .i64 k, .int .u8 (b : Nat), .int .u64 (a0 : Nat), .int .u64 (a1 : Nat), .int .u64 (a2 : Nat), .int .u64 (a3 : Nat), .bool nt, .int .i64 l, .int .i64 m, .bool lz, .int .i64 t] 26))) := (Below.refl _ _).alloc (Nat.le_refl _) _
  have n1 : (k != 1) = true := by simp; omega
  have e1 : (k == 1) = false := by simp; omega
  have z1 : ¬ k = 1 := by omega
  have n2 : (k != 2) = true := by simp; omega
  have e2 : (k == 2) = false := by simp; omega
  have z2 : ¬ k = 2 := by omega
  have n7 : (k != 7) = true := by simp; omega
  have e7 : (k == 7) = false := by simp; omega
  have z7 : ¬ k = 7 := by omega
  have g1 : k ≥ 1 := by omega
  have g9 : k ≤ 9 := by omega
  have g1' : 1 ≤ k := by omega
  by_cases ht : t < 0
  · have ht0 : ¬ 0 ≤ t := by omega
    have HC : Hid (chk k b P nt l m lz t = false) := by show chk k b P nt l m lz t = false; unfold chk; simp [z1, z2, z7, g1', g9, ht0]
    clear h4
    unfold tokI
    go_enter Tryd.func9, Tryd.ntmps9
    go_wp2
    go_ret
    exact ⟨by rw [HC.out]; rfl, HB.out⟩
  have ht0 : 0 ≤ t := by omega
  by_cases hb : b = 0
  case neg =>
    have hb0 : ((b : Int) != 0) = true := by simp; omega
    have HC : Hid (chk k b P nt l m lz t = false) := by show chk k b P nt l m lz t = false; unfold chk; simp [z1, z2, z7, g1', g9, ht0, hb]
    clear h4
    unfold tokI
    go_enter Tryd.func9, Tryd.ntmps9
    go_wp2
    go_ret
    exact ⟨by rw [HC.out]; rfl, HB.out⟩
  subst hb
  cases hzz : eqC P fun _ => false with
  | false =>
    rw [hzz] at hz
    have HC : Hid (chk k 0 P nt l m lz t = false) := by show chk k 0 P nt l m lz t = false; unfold chk; simp [z1, z2, z7, g1', g9, ht0, hzz]
    clear h4 hzz
    unfold tokI
    go_enter Tryd.func9, Tryd.ntmps9
    go_wp2
    go_ret
    exact ⟨by rw [HC.out]; rfl, HB.out⟩
  | true =>
  rw [hzz] at hz
  cases nt with
  | true =>
    have HC : Hid (chk k 0 P true l m lz t = false) := by show chk k 0 P true l m lz t = false; unfold chk; simp [z1, z2, z7, g1', g9, ht0, hzz]
    clear h4 hzz
    unfold tokI
    go_enter Tryd.func9, Tryd.ntmps9
    go_wp2
    go_ret
    exact ⟨by rw [HC.out]; rfl, HB.out⟩
  | false =>
  by_cases hl : l = 0
  case neg =>
    have hl0 : (l != 0) = true := by simp; omega
    have HC : Hid (chk k 0 P false l m lz t = false) := by show chk k 0 P false l m lz t = false; unfold chk; simp [z1, z2, z7, g1', g9, ht0, hzz, hl]
    clear h4 hzz
    unfold tokI
    go_enter Tryd.func9, Tryd.ntmps9
    go_wp2
    go_ret
    exact ⟨by rw [HC.out]; rfl, HB.out⟩
  subst hl
  by_cases hm : m = 0
  case neg =>
    have hm0 : (m != 0) = true := by simp; omega
    have HC : Hid (chk k 0 P false 0 m lz t = false) := by show chk k 0 P false 0 m lz t = false; unfold chk; simp [z1, z2, z7, g1', g9, ht0, hzz, hm]
    clear h4 hzz
    unfold tokI
    go_enter Tryd.func9, Tryd.ntmps9
    go_wp2
    go_ret
    exact ⟨by rw [HC.out]; rfl, HB.out⟩
  subst hm
  cases lz with
  | true =>
    have HC : Hid (chk k 0 P false 0 0 true t = false) := by show chk k 0 P false 0 0 true t = false; unfold chk; simp [z1, z2, z7, g1', g9, ht0, hzz]
    clear h4 hzz
    unfold tokI
    go_enter Tryd.func9, Tryd.ntmps9
    go_wp2
    go_ret
    exact ⟨by rw [HC.out]; rfl, HB.out⟩
  | false =>
  have HC : Hid (chk k 0 P false 0 0 false t = true) := by show chk k 0 P false 0 0 false t = true; unfold chk; simp [z1, z2, z7, g1', g9, ht0, hzz]
  clear h4 hzz
  unfold tokI
  go_enter Tryd.func9, Tryd.ntmps9
  go_wp2
  go_ret
  exact ⟨by rw [HC.out]; rfl, HB.out⟩
set_option maxRecDepth 20000 in
set_option maxHeartbeats 4000000 in
theorem rck_lo (k : Int) (hk : k < 1) {P : Nat → Bool} (b a0 a1 a2 a3 : Nat) (nt : Bool) (l m : Int) (lz : Bool) (t : Int) (w : World) (h4 : C4 P a0 a1 a2 a3) : Calls Tryd.prog 9 #[tokI k b a0 a1 a2 a3 nt l m lz t] w (RetN w (erV (chk k b P nt l m lz t))) := by
  have hz : ∀ W, (Go.binOp .neq 24 (.agg #[.int .u64 (a0 : Nat), .int .u64 (a1 : Nat), .int .u64 (a2 : Nat), .int .u64 (a3 : Nat)]) (.agg #[.int .u64 0, .int .u64 0, .int .u64 0, .int .u64 0])).run Tryd.prog W = .ok (.bool (!eqC P fun _ => false)) W := fun W => by
    have := neq4 (a0 : Int) a1 a2 a3 0 0 0 0 W
    rw [show (0 : Int) = ((0 : Nat) : Int) from rfl, eq4_iff h4 c4_none] at this
    exact this
  have HB : Hid (Below w.heap.size w (w.alloc (.cells #[.int .i64 k, .int .u8 (b : Nat), .int .u64 (a0 : Nat), .int .u64 (a1 : Nat), .int .u64 (a2 : Nat), .int .u64 (a3 : Nat), .bool nt, .int .i64 l, .int .i64 m, .bool lz, .int .i64 t] 26))) := (Below.refl _ _).alloc (Nat.le_refl _) _
  have n1 : (k != 1) = true := by simp; omega
  have e1 : (k == 1) = false := by simp; omega
  have z1 : ¬ k = 1 := by omega
  have n2 : (k != 2) = true := by simp; omega
  have e2 : (k == 2) = false := by simp; omega
  have z2 : ¬ k = 2 := by omega
  have n7 : (k != 7) = true := by simp; omega
  have e7 : (k == 7) = false := by simp; omega
  have z7 : ¬ k = 7 := by omega
  have g1 : ¬ k ≥ 1 := by omega
  have g1' : ¬ 1 ≤ k := by omega
  by_cases ht : t < 0
  · have ht0 : ¬ 0 ≤ t := by omega
    have HC : Hid (chk k b P nt l m lz t = false) := by show chk k b P nt l m lz t = false; unfold chk; simp [z1, z2, z7, g1', ht0]
    clear h4
    unfold tokI
    go_enter Tryd.func9, Tryd.ntmps9
    go_wp2
    go_ret
    exact ⟨by rw [HC.out]; rfl, HB.out⟩
  have ht0 : 0 ≤ t := by omega
  by_cases hb : b = 0
  case neg =>
    have hb0 : ((b : Int) != 0) = true := by simp; omega
    have HC : Hid (chk k b P nt l m lz t = false) := by show chk k b P nt l m lz t = false; unfold chk; simp [z1, z2, z7, g1', ht0]
    clear h4
    unfold tokI
    go_enter Tryd.func9, Tryd.ntmps9
    go_wp2
    go_ret
    exact ⟨by rw [HC.out]; rfl, HB.out⟩
  subst hb
  cases hzz : eqC P fun _ => false with
  | false =>
    rw [hzz] at hz
    have HC : Hid (chk k 0 P nt l m lz t = false) := by show chk k 0 P nt l m lz t = false; unfold chk; simp [z1, z2, z7, g1', ht0, hzz]
    clear h4 hzz
    unfold tokI
    go_enter Tryd.func9, Tryd.ntmps9
    go_wp2
    go_ret
    exact ⟨by rw [HC.out]; rfl, HB.out⟩
  | true =>
  rw [hzz] at hz
  cases nt with
  | true =>
    have HC : Hid (chk k 0 P true l m lz t = false) := by show chk k 0 P true l m lz t = false; unfold chk; simp [z1, z2, z7, g1', ht0, hzz]
    clear h4 hzz
    unfold tokI
    go_enter Tryd.func9, Tryd.ntmps9
    go_wp2
    go_ret
    exact ⟨by rw [HC.out]; rfl, HB.out⟩
  | false =>
  by_cases hl : l = 0
  case neg =>
    have hl0 : (l != 0) = true := by simp; omega
    have HC : Hid (chk k 0 P false l m lz t = false) := by show chk k 0 P false l m lz t = false; unfold chk; simp [z1, z2, z7, g1', ht0, hzz]
    clear h4 hzz
    unfold tokI
    go_enter Tryd.func9, Tryd.ntmps9
    go_wp2
    go_ret
    exact ⟨by rw [HC.out]; rfl, HB.out⟩
  subst hl
  by_cases hm : m = 0
  case neg =>
    have hm0 : (m != 0) = true := by simp; omega
    have HC : Hid (chk k 0 P false 0 m lz t = false) := by show chk k 0 P false 0 m lz t = false; unfold chk; simp [z1, z2, z7, g1', ht0, hzz]
    clear h4 hzz
    unfold tokI
    go_enter Tryd.func9, Tryd.ntmps9
    go_wp2
    go_ret
    exact ⟨by rw [HC.out]; rfl, HB.out⟩
  subst hm
  cases lz with
  | true =>
    have HC : Hid (chk k 0 P false 0 0 true t = false) := by show chk k 0 P false 0 0 true t = false; unfold chk; simp [z1, z2, z7, g1', ht0, hzz]
    clear h4 hzz
    unfold tokI
    go_enter Tryd.func9, Tryd.ntmps9
    go_wp2
    go_ret
    exact ⟨by rw [HC.out]; rfl, HB.out⟩
  | false =>
  have HC : Hid (chk k 0 P false 0 0 false t = false) := by show chk k 0 P false 0 0 false t = false; unfold chk; simp [z1, z2, z7, g1', ht0, hzz]
  clear h4 hzz
  unfold tokI
  go_enter Tryd.func9, Tryd.ntmps9
  go_wp2
  go_ret
  exact ⟨by rw [HC.out]; rfl, HB.out⟩
set_option maxRecDepth 20000 in
set_option maxHeartbeats 4000000 in
theorem rck_hi (k : Int) (hk : 9 < k) {P : Nat → Bool} (b a0 a1 a2 a3 : Nat) (nt : Bool) (l m : Int) (lz : Bool) (t : Int) (w : World) (h4 : C4 P a0 a1 a2 a3) : Calls Tryd.prog 9 #[tokI k b a0 a1 a2 a3 nt l m lz t] w (RetN w (erV (chk k b P nt l m lz t))) := by
  have hz : ∀ W, (Go.binOp .neq 24 (.agg #[.int .u64 (a0 : Nat), .int .u64 (a1 : Nat), .int .u64 (a2 : Nat), .int .u64 (a3 : Nat)]) (.agg #[.int .u64 0, .int .u64 0, .int .u64 0, .int .u64 0])).run Tryd.prog W = .ok (.bool (!eqC P fun _ => false)) W := fun W => by
    have := neq4 (a0 : Int) a1 a2 a3 0 0 0 0 W
    rw [show (0 : Int) = ((0 : Nat) : Int) from rfl, eq4_iff h4 c4_none] at this
    exact this
  have HB : Hid (Below w.heap.size w (w.alloc (.cells #[.int .i64 k, .int .u8 (b : Nat), .int .u64 (a0 : Nat), .int .u64 (a1 : Nat), .int .u64 (a2 : Nat), .int .u64 (a3 : Nat), .bool nt, .int .i64 l, .int .i64 m, .bool lz, .int .i64 t] 26))) := (Below.refl _ _).alloc (Nat.le_refl _) _
  have n1 : (k != 1) = true := by simp; omega
  have e1 : (k == 1) = false := by simp; omega
  have z1 : ¬ k = 1 := by omega
  have n2 : (k != 2) = true := by simp; omega
  have e2 : (k == 2) = false := by simp; omega
  have z2 : ¬ k = 2 := by omega
  have n7 : (k != 7) = true := by simp; omega
  have e7 : (k == 7) = false := by simp; omega
  have z7 : ¬ k = 7 := by omega
  have g1 : k ≥ 1 := by omega
  have g9 : ¬ k ≤ 9 := by omega
  by_cases ht : t < 0
  · have ht0 : ¬ 0 ≤ t := by omega
    have HC : Hid (chk k b P nt l m lz t = false) := by show chk k b P nt l m lz t = false; unfold chk; simp [z1, z2, z7, g9, ht0]
    clear h4
    unfold tokI
    go_enter Tryd.func9, Tryd.ntmps9
    go_wp2
    go_ret
    exact ⟨by rw [HC.out]; rfl, HB.out⟩
  have ht0 : 0 ≤ t := by omega
  by_cases hb : b = 0
  case neg =>
    have hb0 : ((b : Int) != 0) = true := by simp; omega
    have HC : Hid (chk k b P nt l m lz t = false) := by show chk k b P nt l m lz t = false; unfold chk; simp [z1, z2, z7, g9, ht0]
    clear h4
    unfold tokI
    go_enter Tryd.func9, Tryd.ntmps9
    go_wp2
    go_ret
    exact ⟨by rw [HC.out]; rfl, HB.out⟩
  subst hb
  cases hzz : eqC P fun _ => false with
  | false =>
    rw [hzz] at hz
    have HC : Hid (chk k 0 P nt l m lz t = false) := by show chk k 0 P nt l m lz t = false; unfold chk; simp [z1, z2, z7, g9, ht0, hzz]
    clear h4 hzz
    unfold tokI
    go_enter Tryd.func9, Tryd.ntmps9
    go_wp2
    go_ret
    exact ⟨by rw [HC.out]; rfl, HB.out⟩
  | true =>
  rw [hzz] at hz
  cases nt with
  | true =>
    have HC : Hid (chk k 0 P true l m lz t = false) := by show chk k 0 P true l m lz t = false; unfold chk; simp [z1, z2, z7, g9, ht0, hzz]
    clear h4 hzz
    unfold tokI
    go_enter Tryd.func9, Tryd.ntmps9
    go_wp2
    go_ret
    exact ⟨by rw [HC.out]; rfl, HB.out⟩
  | false =>
  by_cases hl : l = 0
  case neg =>
    have hl0 : (l != 0) = true := by simp; omega
    have HC : Hid (chk k 0 P false l m lz t = false) := by show chk k 0 P false l m lz t = false; unfold chk; simp [z1, z2, z7, g9, ht0, hzz]
    clear h4 hzz
    unfold tokI
    go_enter Tryd.func9, Tryd.ntmps9
    go_wp2
    go_ret
    exact ⟨by rw [HC.out]; rfl, HB.out⟩
  subst hl
  by_cases hm : m = 0
  case neg =>
    have hm0 : (m != 0) = true := by simp; omega
    have HC : Hid (chk k 0 P false 0 m lz t = false) := by show chk k 0 P false 0 m lz t = false; unfold chk; simp [z1, z2, z7, g9, ht0, hzz]
    clear h4 hzz
    unfold tokI
    go_enter Tryd.func9, Tryd.ntmps9
    go_wp2
    go_ret
    exact ⟨by rw [HC.out]; rfl, HB.out⟩
  subst hm
  cases lz with
  | true =>
    have HC : Hid (chk k 0 P false 0 0 true t = false) := by show chk k 0 P false 0 0 true t = false; unfold chk; simp [z1, z2, z7, g9, ht0, hzz]
    clear h4 hzz
    unfold tokI
    go_enter Tryd.func9, Tryd.ntmps9
    go_wp2
    go_ret
    exact ⟨by rw [HC.out]; rfl, HB.out⟩
  | false =>
  have HC : Hid (chk k 0 P false 0 0 false t = false) := by show chk k 0 P false 0 0 false t = false; unfold chk; simp [z1, z2, z7, g9, ht0, hzz]
  clear h4 hzz
  unfold tokI
  go_enter Tryd.func9, Tryd.ntmps9
  go_wp2
  go_ret
  exact ⟨by rw [HC.out]; rfl, HB.out⟩
end Go.Proofs.YtkbeiadbolihiaaDoor
