/- The reference of token: Check of a class: the walk. The reference of token: Check of a repeat: the walk. Check and the reference's Check: one answer. -/
import Derived.Test.YtkbeiadbolihiaaDoorM26Cz
import Derived.Test.YtkbeiadbolihiaaDoorM02Str
import Derived.Test.YtkbeiadbolihiaaDoorM18Wo
namespace Go.Proofs.YtkbeiadbolihiaaDoor
open Go.RowKit
set_option maxRecDepth 20000 in
set_option maxHeartbeats 4000000 in
theorem rck_2 {P : Nat → Bool} (b a0 a1 a2 a3 : Nat) (nt : Bool) (l m : Int) (lz : Bool) (t : Int) (w : World) (h4 : C4 P a0 a1 a2 a3) : Calls Tryd.prog 9 #[tokI 2 b a0 a1 a2 a3 nt l m lz t] w (RetN w (erV (chk 2 b P nt l m lz t))) := by
  have hz : ∀ W, (Go.binOp .neq 24 (.agg #[.int .u64 (a0 : Nat), .int .u64 (a1 : Nat), .int .u64 (a2 : Nat), .int .u64 (a3 : Nat)]) (.agg #[.int .u64 0, .int .u64 0, .int .u64 0, .int .u64 0])).run Tryd.prog W = .ok (.bool (!eqC P fun _ => false)) W := fun W => by
    have := neq4 (a0 : Int) a1 a2 a3 0 0 0 0 W
    rw [show (0 : Int) = ((0 : Nat) : Int) from rfl, eq4_iff h4 c4_none] at this
    exact this
  have HB : Hid (Below w.heap.size w (w.alloc (.cells #[.int .i64 2, .int .u8 (b : Nat), .int .u64 (a0 : Nat), .int .u64 (a1 : Nat), .int .u64 (a2 : Nat), .int .u64 (a3 : Nat), .bool nt, .int .i64 l, .int .i64 m, .bool lz, .int .i64 t] 26))) := (Below.refl _ _).alloc (Nat.le_refl _) _
  by_cases ht : t < 0
  · have ht0 : ¬ 0 ≤ t := by omega
    have HC : Hid (chk 2 b P nt l m lz t = false) := by show chk 2 b P nt l m lz t = false; unfold chk; simp [ht0]
    clear h4
    unfold tokI
    go_enter Tryd.func9, Tryd.ntmps9
    go_wp2
    go_ret
    exact ⟨by rw [HC.out]; rfl, HB.out⟩
  have ht0 : 0 ≤ t := by omega
  by_cases hb : b = 0
  case neg =>
    have hb0 : ((b : Int) != 0) = true := by simp; omega
    have HC : Hid (chk 2 b P nt l m lz t = false) := by show chk 2 b P nt l m lz t = false; unfold chk; simp [ht0, hb]
    clear h4
    unfold tokI
    go_enter Tryd.func9, Tryd.ntmps9
    go_wp2
    go_ret
    exact ⟨by rw [HC.out]; rfl, HB.out⟩
  subst hb
  by_cases hl : l = 0
  case neg =>
    have hl0 : (l != 0) = true := by simp; omega
    have HC : Hid (chk 2 0 P nt l m lz t = false) := by show chk 2 0 P nt l m lz t = false; unfold chk; simp [ht0, hl]
    clear h4
    unfold tokI
    go_enter Tryd.func9, Tryd.ntmps9
    go_wp2
    go_ret
    exact ⟨by rw [HC.out]; rfl, HB.out⟩
  subst hl
  by_cases hm : m = 0
  case neg =>
    have hm0 : (m != 0) = true := by simp; omega
    have HC : Hid (chk 2 0 P nt 0 m lz t = false) := by show chk 2 0 P nt 0 m lz t = false; unfold chk; simp [ht0, hm]
    clear h4
    unfold tokI
    go_enter Tryd.func9, Tryd.ntmps9
    go_wp2
    go_ret
    exact ⟨by rw [HC.out]; rfl, HB.out⟩
  subst hm
  cases lz with
  | true =>
    have HC : Hid (chk 2 0 P nt 0 0 true t = false) := by show chk 2 0 P nt 0 0 true t = false; unfold chk; simp [ht0]
    clear h4
    unfold tokI
    go_enter Tryd.func9, Tryd.ntmps9
    go_wp2
    go_ret
    exact ⟨by rw [HC.out]; rfl, HB.out⟩
  | false =>
  have HB2 : Hid (∀ q, Below w.heap.size w ((w.alloc (.cells #[.int .i64 2, .int .u8 0, .int .u64 (a0 : Nat), .int .u64 (a1 : Nat), .int .u64 (a2 : Nat), .int .u64 (a3 : Nat), .bool nt, .int .i64 0, .int .i64 0, .bool false, .int .i64 t] 26)).drewN q)) := fun q => HB.out.trans ((bel_drewN _ q).mono HB.out.size)
  cases hzz : eqC P fun _ => false with
  | true =>
    rw [hzz] at hz
    have HC : Hid (chk 2 0 P nt 0 0 false t = false) := by show chk 2 0 P nt 0 0 false t = false; unfold chk mayP; simp [ht0, hzz]
    clear h4 hzz
    unfold tokI
    go_enter Tryd.func9, Tryd.ntmps9
    go_wp2_with fail
    go_quiet (fail)
    go_wp2
    go_ret
    exact ⟨by rw [HC.out]; rfl, HB2.out _⟩
  | false =>
  rw [hzz] at hz
  cases nt with
  | false =>
    have HC : Hid (chk 2 0 P false 0 0 false t = true) := by show chk 2 0 P false 0 0 false t = true; unfold chk mayP; simp [ht0, hzz]
    clear h4 hzz
    unfold tokI
    go_enter Tryd.func9, Tryd.ntmps9
    go_wp2_with fail
    go_quiet (fail)
    go_wp2
    go_ret
    exact ⟨by rw [HC.out]; rfl, HB2.out _⟩
  | true =>
  obtain ⟨o0, o1, o2, o3, ho⟩ : ∃ a b c d, C4 (rg 0 256) a b c d := ⟨_, _, _, _, wds_is _⟩
  have hF : Hid (∀ W, Calls Tryd.prog 21 #[] W fun e w' => e = .returned (.agg #[.int .u64 (o0 : Nat), .int .u64 (o1 : Nat), .int .u64 (o2 : Nat), .int .u64 (o3 : Nat)]) ∧ Below W.heap.size W w') := fun W => (rfull_any W).mono fun e w' h => by
    obtain ⟨⟨g0, g1, g2, g3, rfl, h4⟩, hb⟩ := h
    obtain ⟨rfl, rfl, rfl, rfl⟩ := h4.uniq ho
    exact ⟨rfl, hb⟩
  have hne : ∀ W, (Go.binOp .neq 24 (.agg #[.int .u64 (a0 : Nat), .int .u64 (a1 : Nat), .int .u64 (a2 : Nat), .int .u64 (a3 : Nat)]) (.agg #[.int .u64 (o0 : Nat), .int .u64 (o1 : Nat), .int .u64 (o2 : Nat), .int .u64 (o3 : Nat)])).run Tryd.prog W = .ok (.bool (!eqC P fun _ => true)) W := fun W => by
    have h := neq4 (a0 : Int) a1 a2 a3 o0 o1 o2 o3 W
    rw [eq4_iff h4 ho] at h
    have e : eqC P (rg 0 256) = eqC P fun _ => true := by
      have e1 : ∀ x, x < 256 → rg 0 256 x = true := fun x hx => by unfold rg; simp; omega
      cases h : eqC P (fun _ => true)
      · cases h2 : eqC P (rg 0 256)
        · rfl
        · rw [(eqC_iff _ _).2 (fun x hx => ((eqC_iff _ _).1 h2 x hx).trans (e1 x hx))] at h; cases h
      · exact (eqC_iff _ _).2 (fun x hx => ((eqC_iff _ _).1 h x hx).trans (e1 x hx).symm)
    rw [e] at h
    exact h
  have hk := Cl.new w 26 [.int .i64 2, .int .u8 0, .int .u64 (a0 : Nat), .int .u64 (a1 : Nat), .int .u64 (a2 : Nat), .int .u64 (a3 : Nat), .bool true, .int .i64 0, .int .i64 0, .bool false, .int .i64 t]
  obtain ⟨x0, x1, x2, x3, x4, x5, x6, x7, x8, x9, x10⟩ := hk.eleven.1
  have z2 := Near.cell x2 hk.lt
  have z3 := Near.cell x3 hk.lt
  have z4 := Near.cell x4 hk.lt
  have z5 := Near.cell x5 hk.lt
  have z6 := Near.cell x6 hk.lt
  have HK : Hid (∀ u, Cl (near (w.alloc (.cells #[.int .i64 2, .int .u8 0, .int .u64 (a0 : Nat), .int .u64 (a1 : Nat), .int .u64 (a2 : Nat), .int .u64 (a3 : Nat), .bool true, .int .i64 0, .int .i64 0, .bool false, .int .i64 t] 26)) u) w.heap.size 26 [.int .i64 2, .int .u8 0, .int .u64 (a0 : Nat), .int .u64 (a1 : Nat), .int .u64 (a2 : Nat), .int .u64 (a3 : Nat), .bool true, .int .i64 0, .int .i64 0, .bool false, .int .i64 t]) := fun u => hk.below (near_below _ u)
  have HU : Hid (∀ u, Below w.heap.size w (near (w.alloc (.cells #[.int .i64 2, .int .u8 0, .int .u64 (a0 : Nat), .int .u64 (a1 : Nat), .int .u64 (a2 : Nat), .int .u64 (a3 : Nat), .bool true, .int .i64 0, .int .i64 0, .bool false, .int .i64 t] 26)) u)) := fun u => HB.out.trans ((near_below _ u).mono HB.out.size)
  clear x0 x1 x2 x3 x4 x5 x6 x7 x8 x9 x10 hk ho
  unfold tokI
  cases hfl : eqC P fun _ => true with
  | true =>
    rw [hfl] at hne
    have HC : Hid (chk 2 0 P true 0 0 false t = false) := by show chk 2 0 P true 0 0 false t = false; unfold chk mayP; simp [ht0, hzz, hfl]
    clear h4 hzz hfl HB HB2
    go_enter Tryd.func9, Tryd.ntmps9
    go_wp2_with fail
    refine wp_region_quiet_tail 15 (fun w' => ∃ u : World, w' = near (w.alloc (.cells #[.int .i64 2, .int .u8 0, .int .u64 (a0 : Nat), .int .u64 (a1 : Nat), .int .u64 (a2 : Nat), .int .u64 (a3 : Nat), .bool true, .int .i64 0, .int .i64 0, .bool false, .int .i64 t] 26)) u) (by kernel_rfl) (by kernel_rfl) (Near.start _) ?_
    simp only [List.take_succ_cons, List.take_zero, List.drop_succ_cons, List.drop_zero]
    repeat (go_big_quiet_step ((go_at_call 21; exact Near.call (hF.out _))))
    refine wpQuiet_nil ?_
    rintro _ ⟨u, rfl⟩
    obtain ⟨x0, x1, x2, x3, x4, x5, x6, x7, x8, x9, x10⟩ := (HK.out u).eleven.1
    have HU2 := HU.out u
    clear z2 z3 z4 z5 z6 HK HU
    generalize near (w.alloc (.cells #[.int .i64 2, .int .u8 0, .int .u64 (a0 : Nat), .int .u64 (a1 : Nat), .int .u64 (a2 : Nat), .int .u64 (a3 : Nat), .bool true, .int .i64 0, .int .i64 0, .bool false, .int .i64 t] 26)) u = W1 at *
    have HU3 : Hid (Below w.heap.size w W1) := HU2
    clear HU2
    go_wp2
    go_ret
    exact ⟨by rw [HC.out]; rfl, HU3.out⟩
  | false =>
    rw [hfl] at hne
    have HC : Hid (chk 2 0 P true 0 0 false t = true) := by show chk 2 0 P true 0 0 false t = true; unfold chk mayP; simp [ht0, hzz, hfl]
    clear h4 hzz hfl HB HB2
    go_enter Tryd.func9, Tryd.ntmps9
    go_wp2_with fail
    refine wp_region_quiet_tail 15 (fun w' => ∃ u : World, w' = near (w.alloc (.cells #[.int .i64 2, .int .u8 0, .int .u64 (a0 : Nat), .int .u64 (a1 : Nat), .int .u64 (a2 : Nat), .int .u64 (a3 : Nat), .bool true, .int .i64 0, .int .i64 0, .bool false, .int .i64 t] 26)) u) (by kernel_rfl) (by kernel_rfl) (Near.start _) ?_
    simp only [List.take_succ_cons, List.take_zero, List.drop_succ_cons, List.drop_zero]
    repeat (go_big_quiet_step ((go_at_call 21; exact Near.call (hF.out _))))
    refine wpQuiet_nil ?_
    rintro _ ⟨u, rfl⟩
    obtain ⟨x0, x1, x2, x3, x4, x5, x6, x7, x8, x9, x10⟩ := (HK.out u).eleven.1
    have HU2 := HU.out u
    clear z2 z3 z4 z5 z6 HK HU
    generalize near (w.alloc (.cells #[.int .i64 2, .int .u8 0, .int .u64 (a0 : Nat), .int .u64 (a1 : Nat), .int .u64 (a2 : Nat), .int .u64 (a3 : Nat), .bool true, .int .i64 0, .int .i64 0, .bool false, .int .i64 t] 26)) u = W1 at *
    have HU3 : Hid (Below w.heap.size w W1) := HU2
    clear HU2
    go_wp2
    go_ret
    exact ⟨by rw [HC.out]; rfl, HU3.out⟩
end Go.Proofs.YtkbeiadbolihiaaDoor
namespace Go.Proofs.YtkbeiadbolihiaaDoor
open Go.RowKit
set_option maxRecDepth 20000 in
set_option maxHeartbeats 4000000 in
theorem rck_7 {P : Nat → Bool} (b a0 a1 a2 a3 : Nat) (nt : Bool) (l m : Int) (lz : Bool) (t : Int) (w : World) (h4 : C4 P a0 a1 a2 a3) : Calls Tryd.prog 9 #[tokI 7 b a0 a1 a2 a3 nt l m lz t] w (RetN w (erV (chk 7 b P nt l m lz t))) := by
  have hz : ∀ W, (Go.binOp .neq 24 (.agg #[.int .u64 (a0 : Nat), .int .u64 (a1 : Nat), .int .u64 (a2 : Nat), .int .u64 (a3 : Nat)]) (.agg #[.int .u64 0, .int .u64 0, .int .u64 0, .int .u64 0])).run Tryd.prog W = .ok (.bool (!eqC P fun _ => false)) W := fun W => by
    have := neq4 (a0 : Int) a1 a2 a3 0 0 0 0 W
    rw [show (0 : Int) = ((0 : Nat) : Int) from rfl, eq4_iff h4 c4_none] at this
    exact this
  have HB : Hid (Below w.heap.size w (w.alloc (.cells #[.int .i64 7, .int .u8 (b : Nat), .int .u64 (a0 : Nat), .int .u64 (a1 : Nat), .int .u64 (a2 : Nat), .int .u64 (a3 : Nat), .bool nt, .int .i64 l, .int .i64 m, .bool lz, .int .i64 t] 26))) := (Below.refl _ _).alloc (Nat.le_refl _) _
  by_cases ht : t < 0
  · have ht0 : ¬ 0 ≤ t := by omega
    have HC : Hid (chk 7 b P nt l m lz t = false) := by show chk 7 b P nt l m lz t = false; unfold chk; simp [ht0]
    clear h4
    unfold tokI
    go_enter Tryd.func9, Tryd.ntmps9
    go_wp2
    go_ret
    exact ⟨by rw [HC.out]; rfl, HB.out⟩
  have ht0 : 0 ≤ t := by omega
  by_cases hb : b = 0
  case neg =>
    have hb0 : ((b : Int) != 0) = true := by simp; omega
    have HC : Hid (chk 7 b P nt l m lz t = false) := by show chk 7 b P nt l m lz t = false; unfold chk; simp [ht0, hb]
    clear h4
    unfold tokI
    go_enter Tryd.func9, Tryd.ntmps9
    go_wp2
    go_ret
    exact ⟨by rw [HC.out]; rfl, HB.out⟩
  subst hb
  cases hzz : eqC P fun _ => false with
  | false =>
    rw [hzz] at hz
    have HC : Hid (chk 7 0 P nt l m lz t = false) := by show chk 7 0 P nt l m lz t = false; unfold chk; simp [ht0, hzz]
    clear h4 hzz
    unfold tokI
    go_enter Tryd.func9, Tryd.ntmps9
    go_wp2
    go_ret
    exact ⟨by rw [HC.out]; rfl, HB.out⟩
  | true =>
  rw [hzz] at hz
  cases nt with
  | true =>
    have HC : Hid (chk 7 0 P true l m lz t = false) := by show chk 7 0 P true l m lz t = false; unfold chk; simp [ht0, hzz]
    clear h4 hzz
    unfold tokI
    go_enter Tryd.func9, Tryd.ntmps9
    go_wp2
    go_ret
    exact ⟨by rw [HC.out]; rfl, HB.out⟩
  | false =>
  by_cases l0 : 0 ≤ l
  case neg =>
    have g0 : ¬ l ≥ 0 := by omega
    have HC : Hid (chk 7 0 P false l m lz t = false) := by show chk 7 0 P false l m lz t = false; unfold chk repP; simp [ht0, hzz]; omega
    clear h4 hzz
    unfold tokI
    go_enter Tryd.func9, Tryd.ntmps9
    go_wp2
    go_ret
    exact ⟨by rw [HC.out]; rfl, HB.out⟩
  have g0 : l ≥ 0 := l0
  by_cases l1 : l ≤ 1000
  case neg =>
    have HC : Hid (chk 7 0 P false l m lz t = false) := by show chk 7 0 P false l m lz t = false; unfold chk repP; simp [ht0, hzz]; omega
    clear h4 hzz
    unfold tokI
    go_enter Tryd.func9, Tryd.ntmps9
    go_wp2
    go_ret
    exact ⟨by rw [HC.out]; rfl, HB.out⟩
  by_cases m1 : m = -1
  case pos =>
    subst m1
    have HC : Hid (chk 7 0 P false l (-1) lz t = true) := by show chk 7 0 P false l (-1) lz t = true; unfold chk repP; simp [ht0, hzz]; omega
    clear h4 hzz
    unfold tokI
    go_enter Tryd.func9, Tryd.ntmps9
    go_wp2
    go_ret
    exact ⟨by rw [HC.out]; rfl, HB.out⟩
  have m0 : (m == -1) = false := by simp; omega
  by_cases m2 : l ≤ m
  case neg =>
    have g2 : ¬ m ≥ l := by omega
    have HC : Hid (chk 7 0 P false l m lz t = false) := by show chk 7 0 P false l m lz t = false; unfold chk repP; simp [ht0, hzz]; omega
    clear h4 hzz
    unfold tokI
    go_enter Tryd.func9, Tryd.ntmps9
    go_wp2
    go_ret
    exact ⟨by rw [HC.out]; rfl, HB.out⟩
  have g2 : m ≥ l := m2
  by_cases m3 : m ≤ 1000
  case neg =>
    have HC : Hid (chk 7 0 P false l m lz t = false) := by show chk 7 0 P false l m lz t = false; unfold chk repP; simp [ht0, hzz]; omega
    clear h4 hzz
    unfold tokI
    go_enter Tryd.func9, Tryd.ntmps9
    go_wp2
    go_ret
    exact ⟨by rw [HC.out]; rfl, HB.out⟩
  have HC : Hid (chk 7 0 P false l m lz t = true) := by show chk 7 0 P false l m lz t = true; unfold chk repP; simp [ht0, hzz]; omega
  clear h4 hzz
  unfold tokI
  go_enter Tryd.func9, Tryd.ntmps9
  go_wp2
  go_ret
  exact ⟨by rw [HC.out]; rfl, HB.out⟩
end Go.Proofs.YtkbeiadbolihiaaDoor
namespace Go.Proofs.YtkbeiadbolihiaaDoor
open Go.RowKit
theorem eqz {P : Nat → Bool} {a0 a1 a2 a3 : Nat} (h4 : C4 P a0 a1 a2 a3) : ((a0 : Int) == ((0 : Nat) : Int) && (a1 : Int) == ((0 : Nat) : Int) && (a2 : Int) == ((0 : Nat) : Int) && (a3 : Int) == ((0 : Nat) : Int)) = eqC P fun _ => false := eq4_iff h4 c4_none
theorem eqb (b : Nat) : ((b : Int) == ((0 : Nat) : Int)) = (b == 0) := by
  rw [Bool.eq_iff_iff]; simp
theorem check_all {P : Nat → Bool} (k : Int) (b a0 a1 a2 a3 : Nat) (nt : Bool) (l m : Int) (lz : Bool) (t : Int) (w : World) (h4 : C4 P a0 a1 a2 a3) : Calls Tryd.prog 8 #[tokI k b a0 a1 a2 a3 nt l m lz t] w (RetN w (erV (chk k b P nt l m lz t))) := by
  have ez := eqz h4
  have eb := eqb b
  have key : ∀ (k : Int), 3 ≤ k → k ≤ 9 → k ≠ 7 → (decide (0 ≤ t) && eqT k b a0 a1 a2 a3 nt l m lz t k 0 0 0 0 0 false 0 0 false t) = chk k b P nt l m lz t := by
    intro k h1 h2 h3
    unfold eqT chk
    rw [ez, eb, if_neg (by omega), if_neg (by omega), if_neg (by omega), if_neg (by omega), if_neg (by omega), decide_eq_true (show 1 ≤ k by omega), decide_eq_true h2]
    cases nt <;> cases lz <;> simp [Bool.and_assoc]
  by_cases e1 : k = 1
  · subst e1
    rw [show chk 1 b P nt l m lz t = (decide (0 ≤ t) && eqT 1 b a0 a1 a2 a3 nt l m lz t 1 b 0 0 0 0 false 0 0 false t) by
      unfold eqT chk; rw [ez]; cases nt <;> cases lz <;> simp [Bool.and_assoc]]
    exact check_1 b a0 a1 a2 a3 nt l m lz t w
  by_cases e2 : k = 2
  · subst e2
    rw [show chk 2 b P nt l m lz t = (decide (0 ≤ t) && mayP P nt && eqT 2 b a0 a1 a2 a3 nt l m lz t 2 0 a0 a1 a2 a3 nt 0 0 false t) by
      unfold eqT chk; rw [eb]; cases nt <;> cases lz <;> simp [Bool.and_assoc] <;> cases mayP P _ <;> simp]
    exact check_2 b a0 a1 a2 a3 nt l m lz t w h4
  by_cases e7 : k = 7
  · subst e7
    rw [show chk 7 b P nt l m lz t = (decide (0 ≤ t) && repP l m && eqT 7 b a0 a1 a2 a3 nt l m lz t 7 0 0 0 0 0 false l m lz t) by
      unfold eqT chk; rw [ez, eb]; cases nt <;> simp [Bool.and_assoc] <;> cases repP l m <;> simp]
    exact check_7 b a0 a1 a2 a3 nt l m lz t w
  by_cases e3 : k = 3
  · subst e3; rw [← key 3 (by omega) (by omega) (by omega)]; exact check_3 b a0 a1 a2 a3 nt l m lz t w
  by_cases e4 : k = 4
  · subst e4; rw [← key 4 (by omega) (by omega) (by omega)]; exact check_4 b a0 a1 a2 a3 nt l m lz t w
  by_cases e5 : k = 5
  · subst e5; rw [← key 5 (by omega) (by omega) (by omega)]; exact check_5 b a0 a1 a2 a3 nt l m lz t w
  by_cases e6 : k = 6
  · subst e6; rw [← key 6 (by omega) (by omega) (by omega)]; exact check_6 b a0 a1 a2 a3 nt l m lz t w
  by_cases e8 : k = 8
  · subst e8; rw [← key 8 (by omega) (by omega) (by omega)]; exact check_8 b a0 a1 a2 a3 nt l m lz t w
  by_cases e9 : k = 9
  · subst e9; rw [← key 9 (by omega) (by omega) (by omega)]; exact check_9 b a0 a1 a2 a3 nt l m lz t w
  have hk : k < 1 ∨ 9 < k := by omega
  have e : chk k b P nt l m lz t = false := by
    unfold chk
    rcases hk with h | h
    · simp [e2, e7, show ¬ 1 ≤ k by omega]
    · simp [e2, e7, show ¬ k ≤ 9 by omega]
  rw [e]
  exact check_other k hk b a0 a1 a2 a3 nt l m lz t w
theorem rcheck_all {P : Nat → Bool} (k : Int) (b a0 a1 a2 a3 : Nat) (nt : Bool) (l m : Int) (lz : Bool) (t : Int) (w : World) (h4 : C4 P a0 a1 a2 a3) : Calls Tryd.prog 9 #[tokI k b a0 a1 a2 a3 nt l m lz t] w (RetN w (erV (chk k b P nt l m lz t))) := by
  by_cases e1 : k = 1
  · subst e1; exact rck_1 b a0 a1 a2 a3 nt l m lz t w h4
  by_cases e2 : k = 2
  · subst e2; exact rck_2 b a0 a1 a2 a3 nt l m lz t w h4
  by_cases e7 : k = 7
  · subst e7; exact rck_7 b a0 a1 a2 a3 nt l m lz t w h4
  by_cases h1 : k < 1
  · exact rck_lo k h1 b a0 a1 a2 a3 nt l m lz t w h4
  by_cases h9 : 9 < k
  · exact rck_hi k h9 b a0 a1 a2 a3 nt l m lz t w h4
  exact rck_s k ⟨by omega, by omega, e7⟩ b a0 a1 a2 a3 nt l m lz t w h4
end Go.Proofs.YtkbeiadbolihiaaDoor
