/- live: the walk. -/
import Derived.Test.YtclgefpkcagbfaaDoorShf
import Derived.Test.YtclgefpkcagbfaaDoorNew
import Derived.Test.YtclgefpkcagbfaaDoorHas
import Derived.Test.YtclgefpkcagbfaaDoorSm
namespace Go.Proofs.YtclgefpkcagbfaaDoor
open Go.RowKit
def liveZ (j : Nat) : Int := if j = 0 then 3 else if j = 1 then 69 else 70
def live8 (j : Nat) : Nat := if j = 0 then 8 else 32
def live1 (j : Nat) : Nat := if j = 0 then 1 else 4
theorem live_set8 : IsSet 70 2 live8 (newP 70 liveZ 3) := by
  refine ⟨by decide, by decide, by decide +kernel, fun k hk => ?_⟩
  unfold newP; rw [decide_eq_false (by omega), Bool.and_false]
theorem live_set1 : IsSet 70 2 live1 (fun i => decide (0 ≤ (i : Int) - (-3)) && newP 70 liveZ 3 ((i : Int) - (-3)).toNat && decide (i < 70)) := by
  refine ⟨by decide, by decide, by decide +kernel, fun k hk => ?_⟩
  rw [decide_eq_false (p := k < 70) (by omega), Bool.and_false]
theorem eqW_set {n l : Nat} {f g : Nat → Nat} {P : Nat → Bool} (h : IsSet n l f P) (h' : IsSet n l g P) (hf : ∀ i, i < l → f i < 18446744073709551616) (hg : ∀ i, i < l → g i < 18446744073709551616) : eqW l f g = true :=
  (eqW_iff h h' hf hg).2 fun _ => rfl
theorem rd_lit {W : World} {q : Nat} (hq : W.heap.size = q) (g : Nat → Nat) (x y : Int) (h0 : ((g 0 : Nat) : Int) = x) (h1 : ((g 1 : Nat) : Int) = y) (hs : ∀ i, i < 2 → g i < 18446744073709551616) : Rd (W.alloc (.cells #[.int .u64 x, .int .u64 y] 42)) (some ⟨q, 0, none⟩) 2 g := by
  subst hq h0 h1
  refine ⟨hs, fun _ => ⟨W.heap.size, 0, rfl, by simp, fun i hi => ?_⟩⟩
  rw [World.cell?_alloc_new]
  match i, hi with
  | 0, _ => rfl
  | 1, _ => rfl
theorem field1 (x y : Value) (w : World) : (Instr.field 24 (.agg #[x, y]) 1).run Tryd.prog w = .ok y w := by kernel_rfl
theorem live8_lt : ∀ i, i < 2 → live8 i < 18446744073709551616 := by decide
theorem live1_lt : ∀ i, i < 2 → live1 i < 18446744073709551616 := by decide
set_option maxHeartbeats 800000 in
theorem live_any (w : World) : Calls Tryd.prog 5 #[] w fun e w' => e = .returned (.bool true) ∧ Below w.heap.size w w' := by
  have hr : RdI (w.alloc (.cells #[.int .i64 3, .int .i64 69, .int .i64 70] 3)) (some ⟨w.heap.size, 0, none⟩) 3 liveZ := fun _ =>
    ⟨w.heap.size, 0, rfl, by simp, fun i hi => by
      rw [World.cell?_alloc_new]
      match i, hi with
      | 0, _ => rfl
      | 1, _ => rfl
      | 2, _ => rfl⟩
  have hnew := new_any 70 (some ⟨w.heap.size, 0, none⟩) 3 3 liveZ _ (by decide) hr (by decide)
  rw [show ((70 : Nat) : Int) = 70 from rfl] at hnew
  have hB0 : Below w.heap.size w (w.alloc (.cells #[.int .i64 3, .int .i64 69, .int .i64 70] 3)) := (Below.refl _ _).alloc (Nat.le_refl _) _
  go_enter Tryd.func5, Tryd.ntmps5
  go_wp2_with fail
  refine hnew.mono ?_
  rintro e w1 ⟨ao, len, cap, f, rfl, ho, hs, hb⟩
  obtain rfl : len = 2 := hs.hlen
  rw [show ((70 : Nat) : Int) = 70 from rfl]
  have hB1 : Below w.heap.size w w1 := hB0.trans (hb.mono (by simp))
  have bx := Box.new w1 (.int .i64 70) (.slice ao 2 cap)
  clear hnew hr hB0 hb
  go_wp2_with fail
  have hrl := rd_lit (W := w1.alloc (.cells #[.int .i64 70, .slice ao 2 cap] 24)) (q := w1.heap.size + 1) (by simp) live8 8 32 rfl rfl live8_lt
  have ha : SetAt w1 (.agg #[.int .i64 (70 : Nat), .slice ao 2 cap]) 70 (newP 70 liveZ 3) := ⟨ao, 2, cap, f, rfl, ho.rd, hs⟩
  refine (equal_same ao _ 2 cap 2 f live8 _ ((ho.rd.alloc _).alloc _) hrl (by decide)).mono ?_
  rintro e w2 ⟨rfl, q, rfl⟩
  rw [eqW_set hs live_set8 ho.small live8_lt]
  have hB2 : Below w1.heap.size w1 (((w1.alloc (.cells #[.int .i64 70, .slice ao 2 cap] 24)).alloc (.cells #[.int .u64 8, .int .u64 32] 42)).drewN q) := below_drewN (((Below.refl _ _).alloc (Nat.le_refl _) _).alloc (by simp) _) _
  have hB2' : Below w.heap.size w (((w1.alloc (.cells #[.int .i64 70, .slice ao 2 cap] 24)).alloc (.cells #[.int .u64 8, .int .u64 32] 42)).drewN q) := hB1.trans (hB2.mono hB1.size)
  have bx2 := (bx.alloc (.cells #[.int .u64 8, .int .u64 32] 42)).drewN q
  have ha2 := ha.below hB2
  generalize (((w1.alloc (.cells #[.int .i64 70, .slice ao 2 cap] 24)).alloc (.cells #[.int .u64 8, .int .u64 32] 42)).drewN q) = w3 at *
  clear hrl ho bx hB1 ha hB2 hs
  generalize w1.heap.size = B at *
  obtain ⟨c0, c1, f0, f1⟩ := bx2.cells
  go_wp2_with fail
  refine (has_any 69 ha2.arg).mono ?_
  rintro e w4 ⟨rfl, hb4⟩
  rw [show (decide ((0 : Int) ≤ 69) && decide ((69 : Int) < (70 : Nat)) && newP 70 liveZ 3 (69 : Int).toNat) = true from by decide +kernel]
  have bx4 := bx2.below hb4
  have ha4 := ha2.below hb4
  have hB4 := hB2'.trans (hb4.mono hB2'.size)
  clear c0 c1 f0 f1 hb4 bx2 ha2 hB2'
  obtain ⟨c0, c1, f0, f1⟩ := bx4.cells
  go_wp2_with fail
  refine (has_any 4 ha4.arg).mono ?_
  rintro e w5 ⟨rfl, hb5⟩
  rw [show (decide ((0 : Int) ≤ 4) && decide ((4 : Int) < (70 : Nat)) && newP 70 liveZ 3 (4 : Int).toNat) = false from by decide +kernel]
  have bx5 := bx4.below hb5
  have ha5 := ha4.below hb5
  have hB5 := hB4.trans (hb5.mono hB4.size)
  clear c0 c1 f0 f1 hb5 bx4 ha4 hB4
  obtain ⟨c0, c1, f0, f1⟩ := bx5.cells
  go_wp2_with fail
  refine (shift_any (-3) ha5.arg (by decide) (by decide)).mono ?_
  rintro e w6 ⟨ao2, len2, cap2, g, rfl, ho6, hs6, hb6⟩
  obtain rfl : len2 = 2 := hs6.hlen
  have hB6 := hB5.trans (hb6.mono hB5.size)
  clear c0 c1 f0 f1 hb6 bx5 ha5 hB5
  have hfld := field1
  go_wp2_with fail
  clear hfld
  refine (equal_same ao2 _ 2 cap2 2 g live1 _ (ho6.rd.alloc _) (rd_lit rfl live1 1 4 rfl rfl live1_lt) (by decide)).mono ?_
  rintro e w7 ⟨rfl, q7, rfl⟩
  rw [eqW_set hs6 live_set1 ho6.small live1_lt]
  go_wp2
  go_ret
  exact ⟨rfl, below_drewN (hB6.alloc hB6.size _) _⟩
end Go.Proofs.YtclgefpkcagbfaaDoor
