/- ClassSets: the walk of the law. -/
import Derived.Test.YthgjklhjfpillaaDoorSx
namespace Go.Proofs.YthgjklhjfpillaaDoor
open Go.RowKit
/-- What each operation of the region answers. -/
def setsL : List (Nat × Nat × Nat) := [(0, 0, 0), (0, 0, 0), (1, 27, 0), (2, 170, 0), (2, 204, 0), (3, 170, 204), (2, 238, 0), (1, 27, 0), (2, 204, 0), (2, 170, 0), (3, 204, 170), (2, 238, 0), (0, 0, 0), (0, 0, 0), (0, 0, 0), (1, 29, 0), (2, 170, 0), (2, 204, 0), (2, 136, 0), (1, 29, 0), (2, 204, 0), (2, 170, 0), (2, 136, 0), (0, 0, 0), (0, 0, 0), (0, 0, 0), (1, 27, 0), (2, 170, 0), (1, 27, 0), (2, 204, 0), (2, 240, 0), (3, 204, 240), (2, 252, 0), (3, 170, 252), (2, 254, 0), (1, 27, 0), (1, 27, 0), (2, 170, 0), (2, 204, 0), (3, 170, 204), (2, 238, 0), (2, 240, 0), (3, 238, 240), (2, 254, 0), (0, 0, 0), (0, 0, 0), (0, 0, 0), (1, 29, 0), (2, 170, 0), (1, 29, 0), (2, 204, 0), (2, 240, 0), (2, 192, 0), (2, 128, 0), (1, 29, 0), (1, 29, 0), (2, 170, 0), (2, 204, 0), (2, 136, 0), (2, 240, 0), (2, 128, 0), (0, 0, 0), (0, 0, 0), (0, 0, 0), (1, 29, 0), (2, 170, 0), (1, 27, 0), (2, 204, 0), (2, 240, 0), (3, 204, 240), (2, 252, 0), (2, 168, 0), (1, 27, 0), (1, 29, 0), (2, 170, 0), (2, 204, 0), (2, 136, 0), (1, 29, 0), (2, 170, 0), (2, 240, 0), (2, 160, 0), (3, 136, 160), (2, 168, 0), (0, 0, 0), (0, 0, 0), (0, 0, 0), (1, 31, 0), (1, 31, 0), (2, 170, 0), (2, 85, 0), (2, 170, 0), (2, 170, 0), (0, 0, 0), (0, 0, 0), (0, 0, 0), (1, 31, 0), (1, 27, 0), (2, 170, 0), (2, 204, 0), (3, 170, 204), (2, 238, 0), (2, 17, 0), (1, 29, 0), (1, 31, 0), (2, 170, 0), (2, 85, 0), (1, 31, 0), (2, 204, 0), (2, 51, 0), (2, 17, 0), (0, 0, 0), (0, 0, 0), (0, 0, 0), (1, 29, 0), (2, 170, 0), (1, 31, 0), (2, 170, 0), (2, 85, 0), (2, 0, 0), (2, 0, 0), (0, 0, 0), (0, 0, 0), (0, 0, 0), (1, 27, 0), (2, 170, 0), (1, 31, 0), (2, 170, 0), (2, 85, 0), (3, 170, 85), (2, 255, 0), (2, 255, 0), (0, 0, 0), (0, 0, 0), (0, 0, 0)]
theorem slotOf_inj {i j : Nat} (hi : i < 134) (hj : j < 134) (h : slotOf i = slotOf j) : i = j := by
  unfold slotOf at h
  split at h <;> split at h <;> omega
theorem sets_region {id : Nat} {ops : Array Oper} {Q : Exit → Act → World → Prop} {A B C : Nat → Bool} {w0 w : World} {a : Act} (hops : allB setsL ops.toList 134 = true) (hn : ops.size = 134) (hT : Tab w0) (hC : CS w0 A B C { w with drawn := w.drawn + 1 }) (hF : Fx w0 a)
    (hend : ∀ (a : Act) (w : World), CS w0 A B C w → Fx w0 a → a.tmps.getD 6 undef = .bool true → Q .normal a w) : (Code.region id ops true).wp Tryd.prog Q a w := by
  have hop : ∀ (i : Nat) (o : Oper), ops[i]? = some o → i < 134 ∧ operB setsL i o = true := fun i o ho => by
    have hi := (Array.getElem?_eq_some_iff.1 ho).1
    exact ⟨by omega, allB_get (by rw [Array.getElem?_toList]; exact ho) 134 hops (by omega)⟩
  have hdst : ∀ (j : Nat) (oj : Oper), ops[j]? = some oj → oj.dst = some (slotOf j) := fun j oj hj => by
    have := (hop j oj hj).2
    unfold operB at this
    simp only [Bool.and_eq_true, beq_iff_eq] at this
    exact this.1.2
  refine wp_region_inv (by kernel_rfl) (CS w0 A B C) (fun j v w => Says A B C (setsL.getD j (9, 0, 0)) v w) (Fx w0) (fun w w' => Below w.heap.size w w') (fun j v w w' h hb => h.grow hb) ?_ ?_ ?_ hC hF ?_ ?_
  · intro i o d v a ho hd hf
    have hs := hdst i o ho
    rw [hd] at hs
    obtain rfl := Option.some.inj hs
    have hi := (hop i o ho).1
    have hsl : slotOf i = 6 ∨ 10 ≤ slotOf i := by unfold slotOf; split <;> omega
    have hlt : slotOf i < 143 := by unfold slotOf; split <;> omega
    exact ⟨hf.put hsl v, by rw [hf.size]; exact hlt⟩
  · intro i j oi oj d hi hj hdi hdj
    have h1 := hdst i oi hi
    have h2 := hdst j oj hj
    rw [hdi] at h1
    rw [hdj] at h2
    exact slotOf_inj (hop i oi hi).1 (hop j oj hj).1 ((Option.some.inj h1).symm.trans (Option.some.inj h2))
  · intro i o ho e he
    have := (hop i o ho).2
    unfold operB at this
    simp only [Bool.and_eq_true] at this
    have h2 := this.2
    rw [Array.all_eq_true'] at h2
    simpa using h2 e he
  · intro i o ho a w hCw hFa hd
    exact step_ok hT hn hdst ho (hop i o ho).2 a w hCw hFa hd
  · intro a w hCw hFa hall
    have ho : ops[133]? = some ops[133] := by simp [hn]
    have h6 := (hall 133 _ 6 ho (by rw [hdst _ _ ho]; rfl)).t (by rfl)
    exact hend a w hCw hFa h6
set_option maxRecDepth 100000 in
set_option maxHeartbeats 4000000 in
theorem classSets_walk {A B C : Nat → Bool} {a0 a1 a2 a3 b0 b1 b2 b3 c0 c1 c2 c3 : Nat} (hA : C4 A a0 a1 a2 a3) (hB : C4 B b0 b1 b2 b3) (hC : C4 C c0 c1 c2 c3) (w : World) (hT : Tab w) :
    Calls Tryd.prog 8 #[.agg #[.int .u64 (a0 : Nat), .int .u64 (a1 : Nat), .int .u64 (a2 : Nat), .int .u64 (a3 : Nat)], .agg #[.int .u64 (b0 : Nat), .int .u64 (b1 : Nat), .int .u64 (b2 : Nat), .int .u64 (b3 : Nat)], .agg #[.int .u64 (c0 : Nat), .int .u64 (c1 : Nat), .int .u64 (c2 : Nat), .int .u64 (c3 : Nat)]] w fun en w' => en = .returned (.bool true) ∧ Below w.heap.size w w' := by
  obtain ⟨rfl, rfl, rfl, rfl⟩ := hA.uniq (wdc_is A)
  obtain ⟨rfl, rfl, rfl, rfl⟩ := hB.uniq (wdc_is B)
  obtain ⟨rfl, rfl, rfl, rfl⟩ := hC.uniq (wdc_is C)
  clear hA hB hC
  have HC : Hid (CS w A B C (((w.alloc (.cells #[.int .u64 (wdc A 0 : Nat), .int .u64 (wdc A 1 : Nat), .int .u64 (wdc A 2 : Nat), .int .u64 (wdc A 3 : Nat)] 26)).alloc (.cells #[.int .u64 (wdc B 0 : Nat), .int .u64 (wdc B 1 : Nat), .int .u64 (wdc B 2 : Nat), .int .u64 (wdc B 3 : Nat)] 26)).alloc (.cells #[.int .u64 (wdc C 0 : Nat), .int .u64 (wdc C 1 : Nat), .int .u64 (wdc C 2 : Nat), .int .u64 (wdc C 3 : Nat)] 26))) := by
    refine ⟨below3 _ _ _ _, ((Bx.new w _ _ _ _).alloc _).alloc _, Bx.alloc ?_ _, ?_⟩
    · have := Bx.new (w.alloc (.cells #[.int .u64 (wdc A 0 : Nat), .int .u64 (wdc A 1 : Nat), .int .u64 (wdc A 2 : Nat), .int .u64 (wdc A 3 : Nat)] 26)) (.int .u64 (wdc B 0 : Nat)) (.int .u64 (wdc B 1 : Nat)) (.int .u64 (wdc B 2 : Nat)) (.int .u64 (wdc B 3 : Nat))
      simpa using this
    · have := Bx.new ((w.alloc (.cells #[.int .u64 (wdc A 0 : Nat), .int .u64 (wdc A 1 : Nat), .int .u64 (wdc A 2 : Nat), .int .u64 (wdc A 3 : Nat)] 26)).alloc (.cells #[.int .u64 (wdc B 0 : Nat), .int .u64 (wdc B 1 : Nat), .int .u64 (wdc B 2 : Nat), .int .u64 (wdc B 3 : Nat)] 26)) (.int .u64 (wdc C 0 : Nat)) (.int .u64 (wdc C 1 : Nat)) (.int .u64 (wdc C 2 : Nat)) (.int .u64 (wdc C 3 : Nat))
      simpa using this
  generalize wdc A 0 = a0 at *
  generalize wdc A 1 = a1 at *
  generalize wdc A 2 = a2 at *
  generalize wdc A 3 = a3 at *
  generalize wdc B 0 = b0 at *
  generalize wdc B 1 = b1 at *
  generalize wdc B 2 = b2 at *
  generalize wdc B 3 = b3 at *
  generalize wdc C 0 = c0 at *
  generalize wdc C 1 = c1 at *
  generalize wdc C 2 = c2 at *
  generalize wdc C 3 = c3 at *
  go_enter Tryd.func8, Tryd.ntmps8
  go_wp2_with fail
  refine sets_region (by kernel_rfl) (by kernel_rfl) hT (HC.out.next (Below.refl _ _).drew) ⟨rfl, rfl, rfl, rfl, rfl, rfl, rfl, rfl⟩ ?_
  intro a W hCW hFa h6
  rename_i Q' K hK
  refine hK a W ?_
  obtain ⟨tm, ds⟩ := a
  obtain rfl : ds = [] := hFa.defers
  have h6' : tm.getD 6 undef = .bool true := h6
  refine wp_ret ?_
  exact bodyPost_ret (v := tm.getD 6 undef) (results_tmp (t := 6) rfl tm _ _) rfl ⟨by rw [h6'], hCW.bel⟩
end Go.Proofs.YthgjklhjfpillaaDoor
