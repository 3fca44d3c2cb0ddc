/- bare: the walk. -/
import Derived.Test.YtiiecppkabdkgaaDoorGSyEnBg
namespace Go.Proofs.YtiiecppkabdkgaaDoor
open Go.RowKit
def ancN (q : Nd) : Bool := q.k == 6 || q.k == 7
def bareF (F : Nat → Nd) (n : Nat) : Bool := (List.range n).all fun i => !ancN (F i)
set_option maxRecDepth 10000 in
theorem bare1_any (q : Nd) (w : World) : Calls Tryd.prog 44 #[ndV q] w fun e w' => e = .returned (.bool (ancN q)) ∧ Below w.heap.size w w' := by
  have hb := below1 w (.cells (ndL q).toArray 66)
  have k := Cl.new w 66 (ndL q)
  have d0 := k.cell 0 rfl
  have HA : Hid ((q.k == 6 || q.k == 7) = ancN q) := rfl
  clear k
  obtain ⟨qk, c0, c1, c2, c3, qa, qb, ql, qm, qz⟩ := q
  unfold ndV
  unfold ndL at *
  dsimp only at *
  generalize ancN _ = r at *
  by_cases h6 : qk = 6
  · have e6 : (qk == 6) = true := by simpa using h6
    have hr : true = r := by have := HA.out; rw [e6] at this; simpa using this
    subst hr
    clear h6 HA
    go_enter Tryd.func44, Tryd.ntmps44
    go_wp2_with fail
    go_ret
    exact ⟨rfl, hb⟩
  · have e6 : (qk == 6) = false := by simpa using h6
    have hr : (qk == 7) = r := by have := HA.out; rw [e6] at this; simpa using this
    clear h6 HA
    go_enter Tryd.func44, Tryd.ntmps44
    go_wp2_with fail
    go_ret
    exact ⟨by simp, hb⟩
def RetIx (w : World) (bf : Bool) (e : Ending) (w' : World) : Prop := ∃ r : Int, e = .returned (.int .i64 r) ∧ (0 ≤ r ↔ bf = false) ∧ Below w.heap.size w w'
set_option maxRecDepth 10000 in
set_option maxHeartbeats 1000000 in
theorem index_any (ao : Option Addr) (n c : Nat) (F : Nat → Nd) (w : World) (ha : RdN w ao n F) (hn : (n : Int) ≤ 9223372036854775806) : Calls Tryd.prog 62 #[.slice ao n c, .func (.func 44) #[] #[]] w (RetIx w (bareF F n)) := by
  have HT : Hid (∀ k : Nat, k < n → ancN (F k) = true → bareF F n = false) := fun k hk h => by
    unfold bareF; rw [List.all_eq_false]; exact ⟨k, List.mem_range.2 hk, by simp [h]⟩
  have HF : Hid ((∀ k, k < n → ancN (F k) = false) → bareF F n = true) := fun h => by
    unfold bareF; rw [List.all_eq_true]; intro i hi; rw [h i (List.mem_range.1 hi)]; rfl
  generalize bareF F n = bf at *
  go_enter Tryd.func62, Tryd.ntmps62
  go_wp2_with fail
  go_loopw [8] (fun i wr => ∃ k : Nat, k ≤ n ∧ i = .int .i64 (k : Nat) ∧ (∀ j, j < k → ancN (F j) = false) ∧ Below w.heap.size w wr) (fun i _ => n - (intOf i).toNat)
  case atStart => exact ⟨0, Nat.zero_le _, rfl, fun j hj => by omega, Below.refl _ _⟩
  case round =>
    obtain ⟨k, hk, rfl, hj, hbw⟩ := hrel
    by_cases hlt : k < n
    · have hki : (k : Int) < (n : Int) := by omega
      obtain ⟨bb, off, rfl, hbb, hcs⟩ := ha (by omega)
      obtain ⟨c0, c1, c2, c3, c4, c5, c6, c7, c8, c9⟩ := hcs k hlt
      rw [← hbw.cell (p := ⟨bb, _, none⟩) hbb] at c0 c1 c2 c3 c4 c5 c6 c7 c8 c9
      have HC := bare1_any (F k) wr
      have HY : Hid (ancN (F k) = false → ∃ (k' : Nat), k' ≤ n ∧ Value.int .i64 ((k : Int) + 1) = .int .i64 (k' : Nat) ∧ (∀ j, j < k' → ancN (F j) = false)) := fun hq => ⟨k + 1, hlt, by simp, fun j hj' => by
        by_cases h : j = k
        · rw [h]; exact hq
        · exact hj j (by omega)⟩
      have HT2 := HT.out k hlt
      have HT2 : Hid _ := HT2
      clear HT HF hj hcs ha
      unfold ndV at HC
      generalize F k = q at *
      go_wp2_with fail
      refine HC.mono ?_
      rintro e w2 ⟨rfl, hb2⟩
      have hbx := hbw.trans (hb2.mono hbw.size)
      clear HC c0 c1 c2 c3 c4 c5 c6 c7 c8 c9
      cases hq : ancN q with
      | true =>
        have h9 := HT2.out hq
        clear HT2 HY hq
        go_wp2_with fail
        go_ret
        exact ⟨k, rfl, ⟨fun _ => h9, fun _ => by omega⟩, hbx⟩
      | false =>
        have HY2 : Hid _ := HY.out hq
        clear HT2 HY hq
        go_wp2_with fail
        go_roundw
        case rel =>
          obtain ⟨k', h1, h2, h3⟩ := HY2.out
          exact ⟨k', h1, h2, h3, hbx⟩
        case measure => simp [intOf]; omega
    · obtain rfl : k = n := by omega
      have hki : ¬ (k : Int) < (k : Int) := by omega
      have h9 : Hid (bf = true) := HF.out hj
      clear HT HF hj ha
      go_wp2_with fail
      go_ret
      exact ⟨-1, rfl, ⟨fun h => by omega, fun h => by cases h.symm.trans h9.out⟩, hbw⟩
set_option maxRecDepth 10000 in
theorem bare_law_any (ao : Option Addr) (n c : Nat) (F : Nat → Nd) (w : World) (ha : RdN w ao n F) (hn : (n : Int) ≤ 9223372036854775806) : Calls Tryd.prog 23 #[.agg #[.slice ao n c]] w fun e w' => e = .returned (.bool (bareF F n)) ∧ Below w.heap.size w w' := by
  have hb := below1 w (.cells #[.slice ao n c] 24)
  have k := Cl.new w 24 [.slice ao n c]
  have d0 := k.cell 0 rfl
  have HI := index_any ao n c F _ (ha.below hb) hn
  have HC : Calls Tryd.prog 43 #[.slice ao n c, .func (.func 44) #[] #[]] (w.alloc (.cells #[.slice ao n c] 24)) fun e w' => e = .returned (.bool (!bareF F n)) ∧ Below (w.alloc (.cells #[.slice ao n c] 24)).heap.size (w.alloc (.cells #[.slice ao n c] 24)) w' := by
    clear d0 k
    generalize w.alloc (.cells #[.slice ao n c] 24) = w1 at *
    go_enter Tryd.func43, Tryd.ntmps43
    go_wp2_with fail
    refine HI.mono ?_
    rintro e w2 ⟨r, rfl, hr, hb2⟩
    have hdec : decide (0 ≤ r) = !bareF F n := by
      cases hq : bareF F n with
      | true => simp only [Bool.not_true, decide_eq_false_iff_not]; intro h; rw [hr.1 h] at hq; cases hq
      | false => simpa using hr.2 hq
    clear hr
    go_wp2_with fail
    go_ret
    exact ⟨by simp, hb2⟩
  clear HI k
  go_enter Tryd.func23, Tryd.ntmps23
  go_wp2_with fail
  refine HC.mono ?_
  rintro e w2 ⟨rfl, hb2⟩
  go_wp2_with fail
  go_ret
  exact ⟨by simp, hb.trans (hb2.mono hb.size)⟩
end Go.Proofs.YtiiecppkabdkgaaDoor
