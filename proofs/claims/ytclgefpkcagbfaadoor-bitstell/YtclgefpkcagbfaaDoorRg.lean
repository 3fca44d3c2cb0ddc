/- The reference's First: the walk. -/
import Derived.Test.YtclgefpkcagbfaaDoorLm
namespace Go.Proofs.YtclgefpkcagbfaaDoor
open Go.RowKit
attribute [local go_sem ↓] Go.wp_at_zero Go.wp_at_succ
theorem max_zero (z : Int) (w : World) : (Builtin.max_ #[3, 3] 3 #[.int .i64 z, .int .i64 0]).run Tryd.prog w = .ok (.int .i64 (z.toNat : Nat)) w := by
  rw [run_max_int2]
  congr 2
  split <;> omega
structure RelG (w : World) (x0 x1 : Value) (wr : World) : Prop where
  box : Box wr w.heap.size x0 x1
  below : Below w.heap.size w wr
theorem RelG.next {w : World} {x0 x1 : Value} {wr wr' : World} (h : RelG w x0 x1 wr) (hb : Below wr.heap.size wr wr') : RelG w x0 x1 wr' :=
  ⟨h.box.below hb, h.below.trans (hb.mono h.below.size)⟩
set_option maxHeartbeats 1000000 in
theorem rfirst_any {w : World} {x : Value} {n : Nat} {P : Nat → Bool} (z : Int) (h : Arg w x n P) : Calls Tryd.prog 8 #[x, .int .i64 z] w (RetF w P z.toNat) := by
  obtain ⟨m1, a1, l1, c1, rfl⟩ := h.shape
  have hB0 : Below w.heap.size w (w.alloc (.cells #[.int .i64 m1, .slice a1 l1 c1] 24)) := (Below.refl _ _).alloc (Nat.le_refl _) _
  have q0 := Box.new w (.int .i64 m1) (.slice a1 l1 c1)
  have hfld := field0
  have hn : n ≤ 8192 := h.le
  have HX := Hid.out (p := Arg w (.agg #[.int .i64 m1, .slice a1 l1 c1]) n P) h
  have hmax := max_zero z
  generalize z.toNat = a at *
  clear h
  go_enter Tryd.func8, Tryd.ntmps8
  go_wp2_with fail
  go_loopw [6] (fun i wr => ∃ k : Nat, i = .int .i64 k ∧ (∀ j, a ≤ j → j < k → P j = false) ∧ a ≤ k ∧ RelG w (.int .i64 m1) (.slice a1 l1 c1) wr) (fun i _ => n - (intOf i).toNat)
  case atStart => exact ⟨a, rfl, fun j h1 h2 => by omega, Nat.le_refl _, q0, hB0⟩
  case round =>
    obtain ⟨k, rfl, hno, hak, hR⟩ := hrel
    obtain ⟨p0, p1, p2, p3⟩ := hR.box.cells
    have HN : Hid (∀ j, a ≤ j → j < k → P j = false) := hno
    clear hno
    go_wp2_with fail
    refine (may_any HX hR.below).mono ?_
    rintro e w1 ⟨aq, lq, cq, fq, rfl, hrq, hsq, hb⟩
    replace hR := hR.next hb
    clear hb hrq hsq p0 p1 p2 p3
    obtain ⟨p0, p1, p2, p3⟩ := hR.box.cells
    by_cases hlt : k < n
    · have hki : (k : Int) < (n : Int) := by omega
      have hk8 : (k : Int) ≤ 8192 := by omega
      go_wp2_with fail
      refine (rhas_n k (HX.below hR.below)).mono ?_
      rintro e w2 ⟨rfl, hb⟩
      replace hR := hR.next hb
      clear hb p0 p1 p2 p3
      cases hpk : P k with
      | false =>
        have HP : Hid (P k = false) := hpk
        clear hpk
        go_wp2
        go_roundw
        case rel =>
          refine ⟨k + 1, by go_num, fun j h1 h2 => ?_, by omega, hR⟩
          by_cases e : j = k
          · subst e; exact HP.out
          · exact HN.out j h1 (by omega)
        case measure => simp [intOf]; omega
      | true =>
        have HF : Hid (IsF P a k) := ⟨hak, hpk, HN.out⟩
        clear hpk
        go_wp2
        exact bodyPost_ret (v := .tuple #[.int .i64 (k : Nat), .bool true]) (by simp [results, Tryd.results8, go_sem]) rfl ⟨.inl ⟨k, rfl, HF.out⟩, hR.below⟩
    · have hki : ¬ (k : Int) < (n : Int) := by omega
      have HF : Hid (∀ j, a ≤ j → P j = false) := fun j h1 => by
        by_cases h2 : j < k
        · exact HN.out j h1 h2
        · exact HX.out j (by omega)
      go_wp2
      exact bodyPost_ret (v := .tuple #[.int .i64 0, .bool false]) (by simp [results, Tryd.results8, go_sem]) rfl ⟨.inr ⟨rfl, HF.out⟩, hR.below⟩
end Go.Proofs.YtclgefpkcagbfaaDoor
