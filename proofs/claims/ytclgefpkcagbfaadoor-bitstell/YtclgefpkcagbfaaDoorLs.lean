/- The reference's List, all of it: the walk. -/
import Derived.Test.YtclgefpkcagbfaaDoorBb
import Derived.Test.YtclgefpkcagbfaaDoorRs
namespace Go.Proofs.YtclgefpkcagbfaaDoor
open Go.RowKit
attribute [local go_sem ↓] Go.wp_at_zero Go.wp_at_succ
theorem come_no {P : Nat → Bool} {k : Nat} (h : P k = false) : come P (k + 1) = come P k := by
  unfold come; rw [List.range_succ, List.filter_append]; simp [h]
structure RelLs (w : World) (x0 x1 : Value) (P : Nat → Bool) (k : Nat) (v : Value) (wr : World) : Prop where
  box : Box wr w.heap.size x0 x1
  own : wr.ownsRow (w.heap.size + 1) 3 1 v (come P k).length (ints (come P k))
  below : Below w.heap.size w wr
theorem RelLs.next {w : World} {x0 x1 : Value} {P : Nat → Bool} {k : Nat} {v : Value} {wr wr' : World} (h : RelLs w x0 x1 P k v wr) (hb : Below wr.heap.size wr wr') : RelLs w x0 x1 P k v wr' :=
  ⟨h.box.below hb, ownsRow_below h.own hb, h.below.trans (hb.mono h.below.size)⟩
theorem Arg.le {w : World} {x : Value} {n : Nat} {P : Nat → Bool} (h : Arg w x n P) : n ≤ 8192 := by
  obtain ⟨_, _, _, _, _, _, _, h⟩ := h
  rcases h with ⟨_, hs⟩ | ⟨_, rfl, _⟩
  · exact hs.hle
  · omega
set_option maxHeartbeats 1000000 in
theorem rlist_full {w : World} {x : Value} {n : Nat} {P : Nat → Bool} (h : Arg w x n P) : Calls Tryd.prog 6 #[x] w (RetInts w (come P n)) := by
  obtain ⟨m1, a1, l1, c1, rfl⟩ := h.shape
  obtain ⟨i0, hi, hz0, hz1, hz2⟩ := info_parts Tryd.info3
  have hB0 : Below w.heap.size w (w.alloc (.cells #[.int .i64 m1, .slice a1 l1 c1] 24)) := (Below.refl _ _).alloc (Nat.le_refl _) _
  have q0 := Box.new w (.int .i64 m1) (.slice a1 l1 c1)
  have hfld := field0
  have hn : n ≤ 8192 := h.le
  have HX := Hid.out (p := Arg w (.agg #[.int .i64 m1, .slice a1 l1 c1]) n P) h
  have hn8 : (n : Int) ≤ 8192 := by omega
  clear h
  go_enter Tryd.func6, Tryd.ntmps6
  go_wp2_with fail
  go_loopw [3, 4] (fun v i wr => ∃ k : Nat, k ≤ n ∧ i = .int .i64 k ∧ RelLs w (.int .i64 m1) (.slice a1 l1 c1) P k v wr) (fun _ i _ => n - (intOf i).toNat)
  case atStart => exact ⟨0, Nat.zero_le _, rfl, q0, World.ownsRow_nil _ _ _ _, hB0⟩
  case round =>
    obtain ⟨k, hk, rfl, hR⟩ := hrel
    obtain ⟨p0, p1, p2, p3⟩ := hR.box.cells
    go_wp2_with fail
    refine (may_any HX hR.below).mono ?_
    rintro e w1 ⟨aq, lq, cq, fq, rfl, hrq, hsq, hb⟩
    replace hR := hR.next hb
    clear hb hrq hsq p0 p1 p2 p3
    obtain ⟨p0, p1, p2, p3⟩ := hR.box.cells
    by_cases hlt : k < n
    · have hki : (k : Int) < (n : Int) := by omega
      go_wp2_with fail
      refine (rhas_n k (HX.below hR.below)).mono ?_
      rintro e w2 ⟨rfl, hb⟩
      replace hR := hR.next hb
      clear hb p0 p1 p2 p3
      cases hpk : P k with
      | false =>
        have HP : Hid (come P (k + 1) = come P k) := come_no hpk
        clear hpk
        go_wp2
        go_roundw
        case rel => exact ⟨k + 1, by omega, by go_num, hR.box, by rw [HP.out]; exact hR.own, hR.below⟩
        case measure => simp [intOf]; omega
      | true =>
        have HP : Hid (come P (k + 1) = come P k ++ [k]) := come_yes hpk
        clear hpk
        have hle2 := come_len P k
        have hz := hR.box.lt
        have hown := hR.own
        go_wp2_with (at_builtin; refine wpList_append_own _ rfl _ _ 26 rfl (w.heap.size + 1) 3 i0 (.int .i64 0) 1 8 Tryd.underlying26 hi hz0 hz1 hz2 rfl (by decide) _ _ _ rfl (hown.alloc _) ⟨w2.heap.size, 0, none⟩ 1 1 [.int .i64 (k : Nat)] rfl rfl (cell_one_new _ _ _) (by intro u hu; simp at hu; subst hu; rfl) (by unfold maxLen; omega) (by omega) (by simp; omega) ?_)
        intro v' w3 hown' hgrow _
        have hbw : Below (w.heap.size + 1) _ w3 := (Below.refl _ _).grown hgrow (by simp; omega) (fun j e => (hown.lt j e).1)
        have R : RelLs w (.int .i64 m1) (.slice a1 l1 c1) P (k + 1) v' w3 :=
          ⟨(hR.box.alloc _).belowB hbw (by omega), by rw [HP.out]; simpa [ints] using hown', (hR.below.alloc (by omega) _).trans (hbw.mono (by omega))⟩
        clear hown' hgrow hown hR hbw
        go_wp2
        go_roundw
        case rel => exact ⟨k + 1, by omega, by go_num, R⟩
        case measure => simp [intOf]; omega
    · obtain rfl : k = n := by omega
      have HF : Hid (RetInts w (come P k) (.returned u3) w1) := ⟨u3, rfl, ownsRow_mono hR.own (by omega), hR.below⟩
      clear hR
      go_wp2
      go_ret
      exact HF.out
end Go.Proofs.YtclgefpkcagbfaaDoor
