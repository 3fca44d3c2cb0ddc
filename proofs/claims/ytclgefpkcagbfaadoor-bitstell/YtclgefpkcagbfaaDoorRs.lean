/- The reference's Same and List: the walks. -/
import Derived.Test.YtclgefpkcagbfaaDoorRk
import Derived.Test.YtclgefpkcagbfaaDoorSm
namespace Go.Proofs.YtclgefpkcagbfaaDoor
open Go.RowKit
attribute [local go_sem ↓] Go.wp_at_zero Go.wp_at_succ
theorem Tryd.info3 : (Tryd.prog.info? 3).map (fun i => (i.zero, i.size, i.bytes)) = some (some (.int .i64 0), 1, 8) := by kernel_rfl
/-- What List answers, as far as the law asks: whether there is a number. -/
def RetList (w : World) (P : Nat → Bool) (e : Ending) (w' : World) : Prop := ∃ ao len cap, e = .returned (.slice ao len cap) ∧ (0 < len ↔ ∃ i, P i = true) ∧ len ≤ 8192 ∧ Below w.heap.size w w'
structure RelI (w : World) (x0 x1 : Value) (P : Nat → Bool) (k : Nat) (v : Value) (xs : List Value) (wr : World) : Prop where
  box : Box wr w.heap.size x0 x1
  own : wr.ownsRow (w.heap.size + 1) 3 1 v xs.length xs
  le : xs.length ≤ k
  iff : 0 < xs.length ↔ ∃ i, i < k ∧ P i = true
  below : Below w.heap.size w wr
theorem ownsRow_below {B : Nat} {w w' : World} {v : Value} {n : Nat} {xs : List Value} (h : w.ownsRow B 3 1 v n xs) (hb : Below w.heap.size w w') : w'.ownsRow B 3 1 v n xs := by
  refine ⟨h.1, ?_⟩
  rcases h.2 with h' | ⟨g, cap, cur, e, hg, hh, r⟩
  · exact .inl h'
  · exact .inr ⟨g, cap, cur, e, hg, by rw [hb.block g (Array.getElem?_eq_some_iff.1 hh).1]; exact hh, r⟩
theorem RelI.next {w : World} {x0 x1 : Value} {P : Nat → Bool} {k : Nat} {v : Value} {xs : List Value} {wr wr' : World} (h : RelI w x0 x1 P k v xs wr) (hb : Below wr.heap.size wr wr') : RelI w x0 x1 P k v xs wr' :=
  ⟨h.box.below hb, ownsRow_below h.own hb, h.le, h.iff, h.below.trans (hb.mono h.below.size)⟩
set_option maxHeartbeats 1000000 in
theorem rlist_any {w : World} {x : Value} {n : Nat} {P : Nat → Bool} (h : Arg w x n P) : Calls Tryd.prog 6 #[x] w (RetList w P) := by
  obtain ⟨m1, a1, l1, c1, rfl⟩ := h.shape
  obtain ⟨i0, hi, hz0, hz1, hz2⟩ := info_parts Tryd.info3
  have hB0 : Below w.heap.size w (w.alloc (.cells #[.int .i64 m1, .slice a1 l1 c1] 24)) := (Below.refl _ _).alloc (Nat.le_refl _) _
  have q0 := Box.new w (.int .i64 m1) (.slice a1 l1 c1)
  have hfld := field0
  have HX := Hid.out (p := Arg w (.agg #[.int .i64 m1, .slice a1 l1 c1]) n P) h
  have hn : n ≤ 8192 := by
    obtain ⟨_, _, _, _, _, _, _, h⟩ := HX
    rcases h with ⟨_, hs⟩ | ⟨_, rfl, _⟩
    · exact hs.hle
    · omega
  have hn8 : (n : Int) ≤ 8192 := by omega
  clear h
  go_enter Tryd.func6, Tryd.ntmps6
  go_wp2_with fail
  go_loopw [3, 4] (fun v i wr => ∃ (k : Nat) (xs : List Value), k ≤ n ∧ i = .int .i64 k ∧ RelI w (.int .i64 m1) (.slice a1 l1 c1) P k v xs wr) (fun _ i _ => n - (intOf i).toNat)
  case atStart => exact ⟨0, [], Nat.zero_le _, rfl, q0, World.ownsRow_nil _ _ _ _, Nat.le_refl _, by simp, hB0⟩
  case round =>
    obtain ⟨k, xs, hk, rfl, hR⟩ := hrel
    obtain ⟨p0, p1, p2, p3⟩ := hR.box.cells
    go_wp2_with fail
    refine (may_any HX hR.below).mono ?_
    rintro e w1 ⟨aq, lq, cq, fq, rfl, hrq, hsq, hb⟩
    replace hR := hR.next hb
    clear hb hrq hsq p0 p1 p2 p3
    obtain ⟨p0, p1, p2, p3⟩ := hR.box.cells
    by_cases hlt : k < n
    · have hki : (k : Int) < (n : Int) := by omega
      go_wp2_with fail
      refine (rhas_n k (HX.below hR.below)).mono ?_
      rintro e w2 ⟨rfl, hb⟩
      replace hR := hR.next hb
      clear hb p0 p1 p2 p3
      cases hpk : P k with
      | false =>
        have HP : Hid (P k = false) := hpk
        clear hpk
        go_wp2
        go_roundw
        case rel =>
          refine ⟨k + 1, xs, by omega, by go_num, hR.box, hR.own, by have := hR.le; omega, hR.iff.trans ?_, hR.below⟩
          constructor
          · rintro ⟨i, h1, h2⟩; exact ⟨i, by omega, h2⟩
          · rintro ⟨i, h1, h2⟩
            refine ⟨i, ?_, h2⟩
            by_cases e : i = k
            · subst e; rw [HP.out] at h2; cases h2
            · omega
        case measure => simp [intOf]; omega
      | true =>
        have HP : Hid (P k = true) := hpk
        clear hpk
        have hle2 := hR.le
        have hz := hR.box.lt
        have hown := hR.own
        go_wp2_with (at_builtin; refine wpList_append_own _ rfl _ _ 26 rfl (w.heap.size + 1) 3 i0 (.int .i64 0) 1 8 Tryd.underlying26 hi hz0 hz1 hz2 rfl (by decide) _ _ _ rfl (hown.alloc _) ⟨w2.heap.size, 0, none⟩ 1 1 [.int .i64 (k : Nat)] rfl rfl (cell_one_new _ _ _) (by intro u hu; simp at hu; subst hu; rfl) (by unfold maxLen; omega) (by omega) (by simp; omega) ?_)
        intro v' w3 hown' hgrow _
        have hbw : Below (w.heap.size + 1) _ w3 := (Below.refl _ _).grown hgrow (by simp; omega) (fun j e => (hown.lt j e).1)
        have R : RelI w (.int .i64 m1) (.slice a1 l1 c1) P (k + 1) v' (xs ++ [.int .i64 (k : Nat)]) w3 :=
          ⟨(hR.box.alloc _).belowB hbw (by omega), by simpa using hown', by simp; omega, by simp; exact ⟨k, by omega, HP.out⟩, (hR.below.alloc (by omega) _).trans (hbw.mono (by omega))⟩
        clear hown' hgrow hown hR hbw
        go_wp2
        go_roundw
        case rel => exact ⟨k + 1, _, by omega, by go_num, R⟩
        case measure => simp [intOf]; omega
    · obtain rfl : k = n := by omega
      have hfin : Hid (0 < xs.length ↔ ∃ i, P i = true) := hR.iff.trans ⟨fun ⟨i, _, h⟩ => ⟨i, h⟩, fun ⟨i, h⟩ => by
        by_cases hik : i < k
        · exact ⟨i, hik, h⟩
        · have := HX.out i (by omega)
          rw [h] at this
          cases this⟩
      have hle2 : xs.length ≤ 8192 := by have := hR.le; omega
      have hBf := hR.below
      obtain ⟨ao, cap, rfl⟩ : ∃ ao cap, u3 = .slice ao xs.length cap := by
        rcases hR.own.2 with ⟨h, h0⟩ | ⟨g, cap, cur, h, _⟩
        · exact ⟨none, 0, by rw [h, h0]⟩
        · exact ⟨_, cap, h⟩
      clear hR
      go_wp2
      go_ret
      exact ⟨ao, xs.length, cap, rfl, hfin.out, hle2, hBf⟩
end Go.Proofs.YtclgefpkcagbfaaDoor
