/- The reference's Same and List: the walks. -/
import Derived.Test.YtclgefpkcagbfaaRk
import Derived.Test.YtclgefpkcagbfaaSm
namespace Go.Proofs.Ytclgefpkcagbfaa
open Go.RowKit
attribute [local go_sem ↓] Go.wp_at_zero Go.wp_at_succ
theorem may_inv2 {w W : World} {x0 x1 y0 y1 x : Value} {n : Nat} {P : Nat → Bool} (h : Arg w x n P) (hI : Inv2 w x0 x1 y0 y1 W) :
    Calls Try.prog 41 #[x] W fun e w' => ∃ ao len cap f, e = .returned (.agg #[.int .i64 (n : Nat), .slice ao len cap]) ∧ Rd w ao len f ∧ IsSet n len f P ∧ Inv2 w x0 x1 y0 y1 w' :=
  (may_any h hI.below).mono fun _ _ ⟨ao, len, cap, f, he, hr, hs, hb⟩ => ⟨ao, len, cap, f, he, hr, hs, hI.next hb⟩
set_option maxHeartbeats 2000000 in
/-- Same. -/
theorem rsame_any {w : World} {x y : Value} {n m : Nat} {P Q : Nat → Bool} (h : Arg w x n P) (h2 : Arg w y m Q) :
    Calls Try.prog 28 #[x, y] w (RetBool w (n = m ∧ ∀ k, P k = Q k)) := by
  obtain ⟨m1, a1, l1, c1, rfl⟩ := h.shape
  obtain ⟨m2, a2, l2, c2, rfl⟩ := h2.shape
  have hI := Inv2.start w (.int .i64 m1) (.slice a1 l1 c1) (.int .i64 m2) (.slice a2 l2 c2)
  go_enter Try.func28, Try.ntmps28
  go_upto_region 1 with fail
  go_cut [6] (fun _ wx => Pair w n P m Q wx)
  case first =>
    go_region_with (first
      | (go_at_call_of 41 (Value.agg #[.int .i64 m1, .slice a1 l1 c1]); refine (may_inv2 (x0 := .int .i64 m1) (x1 := .slice a1 l1 c1) (y0 := .int .i64 m2) (y1 := .slice a2 l2 c2) h ?_).mono ?_; (repeat (first | exact hI | refine Inv2.drew ?_)); rintro e w1 ⟨ao, len, cap, f, rfl, hr, hs, hI1⟩; obtain ⟨k0, k1, k2, k3⟩ := hI1.b1.cells)
      | (go_at_call_of 41 (Value.agg #[.int .i64 m2, .slice a2 l2 c2]); refine (may_inv2 (x0 := .int .i64 m1) (x1 := .slice a1 l1 c1) (y0 := .int .i64 m2) (y1 := .slice a2 l2 c2) h2 ?_).mono ?_; (repeat (first | exact hI1 | refine Inv2.drew ?_)); rintro e w2 ⟨ao2, len2, cap2, g, rfl, hr2, hs2, hI2⟩; obtain ⟨j0, j1, j2, j3⟩ := hI2.b1.cells; obtain ⟨i0, i1, i2, i3⟩ := hI2.b0.cells))
    all_goals go_wp2_with fail
    all_goals go_meet
    all_goals exact pair_of hI2 hr hs hr2 hs2
  case rest =>
    obtain ⟨ao, len, cap, f, ao2, len2, cap2, g, b0, hr, hs, b1, hr2, hs2, hB⟩ := hcut.ex
    clear hcut h h2 hI
    obtain ⟨p0, p1, p2, p3⟩ := b0.cells
    obtain ⟨q0, q1, q2, q3⟩ := b1.cells
    by_cases hnm : n = m
    · subst hnm
      obtain rfl : len2 = len := by rw [hs.hlen, hs2.hlen]
      have hl : (len2 : Int) ≤ 128 := by have := hs.hle; have := hs.hlen; omega
      have he : ((n : Int) != (n : Int)) = false := by simp
      have ha := hr.below hB
      have hb := hr2.below hB
      have E : Hid (eqW len2 f g = true ↔ ∀ k, P k = Q k) := eqW_iff hs hs2 hr.small hr2.small
      clear hr hr2 hs hs2
      go_wp2_with fail
      go_loopw [5] (fun i wr => ∃ k : Nat, k ≤ len2 ∧ i = .int .i64 k ∧ (∀ j, j < k → f j = g j) ∧ ∃ q, wr = wc.drewN q) (fun i _ => len2 - (intOf i).toNat)
      case atStart => exact ⟨0, Nat.zero_le _, rfl, fun j hj => by omega, 0, rfl⟩
      case round =>
        obtain ⟨k, hk, rfl, hall, q, rfl⟩ := hrel
        have HA : Hid (∀ j, j < k → f j = g j) := hall
        clear hall
        by_cases hlt : k < len2
        · obtain ⟨x, off, rfl, hx, hc⟩ := ha.at_ (by omega)
          obtain ⟨x2, off2, rfl, hx2, hc2⟩ := hb.at_ (by omega)
          have t1 := hc k hlt
          have t2 := hc2 k hlt
          have hki : (k : Int) < (len2 : Int) := by omega
          clear hc hc2
          by_cases heq : f k = g k
          · have hnb : (((f k : Nat) : Int) != ((g k : Nat) : Int)) = false := by simp [heq]
            have HE : Hid (f k = g k) := heq
            clear heq
            go_wp2
            go_quiet (fail)
            go_wp2
            go_roundw
            case rel => exact ⟨k + 1, by omega, by go_num, fun j hj => (if h : j = k then h ▸ HE.out else HA.out j (by omega)), _, rfl⟩
            case measure => simp [intOf]; omega
          · have hnb : (((f k : Nat) : Int) != ((g k : Nat) : Int)) = true := by rw [bne_iff_ne]; omega
            have hf : Hid (¬ ∀ k, P k = Q k) := fun h => by
              have := E.out.2 h
              unfold eqW at this
              exact heq (of_decide_eq_true this k hlt)
            clear heq
            go_wp2
            go_quiet (fail)
            go_wp2
            go_ret
            exact ⟨false, rfl, by simpa using hf.out, below_drewN hB _⟩
        · have hf : Hid (∀ k, P k = Q k) := E.out.1 (decide_eq_true fun i hi => HA.out i (by omega))
          go_wp2
          go_ret
          exact ⟨true, rfl, by simpa using hf.out, below_drewN hB _⟩
    · have he : ((n : Int) != (m : Int)) = true := by rw [bne_iff_ne]; omega
      go_wp2
      go_ret
      exact ⟨false, rfl, by simp [hnm], hB⟩

theorem Try.info3 : (Try.prog.info? 3).map (fun i => (i.zero, i.size, i.bytes)) = some (some (.int .i64 0), 1, 8) := by kernel_rfl
/-- What List answers, as far as the law asks: whether there is a number. -/
def RetList (w : World) (P : Nat → Bool) (e : Ending) (w' : World) : Prop := ∃ ao len cap, e = .returned (.slice ao len cap) ∧ (0 < len ↔ ∃ i, P i = true) ∧ len ≤ 8192 ∧ Below w.heap.size w w'
structure RelI (w : World) (x0 x1 : Value) (P : Nat → Bool) (k : Nat) (v : Value) (xs : List Value) (wr : World) : Prop where
  box : Box wr w.heap.size x0 x1
  own : wr.ownsRow (w.heap.size + 1) 3 1 v xs.length xs
  le : xs.length ≤ k
  iff : 0 < xs.length ↔ ∃ i, i < k ∧ P i = true
  below : Below w.heap.size w wr
theorem ownsRow_below {B : Nat} {w w' : World} {v : Value} {n : Nat} {xs : List Value} (h : w.ownsRow B 3 1 v n xs) (hb : Below w.heap.size w w') : w'.ownsRow B 3 1 v n xs := by
  refine ⟨h.1, ?_⟩
  rcases h.2 with h' | ⟨g, cap, cur, e, hg, hh, r⟩
  · exact .inl h'
  · exact .inr ⟨g, cap, cur, e, hg, by rw [hb.block g (Array.getElem?_eq_some_iff.1 hh).1]; exact hh, r⟩
theorem RelI.next {w : World} {x0 x1 : Value} {P : Nat → Bool} {k : Nat} {v : Value} {xs : List Value} {wr wr' : World} (h : RelI w x0 x1 P k v xs wr) (hb : Below wr.heap.size wr wr') : RelI w x0 x1 P k v xs wr' :=
  ⟨h.box.below hb, ownsRow_below h.own hb, h.le, h.iff, h.below.trans (hb.mono h.below.size)⟩
set_option maxHeartbeats 1000000 in
theorem rlist_any {w : World} {x : Value} {n : Nat} {P : Nat → Bool} (h : Arg w x n P) : Calls Try.prog 19 #[x] w (RetList w P) := by
  obtain ⟨m1, a1, l1, c1, rfl⟩ := h.shape
  obtain ⟨i0, hi, hz0, hz1, hz2⟩ := info_parts Try.info3
  have hB0 : Below w.heap.size w (w.alloc (.cells #[.int .i64 m1, .slice a1 l1 c1] 25)) := (Below.refl _ _).alloc (Nat.le_refl _) _
  have q0 := Box.new w (.int .i64 m1) (.slice a1 l1 c1)
  have hfld := field0
  have HX := Hid.out (p := Arg w (.agg #[.int .i64 m1, .slice a1 l1 c1]) n P) h
  have hn : n ≤ 8192 := by
    obtain ⟨_, _, _, _, _, _, _, h⟩ := HX
    rcases h with ⟨_, hs⟩ | ⟨_, rfl, _⟩
    · exact hs.hle
    · omega
  have hn8 : (n : Int) ≤ 8192 := by omega
  clear h
  go_enter Try.func19, Try.ntmps19
  go_wp2_with fail
  go_loopw [3, 4] (fun v i wr => ∃ (k : Nat) (xs : List Value), k ≤ n ∧ i = .int .i64 k ∧ RelI w (.int .i64 m1) (.slice a1 l1 c1) P k v xs wr) (fun _ i _ => n - (intOf i).toNat)
  case atStart => exact ⟨0, [], Nat.zero_le _, rfl, q0, World.ownsRow_nil _ _ _ _, Nat.le_refl _, by simp, hB0⟩
  case round =>
    obtain ⟨k, xs, hk, rfl, hR⟩ := hrel
    obtain ⟨p0, p1, p2, p3⟩ := hR.box.cells
    go_wp2_with fail
    refine (may_any HX hR.below).mono ?_
    rintro e w1 ⟨aq, lq, cq, fq, rfl, hrq, hsq, hb⟩
    replace hR := hR.next hb
    clear hb hrq hsq p0 p1 p2 p3
    obtain ⟨p0, p1, p2, p3⟩ := hR.box.cells
    by_cases hlt : k < n
    · have hki : (k : Int) < (n : Int) := by omega
      go_wp2_with fail
      refine (rhas_n k (HX.below hR.below)).mono ?_
      rintro e w2 ⟨rfl, hb⟩
      replace hR := hR.next hb
      clear hb p0 p1 p2 p3
      cases hpk : P k with
      | false =>
        have HP : Hid (P k = false) := hpk
        clear hpk
        go_wp2
        go_roundw
        case rel =>
          refine ⟨k + 1, xs, by omega, by go_num, hR.box, hR.own, by have := hR.le; omega, hR.iff.trans ?_, hR.below⟩
          constructor
          · rintro ⟨i, h1, h2⟩; exact ⟨i, by omega, h2⟩
          · rintro ⟨i, h1, h2⟩
            refine ⟨i, ?_, h2⟩
            by_cases e : i = k
            · subst e; rw [HP.out] at h2; cases h2
            · omega
        case measure => simp [intOf]; omega
      | true =>
        have HP : Hid (P k = true) := hpk
        clear hpk
        have hle2 := hR.le
        have hz := hR.box.lt
        have hown := hR.own
        go_wp2_with (at_builtin; refine wpList_append_own _ rfl _ _ 22 rfl (w.heap.size + 1) 3 i0 (.int .i64 0) 1 8 Try.underlying22 hi hz0 hz1 hz2 rfl (by decide) _ _ _ rfl (hown.alloc _) ⟨w2.heap.size, 0, none⟩ 1 1 [.int .i64 (k : Nat)] rfl rfl (cell_one_new _ _ _) (by intro u hu; simp at hu; subst hu; rfl) (by unfold maxLen; omega) (by omega) (by simp; omega) ?_)
        intro v' w3 hown' hgrow _
        have hbw : Below (w.heap.size + 1) _ w3 := (Below.refl _ _).grown hgrow (by simp; omega) (fun j e => (hown.lt j e).1)
        have R : RelI w (.int .i64 m1) (.slice a1 l1 c1) P (k + 1) v' (xs ++ [.int .i64 (k : Nat)]) w3 :=
          ⟨(hR.box.alloc _).belowB hbw (by omega), by simpa using hown', by simp; omega, by simp; exact ⟨k, by omega, HP.out⟩, (hR.below.alloc (by omega) _).trans (hbw.mono (by omega))⟩
        clear hown' hgrow hown hR hbw
        go_wp2
        go_roundw
        case rel => exact ⟨k + 1, _, by omega, by go_num, R⟩
        case measure => simp [intOf]; omega
    · obtain rfl : k = n := by omega
      have hfin : Hid (0 < xs.length ↔ ∃ i, P i = true) := hR.iff.trans ⟨fun ⟨i, _, h⟩ => ⟨i, h⟩, fun ⟨i, h⟩ => by
        by_cases hik : i < k
        · exact ⟨i, hik, h⟩
        · have := HX.out i (by omega)
          rw [h] at this
          cases this⟩
      have hle2 : xs.length ≤ 8192 := by have := hR.le; omega
      have hBf := hR.below
      obtain ⟨ao, cap, rfl⟩ : ∃ ao cap, u3 = .slice ao xs.length cap := by
        rcases hR.own.2 with ⟨h, h0⟩ | ⟨g, cap, cur, h, _⟩
        · exact ⟨none, 0, by rw [h, h0]⟩
        · exact ⟨_, cap, h⟩
      clear hR
      go_wp2
      go_ret
      exact ⟨ao, xs.length, cap, rfl, hfin.out, hle2, hBf⟩
end Go.Proofs.Ytclgefpkcagbfaa
