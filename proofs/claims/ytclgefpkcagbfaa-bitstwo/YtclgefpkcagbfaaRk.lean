/- The reference's pick: the walk. -/
import Derived.Test.YtclgefpkcagbfaaRp
namespace Go.Proofs.Ytclgefpkcagbfaa
open Go.RowKit
theorem Arg.out {w : World} {x : Value} {n : Nat} {P : Nat → Bool} (h : Arg w x n P) : ∀ i, n ≤ i → P i = false := by
  obtain ⟨m, ao, len, cap, f, rfl, hr, h⟩ := h
  rcases h with ⟨rfl, hs⟩ | ⟨hn, rfl, rfl⟩
  · exact hs.hout
  · intro i _; rfl
theorem rhas_n {w : World} {x : Value} {n : Nat} {P : Nat → Bool} (k : Nat) (h : Arg w x n P) : Calls Try.prog 14 #[x, .int .i64 (k : Nat)] w fun e w' => e = .returned (.bool (P k)) ∧ Below w.heap.size w w' := by
  have := rhas_any (k : Int) h
  rw [Int.toNat_natCast] at this
  by_cases hk : k < n
  · rwa [decide_eq_true (by omega), decide_eq_true (by omega), Bool.true_and, Bool.true_and] at this
  · rwa [decide_eq_false (p := ((k : Nat) : Int) < n) (by omega), Bool.and_false, Bool.false_and, ← h.out k (by omega)] at this
theorem field0 (x y : Value) (w : World) : (Instr.field 25 (.agg #[x, y]) 0).run Try.prog w = .ok x w := by kernel_rfl
/-- pick's boxes, and what is gathered. -/
structure RelP (w : World) (x0 x1 y0 y1 : Value) (n bc : Nat) (ao : Option Addr) (len cap : Nat) (P : Nat → Bool) (wr : World) : Prop where
  bc1 : Box wr bc (.int .i64 (n : Nat)) (.slice ao len cap)
  own : ∃ f, OwnL (w.heap.size + 3) wr ao len f ∧ IsSet n len f P
  below : Below w.heap.size w wr
  xa : Box wr w.heap.size x0 x1
  xb : Box wr (w.heap.size + 1) y0 y1
  xr : Box wr (w.heap.size + 2) (.int .i64 0) (.slice none 0 0)
theorem RelP.next {w : World} {x0 x1 y0 y1 : Value} {n bc : Nat} {ao : Option Addr} {len cap : Nat} {P : Nat → Bool} {wr wr' : World} (h : RelP w x0 x1 y0 y1 n bc ao len cap P wr) (hb : Below wr.heap.size wr wr') : RelP w x0 x1 y0 y1 n bc ao len cap P wr' :=
  ⟨h.bc1.below hb, h.own.elim fun f ⟨ho, hs⟩ => ⟨f, ho.below hb, hs⟩, h.below.trans (hb.mono h.below.size), h.xa.below hb, h.xb.below hb, h.xr.below hb⟩
theorem RelP.put {w : World} {x0 x1 y0 y1 : Value} {n bc : Nat} {ao : Option Addr} {len cap : Nat} {P P' : Nat → Bool} {wr wr' : World} {g : Nat → Nat} (h : RelP w x0 x1 y0 y1 n bc ao len cap P wr) (hb : But ao wr wr') (ho : OwnL (w.heap.size + 3) wr' ao len g) (hs : IsSet n len g P')
    (hao : ∀ a, ao = some a → w.heap.size + 3 ≤ a.block ∧ a.block ≠ bc) : RelP w x0 x1 y0 y1 n bc ao len cap P' wr' :=
  ⟨h.bc1.but hb (fun a e => (hao a e).2), ⟨g, ho, hs⟩, h.below.trans (hb.below h.below.size fun a e => by have := hao a e; omega), h.xa.but hb (fun a e => by have := hao a e; omega), h.xb.but hb (fun a e => by have := hao a e; omega), h.xr.but hb (fun a e => by have := hao a e; omega)⟩
theorem RelP.congr {w : World} {x0 x1 y0 y1 : Value} {n bc : Nat} {ao : Option Addr} {len cap : Nat} {P P' : Nat → Bool} {wr : World} (h : RelP w x0 x1 y0 y1 n bc ao len cap P wr) (e : ∀ i, P i = P' i) : RelP w x0 x1 y0 y1 n bc ao len cap P' wr := by
  obtain rfl : P = P' := funext e
  exact h
theorem upto_no {T : Nat → Bool} {k : Nat} (h : T k = false) : ∀ i, (T i && decide (i < k)) = (T i && decide (i < k + 1)) := by
  intro i
  by_cases hi : i = k
  · subst hi; simp [h]
  · congr 1; rw [decide_eq_decide]; omega
theorem upto_yes {T : Nat → Bool} {k n : Nat} (h : T k = true) (hk : k < n) : ∀ i, ((T i && decide (i < k)) || decide ((i : Int) = (k : Nat) ∧ i < n)) = (T i && decide (i < k + 1)) := by
  intro i
  by_cases hi : i = k
  · subst hi; simp [h, hk]
  · rw [decide_eq_false (p := (i : Int) = (k : Nat) ∧ i < n) (by omega), Bool.or_false]; congr 1; rw [decide_eq_decide]; omega
theorem upto_all {T : Nat → Bool} {n : Nat} (h : ∀ i, n ≤ i → T i = false) : ∀ i, (T i && decide (i < n)) = T i := by
  intro i
  by_cases hi : i < n
  · simp [hi]
  · rw [h i (by omega)]; rfl
set_option maxHeartbeats 1000000 in
/-- pick. -/
theorem rpick_any {w : World} {x y : Value} {n m : Nat} {P Q : Nat → Bool} (hv : Bool) (h : Arg w x n P) (h2 : Arg w y m Q) :
    Calls Try.prog 44 #[x, y, .bool hv] w (RetL w n fun i => P i && (Q i == hv)) := by
  obtain ⟨m1, a1, l1, c1, rfl⟩ := h.shape
  obtain ⟨m2, a2, l2, c2, rfl⟩ := h2.shape
  have hB0 : Below w.heap.size w (((w.alloc (.cells #[.int .i64 m1, .slice a1 l1 c1] 25)).alloc (.cells #[.int .i64 m2, .slice a2 l2 c2] 25)).alloc (.cells #[.int .i64 0, .slice none 0 0] 25)) := (((Below.refl _ _).alloc (Nat.le_refl _) _).alloc (by simp) _).alloc (by simp; omega) _
  have q0 := ((Box.new w (.int .i64 m1) (.slice a1 l1 c1)).alloc (.cells #[.int .i64 m2, .slice a2 l2 c2] 25)).alloc (.cells #[.int .i64 0, .slice none 0 0] 25)
  have q1 := (Box.new1 w (.cells #[.int .i64 m1, .slice a1 l1 c1] 25) (.int .i64 m2) (.slice a2 l2 c2)).alloc (.cells #[.int .i64 0, .slice none 0 0] 25)
  have q2 := Box.new2 w (.cells #[.int .i64 m1, .slice a1 l1 c1] 25) (.cells #[.int .i64 m2, .slice a2 l2 c2] 25) (.int .i64 0) (.slice none 0 0)
  have hfld := field0
  go_enter Try.func44, Try.ntmps44
  go_wp2_with fail
  refine (may_any h hB0).mono ?_
  rintro e w1 ⟨aq, lq, cq, fq, rfl, hrq, hsq, hb⟩
  replace q0 := q0.below hb
  replace q1 := q1.below hb
  replace q2 := q2.below hb
  have hB1 := hB0.trans (hb.mono hB0.size)
  have hle := hsq.hle
  clear hb hB0 hrq hsq
  go_wp2_with fail
  refine (rzero_any n _ (by omega)).mono ?_
  rintro e w2 ⟨ao, len, cap, rfl, ho, hlen, hb⟩
  have hz1 : w.heap.size + 3 ≤ w1.heap.size := q2.lt
  replace q0 := q0.below hb
  replace q1 := q1.below hb
  replace q2 := q2.below hb
  have hB2 := hB1.trans (hb.mono hB1.size)
  replace ho := ho.mono (B' := w.heap.size + 3) (by omega)
  have hs0 := isSet_empty (show n ≤ 8192 by omega) hlen
  have hao : ∀ a, ao = some a → w.heap.size + 3 ≤ a.block ∧ a.block ≠ w2.heap.size := fun a e => ⟨(ho.lt a e).2, by have := (ho.lt a e).1; omega⟩
  have hz2 : w.heap.size + 3 ≤ w2.heap.size := q2.lt
  have hn8 : (n : Int) ≤ 8192 := by omega
  have gA := h
  have gB := h2
  clear hlen hb hB1 hfld h h2
  go_wp2_with fail
  go_loopw [8] (fun i wr => ∃ k : Nat, k ≤ n ∧ i = .int .i64 k ∧ RelP w (.int .i64 m1) (.slice a1 l1 c1) (.int .i64 m2) (.slice a2 l2 c2) n w2.heap.size ao len cap (fun i => P i && (Q i == hv) && decide (i < k)) wr) (fun i _ => n - (intOf i).toNat)
  case atStart =>
    refine ⟨0, Nat.zero_le _, rfl, RelP.congr (P := fun _ => false) ⟨Box.new _ _ _, ⟨_, ho.alloc _, hs0⟩, hB2.alloc (by omega) _, q0.alloc _, q1.alloc _, q2.alloc _⟩ fun i => ?_⟩
    simp
  case round =>
    obtain ⟨k, hk, rfl, hR⟩ := hrel
    obtain ⟨p0, p1, p2, p3⟩ := hR.bc1.cells
    obtain ⟨r0, r1, r2, r3⟩ := hR.xa.cells
    by_cases hlt : k < n
    · have hki : (k : Int) < (n : Int) := by omega
      cases hpk : P k with
      | false =>
        have HP : Hid (P k = false) := hpk
        clear hpk
        go_wp2_with fail
        refine (rhas_n k (gA.below hR.below)).mono ?_
        rintro e w3 ⟨rfl, hb3⟩
        rw [HP.out]
        replace hR := hR.next hb3
        clear p0 p1 p2 p3 r0 r1 r2 r3 hb3
        go_wp2
        go_roundw
        case rel => exact ⟨k + 1, by omega, by go_num, hR.congr (upto_no (T := fun i => P i && (Q i == hv)) (by simp [HP.out]))⟩
        case measure => simp [intOf]; omega
      | true =>
        have HP : Hid (P k = true) := hpk
        clear hpk
        go_wp2_with fail
        refine (rhas_n k (gA.below hR.below)).mono ?_
        rintro e w3 ⟨rfl, hb3⟩
        rw [HP.out]
        replace hR := hR.next hb3
        clear p0 p1 p2 p3 r0 r1 r2 r3 hb3
        obtain ⟨r0, r1, r2, r3⟩ := hR.xb.cells
        obtain ⟨p0, p1, p2, p3⟩ := hR.bc1.cells
        go_wp2_with fail
        refine (rhas_n k (gB.below hR.below)).mono ?_
        rintro e w4 ⟨rfl, hb4⟩
        replace hR := hR.next hb4
        clear p0 p1 p2 p3 r0 r1 r2 r3 hb4
        obtain ⟨p0, p1, p2, p3⟩ := hR.bc1.cells
        cases hqk : (Q k == hv) with
        | false =>
          have HQ : Hid ((Q k == hv) = false) := hqk
          have hqk2 : (Q k == hv) = false := hqk
          clear hqk
          go_wp2
          go_roundw
          case rel => exact ⟨k + 1, by omega, by go_num, hR.congr (upto_no (T := fun i => P i && (Q i == hv)) (by simp only [HQ.out, Bool.and_false]))⟩
          case measure => simp [intOf]; omega
        | true =>
          have HQ : Hid ((Q k == hv) = true) := hqk
          have hqk2 : (Q k == hv) = true := hqk
          clear hqk
          obtain ⟨f, hof, hsf⟩ := hR.own
          go_wp2_with fail
          refine (rput_any (k : Int) hof hsf).mono ?_
          rintro e w5 ⟨rfl, g, ho5, hs5, hbut⟩
          replace hR := hR.put hbut ho5 hs5 hao
          clear p0 p1 p2 p3 hbut ho5 hs5 hof hsf
          go_wp2
          go_roundw
          case rel => exact ⟨k + 1, by omega, by go_num, hR.congr (upto_yes (T := fun i => P i && (Q i == hv)) (by simp only [HP.out, HQ.out, Bool.and_self]) hlt)⟩
          case measure => simp [intOf]; omega
    · obtain rfl : k = n := by omega
      replace hR := hR.congr (upto_all (T := fun i => P i && (Q i == hv)) (fun i hi => by simp [gA.out i hi]))
      obtain ⟨f, hof, hsf⟩ := hR.own
      obtain ⟨s0, s1, s2, s3⟩ := hR.xr.cells
      have hB3 := hR.below
      have hne2 : w.heap.size + 2 ≠ w2.heap.size := by omega
      clear r0 r1 r2 r3
      go_wp2
      refine bodyPost_ret (v := .agg #[.int .i64 k, .slice ao len cap]) (by simp [results, Try.results44, go_sem, s0, s1]) rfl ⟨_, _, _, f, rfl, (hof.mono (by omega)).box (fun a e => by have := hao a e; omega) _ _, hsf, ?_⟩
      exact (hB3.setCell (p := ⟨w.heap.size + 2, 0, none⟩) (by simp) _).setCell (p := ⟨w.heap.size + 2, 1, none⟩) (by simp) _
end Go.Proofs.Ytclgefpkcagbfaa
