/- The reference's Without, And, Not, Or: the walks. -/
import Derived.Test.YtclgefpkcagbfaaRk
namespace Go.Proofs.Ytclgefpkcagbfaa
open Go.RowKit
attribute [local go_sem ↓] Go.wp_at_zero Go.wp_at_succ
theorem RetL.out {w : World} {n : Nat} {P : Nat → Bool} {e : Ending} {w' : World} (h : RetL w n P e w') : ∃ ao len cap, e = .returned (.agg #[.int .i64 (n : Nat), .slice ao len cap]) ∧ Arg w' (.agg #[.int .i64 (n : Nat), .slice ao len cap]) n P ∧ Below w.heap.size w w' := by
  obtain ⟨ao, len, cap, f, he, ho, hs, hb⟩ := h
  exact ⟨ao, len, cap, he, SetAt.arg ⟨ao, len, cap, f, rfl, ho.rd, hs⟩, hb⟩
theorem RetL.congr {w : World} {n : Nat} {P Q : Nat → Bool} {e : Ending} {w' : World} (h : RetL w n P e w') (hpq : ∀ i, P i = Q i) : RetL w n Q e w' := by
  obtain rfl : P = Q := funext hpq
  exact h
set_option maxHeartbeats 800000 in
theorem rtwo_walk {w : World} {x y : Value} {n m : Nat} {P Q : Nat → Bool} (h : Arg w x n P) (h2 : Arg w y m Q) :
    Calls Try.prog 20 #[x, y] w (RetL w n fun i => P i && (Q i == true)) ∧ Calls Try.prog 25 #[x, y] w (RetL w n fun i => P i && (Q i == false)) := by
  obtain ⟨m1, a1, l1, c1, rfl⟩ := h.shape
  obtain ⟨m2, a2, l2, c2, rfl⟩ := h2.shape
  have hB0 : Below w.heap.size w (((w.alloc (.cells #[.int .i64 m1, .slice a1 l1 c1] 25)).alloc (.cells #[.int .i64 m2, .slice a2 l2 c2] 25)).alloc (.cells #[.int .i64 0, .slice none 0 0] 25)) := (((Below.refl _ _).alloc (Nat.le_refl _) _).alloc (by simp) _).alloc (by simp; omega) _
  have q2 := Box.new2 w (.cells #[.int .i64 m1, .slice a1 l1 c1] 25) (.cells #[.int .i64 m2, .slice a2 l2 c2] 25) (.int .i64 0) (.slice none 0 0)
  have gA := h.below hB0
  have gB := h2.below hB0
  clear h h2
  constructor
  · go_enter Try.func20, Try.ntmps20
    go_wp2_with fail
    refine (rpick_any true gA gB).mono ?_
    rintro e w1 ⟨ao, len, cap, f, rfl, ho, hs, hb⟩
    replace q2 := q2.below hb
    have hB1 := hB0.trans (hb.mono hB0.size)
    have ho1 : OwnL (w.heap.size + 3) w1 ao len f := by simpa using ho
    clear ho hb hB0 gA gB
    obtain ⟨s0, s1, s2, s3⟩ := q2.cells
    go_wp2
    refine bodyPost_ret (v := .agg #[.int .i64 n, .slice ao len cap]) (by simp [results, Try.results20, go_sem, s0, s1]) rfl ⟨_, _, _, f, rfl, (ho1.mono (by omega)).box (fun a e => by have := ho1.lt a e; omega) _ _, hs, ?_⟩
    exact (hB1.setCell (p := ⟨w.heap.size + 2, 0, none⟩) (by simp) _).setCell (p := ⟨w.heap.size + 2, 1, none⟩) (by simp) _
  · go_enter Try.func25, Try.ntmps25
    go_wp2_with fail
    refine (rpick_any false gA gB).mono ?_
    rintro e w1 ⟨ao, len, cap, f, rfl, ho, hs, hb⟩
    replace q2 := q2.below hb
    have hB1 := hB0.trans (hb.mono hB0.size)
    have ho1 : OwnL (w.heap.size + 3) w1 ao len f := by simpa using ho
    clear ho hb hB0 gA gB
    obtain ⟨s0, s1, s2, s3⟩ := q2.cells
    go_wp2
    refine bodyPost_ret (v := .agg #[.int .i64 n, .slice ao len cap]) (by simp [results, Try.results25, go_sem, s0, s1]) rfl ⟨_, _, _, f, rfl, (ho1.mono (by omega)).box (fun a e => by have := ho1.lt a e; omega) _ _, hs, ?_⟩
    exact (hB1.setCell (p := ⟨w.heap.size + 2, 0, none⟩) (by simp) _).setCell (p := ⟨w.heap.size + 2, 1, none⟩) (by simp) _
theorem rand_any {w : World} {x y : Value} {n m : Nat} {P Q : Nat → Bool} (h : Arg w x n P) (h2 : Arg w y m Q) : Calls Try.prog 20 #[x, y] w (RetL w n fun i => P i && Q i) :=
  (rtwo_walk h h2).1.mono fun _ _ h => h.congr fun i => by cases Q i <;> rfl
theorem rnot_any {w : World} {x y : Value} {n m : Nat} {P Q : Nat → Bool} (h : Arg w x n P) (h2 : Arg w y m Q) : Calls Try.prog 25 #[x, y] w (RetL w n fun i => P i && !Q i) :=
  (rtwo_walk h h2).2.mono fun _ _ h => h.congr fun i => by cases Q i <;> rfl

set_option maxHeartbeats 1000000 in
/-- Or. -/
theorem ror_any {w : World} {x y : Value} {n m : Nat} {P Q : Nat → Bool} (h : Arg w x n P) (h2 : Arg w y m Q) : Calls Try.prog 22 #[x, y] w (RetL w n fun i => P i || (Q i && decide (i < n))) := by
  obtain ⟨m1, a1, l1, c1, rfl⟩ := h.shape
  obtain ⟨m2, a2, l2, c2, rfl⟩ := h2.shape
  have hB0 : Below w.heap.size w (((w.alloc (.cells #[.int .i64 m1, .slice a1 l1 c1] 25)).alloc (.cells #[.int .i64 m2, .slice a2 l2 c2] 25)).alloc (.cells #[.int .i64 0, .slice none 0 0] 25)) := (((Below.refl _ _).alloc (Nat.le_refl _) _).alloc (by simp) _).alloc (by simp; omega) _
  have q0 := ((Box.new w (.int .i64 m1) (.slice a1 l1 c1)).alloc (.cells #[.int .i64 m2, .slice a2 l2 c2] 25)).alloc (.cells #[.int .i64 0, .slice none 0 0] 25)
  have q1 := (Box.new1 w (.cells #[.int .i64 m1, .slice a1 l1 c1] 25) (.int .i64 m2) (.slice a2 l2 c2)).alloc (.cells #[.int .i64 0, .slice none 0 0] 25)
  have q2 := Box.new2 w (.cells #[.int .i64 m1, .slice a1 l1 c1] 25) (.cells #[.int .i64 m2, .slice a2 l2 c2] 25) (.int .i64 0) (.slice none 0 0)
  have gB := h2
  go_enter Try.func22, Try.ntmps22
  go_wp2_with fail
  refine (rcopy_any (h.below hB0)).mono ?_
  rintro e w2 ⟨ao, len, cap, f, rfl, ho, hs, hb⟩
  replace q0 := q0.below hb
  replace q1 := q1.below hb
  replace q2 := q2.below hb
  have hB2 := hB0.trans (hb.mono hB0.size)
  replace ho : OwnL (w.heap.size + 3) w2 ao len f := by simpa using ho
  have hao : ∀ a, ao = some a → w.heap.size + 3 ≤ a.block ∧ a.block ≠ w2.heap.size := fun a e => ⟨(ho.lt a e).2, by have := (ho.lt a e).1; omega⟩
  have hz2 : w.heap.size + 3 ≤ w2.heap.size := q2.lt
  have hn8 : (n : Int) ≤ 8192 := by have := hs.hle; omega
  clear hb hB0 h h2
  go_wp2_with fail
  go_loopw [6] (fun i wr => ∃ k : Nat, k ≤ n ∧ i = .int .i64 k ∧ RelP w (.int .i64 m1) (.slice a1 l1 c1) (.int .i64 m2) (.slice a2 l2 c2) n w2.heap.size ao len cap (fun i => P i || (Q i && decide (i < k))) wr) (fun i _ => n - (intOf i).toNat)
  case atStart => exact ⟨0, Nat.zero_le _, rfl, RelP.congr (P := P) ⟨Box.new _ _ _, ⟨_, ho.alloc _, hs⟩, hB2.alloc (by omega) _, q0.alloc _, q1.alloc _, q2.alloc _⟩ (fun i => by simp)⟩
  case round =>
    obtain ⟨k, hk, rfl, hR⟩ := hrel
    obtain ⟨p0, p1, p2, p3⟩ := hR.bc1.cells
    obtain ⟨r0, r1, r2, r3⟩ := hR.xb.cells
    by_cases hlt : k < n
    · have hki : (k : Int) < (n : Int) := by omega
      cases hqk : Q k with
      | false =>
        have HQ : Hid (Q k = false) := hqk
        clear hqk
        go_wp2_with fail
        refine (rhas_n k (gB.below hR.below)).mono ?_
        rintro e w3 ⟨rfl, hb3⟩
        rw [HQ.out]
        replace hR := hR.next hb3
        clear p0 p1 p2 p3 r0 r1 r2 r3 hb3
        go_wp2
        go_roundw
        case rel => exact ⟨k + 1, by omega, by go_num, hR.congr fun i => by rw [upto_no (T := Q) HQ.out i]⟩
        case measure => simp [intOf]; omega
      | true =>
        have HQ : Hid (Q k = true) := hqk
        clear hqk
        go_wp2_with fail
        refine (rhas_n k (gB.below hR.below)).mono ?_
        rintro e w3 ⟨rfl, hb3⟩
        rw [HQ.out]
        replace hR := hR.next hb3
        clear p0 p1 p2 p3 r0 r1 r2 r3 hb3
        obtain ⟨p0, p1, p2, p3⟩ := hR.bc1.cells
        obtain ⟨f, hof, hsf⟩ := hR.own
        go_wp2_with fail
        refine (rput_any (k : Int) hof hsf).mono ?_
        rintro e w5 ⟨rfl, g, ho5, hs5, hbut⟩
        replace hR := hR.put hbut ho5 hs5 hao
        clear p0 p1 p2 p3 hbut ho5 hs5 hof hsf
        go_wp2
        go_roundw
        case rel => exact ⟨k + 1, by omega, by go_num, hR.congr fun i => by rw [← upto_yes (T := Q) HQ.out hlt i, Bool.or_assoc]⟩
        case measure => simp [intOf]; omega
    · obtain rfl : k = n := by omega
      obtain ⟨f, hof, hsf⟩ := hR.own
      obtain ⟨s0, s1, s2, s3⟩ := hR.xr.cells
      have hB3 := hR.below
      have hne2 : w.heap.size + 2 ≠ w2.heap.size := by omega
      clear r0 r1 r2 r3
      go_wp2
      refine bodyPost_ret (v := .agg #[.int .i64 k, .slice ao len cap]) (by simp [results, Try.results22, go_sem, s0, s1]) rfl ⟨_, _, _, f, rfl, (hof.mono (by omega)).box (fun a e => by have := hao a e; omega) _ _, hsf, ?_⟩
      exact (hB3.setCell (p := ⟨w.heap.size + 2, 0, none⟩) (by simp) _).setCell (p := ⟨w.heap.size + 2, 1, none⟩) (by simp) _

set_option maxHeartbeats 1000000 in
theorem rwithout_walk {w : World} {x : Value} {n : Nat} {P : Nat → Bool} (k : Int) (h : Arg w x n P) :
    Calls Try.prog 18 #[x, .int .i64 k] w (RetL w n fun i => P i && ((false || decide ((i : Int) = k ∧ i < n)) == false)) := by
  obtain ⟨m1, a1, l1, c1, rfl⟩ := h.shape
  have hB : Below w.heap.size w ((w.alloc (.cells #[.int .i64 m1, .slice a1 l1 c1] 25)).alloc (.cells #[.int .i64 0, .slice none 0 0] 25)) := ((Below.refl _ _).alloc (Nat.le_refl _) _).alloc (by simp) _
  have q0 := (Box.new w (.int .i64 m1) (.slice a1 l1 c1)).alloc (.cells #[.int .i64 0, .slice none 0 0] 25)
  have q1 := Box.new1 w (.cells #[.int .i64 m1, .slice a1 l1 c1] 25) (.int .i64 0) (.slice none 0 0)
  have hfld := field0
  have HX := Hid.out (p := Arg w (.agg #[.int .i64 m1, .slice a1 l1 c1]) n P) h
  go_enter Try.func18, Try.ntmps18
  go_wp2_with fail
  generalize (w.alloc (.cells #[.int .i64 m1, .slice a1 l1 c1] 25)).alloc (.cells #[.int .i64 0, .slice none 0 0] 25) = wA at *
  replace hB := hB.trans ((below_drew' wA).mono hB.size)
  replace q0 := q0.below (below_drew' wA)
  replace q1 := q1.below (below_drew' wA)
  go_region_held3 (fun w' => w'.cell? ⟨w.heap.size, 0, none⟩ = some (.int .i64 m1) ∧ w'.cell? ⟨w.heap.size, 1, none⟩ = some (.slice a1 l1 c1)) (first | exact ⟨q0.cells.1, q0.cells.2.1⟩ | exact ⟨((q0.other (p := ⟨w.heap.size + 1, 0, none⟩) (by simp) _).other (p := ⟨w.heap.size + 1, 1, none⟩) (by simp) _).cells.1, ((q0.other (p := ⟨w.heap.size + 1, 0, none⟩) (by simp) _).other (p := ⟨w.heap.size + 1, 1, none⟩) (by simp) _).cells.2.1⟩)
    (first
      | (go_at_call 41; refine (may_any HX hB).mono ?_; rintro e w1 ⟨aq, lq, cq, fq, rfl, hrq, hsq, hb⟩; have hle := hsq.hle; clear hrq hsq; replace hB := hB.trans (hb.mono hB.size); replace q0 := q0.below hb; replace q1 := q1.below hb; clear hb)
      | (go_at_call 35; refine (rzero_any n _ (by omega)).mono ?_; rintro e w2 ⟨az, lz, cz, rfl, hoz, hlz, hb⟩; have gz := SetAt.arg ⟨az, lz, cz, _, rfl, hoz.rd, isSet_empty hle hlz⟩; clear hoz hlz; replace hB := hB.trans (hb.mono hB.size); replace q0 := q0.below hb; replace q1 := q1.below hb; clear hb)
      | (go_at_call 16; refine (rwith_any k gz).mono ?_; rintro e w3 hret; obtain ⟨ay, ly, cy, rfl, gy, hb⟩ := hret.out; clear hret; replace hB := hB.trans (hb.mono hB.size); replace q0 := q0.below hb; replace q1 := q1.below hb; clear hb)
      | (go_at_call 44; refine (rpick_any false (HX.below hB) gy).mono ?_; rintro e w4 ⟨ao, len, cap, f, rfl, ho, hs, hb⟩; have hz3 := q1.lt; replace hB := hB.trans (hb.mono hB.size); replace q0 := q0.below hb; replace q1 := q1.below hb; obtain ⟨s0, s1, s2, s3⟩ := q1.cells))
  replace ho := ho.mono (B' := w.heap.size + 2) (by omega)
  have bR := (q1.set (.int .i64 (n : Nat)) (.slice ao len cap)).cells
  go_wp2
  refine bodyPost_ret (v := .agg #[.int .i64 n, .slice ao len cap]) (by simp [results, Try.results18, go_sem, bR.1, bR.2.1]) rfl ⟨_, _, _, f, rfl, (ho.mono (by omega)).box (fun a e => by have := ho.lt a e; omega) _ _, hs, ?_⟩
  exact (hB.setCell (p := ⟨w.heap.size + 1, 0, none⟩) (by simp) _).setCell (p := ⟨w.heap.size + 1, 1, none⟩) (by simp) _
/-- Without. -/
theorem rwithout_any {w : World} {x : Value} {n : Nat} {P : Nat → Bool} (k : Int) (h : Arg w x n P) : Calls Try.prog 18 #[x, .int .i64 k] w (RetL w n fun i => P i && !decide ((i : Int) = k)) :=
  (rwithout_walk k h).mono fun _ _ hr => hr.congr fun i => by
    by_cases hi : i < n
    · by_cases hk : (i : Int) = k <;> simp [hi, hk]
    · simp [h.out i (by omega)]
end Go.Proofs.Ytclgefpkcagbfaa
