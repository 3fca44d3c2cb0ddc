/- The reference's First and Shift: the walks. -/
import Derived.Test.YtehlmjjdegmnaaaDoorRw
namespace Go.Proofs.YtehlmjjdegmnaaaDoor
open Go.RowKit
attribute [local go_sem ↓] Go.wp_at_zero Go.wp_at_succ
structure IsF (P : Nat → Bool) (a k : Nat) : Prop where
  le : a ≤ k
  yes : P k = true
  no : ∀ j, a ≤ j → j < k → P j = false
/-- What First answers. -/
def RetF (w : World) (P : Nat → Bool) (a : Nat) (e : Ending) (w' : World) : Prop :=
  ((∃ k : Nat, e = .returned (.tuple #[.int .i64 (k : Nat), .bool true]) ∧ IsF P a k) ∨ (e = .returned (.tuple #[.int .i64 0, .bool false]) ∧ ∀ j, a ≤ j → P j = false)) ∧ Below w.heap.size w w'
theorem Arg.le {w : World} {x : Value} {n : Nat} {P : Nat → Bool} (h : Arg w x n P) : n ≤ 8192 := by
  obtain ⟨_, _, _, _, _, _, _, h⟩ := h
  rcases h with ⟨_, hs⟩ | ⟨_, rfl, _⟩
  · exact hs.hle
  · omega
def shG (P : Nat → Bool) (n : Nat) (k : Int) (j : Nat) : Nat → Bool := fun i => decide (0 ≤ (i : Int) - k) && P ((i : Int) - k).toNat && decide (i < n) && decide ((i : Int) - k < j)
theorem shG_zero (P : Nat → Bool) (n : Nat) (k : Int) (i : Nat) : shG P n k 0 i = false := by
  unfold shG
  by_cases h : 0 ≤ (i : Int) - k
  · rw [decide_eq_false (show ¬ (i : Int) - k < ((0 : Nat) : Int) by omega), Bool.and_false]
  · rw [decide_eq_false h, Bool.false_and, Bool.false_and, Bool.false_and]
theorem shG_same {P : Nat → Bool} {n j : Nat} {k : Int} (h : P j = false ∨ ¬ (k < n ∧ -(n : Int) < k)) (hj : j < n) (i : Nat) : shG P n k j i = shG P n k (j + 1) i := by
  unfold shG
  by_cases hi : (i : Int) - k = j
  · rw [hi]
    rcases h with h | h
    · rw [Int.toNat_natCast, h]; simp
    · by_cases hn : i < n
      · omega
      · rw [decide_eq_false hn]; simp
  · congr 1
    rw [decide_eq_decide]
    omega
theorem shG_put {P : Nat → Bool} {n j : Nat} {k : Int} (h : P j = true) (i : Nat) : (shG P n k j i || decide ((i : Int) = (j : Int) + k ∧ i < n)) = shG P n k (j + 1) i := by
  unfold shG
  by_cases hi : (i : Int) - k = j
  · rw [hi, Int.toNat_natCast, h]
    by_cases hn : i < n
    · rw [decide_eq_true (show (i : Int) = (j : Int) + k ∧ i < n by omega), Bool.or_true, decide_eq_true hn, decide_eq_true (show 0 ≤ (j : Int) by omega), decide_eq_true (show (j : Int) < ((j + 1 : Nat) : Int) by omega)]
      rfl
    · rw [decide_eq_false hn, decide_eq_false (show ¬ ((i : Int) = (j : Int) + k ∧ i < n) by omega)]
      simp
  · rw [decide_eq_false (show ¬ ((i : Int) = (j : Int) + k ∧ i < n) by omega), Bool.or_false]
    congr 1
    rw [decide_eq_decide]
    omega
theorem shG_all {P : Nat → Bool} {n : Nat} {k : Int} (h : ∀ i, n ≤ i → P i = false) (i : Nat) : shG P n k n i = (decide (0 ≤ (i : Int) - k) && P ((i : Int) - k).toNat && decide (i < n)) := by
  unfold shG
  by_cases h0 : (i : Int) - k < n
  · rw [decide_eq_true h0, Bool.and_true]
  · rw [h ((i : Int) - k).toNat (by omega)]
    simp
theorem max_zero (z : Int) (w : World) : (Builtin.max_ #[3, 3] 3 #[.int .i64 z, .int .i64 0]).run Tryd.prog w = .ok (.int .i64 (z.toNat : Nat)) w := by
  rw [run_max_int2]
  congr 2
  split <;> omega
structure RelG (w : World) (x0 x1 : Value) (wr : World) : Prop where
  box : Box wr w.heap.size x0 x1
  below : Below w.heap.size w wr
theorem RelG.next {w : World} {x0 x1 : Value} {wr wr' : World} (h : RelG w x0 x1 wr) (hb : Below wr.heap.size wr wr') : RelG w x0 x1 wr' :=
  ⟨h.box.below hb, h.below.trans (hb.mono h.below.size)⟩
set_option maxHeartbeats 1000000 in
theorem rfirst_any {w : World} {x : Value} {n : Nat} {P : Nat → Bool} (z : Int) (h : Arg w x n P) : Calls Tryd.prog 38 #[x, .int .i64 z] w (RetF w P z.toNat) := by
  obtain ⟨m1, a1, l1, c1, rfl⟩ := h.shape
  have hB0 : Below w.heap.size w (w.alloc (.cells #[.int .i64 m1, .slice a1 l1 c1] 29)) := (Below.refl _ _).alloc (Nat.le_refl _) _
  have q0 := Box.new w (.int .i64 m1) (.slice a1 l1 c1)
  have hfld := field0
  have hn : n ≤ 8192 := h.le
  have HX := Hid.out (p := Arg w (.agg #[.int .i64 m1, .slice a1 l1 c1]) n P) h
  have hmax := max_zero z
  generalize z.toNat = a at *
  clear h
  go_enter Tryd.func38, Tryd.ntmps38
  go_wp2_with fail
  go_loopw [6] (fun i wr => ∃ k : Nat, i = .int .i64 k ∧ (∀ j, a ≤ j → j < k → P j = false) ∧ a ≤ k ∧ RelG w (.int .i64 m1) (.slice a1 l1 c1) wr) (fun i _ => n - (intOf i).toNat)
  case atStart => exact ⟨a, rfl, fun j h1 h2 => by omega, Nat.le_refl _, q0, hB0⟩
  case round =>
    obtain ⟨k, rfl, hno, hak, hR⟩ := hrel
    obtain ⟨p0, p1, p2, p3⟩ := hR.box.cells
    have HN : Hid (∀ j, a ≤ j → j < k → P j = false) := hno
    clear hno
    go_wp2_with fail
    refine (may_any HX hR.below).mono ?_
    rintro e w1 ⟨aq, lq, cq, fq, rfl, hrq, hsq, hb⟩
    replace hR := hR.next hb
    clear hb hrq hsq p0 p1 p2 p3
    obtain ⟨p0, p1, p2, p3⟩ := hR.box.cells
    by_cases hlt : k < n
    · have hki : (k : Int) < (n : Int) := by omega
      have hk8 : (k : Int) ≤ 8192 := by omega
      go_wp2_with fail
      refine (rhas_n k (HX.below hR.below)).mono ?_
      rintro e w2 ⟨rfl, hb⟩
      replace hR := hR.next hb
      clear hb p0 p1 p2 p3
      cases hpk : P k with
      | false =>
        have HP : Hid (P k = false) := hpk
        clear hpk
        go_wp2
        go_roundw
        case rel =>
          refine ⟨k + 1, by go_num, fun j h1 h2 => ?_, by omega, hR⟩
          by_cases e : j = k
          · subst e; exact HP.out
          · exact HN.out j h1 (by omega)
        case measure => simp [intOf]; omega
      | true =>
        have HF : Hid (IsF P a k) := ⟨hak, hpk, HN.out⟩
        clear hpk
        go_wp2
        exact bodyPost_ret (v := .tuple #[.int .i64 (k : Nat), .bool true]) (by simp [results, Tryd.results38, go_sem]) rfl ⟨.inl ⟨k, rfl, HF.out⟩, hR.below⟩
    · have hki : ¬ (k : Int) < (n : Int) := by omega
      have HF : Hid (∀ j, a ≤ j → P j = false) := fun j h1 => by
        by_cases h2 : j < k
        · exact HN.out j h1 h2
        · exact HX.out j (by omega)
      go_wp2
      exact bodyPost_ret (v := .tuple #[.int .i64 0, .bool false]) (by simp [results, Tryd.results38, go_sem]) rfl ⟨.inr ⟨rfl, HF.out⟩, hR.below⟩
structure RelSh (w : World) (x0 x1 : Value) (n bc : Nat) (ao : Option Addr) (len cap : Nat) (P : Nat → Bool) (wr : World) : Prop where
  bc1 : Box wr bc (.int .i64 (n : Nat)) (.slice ao len cap)
  own : ∃ f, OwnL (w.heap.size + 2) wr ao len f ∧ IsSet n len f P
  below : Below w.heap.size w wr
  xa : Box wr w.heap.size x0 x1
  xr : Box wr (w.heap.size + 1) (.int .i64 0) (.slice none 0 0)
section
variable {w wr wr' : World} {x0 x1 : Value} {n bc : Nat} {ao : Option Addr} {len cap : Nat} {P P' : Nat → Bool}
theorem RelSh.next (h : RelSh w x0 x1 n bc ao len cap P wr) (hb : Below wr.heap.size wr wr') : RelSh w x0 x1 n bc ao len cap P wr' :=
  ⟨h.bc1.below hb, h.own.elim fun f ⟨ho, hs⟩ => ⟨f, ho.below hb, hs⟩, h.below.trans (hb.mono h.below.size), h.xa.below hb, h.xr.below hb⟩
theorem RelSh.put {g : Nat → Nat} (h : RelSh w x0 x1 n bc ao len cap P wr) (hb : But ao wr wr') (ho : OwnL (w.heap.size + 2) wr' ao len g) (hs : IsSet n len g P')
    (hao : ∀ a, ao = some a → w.heap.size + 2 ≤ a.block ∧ a.block ≠ bc) : RelSh w x0 x1 n bc ao len cap P' wr' :=
  ⟨h.bc1.but hb (fun a e => (hao a e).2), ⟨g, ho, hs⟩, h.below.trans (hb.below h.below.size fun a e => by have := hao a e; omega), h.xa.but hb (fun a e => by have := hao a e; omega), h.xr.but hb (fun a e => by have := hao a e; omega)⟩
theorem RelSh.congr (h : RelSh w x0 x1 n bc ao len cap P wr) (e : ∀ i, P i = P' i) : RelSh w x0 x1 n bc ao len cap P' wr := by
  obtain rfl : P = P' := funext e
  exact h
end
set_option maxHeartbeats 2000000 in
theorem rshift_any {w : World} {x : Value} {n : Nat} {P : Nat → Bool} (z : Int) (h : Arg w x n P) :
    Calls Tryd.prog 33 #[x, .int .i64 z] w (RetL w n fun i => decide (0 ≤ (i : Int) - z) && P ((i : Int) - z).toNat && decide (i < n)) := by
  obtain ⟨m1, a1, l1, c1, rfl⟩ := h.shape
  have hB0 : Below w.heap.size w ((w.alloc (.cells #[.int .i64 m1, .slice a1 l1 c1] 29)).alloc (.cells #[.int .i64 0, .slice none 0 0] 29)) := ((Below.refl _ _).alloc (Nat.le_refl _) _).alloc (by simp) _
  have q0 := (Box.new w (.int .i64 m1) (.slice a1 l1 c1)).alloc (.cells #[.int .i64 0, .slice none 0 0] 29)
  have q2 := Box.new1 w (.cells #[.int .i64 m1, .slice a1 l1 c1] 29) (.int .i64 0) (.slice none 0 0)
  have hfld := field0
  go_enter Tryd.func33, Tryd.ntmps33
  go_wp2_with fail
  refine (may_any h hB0).mono ?_
  rintro e w1 ⟨aq, lq, cq, fq, rfl, hrq, hsq, hb⟩
  replace q0 := q0.below hb
  replace q2 := q2.below hb
  have hB1 := hB0.trans (hb.mono hB0.size)
  have hle := hsq.hle
  clear hb hB0 hrq hsq
  go_wp2_with fail
  refine (rzero_any n _ (by omega)).mono ?_
  rintro e w2 ⟨ao, len, cap, rfl, ho, hlen, hb⟩
  have hz1' : w.heap.size + 2 ≤ w1.heap.size := q2.lt
  replace q0 := q0.below hb
  replace q2 := q2.below hb
  have hB2 := hB1.trans (hb.mono hB1.size)
  replace ho := ho.mono (B' := w.heap.size + 2) (by omega)
  have hs0 := isSet_empty (show n ≤ 8192 by omega) hlen
  have hao : ∀ a, ao = some a → w.heap.size + 2 ≤ a.block ∧ a.block ≠ w2.heap.size := fun a e => ⟨(ho.lt a e).2, by have := (ho.lt a e).1; omega⟩
  have hz2' : w.heap.size + 2 ≤ w2.heap.size := q2.lt
  have hn8 : (n : Int) ≤ 8192 := by omega
  have gA := Hid.out (p := Arg w (.agg #[.int .i64 m1, .slice a1 l1 c1]) n P) h
  clear hlen hb hB1 hfld h
  go_wp2_with fail
  go_loopw [6] (fun i wr => ∃ k : Nat, k ≤ n ∧ i = .int .i64 k ∧ RelSh w (.int .i64 m1) (.slice a1 l1 c1) n w2.heap.size ao len cap (shG P n z k) wr) (fun i _ => n - (intOf i).toNat)
  case atStart =>
    exact ⟨0, Nat.zero_le _, rfl, RelSh.congr (P := fun _ => false) ⟨Box.new _ _ _, ⟨_, ho.alloc _, hs0⟩, hB2.alloc (by omega) _, q0.alloc _, q2.alloc _⟩ fun i => (shG_zero P n z i).symm⟩
  case round =>
    obtain ⟨k, hk, rfl, hR⟩ := hrel
    obtain ⟨p0, p1, p2, p3⟩ := hR.bc1.cells
    obtain ⟨r0, r1, r2, r3⟩ := hR.xa.cells
    by_cases hlt : k < n
    · have hki : (k : Int) < (n : Int) := by omega
      have hk0 : (0 : Int) ≤ (k : Int) := by omega
      go_wp2_with fail
      refine (rhas_n k (gA.below hR.below)).mono ?_
      rintro e w3 ⟨rfl, hb3⟩
      replace hR := hR.next hb3
      clear p0 p1 p2 p3 r0 r1 r2 r3 hb3
      obtain ⟨p0, p1, p2, p3⟩ := hR.bc1.cells
      cases hpk : P k with
      | false =>
        have HS : Hid (∀ i, shG P n z k i = shG P n z (k + 1) i) := shG_same (.inl hpk) hlt
        clear hpk
        go_wp2
        go_roundw
        case rel => exact ⟨k + 1, by omega, by go_num, hR.congr HS.out⟩
        case measure => simp [intOf]; omega
      | true =>
        by_cases h1 : z < n
        · by_cases h2 : -(n : Int) < z
          · have HP : Hid (∀ i, (shG P n z k i || decide ((i : Int) = (k : Int) + z ∧ i < n)) = shG P n z (k + 1) i) := shG_put hpk
            clear hpk
            have hw : IntKind.i64.wrap ((k : Int) + z) = (k : Int) + z := by rw [IntKind.wrap_i64]; omega
            obtain ⟨f, hof, hsf⟩ := hR.own
            go_wp2_with fail
            refine (rput_any ((k : Int) + z) hof hsf).mono ?_
            rintro e w5 ⟨rfl, g, ho5, hs5, hbut⟩
            replace hR := hR.put hbut ho5 hs5 hao
            clear p0 p1 p2 p3 hbut ho5 hs5 hof hsf
            go_wp2
            go_roundw
            case rel => exact ⟨k + 1, by omega, by go_num, hR.congr HP.out⟩
            case measure => simp [intOf]; omega
          · have HS : Hid (∀ i, shG P n z k i = shG P n z (k + 1) i) := shG_same (.inr fun h => h2 h.2) hlt
            clear hpk
            go_wp2
            go_roundw
            case rel => exact ⟨k + 1, by omega, by go_num, hR.congr HS.out⟩
            case measure => simp [intOf]; omega
        · have HS : Hid (∀ i, shG P n z k i = shG P n z (k + 1) i) := shG_same (.inr fun h => h1 h.1) hlt
          clear hpk
          go_wp2
          go_roundw
          case rel => exact ⟨k + 1, by omega, by go_num, hR.congr HS.out⟩
          case measure => simp [intOf]; omega
    · obtain rfl : k = n := by omega
      replace hR := hR.congr (shG_all fun i hi => gA.out i hi)
      obtain ⟨f, hof, hsf⟩ := hR.own
      obtain ⟨s0, s1, s2, s3⟩ := hR.xr.cells
      have hB3 := hR.below
      have hne2 : w.heap.size + 1 ≠ w2.heap.size := by omega
      clear r0 r1 r2 r3
      go_wp2
      refine bodyPost_ret (v := .agg #[.int .i64 k, .slice ao len cap]) (by simp [results, Tryd.results33, go_sem, s0, s1]) rfl ⟨_, _, _, f, rfl, (hof.mono (by omega)).box (fun a e => by have := hao a e; omega) _ _, hsf, ?_⟩
      exact (hB3.setCell (p := ⟨w.heap.size + 1, 0, none⟩) (by simp) _).setCell (p := ⟨w.heap.size + 1, 1, none⟩) (by simp) _
end Go.Proofs.YtehlmjjdegmnaaaDoor
