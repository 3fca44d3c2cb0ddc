/- The reference's rings: Check, may, None, has: the walks. -/
import Derived.Test.YtehlmjjdegmnaaaDoorSt
import Derived.Test.YtehlmjjdegmnaaaDoorSf
namespace Go.Proofs.YtehlmjjdegmnaaaDoor
open Go.RowKit
set_option maxHeartbeats 1000000 in
theorem rck_r (a b c d : Nat) (lo hi : Int) (w : World) : Calls Tryd.prog 8 #[rgV a b c d lo hi] w fun e w' => e = .returned (.int .i64 (if okR lo hi = true then 0 else 130)) ∧ Below w.heap.size w w' := by
  have hB : Below w.heap.size w (w.alloc (.cells #[.int .u64 (a : Nat), .int .u64 (b : Nat), .int .u64 (c : Nat), .int .u64 (d : Nat), .int .i64 lo, .int .i64 hi] 26)) := (Below.refl _ _).alloc (Nat.le_refl _) _
  unfold rgV
  by_cases h1 : hi < 1
  · have e : (if okR lo hi = true then (0 : Int) else 130) = 130 := by unfold okR; rw [decide_eq_false (p := 1 ≤ hi) (by omega)]; rfl
    rw [e]
    go_enter Tryd.func8, Tryd.ntmps8
    go_wp2
    go_ret
    exact ⟨rfl, hB⟩
  by_cases h2 : 1000 < hi
  · have e : (if okR lo hi = true then (0 : Int) else 130) = 130 := by unfold okR; rw [decide_eq_false (p := hi ≤ 1000) (by omega)]; simp
    rw [e]
    go_enter Tryd.func8, Tryd.ntmps8
    go_wp2
    go_ret
    exact ⟨rfl, hB⟩
  by_cases h3 : lo < 0
  · have e : (if okR lo hi = true then (0 : Int) else 130) = 130 := by unfold okR; rw [decide_eq_false (p := 0 ≤ lo) (by omega)]; simp
    rw [e]
    go_enter Tryd.func8, Tryd.ntmps8
    go_wp2
    go_ret
    exact ⟨rfl, hB⟩
  by_cases h4 : hi < lo
  · have e : (if okR lo hi = true then (0 : Int) else 130) = 130 := by unfold okR; rw [decide_eq_false (p := lo ≤ hi) (by omega)]; simp
    rw [e]
    go_enter Tryd.func8, Tryd.ntmps8
    go_wp2
    go_ret
    exact ⟨rfl, hB⟩
  · have e : (if okR lo hi = true then (0 : Int) else 130) = 0 := by unfold okR; rw [decide_eq_true (p := 1 ≤ hi) (by omega), decide_eq_true (p := hi ≤ 1000) (by omega), decide_eq_true (p := 0 ≤ lo) (by omega), decide_eq_true (p := lo ≤ hi) (by omega)]; rfl
    rw [e]
    go_enter Tryd.func8, Tryd.ntmps8
    go_wp2
    go_ret
    exact ⟨rfl, hB⟩
theorem rck_yes {a b c d : Nat} {lo hi : Int} (w : World) (h : okR lo hi = true) : Calls Tryd.prog 8 #[rgV a b c d lo hi] w fun e w' => e = .returned (.int .i64 0) ∧ Below w.heap.size w w' := by
  have := rck_r a b c d lo hi w
  rwa [if_pos h] at this
theorem rck_no {a b c d : Nat} {lo hi : Int} (w : World) (h : okR lo hi = false) : Calls Tryd.prog 8 #[rgV a b c d lo hi] w fun e w' => e = .returned (.int .i64 130) ∧ Below w.heap.size w w' := by
  have := rck_r a b c d lo hi w
  rwa [if_neg (by rw [h]; decide)] at this
set_option maxHeartbeats 1000000 in
/-- may of a ring that may be. -/
theorem may_yes {a b c d : Nat} {lo hi : Int} (w : World) (h : okR lo hi = true) : Calls Tryd.prog 29 #[rgV a b c d lo hi] w fun e w' => e = .returned (rgV a b c d lo hi) ∧ Below w.heap.size w w' := by
  have HC := rck_yes (a := a) (b := b) (c := c) (d := d) (lo := lo) (hi := hi) ((w.alloc (.cells #[.int .u64 (a : Nat), .int .u64 (b : Nat), .int .u64 (c : Nat), .int .u64 (d : Nat), .int .i64 lo, .int .i64 hi] 26)).alloc (.cells #[.int .u64 0, .int .u64 0, .int .u64 0, .int .u64 0, .int .i64 0, .int .i64 0] 26)) h
  have r0 := (RgAt.new w a b c d lo hi).below ((Below.refl _ _).alloc (Nat.le_refl _) (.cells #[.int .u64 0, .int .u64 0, .int .u64 0, .int .u64 0, .int .i64 0, .int .i64 0] 26))
  have r1 := RgAt.new (w.alloc (.cells #[.int .u64 (a : Nat), .int .u64 (b : Nat), .int .u64 (c : Nat), .int .u64 (d : Nat), .int .i64 lo, .int .i64 hi] 26)) 0 0 0 0 0 0
  rw [World.size_alloc] at r1
  have hB0 : Below w.heap.size w ((w.alloc (.cells #[.int .u64 (a : Nat), .int .u64 (b : Nat), .int .u64 (c : Nat), .int .u64 (d : Nat), .int .i64 lo, .int .i64 hi] 26)).alloc (.cells #[.int .u64 0, .int .u64 0, .int .u64 0, .int .u64 0, .int .i64 0, .int .i64 0] 26)) := ((Below.refl _ _).alloc (Nat.le_refl _) _).alloc (by simp) _
  unfold rgV at HC ⊢
  go_enter Tryd.func29, Tryd.ntmps29
  go_wp2_with (go_at_call 8; refine HC.mono ?_; rintro e w1 ⟨rfl, hb⟩; have hB1 := hB0.trans (hb.mono (by simp; omega)); have r0' := r0.below hb; have r1' := r1.below hb; clear hb HC r0 r1 hB0; obtain ⟨⟨g0, g1, g2, g3, g4, g5⟩, _⟩ := r0'.cells; obtain ⟨_, f0, f1, f2, f3, f4, f5⟩ := r1'.cells)
  have r2 := r1'.put (a' := a) (b' := b) (c' := c) (d' := d) (lo' := lo) (hi' := hi)
  have hB2 := below_putR (p := w.heap.size + 1) (a := a) (b := b) (c := c) (d := d) (lo := lo) (hi := hi) hB1 (by omega)
  obtain ⟨⟨k0, k1, k2, k3, k4, k5⟩, _⟩ := r2.cells
  unfold putR at k0 k1 k2 k3 k4 k5 hB2
  go_wp2
  exact bodyPost_ret (by simp [results, Tryd.results29, go_sem, k0, k1, k2, k3, k4, k5]) rfl ⟨rfl, hB2⟩
set_option maxHeartbeats 1000000 in
/-- may of another one. -/
theorem may_no {a b c d : Nat} {lo hi : Int} (w : World) (h : okR lo hi = false) : Calls Tryd.prog 29 #[rgV a b c d lo hi] w fun e w' => e = .returned (rgV 0 0 0 0 0 1) ∧ Below w.heap.size w w' := by
  have HC := rck_no (a := a) (b := b) (c := c) (d := d) (lo := lo) (hi := hi) ((w.alloc (.cells #[.int .u64 (a : Nat), .int .u64 (b : Nat), .int .u64 (c : Nat), .int .u64 (d : Nat), .int .i64 lo, .int .i64 hi] 26)).alloc (.cells #[.int .u64 0, .int .u64 0, .int .u64 0, .int .u64 0, .int .i64 0, .int .i64 0] 26)) h
  have r1 := RgAt.new (w.alloc (.cells #[.int .u64 (a : Nat), .int .u64 (b : Nat), .int .u64 (c : Nat), .int .u64 (d : Nat), .int .i64 lo, .int .i64 hi] 26)) 0 0 0 0 0 0
  rw [World.size_alloc] at r1
  have hB0 : Below w.heap.size w ((w.alloc (.cells #[.int .u64 (a : Nat), .int .u64 (b : Nat), .int .u64 (c : Nat), .int .u64 (d : Nat), .int .i64 lo, .int .i64 hi] 26)).alloc (.cells #[.int .u64 0, .int .u64 0, .int .u64 0, .int .u64 0, .int .i64 0, .int .i64 0] 26)) := ((Below.refl _ _).alloc (Nat.le_refl _) _).alloc (by simp) _
  unfold rgV at HC ⊢
  go_enter Tryd.func29, Tryd.ntmps29
  go_wp2_with (go_at_call 8; refine HC.mono ?_; rintro e w1 ⟨rfl, hb⟩; have hB1 := hB0.trans (hb.mono (by simp; omega)); have r1' := r1.below hb; clear hb HC r1 hB0; obtain ⟨_, f0, f1, f2, f3, f4, f5⟩ := r1'.cells)
  have r2 := r1'.put (a' := 0) (b' := 0) (c' := 0) (d' := 0) (lo' := 0) (hi' := 1)
  have hB2 := below_putR (p := w.heap.size + 1) (a := 0) (b := 0) (c := 0) (d := 0) (lo := 0) (hi := 1) hB1 (by omega)
  obtain ⟨⟨k0, k1, k2, k3, k4, k5⟩, _⟩ := r2.cells
  unfold putR at k0 k1 k2 k3 k4 k5 hB2
  go_wp2
  exact bodyPost_ret (by simp_all [results, Tryd.results29, go_sem]) rfl ⟨rfl, hB2⟩
theorem RetL.fr {w w' : World} {n : Nat} {P : Nat → Bool} {e : Ending} (h : RetL w n P e w') : RetFr w n P e w' := by
  obtain ⟨ao, len, cap, f, he, ho, hs, hb⟩ := h
  exact ⟨ao, len, cap, f, he, ho.rd, fun q e => (ho.lt q e).2, hs, hb⟩
theorem field26 (a b c d lo hi : Value) (w : World) : (Instr.field 26 (.agg #[a, b, c, d, lo, hi]) 2).run Tryd.prog w = .ok hi w := by kernel_rfl
set_option maxHeartbeats 1000000 in
/-- The reference's None. -/
theorem rnone_any {a b c d a' b' c' d' lo' hi' : Nat} {lo hi : Int} (w : World) (HM : ∀ w, Calls Tryd.prog 29 #[rgV a b c d lo hi] w fun e w' => e = .returned (rgV a' b' c' d' lo' hi') ∧ Below w.heap.size w w') (hhi : hi' ≤ 1000) :
    Calls Tryd.prog 11 #[rgV a b c d lo hi] w (RetFr w (hi' + 1) (fun _ => false)) := by
  have hB0 := below_two w (.cells #[.int .u64 (a : Nat), .int .u64 (b : Nat), .int .u64 (c : Nat), .int .u64 (d : Nat), .int .i64 lo, .int .i64 hi] 26) (.cells #[.int .i64 0, .slice none 0 0] 29)
  have b1 := Box.new1 w (.cells #[.int .u64 (a : Nat), .int .u64 (b : Nat), .int .u64 (c : Nat), .int .u64 (d : Nat), .int .i64 lo, .int .i64 hi] 26) (.int .i64 0) (.slice none 0 0)
  have HM0 := HM ((w.alloc (.cells #[.int .u64 (a : Nat), .int .u64 (b : Nat), .int .u64 (c : Nat), .int .u64 (d : Nat), .int .i64 lo, .int .i64 hi] 26)).alloc (.cells #[.int .i64 0, .slice none 0 0] 29))
  have hcast : ((hi' + 1 : Nat) : Int) = (hi' : Int) + 1 := by omega
  have HZ := fun W => rzero_any (hi' + 1) W (by omega)
  rw [hcast] at HZ
  have hf := field26
  clear HM
  unfold rgV at HM0 ⊢
  go_enter Tryd.func11, Tryd.ntmps11
  go_wp2_with (first
    | (go_at_call 29; refine HM0.mono ?_; rintro e w1 ⟨rfl, hb⟩; have hB1 := hB0.trans (hb.mono (by simp; omega)); have b1' := b1.below hb; clear hb HM0 b1 hB0)
    | (go_at_call 28; refine (HZ w1).mono ?_; rintro e w2 ⟨ao, len, cap, rfl, ho, hlen, hb2⟩; have hB2 := hB1.trans (hb2.mono hB1.size); have b2 := b1'.below hb2; have hz1 := b1'.lt; have HLEN : Hid (len = (hi' + 1 + 63) / 64) := hlen; clear hb2 hlen; obtain ⟨c20, c21, f20, f21⟩ := b2.cells))
  have b4 := b2.set (.int .i64 ((hi' : Int) + 1)) (.slice ao len cap)
  obtain ⟨k0, k1, -, -⟩ := b4.cells
  refine bodyPost_ret (v := .agg #[.int .i64 ((hi' + 1 : Nat) : Int), .slice ao len cap]) (by simp [results, Tryd.results11, go_sem, k0, k1, hcast]) rfl ⟨_, _, _, _, rfl, ?_, fun q e => ?_, isSet_empty (by omega) HLEN.out, ?_⟩
  · exact ho.rd.set2 (fun q e h0 => by have := (ho.lt q e).2; omega) _ _
  · have := (ho.lt q e).2
    omega
  · exact (hB2.setCell (p := ⟨w.heap.size + 1, 0, none⟩) (by simp) _).setCell (p := ⟨w.heap.size + 1, 1, none⟩) (by simp) _
end Go.Proofs.YtehlmjjdegmnaaaDoor
