/- ring.Run, Trigger: the walks. -/
import Derived.Test.YtehlmjjdegmnaaaDoorSt
import Derived.Test.YtehlmjjdegmnaaaDoorWth
namespace Go.Proofs.YtehlmjjdegmnaaaDoor
open Go.RowKit Go.Shelf
/-- All of the first k bytes are in the class. -/
def alF (P : Nat → Bool) (t : Nat → Nat) : Nat → Bool
  | 0 => true
  | k + 1 => alF P t k && P (t k)
/-- The state behind n bytes. -/
def rP (P : Nat → Bool) (t : Nat → Nat) (n N : Nat) (Q : Nat → Bool) : Nat → Bool := fun i => alF P t n && decide (n ≤ i) && Q (i - n) && decide (i < N)
theorem alF_no {P : Nat → Bool} {t : Nat → Nat} {k : Nat} : ∀ {n}, k < n → P (t k) = false → alF P t n = false
  | 0, h, _ => by omega
  | n + 1, h, hp => by
    simp only [alF]
    rcases Nat.lt_or_ge k n with h1 | h1
    · rw [alF_no h1 hp]; rfl
    · obtain rfl : k = n := by omega
      rw [hp, Bool.and_false]
theorem RetSet.fr {w w' : World} {n : Nat} {P : Nat → Bool} {e : Ending} (h : RetSet w n P e w') : RetFr w n P e w' := by
  obtain ⟨ao, len, cap, f, he, ho, hs, hb⟩ := h
  exact ⟨ao, len, cap, f, he, ho.rd, fun q e => (ho.lt q e).2, hs, hb⟩
theorem RetSt.arg {w w' : World} {n : Nat} {P : Nat → Bool} {e : Ending} (h : RetSt w n P e w') : ∃ ao len cap, e = .returned (.agg #[.int .i64 (n : Nat), .slice ao len cap]) ∧ Arg w' (.agg #[.int .i64 (n : Nat), .slice ao len cap]) n P ∧ Below w.heap.size w w' := by
  obtain ⟨ao, len, cap, f, he, hr, hs, hb⟩ := h
  exact ⟨ao, len, cap, he, SetAt.arg ⟨ao, len, cap, f, rfl, hr, hs⟩, hb⟩
theorem Sta.shape {w : World} {x : Value} {n : Nat} {P : Nat → Bool} (h : Sta w x n P) : ∃ m ao len cap, x = .agg #[.int .i64 m, .slice ao len cap] := by
  obtain ⟨m, ao, len, cap, f, e, _⟩ := h
  exact ⟨m, ao, len, cap, e⟩
theorem IsSet.congr' {n len : Nat} {f : Nat → Nat} {P Q : Nat → Bool} (h : IsSet n len f P) (e : ∀ i, P i = Q i) : IsSet n len f Q := by
  obtain rfl : P = Q := funext e
  exact h
set_option maxRecDepth 100000 in
set_option maxHeartbeats 2000000 in
/-- Run. -/
theorem run_any {a b c d a' b' c' d' lo' hi' : Nat} {lo hi : Int} {P Q : Nat → Bool} {x : Value} (w : World) (ao : Option Addr) (n cap : Nat) (t : Nat → Nat)
    (HS : ∀ w, Calls Tryd.prog 24 #[rgV a b c d lo hi] w fun e w' => e = .returned (rgV a' b' c' d' lo' hi') ∧ Below w.heap.size w w') (hP : C4 P a' b' c' d') (hhi : hi' ≤ 1000)
    (hx : Sta w x (hi' + 1) Q) (ht : RdB w ao n t) (hn : (n : Int) ≤ 9223372036854775807) :
    Calls Tryd.prog 16 #[rgV a b c d lo hi, x, .slice ao n cap] w (RetFr w (hi' + 1) (rP P t n (hi' + 1) Q)) := by
  obtain ⟨m, xo, xl, xc, rfl⟩ := hx.shape
  have hB0 := below3 w (.cells #[.int .u64 (a : Nat), .int .u64 (b : Nat), .int .u64 (c : Nat), .int .u64 (d : Nat), .int .i64 lo, .int .i64 hi] 26) (.cells #[.int .i64 m, .slice xo xl xc] 29) (.cells #[.int .i64 0, .slice none 0 0] 29)
  have r0 := RgAt.new3 w a b c d lo hi (.cells #[.int .i64 m, .slice xo xl xc] 29) (.cells #[.int .i64 0, .slice none 0 0] 29)
  have b1 := (Box.new1 w (.cells #[.int .u64 (a : Nat), .int .u64 (b : Nat), .int .u64 (c : Nat), .int .u64 (d : Nat), .int .i64 lo, .int .i64 hi] 26) (.int .i64 m) (.slice xo xl xc)).alloc (.cells #[.int .i64 0, .slice none 0 0] 29)
  have b2 := Box.new2' w (.cells #[.int .u64 (a : Nat), .int .u64 (b : Nat), .int .u64 (c : Nat), .int .u64 (d : Nat), .int .i64 lo, .int .i64 hi] 26) (.cells #[.int .i64 m, .slice xo xl xc] 29) (.int .i64 0) (.slice none 0 0)
  have HS0 := HS (((w.alloc (.cells #[.int .u64 (a : Nat), .int .u64 (b : Nat), .int .u64 (c : Nat), .int .u64 (d : Nat), .int .i64 lo, .int .i64 hi] 26)).alloc (.cells #[.int .i64 m, .slice xo xl xc] 29)).alloc (.cells #[.int .i64 0, .slice none 0 0] 29))
  have hcast : ((hi' + 1 : Nat) : Int) = (hi' : Int) + 1 := by omega
  clear HS
  unfold rgV at HS0 ⊢
  go_enter Tryd.func16, Tryd.ntmps16
  go_wp2_with (go_at_call 24; refine HS0.mono ?_; rintro e w1 ⟨rfl, hb⟩; have hB1 := hB0.trans (hb.mono (by simp; omega)); have r1 := r0.below hb; have b1' := b1.below hb; have b2' := b2.below hb; clear hb HS0 r0 b1 b2 hB0; obtain ⟨fc, f0, f1, f2, f3, f4, f5⟩ := r1.cells)
  have r2 := r1.put (a' := a') (b' := b') (c' := c') (d' := d') (lo' := lo') (hi' := hi')
  have b1w : Box (putR w1 w.heap.size a' b' c' d' lo' hi') (w.heap.size + 1) (.int .i64 m) (.slice xo xl xc) := Cl.putR (vs := [.int .i64 m, .slice xo xl xc]) b1' (by omega)
  have b2w : Box (putR w1 w.heap.size a' b' c' d' lo' hi') (w.heap.size + 1 + 1) (.int .i64 0) (.slice none 0 0) := Cl.putR (vs := [.int .i64 0, .slice none 0 0]) b2' (by omega)
  have hB2 := below_putR (p := w.heap.size) (a := a') (b := b') (c := c') (d := d') (lo := lo') (hi := hi') hB1 (Nat.le_refl _)
  have hx2 := hx.below hB2
  have ht2 := ht.below hB2
  show Code.wp Tryd.prog _ _ _ (putR w1 w.heap.size a' b' c' d' lo' hi')
  generalize putR w1 w.heap.size a' b' c' d' lo' hi' = W at *
  clear fc r1 b1' b2' hB1 f0 f1 f2 f3 f4 f5 hx ht
  go_loopw [13] (fun u wr => ∃ k : Nat, k ≤ n ∧ u = .int .i64 k ∧ alF P t k = true ∧ Below W.heap.size W wr) (fun u _ => n - (intOf u).toNat)
  case atStart => exact ⟨0, Nat.zero_le _, rfl, rfl, Below.refl _ _⟩
  case round =>
    obtain ⟨k, hk, rfl, hal, hBw⟩ := hrel
    have r3 := r2.below hBw
    obtain ⟨⟨g0, g1, g2, g3, g4, g5⟩, -⟩ := r3.cells
    by_cases hlt : k < n
    · obtain ⟨bb, off, hao, hbl, hct⟩ := (ht2.below hBw).at_ (by omega)
      have t1 := hct k hlt
      have hxs := ht2.small k hlt
      subst hao
      have hki : (k : Int) < (n : Int) := by omega
      have HH := has_c hP (t k) wr hxs
      clear hct
      cases hp : P (t k) with
      | true =>
        rw [hp] at HH
        have hal' : alF P t (k + 1) = true := by simp [alF, hal, hp]
        go_wp2_with (go_at_call 34; refine HH.mono ?_; rintro e w3 ⟨rfl, hb3⟩)
        go_roundw
        case rel => exact ⟨k + 1, by omega, by go_num, hal', hBw.trans (hb3.mono hBw.size)⟩
        case measure => simp [intOf]; omega
      | false =>
        rw [hp] at HH
        have hno := alF_no (n := n) hlt hp
        have HN := fun W => none_any (a := a') (b := b') (c := c') (d := d') (lo := lo') (hi := hi') W hhi
        unfold rgV RetFr at HN
        rw [hcast] at HN
        go_wp2_with (first
          | (go_at_call 34; refine HH.mono ?_; rintro e w3 ⟨rfl, hb3⟩; have hBw3 := hBw.trans (hb3.mono hBw.size); clear HH hb3 g0 g1 g2 g3 g4 g5 r3; have r4 := r2.below hBw3; obtain ⟨⟨g0, g1, g2, g3, g4, g5⟩, -⟩ := r4.cells)
          | (go_at_call 27; refine (HN w3).mono ?_; rintro e w4 ⟨ao2, len2, cap2, f2, rfl, hr2, hq2, hs2, hb4⟩; have hBw4 := hBw3.trans (hb4.mono hBw3.size); have hz3 := hBw3.size; clear hb4 HN; have b3 := b2w.below hBw4; have hB3 := hB2.trans (hBw4.mono hB2.size); have hz2 := hB2.size; have hzz := b2w.lt; clear g0 g1 g2 g3 g4 g5; obtain ⟨c20, c21, f20, f21⟩ := b3.cells))
        have b4 := b3.set (.int .i64 ((hi' : Int) + 1)) (.slice ao2 len2 cap2)
        obtain ⟨k0, k1, -, -⟩ := b4.cells
        have hszz := b3.lt
        refine bodyPost_ret (v := .agg #[.int .i64 ((hi' + 1 : Nat) : Int), .slice ao2 len2 cap2]) (by simp [results, Tryd.results16, go_sem, k0, k1, hcast]) rfl ⟨_, _, _, f2, rfl, ?_, fun q e => ?_, ?_, ?_⟩
        · exact hr2.set2 (fun q e h0 => by have := hq2 q e; omega) _ _
        · have := hq2 q e
          omega
        · have e0 : rP P t n (hi' + 1) Q = fun _ => false := by funext i; simp [rP, hno]
          rw [e0]
          exact hs2
        · exact (hB3.setCell (p := ⟨w.heap.size + 1 + 1, 0, none⟩) (by simp; omega) _).setCell (p := ⟨w.heap.size + 1 + 1, 1, none⟩) (by simp; omega) _
    · obtain rfl : k = n := by omega
      have HSt := state_any (a := a') (b := b') (c := c') (d := d') (lo := lo') (hi := hi') wr hhi (hx2.below hBw)
      have b1r := b1w.below hBw
      obtain ⟨c10, c11, -, -⟩ := b1r.cells
      unfold rgV at HSt
      go_wp2_with (first
        | (go_at_call 23; refine HSt.mono ?_; intro e w3 h3; obtain ⟨ao3, len3, cap3, rfl, harg, hb3⟩ := RetSt.arg h3; have hBw3 := hBw.trans (hb3.mono hBw.size))
        | (go_at_call 35; refine (shift_any (k : Int) harg (by omega) hn).mono ?_; intro e w4 h4; obtain ⟨ao2, len2, cap2, f2, he, hr2, hq2, hs2, hb4⟩ := RetSet.fr h4; rw [hcast] at he; subst he; have hBw4 := hBw3.trans (hb4.mono hBw3.size); have hz3 := hBw3.size; have b3 := b2w.below hBw4; have hB3 := hB2.trans (hBw4.mono hB2.size); have hz2 := hB2.size; have hzz := b2w.lt; obtain ⟨c20, c21, f20, f21⟩ := b3.cells))
      have b4 := b3.set (.int .i64 ((hi' : Int) + 1)) (.slice ao2 len2 cap2)
      obtain ⟨k0, k1, -, -⟩ := b4.cells
      have hszz := b3.lt
      refine bodyPost_ret (v := .agg #[.int .i64 ((hi' + 1 : Nat) : Int), .slice ao2 len2 cap2]) (by simp [results, Tryd.results16, go_sem, k0, k1, hcast]) rfl ⟨_, _, _, f2, rfl, ?_, fun q e => ?_, ?_, ?_⟩
      · exact hr2.set2 (fun q e h0 => by have := hq2 q e; omega) _ _
      · have := hq2 q e
        omega
      · refine hs2.congr' ?_
        intro i
        simp only [rP, hal, Bool.true_and]
        by_cases h : k ≤ i
        · rw [decide_eq_true (p := (0 : Int) ≤ (i : Int) - k) (by omega), decide_eq_true h, show ((i : Int) - k).toNat = i - k by omega]
        · rw [decide_eq_false (p := (0 : Int) ≤ (i : Int) - k) (by omega), decide_eq_false h]; rfl
      · exact (hB3.setCell (p := ⟨w.heap.size + 1 + 1, 0, none⟩) (by simp; omega) _).setCell (p := ⟨w.heap.size + 1 + 1, 1, none⟩) (by simp; omega) _
end Go.Proofs.YtehlmjjdegmnaaaDoor
