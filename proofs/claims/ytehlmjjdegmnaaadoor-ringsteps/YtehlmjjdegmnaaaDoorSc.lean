/- The reference's Oldest, Run; Accepts: the walks. -/
import Derived.Test.YtehlmjjdegmnaaaDoorSa
namespace Go.Proofs.YtehlmjjdegmnaaaDoor
open Go.RowKit Go.Shelf
theorem come_end (Q : Nat → Bool) : ∀ N, (come Q N = [] ∧ ∀ j, j < N → Q j = false) ∨ ∃ L z, come Q N = L ++ [z] ∧ z < N ∧ Q z = true ∧ ∀ j, z < j → j < N → Q j = false
  | 0 => .inl ⟨rfl, fun j hj => by omega⟩
  | N + 1 => by
    rw [come_succ]
    cases hq : Q N with
    | true => exact .inr ⟨come Q N, N, by simp, by omega, hq, fun j h1 h2 => by omega⟩
    | false =>
      simp only [Bool.false_eq_true, if_false, List.append_nil]
      rcases come_end Q N with ⟨h1, h2⟩ | ⟨L, z, h1, h2, h3, h4⟩
      · refine .inl ⟨h1, fun j hj => ?_⟩
        rcases Nat.lt_or_ge j N with h | h
        · exact h2 j h
        · obtain rfl : j = N := by omega
          exact hq
      · refine .inr ⟨L, z, h1, by omega, h3, fun j h5 h6 => ?_⟩
        rcases Nat.lt_or_ge j N with h | h
        · exact h4 j h5 h
        · obtain rfl : j = N := by omega
          exact hq
set_option maxRecDepth 100000 in
set_option maxHeartbeats 2000000 in
/-- The reference's Oldest. -/
theorem roldest_any {a b c d a' b' c' d' lo' hi' : Nat} {lo hi : Int} {Q : Nat → Bool} {x : Value} (w : World) (HM : ∀ w, Calls Tryd.prog 29 #[rgV a b c d lo hi] w fun e w' => e = .returned (rgV a' b' c' d' lo' hi') ∧ Below w.heap.size w w') (hhi : hi' ≤ 1000) (hx : Sta w x (hi' + 1) Q) :
    Calls Tryd.prog 6 #[rgV a b c d lo hi, x] w (RetM w Q (hi' + 1)) := by
  obtain ⟨m, xo, xl, xc, rfl⟩ := hx.shape
  have hB0 := below_two w (.cells #[.int .u64 (a : Nat), .int .u64 (b : Nat), .int .u64 (c : Nat), .int .u64 (d : Nat), .int .i64 lo, .int .i64 hi] 26) (.cells #[.int .i64 m, .slice xo xl xc] 29)
  have r0 := (RgAt.new w a b c d lo hi).below ((Below.refl _ _).alloc (Nat.le_refl _) (.cells #[.int .i64 m, .slice xo xl xc] 29))
  have b1 := Box.new1 w (.cells #[.int .u64 (a : Nat), .int .u64 (b : Nat), .int .u64 (c : Nat), .int .u64 (d : Nat), .int .i64 lo, .int .i64 hi] 26) (.int .i64 m) (.slice xo xl xc)
  have hx0 := hx.below hB0
  have HST : ∀ w, Sta w (.agg #[.int .i64 m, .slice xo xl xc]) (hi' + 1) Q → Calls Tryd.prog 26 #[.agg #[.int .u64 (a : Nat), .int .u64 (b : Nat), .int .u64 (c : Nat), .int .u64 (d : Nat), .int .i64 lo, .int .i64 hi], .agg #[.int .i64 m, .slice xo xl xc]] w (RetSt w (hi' + 1) Q) := fun w h => rstate_any w HM hhi h
  clear HM hx
  unfold rgV
  go_enter Tryd.func6, Tryd.ntmps6
  go_upto_region 1 with fail
  generalize (w.alloc (.cells #[.int .u64 (a : Nat), .int .u64 (b : Nat), .int .u64 (c : Nat), .int .u64 (d : Nat), .int .i64 lo, .int .i64 hi] 26)).alloc (.cells #[.int .i64 m, .slice xo xl xc] 29) = W at *
  obtain ⟨⟨g0, g1, g2, g3, g4, g5⟩, -⟩ := r0.cells
  obtain ⟨c10, c11, -, -⟩ := b1.cells
  go_upto_region 2 with (first
    | (go_at_call 26; refine (HST W hx0).mono ?_; rintro e w3 ⟨ao3, len3, cap3, f3, rfl, hr3, hs3, hb3⟩; have hout := hs3.hout; have harg : Arg w3 (.agg #[.int .i64 (hi' + 1 : Nat), .slice ao3 len3 cap3]) (hi' + 1) Q := SetAt.arg ⟨ao3, len3, cap3, f3, rfl, hr3, hs3⟩)
    | (go_at_call 25; refine (rlist_full harg).mono ?_; intro e w4 h4; obtain ⟨lo4, lc4, rfl, hrd4, hb4⟩ := RetInts.out h4; have hW4 := hb3.trans (hb4.mono hb3.size); have hB4 := hB0.trans (hW4.mono hB0.size)))
  have hcl := come_len Q (hi' + 1)
  rcases come_end Q (hi' + 1) with ⟨h1, h2⟩ | ⟨L, z, h1, h2, h3, h4⟩
  · have hM : IsM Q (hi' + 1) 0 false := ⟨fun h => (by cases h), fun _ => ⟨rfl, fun j => by
      rcases Nat.lt_or_ge j (hi' + 1) with h | h
      · exact h2 j h
      · exact hout j h⟩⟩
    rw [h1] at *
    have HMm := hidM hM
    clear hM h2 hout harg hr3 hs3 hrd4 h1
    go_wp2
    refine bodyPost_ret (v := .tuple #[.int .i64 ((0 : Nat) : Int), .bool false]) (by simp [results, Tryd.results6, go_sem]) rfl (HMm.out.ret hB4)
  · have hM : IsM Q (hi' + 1) z true := ⟨fun _ => ⟨h2, h3, fun j h5 => by
      rcases Nat.lt_or_ge j (hi' + 1) with h | h
      · exact h4 j h5 h
      · exact hout j h⟩, fun h => by cases h⟩
    have HMm := hidM hM
    obtain ⟨n, hn⟩ : ∃ n, (come Q (hi' + 1)).length = n + 1 := ⟨L.length, by rw [h1]; simp⟩
    have hLn : L.length = n := by rw [h1] at hn; simpa using hn
    obtain ⟨gb, go, rfl, hgb, hgc⟩ := hrd4 (by omega)
    have hz := hgc n (by omega)
    have hzv : (come Q (hi' + 1)).getD n 0 = z := by
      rw [h1, List.getD_eq_getElem?_getD, List.getElem?_append_right (by omega), hLn, Nat.sub_self]; rfl
    dsimp only at hz
    rw [hzv] at hz
    have hn8 : n ≤ 1000 := by omega
    clear hcl h1 hgc
    obtain ⟨N1, hN1⟩ : ∃ N1, n + 1 = N1 := ⟨_, rfl⟩
    rw [hN1] at hn
    rw [hn]
    have hn0 : ((N1 : Int) == 0) = false := by simp; omega
    have hwn : IntKind.i64.wrap ((N1 : Int) - 1) = n := by rw [wrapi64_in _ (by omega) (by omega)]; omega
    have hlt : (n : Int) < (N1 : Int) := by omega
    clear hn
    clear hM h2 h3 h4 hout harg hr3 hs3 hLn hzv hN1
    go_wp2
    refine bodyPost_ret (v := .tuple #[.int .i64 (z : Nat), .bool true]) (by simp [results, Tryd.results6, go_sem]) rfl (HMm.out.ret hB4)
set_option maxRecDepth 100000 in
set_option maxHeartbeats 4000000 in
/-- Accepts. -/
theorem accepts_any {a b c d a' b' c' d' lo' hi' : Nat} {lo hi : Int} {Q : Nat → Bool} {x : Value} (w : World) (hT : Tab w) (HS : ∀ w, Calls Tryd.prog 24 #[rgV a b c d lo hi] w fun e w' => e = .returned (rgV a' b' c' d' lo' hi') ∧ Below w.heap.size w w') (hhi : hi' ≤ 1000) (hx : Sta w x (hi' + 1) Q) :
    Calls Tryd.prog 18 #[rgV a b c d lo hi, x] w (RetAc w lo' Q) := by
  obtain ⟨m, xo, xl, xc, rfl⟩ := hx.shape
  have hB0 := below_two w (.cells #[.int .u64 (a : Nat), .int .u64 (b : Nat), .int .u64 (c : Nat), .int .u64 (d : Nat), .int .i64 lo, .int .i64 hi] 26) (.cells #[.int .i64 m, .slice xo xl xc] 29)
  have r0 := (RgAt.new w a b c d lo hi).below ((Below.refl _ _).alloc (Nat.le_refl _) (.cells #[.int .i64 m, .slice xo xl xc] 29))
  have b1 := Box.new1 w (.cells #[.int .u64 (a : Nat), .int .u64 (b : Nat), .int .u64 (c : Nat), .int .u64 (d : Nat), .int .i64 lo, .int .i64 hi] 26) (.int .i64 m) (.slice xo xl xc)
  have HS0 := HS ((w.alloc (.cells #[.int .u64 (a : Nat), .int .u64 (b : Nat), .int .u64 (c : Nat), .int .u64 (d : Nat), .int .i64 lo, .int .i64 hi] 26)).alloc (.cells #[.int .i64 m, .slice xo xl xc] 29))
  have HST : ∀ w, Sta w (.agg #[.int .i64 m, .slice xo xl xc]) (hi' + 1) Q → Calls Tryd.prog 23 #[.agg #[.int .u64 (a' : Nat), .int .u64 (b' : Nat), .int .u64 (c' : Nat), .int .u64 (d' : Nat), .int .i64 (lo' : Nat), .int .i64 (hi' : Nat)], .agg #[.int .i64 m, .slice xo xl xc]] w (RetSt w (hi' + 1) Q) := fun w h => state_any w hhi h
  clear HS
  unfold rgV at HS0 ⊢
  go_enter Tryd.func18, Tryd.ntmps18
  go_upto_region 2 with (go_at_call 24; refine HS0.mono ?_; rintro e w1 ⟨rfl, hb⟩; have hB1 := hB0.trans (hb.mono (by simp; omega)); have r1 := r0.below hb; have b1' := b1.below hb; clear hb HS0 r0 b1 hB0; obtain ⟨fc, f0, f1, f2, f3, f4, f5⟩ := r1.cells)
  have r2 := r1.put (a' := a') (b' := b') (c' := c') (d' := d') (lo' := lo') (hi' := hi')
  have b1w : Box (putR w1 w.heap.size a' b' c' d' lo' hi') (w.heap.size + 1) (.int .i64 m) (.slice xo xl xc) := Cl.putR (vs := [.int .i64 m, .slice xo xl xc]) b1' (by omega)
  have hB2 := below_putR (p := w.heap.size) (a := a') (b := b') (c := c') (d := d') (lo := lo') (hi := hi') hB1 (Nat.le_refl _)
  have hx2 := hx.below hB2
  have hT2 := hT.below hB2
  show Code.wp Tryd.prog _ _ _ (putR w1 w.heap.size a' b' c' d' lo' hi')
  generalize putR w1 w.heap.size a' b' c' d' lo' hi' = W at *
  clear fc r1 b1' hB1 f0 f1 f2 f3 f4 f5 hx
  obtain ⟨⟨g0, g1, g2, g3, g4, g5⟩, -⟩ := r2.cells
  obtain ⟨c10, c11, -, -⟩ := b1w.cells
  go_region_with (first
    | (go_at_call 23; refine (HST _ (hx2.below (Below.refl _ _).drew)).mono ?_; intro e w3 h3; obtain ⟨ao3, len3, cap3, rfl, harg, hb3⟩ := RetSt.arg h3; have hW3 : Below W.heap.size W w3 := (Below.refl _ _).drew.trans hb3; obtain ⟨⟨h0, h1, h2, h3, h4, h5⟩, -⟩ := (r2.below hW3).cells; have hT3 := hT2.below hW3)
    | (go_at_call 37; refine (first_any (lo' : Int) harg hT3).mono ?_; intro e w4 h4; obtain ⟨z4, v4, rfl, hv4, hb4⟩ := RetF.two h4; have hW4 := hW3.trans (hb4.mono hW3.size); have hB4 := hB2.trans (hW4.mono hB2.size)))
  all_goals go_wp2
  all_goals go_ret
  all_goals exact ⟨⟨v4, rfl, by rw [Int.toNat_natCast] at hv4; exact hv4⟩, hB4⟩
/-- The state behind k bytes. -/
def sQ (P : Nat → Bool) (hi : Nat) (t : Nat → Nat) (Q : Nat → Bool) : Nat → Nat → Bool
  | 0 => Q
  | k + 1 => fun i => P (t k) && decide (1 ≤ i) && sQ P hi t Q k (i - 1) && decide (i < hi + 1)
theorem sQ_rP {P : Nat → Bool} {hi : Nat} {t : Nat → Nat} {Q : Nat → Bool} (hQ : ∀ i, hi + 1 ≤ i → Q i = false) : ∀ k i, sQ P hi t Q k i = rP P t k (hi + 1) Q i
  | 0, i => by
    unfold sQ rP alF
    by_cases h : i < hi + 1
    · simp [h]
    · rw [hQ i (by omega)]; simp [h]
  | k + 1, i => by
    unfold sQ
    simp only [sQ_rP hQ k]
    unfold rP
    simp only [alF]
    by_cases h1 : 1 ≤ i
    · by_cases h2 : i < hi + 1
      · have e1 : decide (k ≤ i - 1) = decide (k + 1 ≤ i) := by rw [decide_eq_decide]; omega
        rw [e1, show i - 1 - k = i - (k + 1) by omega, decide_eq_true h1, decide_eq_true h2, decide_eq_true (show i - 1 < hi + 1 by omega)]
        cases alF P t k <;> cases P (t k) <;> simp
      · rw [decide_eq_false h2]; simp
    · rw [decide_eq_false h1, decide_eq_false (show ¬ k + 1 ≤ i by omega)]; simp
/-- The words of the state in the box lie from B on. -/
def Frs (W : World) (sb B : Nat) : Prop := ∃ x so sl sc, Box W sb x (.slice so sl sc) ∧ ∀ q, so = some q → B ≤ q.block
theorem Frs.get {W : World} {sb B : Nat} {y : Value} {ao : Option Addr} {l c : Nat} (h : Frs W sb B) (hb : Box W sb y (.slice ao l c)) : ∀ q, ao = some q → B ≤ q.block := by
  obtain ⟨x, so, sl, sc, h1, h2⟩ := h
  unfold Box at h1 hb
  rw [h1] at hb
  have : so = ao := by
    injection hb with hb
    injection hb with h3
    have h4 := congrArg (fun z : Array Value => z[1]?) h3
    simp at h4
    exact h4.1
  subst this
  exact h2
theorem Frs.put {W : World} {sb B : Nat} {x y u : Value} {ao : Option Addr} {l c : Nat} (h : Box W sb x y) (hq : ∀ q, ao = some q → B ≤ q.block) : Frs ((W.setCell ⟨sb, 0, none⟩ u).setCell ⟨sb, 1, none⟩ (.slice ao l c)) sb B := ⟨u, ao, l, c, h.set _ _, hq⟩
set_option maxRecDepth 100000 in
set_option maxHeartbeats 8000000 in
/-- The reference's Run. -/
theorem rrun_any {a b c d a' b' c' d' lo' hi' : Nat} {lo hi : Int} {P Q : Nat → Bool} {x : Value} (w : World) (ao : Option Addr) (n cap : Nat) (t : Nat → Nat) (HM : ∀ w, Calls Tryd.prog 29 #[rgV a b c d lo hi] w fun e w' => e = .returned (rgV a' b' c' d' lo' hi') ∧ Below w.heap.size w w') (hP : C4 P a' b' c' d') (hhi : hi' ≤ 1000)
    (hx : Sta w x (hi' + 1) Q) (ht : RdB w ao n t) (hn : (n : Int) ≤ 9223372036854775807) :
    Calls Tryd.prog 17 #[rgV a b c d lo hi, x, .slice ao n cap] w (RetSt w (hi' + 1) (sQ P hi' t Q n)) := by
  obtain ⟨m, xo, xl, xc, rfl⟩ := hx.shape
  have hB0 := below3 w (.cells #[.int .u64 (a : Nat), .int .u64 (b : Nat), .int .u64 (c : Nat), .int .u64 (d : Nat), .int .i64 lo, .int .i64 hi] 26) (.cells #[.int .i64 m, .slice xo xl xc] 29) (.cells #[.int .i64 0, .slice none 0 0] 29)
  have r0 := RgAt.new3 w a b c d lo hi (.cells #[.int .i64 m, .slice xo xl xc] 29) (.cells #[.int .i64 0, .slice none 0 0] 29)
  have b1 := (Box.new1 w (.cells #[.int .u64 (a : Nat), .int .u64 (b : Nat), .int .u64 (c : Nat), .int .u64 (d : Nat), .int .i64 lo, .int .i64 hi] 26) (.int .i64 m) (.slice xo xl xc)).alloc (.cells #[.int .i64 0, .slice none 0 0] 29)
  have b2 := Box.new2' w (.cells #[.int .u64 (a : Nat), .int .u64 (b : Nat), .int .u64 (c : Nat), .int .u64 (d : Nat), .int .i64 lo, .int .i64 hi] 26) (.cells #[.int .i64 m, .slice xo xl xc] 29) (.int .i64 0) (.slice none 0 0)
  have hx0 := hx.below hB0
  obtain ⟨N, hN⟩ : ∃ N, hi' + 1 = N := ⟨_, rfl⟩
  have HST : ∀ w, Sta w (.agg #[.int .i64 m, .slice xo xl xc]) N Q → Calls Tryd.prog 26 #[.agg #[.int .u64 (a : Nat), .int .u64 (b : Nat), .int .u64 (c : Nat), .int .u64 (d : Nat), .int .i64 lo, .int .i64 hi], .agg #[.int .i64 m, .slice xo xl xc]] w (RetSt w N Q) := fun w h => by rw [← hN] at h ⊢; exact rstate_any w HM hhi h
  have HNx : Hid (∀ (W : World) (x : Value) (Q : Nat → Bool) (y : Nat), y < 256 → Sta W x N Q → Calls Tryd.prog 15 #[.agg #[.int .u64 (a : Nat), .int .u64 (b : Nat), .int .u64 (c : Nat), .int .u64 (d : Nat), .int .i64 lo, .int .i64 hi], x, .int .u8 (y : Nat)] W (RetFr W N fun i => P y && decide (1 ≤ i) && Q (i - 1) && decide (i < hi' + 1))) := fun W x Q y hy hx => by rw [← hN] at hx ⊢; exact rnext_any W y hy HM hP hhi hx
  have HB := hidM ht
  rw [hN] at hx0 ⊢
  clear HM hx hN ht
  unfold rgV
  go_enter Tryd.func17, Tryd.ntmps17
  go_upto_region 1 with fail
  generalize ((w.alloc (.cells #[.int .u64 (a : Nat), .int .u64 (b : Nat), .int .u64 (c : Nat), .int .u64 (d : Nat), .int .i64 lo, .int .i64 hi] 26)).alloc (.cells #[.int .i64 m, .slice xo xl xc] 29)).alloc (.cells #[.int .i64 0, .slice none 0 0] 29) = W at *
  obtain ⟨⟨g0, g1, g2, g3, g4, g5⟩, -⟩ := r0.cells
  obtain ⟨c10, c11, -, -⟩ := b1.cells
  go_upto_region 2 with (first
    | (go_at_call 26; refine (HST W hx0).mono ?_; intro e w3 h3; obtain ⟨ao3, len3, cap3, rfl, harg, hb3⟩ := RetSt.arg h3)
    | (go_at_call 36; refine (rcopy_any harg).mono ?_; intro e w4 h4; obtain ⟨no, nl, nc, nf, rfl, hr4, hq4, hs4, hb4⟩ := RetL.fr h4; have hW4 := hb3.trans (hb4.mono hb3.size); have hz3 := hb3.size; have b14 := b1.below hW4; have b24 := b2.below hW4; obtain ⟨c20, c21, f20, f21⟩ := b14.cells))
  have hz0 := b2.lt
  have hk2 : ∀ (W : World) (j : Nat) (v : Value) (k : Nat), k ≠ w.heap.size + 1 → (W.setCell ⟨w.heap.size + 1, j, none⟩ v).heap[k]? = W.heap[k]? := fun W j v k hk => Below.heap_setCell _ _ _ _ hk
  have hI : RqI w a b c d lo hi N [] (.slice none 0 0) (w.heap.size + 1) Q ((w4.setCell ⟨w.heap.size + 1, 0, none⟩ (.int .i64 (N : Nat))).setCell ⟨w.heap.size + 1, 1, none⟩ (.slice no nl nc)) := by
    refine ⟨?_, ⟨no, nl, nc, nf, b14.set _ _, hr4.set2 (fun q e _ => by have := hq4 q e; omega) _ _, hs4, fun q e _ => ⟨by have := hq4 q e; omega, by simp [Value.ownBlock]⟩⟩, World.ownsRow_nil _ _ _ _, Nat.le_refl _, ((hB0.trans (hW4.mono hB0.size)).setCell (p := ⟨w.heap.size + 1, 0, none⟩) (by simp) _).setCell (p := ⟨w.heap.size + 1, 1, none⟩) (by simp) _⟩
    have := r0.below hW4
    unfold RgAt Cl at this ⊢
    rw [hk2 _ _ _ _ (by omega), hk2 _ _ _ _ (by omega)]
    exact this
  have hX : Box ((w4.setCell ⟨w.heap.size + 1, 0, none⟩ (.int .i64 (N : Nat))).setCell ⟨w.heap.size + 1, 1, none⟩ (.slice no nl nc)) (w.heap.size + 1 + 1) (.int .i64 0) (.slice none 0 0) := by
    unfold Box at b24 ⊢
    rw [hk2 _ _ _ _ (by omega), hk2 _ _ _ _ (by omega)]
    exact b24
  have hF : Frs ((w4.setCell ⟨w.heap.size + 1, 0, none⟩ (.int .i64 (N : Nat))).setCell ⟨w.heap.size + 1, 1, none⟩ (.slice no nl nc)) (w.heap.size + 1) (w.heap.size + 3) := Frs.put b14 (fun q e => by have := hq4 q e; omega)
  generalize (w4.setCell ⟨w.heap.size + 1, 0, none⟩ (.int .i64 (N : Nat))).setCell ⟨w.heap.size + 1, 1, none⟩ (.slice no nl nc) = W5 at *
  clear r0 b1 b2 hx0 g0 g1 g2 g3 g4 g5 c10 c11 harg hb3 hr4 hq4 hs4 hb4 hW4 hz3 b14 b24 c20 c21 f20 f21 hB0 HST hk2 hz0
  go_wp2_with fail
  go_loopw [7] (fun i wr => ∃ k : Nat, k ≤ n ∧ i = .int .i64 k ∧ RqI w a b c d lo hi N [] (.slice none 0 0) (w.heap.size + 1) (sQ P hi' t Q k) wr ∧ Box wr (w.heap.size + 1 + 1) (.int .i64 0) (.slice none 0 0) ∧ Frs wr (w.heap.size + 1) (w.heap.size + 3)) (fun i _ => n - (intOf i).toNat)
  case atStart => exact ⟨0, Nat.zero_le _, rfl, hI, hX, hF⟩
  case round =>
    clear hI hX hF
    obtain ⟨k, hk, rfl, hR, hX, hF⟩ := hrel
    by_cases hlt : k < n
    · obtain ⟨bb, off, hao, hbl, hct⟩ := (HB.out.below hR.bel).at_ (by omega)
      have t1 := hct k hlt
      have hxs := HB.out.small k hlt
      subst hao
      have hki : (k : Int) < (n : Int) := by omega
      have hk0 : (0 : Int) ≤ (k : Int) := by omega
      clear hct
      have HQ1 : Hid (sQ P hi' t Q (k + 1) = fun i => P (t k) && decide (1 ≤ i) && sQ P hi' t Q k (i - 1) && decide (i < hi' + 1)) := rfl
      obtain ⟨so, sl, sc, sf, s1, s2, s3, s4⟩ := hR.st
      have HX : ∀ W, Below wr.heap.size wr W → Calls Tryd.prog 15 #[.agg #[.int .u64 (a : Nat), .int .u64 (b : Nat), .int .u64 (c : Nat), .int .u64 (d : Nat), .int .i64 lo, .int .i64 hi], .agg #[.int .i64 (N : Nat), .slice so sl sc], .int .u8 (t k : Nat)] W (RetFr W N fun i => P (t k) && decide (1 ≤ i) && sQ P hi' t Q k (i - 1) && decide (i < hi' + 1)) := fun W hW =>
        HNx.out W _ _ (t k) hxs ⟨N, so, sl, sc, sf, rfl, s2.below hW, .inl ⟨rfl, s3⟩⟩
      obtain ⟨c0, c1, f0, f1⟩ := s1.cells
      obtain ⟨⟨g0, g1, g2, g3, g4, g5⟩, -⟩ := hR.rg.cells
      generalize t k = y at *
      have HR := hidM hR
      have HS1 := hidM s1
      have HX2 := hidM hX
      have HXl := hidM hX.lt
      clear hR s1 s2 s3 s4 hX hF
      go_wp2_with fail
      go_region_with (first | (go_at_call 15; refine (HX _ (Below.refl _ _).drew).mono ?_; rintro e w2 ⟨no, nl, nc, nf, rfl, hr2, hq2, hs2, hb2⟩; have hW2 : Below wr.heap.size wr w2 := (Below.refl _ _).drew.trans hb2; obtain ⟨c20, c21, f20, f21⟩ := (HS1.out.below hW2).cells))
      all_goals
        have HNX : Hid (RqI w a b c d lo hi N [] (.slice none 0 0) (w.heap.size + 1) (sQ P hi' t Q (k + 1)) ((w2.setCell ⟨w.heap.size + 1, 0, none⟩ (.int .i64 (N : Nat))).setCell ⟨w.heap.size + 1, 1, none⟩ (.slice no nl nc)) ∧ Box ((w2.setCell ⟨w.heap.size + 1, 0, none⟩ (.int .i64 (N : Nat))).setCell ⟨w.heap.size + 1, 1, none⟩ (.slice no nl nc)) (w.heap.size + 1 + 1) (.int .i64 0) (.slice none 0 0) ∧ Frs ((w2.setCell ⟨w.heap.size + 1, 0, none⟩ (.int .i64 (N : Nat))).setCell ⟨w.heap.size + 1, 1, none⟩ (.slice no nl nc)) (w.heap.size + 1) (w.heap.size + 3)) := by
          refine ⟨?_, ?_, Frs.put (HS1.out.below hW2) (fun q e => by have h1 : wr.heap.size ≤ q.block := hq2 q e; have := HXl.out; omega)⟩
          · rw [HQ1.out]
            exact HR.out.put hW2 hr2 hq2 hs2
          · have h := HX2.out.below hW2
            unfold Box at h ⊢
            rw [Below.heap_setCell _ _ _ _ (show w.heap.size + 1 + 1 ≠ w.heap.size + 1 by omega), Below.heap_setCell _ _ _ _ (show w.heap.size + 1 + 1 ≠ w.heap.size + 1 by omega)]
            exact h
      all_goals go_wp2_with fail
      all_goals go_roundw
      all_goals first
        | exact ⟨k + 1, by omega, by go_num, HNX.out⟩
        | (simp [intOf]; omega)
    · obtain rfl : k = n := by omega
      have hki : ¬ (k : Int) < (k : Int) := by omega
      obtain ⟨so, sl, sc, sf, s1, s2, s3, s4⟩ := hR.st
      obtain ⟨c0, c1, f0, f1⟩ := s1.cells
      obtain ⟨x0, x1, y0, y1⟩ := hX.cells
      have hlo := s2.lo
      have hbl := hR.bel
      have hltX := hX.lt
      have HS3 := hidM s3
      have hb4 := hX.set (.int .i64 (N : Nat)) (.slice so sl sc)
      obtain ⟨k0, k1, -, -⟩ := hb4.cells
      clear hR s3 s4 HB HNx
      go_wp2
      refine bodyPost_ret (v := .agg #[.int .i64 (N : Nat), .slice so sl sc]) (by simp [results, Tryd.results17, go_sem, k0, k1]) rfl ⟨_, _, _, sf, rfl, s2.set2 (fun q e h0 => ?_) _ _, HS3.out, ?_⟩
      · have := hF.get s1 q e
        omega
      · exact (hbl.setCell (p := ⟨w.heap.size + 1 + 1, 0, none⟩) (by simp; omega) _).setCell (p := ⟨w.heap.size + 1 + 1, 1, none⟩) (by simp; omega) _
end Go.Proofs.YtehlmjjdegmnaaaDoor
