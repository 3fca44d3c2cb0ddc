/- Trigger, Step, Ready, of the program and of the reference: the walks. -/
import Derived.Test.YtobgmgpclcfkcaaKd
namespace Go.Proofs.Ytobgmgpclcfkcaa
open Go.RowKit Go.Shelf
theorem clS_ge (lo g : Int) : -1 ≤ clS lo g := by
  unfold clS okS
  split
  · rename_i h
    simp only [Bool.and_eq_true, decide_eq_true_eq] at h
    exact h.1
  · decide
theorem clS_le {lo : Int} (g : Int) (h : 0 ≤ lo) : clS lo g ≤ lo := by
  unfold clS okS
  split
  · rename_i h
    simp only [Bool.and_eq_true, decide_eq_true_eq] at h
    exact h.2
  · omega
theorem clS_self {lo g : Int} (h : -1 ≤ g) (h2 : g ≤ lo) : clS lo g = g := by
  unfold clS okS
  rw [decide_eq_true h, decide_eq_true h2]
  rfl
/-- What sound (or may) makes of a tide. -/
def Eff (f : Nat) (a b c d : Nat) (lo : Int) (a' b' c' d' : Nat) (lo' : Nat) : Prop := ∀ g w, Calls Try.prog f #[tdV a b c d lo, stV g] w fun e w' => e = .returned (.tuple #[tdV a' b' c' d' lo', stV (clS lo' g)]) ∧ Below w.heap.size w w'
theorem okT_lo {a b c d : Nat} {lo : Int} (h : okT a b c d lo = true) : 0 ≤ lo ∧ lo ≤ 1000 := by
  unfold okT at h
  simp only [Bool.and_eq_true, decide_eq_true_eq] at h
  exact ⟨h.1.2, h.2⟩
/-- Any tide is taken as one that may be. -/
theorem eff_of {a b c d : Nat} (lo : Int) {P : Nat → Bool} (hP : C4 P a b c d) : ∃ (a' b' c' d' lo' : Nat) (P' : Nat → Bool), lo' ≤ 1000 ∧ okT a' b' c' d' lo' = true ∧ C4 P' a' b' c' d' ∧ Eff 34 a b c d lo a' b' c' d' lo' ∧ Eff 35 a b c d lo a' b' c' d' lo' ∧ Eff 34 a' b' c' d' lo' a' b' c' d' lo' ∧ Eff 35 a' b' c' d' lo' a' b' c' d' lo' ∧ (okT a b c d lo = true → a' = a ∧ b' = b ∧ c' = c ∧ d' = d ∧ (lo' : Int) = lo) := by
  cases h : okT a b c d lo with
  | true =>
    obtain ⟨h1, h2⟩ := okT_lo h
    obtain ⟨l, rfl⟩ := Int.eq_ofNat_of_zero_le h1
    exact ⟨a, b, c, d, l, P, by omega, h, hP, fun g w => sound_yes g w h, fun g w => may_yes g w h, fun g w => sound_yes g w h, fun g w => may_yes g w h, fun _ => ⟨rfl, rfl, rfl, rfl, rfl⟩⟩
  | false =>
    have hF : okT 18446744073709551615 18446744073709551615 18446744073709551615 18446744073709551615 ((0 : Nat) : Int) = true := by decide
    exact ⟨18446744073709551615, 18446744073709551615, 18446744073709551615, 18446744073709551615, 0, fun _ => true, by decide, hF, c4_all, fun g w => sound_no g w h hF full_t, fun g w => may_no g w h hF rfull_t, fun g w => sound_yes g w hF, fun g w => may_yes g w hF, fun h => by cases h⟩
@[reducible] def w3 (w : World) (a b c d : Nat) (lo g : Int) : World := (((w.alloc (tdO a b c d lo)).alloc (stO g)).alloc (stO 0))
/-- The three boxes. -/
structure B3 (w : World) (a b c d : Nat) (lo g : Int) (W : World) : Prop where
  t : TdAt W w.heap.size a b c d lo
  s : StAt W (w.heap.size + 1) g
  v : StAt W (w.heap.size + 1 + 1) 0
  bel : Below w.heap.size w W
theorem B3.start (w : World) (a b c d : Nat) (lo g : Int) : B3 w a b c d lo g (w3 w a b c d lo g) := by
  have h0 := TdAt.new w a b c d lo
  have h1 := StAt.new (w.alloc (tdO a b c d lo)) g
  have h3 := StAt.new ((w.alloc (tdO a b c d lo)).alloc (stO g)) 0
  simp only [World.size_alloc] at h1 h3
  refine ⟨(h0.alloc _).alloc _, h1.alloc _, h3, ?_⟩
  exact (((Below.refl _ _).alloc (Nat.le_refl _) _).alloc (by simp) _).alloc (by simp; omega) _
theorem B3.next {w : World} {a b c d : Nat} {lo g : Int} {W W' : World} (h : B3 w a b c d lo g W) (hb : Below W.heap.size W W') : B3 w a b c d lo g W' :=
  ⟨h.t.below hb, h.s.below hb, h.v.below hb, h.bel.trans (hb.mono h.bel.size)⟩
theorem B3.putT {w : World} {a b c d : Nat} {lo g : Int} {W : World} (h : B3 w a b c d lo g W) (a' b' c' d' : Nat) (lo' : Int) : B3 w a' b' c' d' lo' g (putT W w.heap.size a' b' c' d' lo') :=
  ⟨h.t.put, h.s.putT (by omega), h.v.putT (by omega), below_putT h.bel (Nat.le_refl _)⟩
theorem B3.setS {w : World} {a b c d : Nat} {lo g : Int} {W : World} (h : B3 w a b c d lo g W) (g' : Int) : B3 w a b c d lo g' (W.setCell ⟨w.heap.size + 1, 0, none⟩ (.int .i64 g')) :=
  ⟨h.t.other (by omega) _ _, h.s.set g', h.v.other (by omega) _ _, h.bel.setCell (by simp) _⟩
/-- Behind the answer's store. -/
theorem B3.fin {w : World} {a b c d : Nat} {lo g : Int} {W : World} (h : B3 w a b c d lo g W) (x : Int) : (W.setCell ⟨w.heap.size + 1 + 1, 0, none⟩ (.int .i64 x)).cell? ⟨w.heap.size + 1 + 1, 0, none⟩ = some (.int .i64 x) ∧ Below w.heap.size w (W.setCell ⟨w.heap.size + 1 + 1, 0, none⟩ (.int .i64 x)) :=
  ⟨(h.v.set x).cells.1, h.bel.setCell (by simp; omega) _⟩
/-- The age behind a trigger. -/
def trg (g : Int) : Int := if g = -1 then 0 else g
@[reducible] def w2 (w : World) (a b c d : Nat) (lo g : Int) : World := ((w.alloc (tdO a b c d lo)).alloc (stO g))
/-- The two boxes. -/
structure B2 (w : World) (a b c d : Nat) (lo g : Int) (W : World) : Prop where
  t : TdAt W w.heap.size a b c d lo
  s : StAt W (w.heap.size + 1) g
  bel : Below w.heap.size w W
theorem B2.start (w : World) (a b c d : Nat) (lo g : Int) : B2 w a b c d lo g (w2 w a b c d lo g) := by
  have h0 := TdAt.new w a b c d lo
  have h1 := StAt.new (w.alloc (tdO a b c d lo)) g
  simp only [World.size_alloc] at h1
  exact ⟨h0.alloc _, h1, ((Below.refl _ _).alloc (Nat.le_refl _) _).alloc (by simp) _⟩
theorem B2.next {w : World} {a b c d : Nat} {lo g : Int} {W W' : World} (h : B2 w a b c d lo g W) (hb : Below W.heap.size W W') : B2 w a b c d lo g W' :=
  ⟨h.t.below hb, h.s.below hb, h.bel.trans (hb.mono h.bel.size)⟩
theorem B2.putT {w : World} {a b c d : Nat} {lo g : Int} {W : World} (h : B2 w a b c d lo g W) (a' b' c' d' : Nat) (lo' : Int) : B2 w a' b' c' d' lo' g (putT W w.heap.size a' b' c' d' lo') :=
  ⟨h.t.put, h.s.putT (by omega), below_putT h.bel (Nat.le_refl _)⟩
theorem B2.setS {w : World} {a b c d : Nat} {lo g : Int} {W : World} (h : B2 w a b c d lo g W) (g' : Int) : B2 w a b c d lo g' (W.setCell ⟨w.heap.size + 1, 0, none⟩ (.int .i64 g')) :=
  ⟨h.t.other (by omega) _ _, h.s.set g', h.bel.setCell (by simp) _⟩
theorem wrapi64_in (n : Int) (h : -9223372036854775808 ≤ n) (h' : n ≤ 9223372036854775807) : IntKind.i64.wrap n = n := by
  unfold IntKind.wrap IntKind.bits IntKind.signed
  simp
  omega
/-- The age behind a byte. -/
def stp (P : Nat → Bool) (lo : Nat) (g : Int) (x : Nat) : Int := if g = -1 then -1 else if P x = true then (if (lo : Int) < g + 1 then lo else g + 1) else -1
set_option maxRecDepth 100000 in
set_option maxHeartbeats 4000000 in
theorem trigger_t {a b c d a' b' c' d' lo' : Nat} {lo : Int} (g : Int) (w : World) (HS : Eff 34 a b c d lo a' b' c' d' lo') : Calls Try.prog 15 #[tdV a b c d lo, stV g] w fun e w' => e = .returned (stV (trg (clS lo' g))) ∧ Below w.heap.size w w' := by
  have hT := B3.start w a b c d lo g
  have HC := HS g (w3 w a b c d lo g)
  generalize clS lo' g = G at *
  have e1 := neq28 G (-1)
  unfold trg
  unfold w3 tdO stO at hT HC
  unfold tdV at *
  by_cases hg : G = -1
  · have hb : (!(G == -1)) = false := by simp [hg]
    rw [hb] at e1
    rw [if_pos hg]
    clear hg hb
    go_enter Try.func15, Try.ntmps15
    go_wp2_with (go_at_call 34; refine HC.mono ?_; rintro e w1 ⟨rfl, hb1⟩; replace hT := hT.next hb1; clear hb1 HC; obtain ⟨c0, c1⟩ := hT.s.cells)
    replace hT := hT.setS G
    clear c0 c1
    generalize w1.setCell ⟨w.heap.size + 1, 0, none⟩ (.int .i64 G) = w2 at *
    obtain ⟨c0, c1⟩ := hT.s.cells
    have HT := Hid.mk' hT
    clear hT
    go_region_with (go_at_call 14; refine (new_t _).mono ?_; rintro e w4 ⟨rfl, hb4⟩; have hT4 := HT.out.next ((Below.refl _ _).drew.trans hb4); clear hb4 c0 c1; obtain ⟨c0, c1⟩ := hT4.s.cells; obtain ⟨v0, v1⟩ := hT4.v.cells)
    all_goals
      have HF := hT4.fin 0
      have HT4 := Hid.mk' HF
      clear hT4 HF
      go_wp2
      exact bodyPost_ret (by simp [results, Try.results15, go_sem, HT4.out.1]) rfl ⟨rfl, HT4.out.2⟩
  · have hb : (!(G == -1)) = true := by simp [hg]
    rw [hb] at e1
    rw [if_neg hg]
    clear hg hb
    go_enter Try.func15, Try.ntmps15
    go_wp2_with (go_at_call 34; refine HC.mono ?_; rintro e w1 ⟨rfl, hb1⟩; replace hT := hT.next hb1; clear hb1 HC; obtain ⟨c0, c1⟩ := hT.s.cells)
    replace hT := hT.setS G
    clear c0 c1
    generalize w1.setCell ⟨w.heap.size + 1, 0, none⟩ (.int .i64 G) = w2 at *
    obtain ⟨c0, c1⟩ := hT.s.cells
    have HT := Hid.mk' hT
    clear hT
    go_region_with (go_at_call 14; refine (new_t _).mono ?_; rintro e w4 ⟨rfl, hb4⟩; have hT4 := HT.out.next ((Below.refl _ _).drew.trans hb4); clear hb4 c0 c1; obtain ⟨c0, c1⟩ := hT4.s.cells; obtain ⟨v0, v1⟩ := hT4.v.cells)
    all_goals
      have HF := hT4.fin G
      have HT4 := Hid.mk' HF
      clear hT4 HF
      go_wp2
      exact bodyPost_ret (by simp [results, Try.results15, go_sem, HT4.out.1]) rfl ⟨rfl, HT4.out.2⟩
set_option maxRecDepth 100000 in
set_option maxHeartbeats 4000000 in
theorem rtrigger_t {a b c d a' b' c' d' lo' : Nat} {lo : Int} (g : Int) (w : World) (HS : Eff 35 a b c d lo a' b' c' d' lo') : Calls Try.prog 16 #[tdV a b c d lo, stV g] w fun e w' => e = .returned (stV (trg (clS lo' g))) ∧ Below w.heap.size w w' := by
  have hge := clS_ge lo' g
  have hT := B3.start w a b c d lo g
  have HC := HS g (w3 w a b c d lo g)
  generalize clS lo' g = G at *
  obtain ⟨T, hTT⟩ : ∃ T, trg G = T := ⟨_, rfl⟩
  rw [hTT]
  have hmax : ∀ w, (Builtin.max_ #[3, 3] 3 #[.int .i64 G, .int .i64 0]).run Try.prog w = .ok (.int .i64 T) w := by
    intro w
    rw [run_max_int2, ← hTT]
    unfold trg
    congr 2
    split <;> split <;> omega
  clear hTT hge
  unfold w3 tdO stO at hT HC
  unfold tdV at *
  go_enter Try.func16, Try.ntmps16
  go_wp2_with (go_at_call 35; refine HC.mono ?_; rintro e w1 ⟨rfl, hb1⟩; replace hT := hT.next hb1; clear hb1 HC; obtain ⟨c0, c1⟩ := hT.s.cells; replace hT := hT.setS G; obtain ⟨d0, d1⟩ := hT.s.cells; replace hT := hT.setS T; obtain ⟨e0, e1⟩ := hT.s.cells; obtain ⟨v0, v1⟩ := hT.v.cells)
  have HF := hT.fin T
  exact bodyPost_ret (by simp [results, Try.results16, go_sem, HF.1]) rfl ⟨rfl, HF.2⟩
set_option maxRecDepth 100000 in
set_option maxHeartbeats 4000000 in
theorem step_t {a b c d a' b' c' d' lo' : Nat} {lo : Int} {P : Nat → Bool} (g : Int) (x : Nat) (w : World) (HS : Eff 34 a b c d lo a' b' c' d' lo') (hP : C4 P a' b' c' d') (hlo : lo' ≤ 1000) (hx : x < 256) : Calls Try.prog 17 #[tdV a b c d lo, stV g, .int .u8 (x : Nat)] w fun e w' => e = .returned (stV (stp P lo' (clS lo' g) x)) ∧ Below w.heap.size w w' := by
  have hge := clS_ge lo' g
  have hle := clS_le (lo := lo') g (by omega)
  have hT := B3.start w a b c d lo g
  have HC := HS g (w3 w a b c d lo g)
  generalize clS lo' g = G at *
  have e1 := eql28 G (-1)
  have HH := fun W => has_c hP x W hx
  have hwr : IntKind.i64.wrap (G + 1) = G + 1 := wrapi64_in _ (by omega) (by omega)
  clear hle hlo hP hx
  unfold stp
  unfold w3 tdO stO at hT HC
  unfold tdV at *
  by_cases hg : G = -1
  · rw [if_pos hg]
    have hb : (G == -1) = true := by simp [hg]
    rw [hb] at e1
    clear hg hb

    go_enter Try.func17, Try.ntmps17
    go_wp2_with (go_at_call 34; refine HC.mono ?_; rintro e w1 ⟨rfl, hb1⟩; replace hT := hT.next hb1; clear hb1 HC; obtain ⟨c0, c1⟩ := hT.s.cells; obtain ⟨⟨g0, g1, g2, g3, g4⟩, f0, f1, f2, f3, f4⟩ := hT.t.cells; replace hT := hT.putT a' b' c' d' lo'; obtain ⟨p0, p1⟩ := hT.s.cells; replace hT := hT.setS G; unfold putT at p0 p1 hT)
    clear c0 c1 g0 g1 g2 g3 g4 f0 f1 f2 f3 f4 p0 p1
    change Code.wp Try.prog _ _ _ ((putT w1 w.heap.size a' b' c' d' lo').setCell ⟨w.heap.size + 1, 0, none⟩ (.int .i64 G))
    change B3 w a' b' c' d' lo' G ((putT w1 w.heap.size a' b' c' d' lo').setCell ⟨w.heap.size + 1, 0, none⟩ (.int .i64 G)) at hT
    generalize (putT w1 w.heap.size a' b' c' d' lo').setCell ⟨w.heap.size + 1, 0, none⟩ (.int .i64 G) = w2 at *
    obtain ⟨c0, c1⟩ := hT.s.cells
    obtain ⟨⟨g0, g1, g2, g3, g4⟩, -⟩ := hT.t.cells
    have HT := Hid.mk' hT
    clear hT
    replace c0 := Near.cell c0 HT.out.s.lt
    replace g0 := Near.cell g0 HT.out.t.lt
    replace g1 := Near.cell g1 HT.out.t.lt
    replace g2 := Near.cell g2 HT.out.t.lt
    replace g3 := Near.cell g3 HT.out.t.lt
    replace g4 := Near.cell g4 HT.out.t.lt
    refine wp_region_quiet_tail 9 (fun w' => ∃ u : World, w' = near w2 u) (by kernel_rfl) (by kernel_rfl) (Near.start _) ?_
    simp only [List.take_succ_cons, List.take_zero, List.drop_succ_cons, List.drop_zero]
    repeat (go_big_quiet_step ((first | (go_at_call 14; exact Near.call (new_t _)) | (go_at_call 36; exact Near.call (HH _)))))
    refine wpQuiet_nil ?_
    rintro _ ⟨u, rfl⟩
    have hT4 := HT.out.next (near_below _ u)
    generalize near w2 u = w4 at *
    clear c0 g0 g1 g2 g3 g4
    obtain ⟨c0, c1⟩ := hT4.s.cells
    obtain ⟨v0, v1⟩ := hT4.v.cells
    obtain ⟨⟨g0, g1, g2, g3, g4⟩, -⟩ := hT4.t.cells
    all_goals
      have HT4 := Hid.mk' hT4
      clear hT4
      clear c0 c1 v0 v1 g0 g1 g2 g3 g4
      go_wp2_with (go_at_call 14; refine (new_t _).mono ?_; rintro e w6 ⟨rfl, hb6⟩; have hT6 := HT4.out.next hb6; clear hb6; obtain ⟨v0, v1⟩ := hT6.v.cells)
      have HF := hT6.fin (-1)
      exact bodyPost_ret (by simp [results, Try.results17, go_sem, HF.1]) rfl ⟨rfl, HF.2⟩
  · rw [if_neg hg]
    have hb : (G == -1) = false := by simp [hg]
    rw [hb] at e1
    clear hg hb
    cases hp : P x with
    | false =>
      simp only [hp] at HH
      rw [if_neg (by decide)]
      clear hp
      go_enter Try.func17, Try.ntmps17
      go_wp2_with (go_at_call 34; refine HC.mono ?_; rintro e w1 ⟨rfl, hb1⟩; replace hT := hT.next hb1; clear hb1 HC; obtain ⟨c0, c1⟩ := hT.s.cells; obtain ⟨⟨g0, g1, g2, g3, g4⟩, f0, f1, f2, f3, f4⟩ := hT.t.cells; replace hT := hT.putT a' b' c' d' lo'; obtain ⟨p0, p1⟩ := hT.s.cells; replace hT := hT.setS G; unfold putT at p0 p1 hT)
      clear c0 c1 g0 g1 g2 g3 g4 f0 f1 f2 f3 f4 p0 p1
      change Code.wp Try.prog _ _ _ ((putT w1 w.heap.size a' b' c' d' lo').setCell ⟨w.heap.size + 1, 0, none⟩ (.int .i64 G))
      change B3 w a' b' c' d' lo' G ((putT w1 w.heap.size a' b' c' d' lo').setCell ⟨w.heap.size + 1, 0, none⟩ (.int .i64 G)) at hT
      generalize (putT w1 w.heap.size a' b' c' d' lo').setCell ⟨w.heap.size + 1, 0, none⟩ (.int .i64 G) = w2 at *
      obtain ⟨c0, c1⟩ := hT.s.cells
      obtain ⟨⟨g0, g1, g2, g3, g4⟩, -⟩ := hT.t.cells
      have HT := Hid.mk' hT
      clear hT
      replace c0 := Near.cell c0 HT.out.s.lt
      replace g0 := Near.cell g0 HT.out.t.lt
      replace g1 := Near.cell g1 HT.out.t.lt
      replace g2 := Near.cell g2 HT.out.t.lt
      replace g3 := Near.cell g3 HT.out.t.lt
      replace g4 := Near.cell g4 HT.out.t.lt
      refine wp_region_quiet_tail 9 (fun w' => ∃ u : World, w' = near w2 u) (by kernel_rfl) (by kernel_rfl) (Near.start _) ?_
      simp only [List.take_succ_cons, List.take_zero, List.drop_succ_cons, List.drop_zero]
      repeat (go_big_quiet_step ((first | (go_at_call 14; exact Near.call (new_t _)) | (go_at_call 36; exact Near.call (HH _)))))
      refine wpQuiet_nil ?_
      rintro _ ⟨u, rfl⟩
      have hT4 := HT.out.next (near_below _ u)
      generalize near w2 u = w4 at *
      clear c0 g0 g1 g2 g3 g4
      obtain ⟨c0, c1⟩ := hT4.s.cells
      obtain ⟨v0, v1⟩ := hT4.v.cells
      obtain ⟨⟨g0, g1, g2, g3, g4⟩, -⟩ := hT4.t.cells
      all_goals
        have HT4 := Hid.mk' hT4
        clear hT4
        clear c0 c1 v0 v1 g0 g1 g2 g3 g4
        go_wp2_with (go_at_call 14; refine (new_t _).mono ?_; rintro e w6 ⟨rfl, hb6⟩; have hT6 := HT4.out.next hb6; clear hb6; obtain ⟨v0, v1⟩ := hT6.v.cells)
        have HF := hT6.fin (-1)
        exact bodyPost_ret (by simp [results, Try.results17, go_sem, HF.1]) rfl ⟨rfl, HF.2⟩
    | true =>
      simp only [hp] at HH
      rw [if_pos rfl]
      clear hp
      by_cases hm : (lo' : Int) < G + 1
      · rw [if_pos hm]
        go_enter Try.func17, Try.ntmps17
        go_wp2_with (go_at_call 34; refine HC.mono ?_; rintro e w1 ⟨rfl, hb1⟩; replace hT := hT.next hb1; clear hb1 HC; obtain ⟨c0, c1⟩ := hT.s.cells; obtain ⟨⟨g0, g1, g2, g3, g4⟩, f0, f1, f2, f3, f4⟩ := hT.t.cells; replace hT := hT.putT a' b' c' d' lo'; obtain ⟨p0, p1⟩ := hT.s.cells; replace hT := hT.setS G; unfold putT at p0 p1 hT)
        clear c0 c1 g0 g1 g2 g3 g4 f0 f1 f2 f3 f4 p0 p1
        change Code.wp Try.prog _ _ _ ((putT w1 w.heap.size a' b' c' d' lo').setCell ⟨w.heap.size + 1, 0, none⟩ (.int .i64 G))
        change B3 w a' b' c' d' lo' G ((putT w1 w.heap.size a' b' c' d' lo').setCell ⟨w.heap.size + 1, 0, none⟩ (.int .i64 G)) at hT
        generalize (putT w1 w.heap.size a' b' c' d' lo').setCell ⟨w.heap.size + 1, 0, none⟩ (.int .i64 G) = w2 at *
        obtain ⟨c0, c1⟩ := hT.s.cells
        obtain ⟨⟨g0, g1, g2, g3, g4⟩, -⟩ := hT.t.cells
        have HT := Hid.mk' hT
        clear hT
        replace c0 := Near.cell c0 HT.out.s.lt
        replace g0 := Near.cell g0 HT.out.t.lt
        replace g1 := Near.cell g1 HT.out.t.lt
        replace g2 := Near.cell g2 HT.out.t.lt
        replace g3 := Near.cell g3 HT.out.t.lt
        replace g4 := Near.cell g4 HT.out.t.lt
        refine wp_region_quiet_tail 9 (fun w' => ∃ u : World, w' = near w2 u) (by kernel_rfl) (by kernel_rfl) (Near.start _) ?_
        simp only [List.take_succ_cons, List.take_zero, List.drop_succ_cons, List.drop_zero]
        repeat (go_big_quiet_step ((first | (go_at_call 14; exact Near.call (new_t _)) | (go_at_call 36; exact Near.call (HH _)))))
        refine wpQuiet_nil ?_
        rintro _ ⟨u, rfl⟩
        have hT4 := HT.out.next (near_below _ u)
        generalize near w2 u = w4 at *
        clear c0 g0 g1 g2 g3 g4
        obtain ⟨c0, c1⟩ := hT4.s.cells
        obtain ⟨v0, v1⟩ := hT4.v.cells
        obtain ⟨⟨g0, g1, g2, g3, g4⟩, -⟩ := hT4.t.cells
        all_goals
          have HT4 := Hid.mk' hT4
          clear hT4
          go_wp2
          have HF := HT4.out.fin (lo' : Int)
          exact bodyPost_ret (by simp [results, Try.results17, go_sem, HF.1]) rfl ⟨rfl, HF.2⟩
      · rw [if_neg hm]
        go_enter Try.func17, Try.ntmps17
        go_wp2_with (go_at_call 34; refine HC.mono ?_; rintro e w1 ⟨rfl, hb1⟩; replace hT := hT.next hb1; clear hb1 HC; obtain ⟨c0, c1⟩ := hT.s.cells; obtain ⟨⟨g0, g1, g2, g3, g4⟩, f0, f1, f2, f3, f4⟩ := hT.t.cells; replace hT := hT.putT a' b' c' d' lo'; obtain ⟨p0, p1⟩ := hT.s.cells; replace hT := hT.setS G; unfold putT at p0 p1 hT)
        clear c0 c1 g0 g1 g2 g3 g4 f0 f1 f2 f3 f4 p0 p1
        change Code.wp Try.prog _ _ _ ((putT w1 w.heap.size a' b' c' d' lo').setCell ⟨w.heap.size + 1, 0, none⟩ (.int .i64 G))
        change B3 w a' b' c' d' lo' G ((putT w1 w.heap.size a' b' c' d' lo').setCell ⟨w.heap.size + 1, 0, none⟩ (.int .i64 G)) at hT
        generalize (putT w1 w.heap.size a' b' c' d' lo').setCell ⟨w.heap.size + 1, 0, none⟩ (.int .i64 G) = w2 at *
        obtain ⟨c0, c1⟩ := hT.s.cells
        obtain ⟨⟨g0, g1, g2, g3, g4⟩, -⟩ := hT.t.cells
        have HT := Hid.mk' hT
        clear hT
        replace c0 := Near.cell c0 HT.out.s.lt
        replace g0 := Near.cell g0 HT.out.t.lt
        replace g1 := Near.cell g1 HT.out.t.lt
        replace g2 := Near.cell g2 HT.out.t.lt
        replace g3 := Near.cell g3 HT.out.t.lt
        replace g4 := Near.cell g4 HT.out.t.lt
        refine wp_region_quiet_tail 9 (fun w' => ∃ u : World, w' = near w2 u) (by kernel_rfl) (by kernel_rfl) (Near.start _) ?_
        simp only [List.take_succ_cons, List.take_zero, List.drop_succ_cons, List.drop_zero]
        repeat (go_big_quiet_step ((first | (go_at_call 14; exact Near.call (new_t _)) | (go_at_call 36; exact Near.call (HH _)))))
        refine wpQuiet_nil ?_
        rintro _ ⟨u, rfl⟩
        have hT4 := HT.out.next (near_below _ u)
        generalize near w2 u = w4 at *
        clear c0 g0 g1 g2 g3 g4
        obtain ⟨c0, c1⟩ := hT4.s.cells
        obtain ⟨v0, v1⟩ := hT4.v.cells
        obtain ⟨⟨g0, g1, g2, g3, g4⟩, -⟩ := hT4.t.cells
        all_goals
          have HT4 := Hid.mk' hT4
          clear hT4
          go_wp2
          have HF := HT4.out.fin (G + 1)
          exact bodyPost_ret (by simp [results, Try.results17, go_sem, HF.1]) rfl ⟨rfl, HF.2⟩
set_option maxRecDepth 100000 in
set_option maxHeartbeats 4000000 in
theorem rstep_t {a b c d a' b' c' d' lo' : Nat} {lo : Int} {P : Nat → Bool} (g : Int) (x : Nat) (w : World) (HS : Eff 35 a b c d lo a' b' c' d' lo') (hP : C4 P a' b' c' d') (hlo : lo' ≤ 1000) (hx : x < 256) : Calls Try.prog 18 #[tdV a b c d lo, stV g, .int .u8 (x : Nat)] w fun e w' => e = .returned (stV (stp P lo' (clS lo' g) x)) ∧ Below w.heap.size w w' := by
  have hge := clS_ge lo' g
  have hle := clS_le (lo := lo') g (by omega)
  have hT := B3.start w a b c d lo g
  have HC := HS g (w3 w a b c d lo g)
  generalize clS lo' g = G at *
  have HH := fun W => rhas_c hP x W hx
  have hwr : IntKind.i64.wrap (G + 1) = G + 1 := wrapi64_in _ (by omega) (by omega)
  clear hle hlo hP hx
  unfold stp
  unfold w3 tdO stO at hT HC
  unfold tdV at *
  by_cases hg : G = -1
  · rw [if_pos hg]
    have hb : (G == -1) = true := by simp [hg]
    clear hg
    go_enter Try.func18, Try.ntmps18
    go_wp2_with (first
      | (go_at_call 35; refine HC.mono ?_; rintro e w1 ⟨rfl, hb1⟩; replace hT := hT.next hb1; clear hb1 HC; obtain ⟨c0, c1⟩ := hT.s.cells; obtain ⟨⟨g0, g1, g2, g3, g4⟩, f0, f1, f2, f3, f4⟩ := hT.t.cells; replace hT := hT.putT a' b' c' d' lo'; obtain ⟨p0, p1⟩ := hT.s.cells; replace hT := hT.setS G; obtain ⟨q, -⟩ := hT.s.cells; obtain ⟨⟨q0, q1, q2, q3, q4⟩, -⟩ := hT.t.cells; obtain ⟨v0, v1⟩ := hT.v.cells; unfold putT at p0 p1 hT q q0 q1 q2 q3 q4 v0 v1)
      | (go_at_call 37; refine (HH _).mono ?_; rintro e w5 ⟨rfl, hb5⟩; replace hT := hT.next hb5; clear hb5 c0 c1 v0 v1 g0 g1 g2 g3 g4 f0 f1 f2 f3 f4 p0 p1 q q0 q1 q2 q3 q4; obtain ⟨c0, c1⟩ := hT.s.cells; obtain ⟨v0, v1⟩ := hT.v.cells; obtain ⟨⟨g0, g1, g2, g3, g4⟩, -⟩ := hT.t.cells))
    have HF := hT.fin (-1)
    exact bodyPost_ret (by simp [results, Try.results18, go_sem, HF.1]) rfl ⟨rfl, HF.2⟩
  · rw [if_neg hg]
    have hb : (G == -1) = false := by simp [hg]
    clear hg
    cases hp : P x with
    | false =>
      simp only [hp] at HH
      rw [if_neg (by decide)]
      clear hp
      go_enter Try.func18, Try.ntmps18
      go_wp2_with (first
        | (go_at_call 35; refine HC.mono ?_; rintro e w1 ⟨rfl, hb1⟩; replace hT := hT.next hb1; clear hb1 HC; obtain ⟨c0, c1⟩ := hT.s.cells; obtain ⟨⟨g0, g1, g2, g3, g4⟩, f0, f1, f2, f3, f4⟩ := hT.t.cells; replace hT := hT.putT a' b' c' d' lo'; obtain ⟨p0, p1⟩ := hT.s.cells; replace hT := hT.setS G; obtain ⟨q, -⟩ := hT.s.cells; obtain ⟨⟨q0, q1, q2, q3, q4⟩, -⟩ := hT.t.cells; obtain ⟨v0, v1⟩ := hT.v.cells; unfold putT at p0 p1 hT q q0 q1 q2 q3 q4 v0 v1)
        | (go_at_call 37; refine (HH _).mono ?_; rintro e w5 ⟨rfl, hb5⟩; replace hT := hT.next hb5; clear hb5 c0 c1 v0 v1 g0 g1 g2 g3 g4 f0 f1 f2 f3 f4 p0 p1 q q0 q1 q2 q3 q4; obtain ⟨c0, c1⟩ := hT.s.cells; obtain ⟨v0, v1⟩ := hT.v.cells; obtain ⟨⟨g0, g1, g2, g3, g4⟩, -⟩ := hT.t.cells))
      have HF := hT.fin (-1)
      exact bodyPost_ret (by simp [results, Try.results18, go_sem, HF.1]) rfl ⟨rfl, HF.2⟩
    | true =>
      simp only [hp] at HH
      rw [if_pos rfl]
      clear hp
      by_cases hm : (lo' : Int) < G + 1
      · rw [if_pos hm]
        go_enter Try.func18, Try.ntmps18
        go_wp2_with (first
          | (go_at_call 35; refine HC.mono ?_; rintro e w1 ⟨rfl, hb1⟩; replace hT := hT.next hb1; clear hb1 HC; obtain ⟨c0, c1⟩ := hT.s.cells; obtain ⟨⟨g0, g1, g2, g3, g4⟩, f0, f1, f2, f3, f4⟩ := hT.t.cells; replace hT := hT.putT a' b' c' d' lo'; obtain ⟨p0, p1⟩ := hT.s.cells; replace hT := hT.setS G; obtain ⟨q, -⟩ := hT.s.cells; obtain ⟨⟨q0, q1, q2, q3, q4⟩, -⟩ := hT.t.cells; obtain ⟨v0, v1⟩ := hT.v.cells; unfold putT at p0 p1 hT q q0 q1 q2 q3 q4 v0 v1)
          | (go_at_call 37; refine (HH _).mono ?_; rintro e w5 ⟨rfl, hb5⟩; replace hT := hT.next hb5; clear hb5 c0 c1 v0 v1 g0 g1 g2 g3 g4 f0 f1 f2 f3 f4 p0 p1 q q0 q1 q2 q3 q4; obtain ⟨c0, c1⟩ := hT.s.cells; obtain ⟨v0, v1⟩ := hT.v.cells; obtain ⟨⟨g0, g1, g2, g3, g4⟩, -⟩ := hT.t.cells))
        have HF := hT.fin (lo' : Int)
        exact bodyPost_ret (by simp [results, Try.results18, go_sem, HF.1]) rfl ⟨rfl, HF.2⟩
      · rw [if_neg hm]
        go_enter Try.func18, Try.ntmps18
        go_wp2_with (first
          | (go_at_call 35; refine HC.mono ?_; rintro e w1 ⟨rfl, hb1⟩; replace hT := hT.next hb1; clear hb1 HC; obtain ⟨c0, c1⟩ := hT.s.cells; obtain ⟨⟨g0, g1, g2, g3, g4⟩, f0, f1, f2, f3, f4⟩ := hT.t.cells; replace hT := hT.putT a' b' c' d' lo'; obtain ⟨p0, p1⟩ := hT.s.cells; replace hT := hT.setS G; obtain ⟨q, -⟩ := hT.s.cells; obtain ⟨⟨q0, q1, q2, q3, q4⟩, -⟩ := hT.t.cells; obtain ⟨v0, v1⟩ := hT.v.cells; unfold putT at p0 p1 hT q q0 q1 q2 q3 q4 v0 v1)
          | (go_at_call 37; refine (HH _).mono ?_; rintro e w5 ⟨rfl, hb5⟩; replace hT := hT.next hb5; clear hb5 c0 c1 v0 v1 g0 g1 g2 g3 g4 f0 f1 f2 f3 f4 p0 p1 q q0 q1 q2 q3 q4; obtain ⟨c0, c1⟩ := hT.s.cells; obtain ⟨v0, v1⟩ := hT.v.cells; obtain ⟨⟨g0, g1, g2, g3, g4⟩, -⟩ := hT.t.cells))
        have HF := hT.fin (G + 1)
        exact bodyPost_ret (by simp [results, Try.results18, go_sem, HF.1]) rfl ⟨rfl, HF.2⟩
set_option maxRecDepth 100000 in
set_option maxHeartbeats 4000000 in
theorem ready_t {a b c d a' b' c' d' lo' : Nat} {lo : Int} (g : Int) (w : World) (HS : Eff 34 a b c d lo a' b' c' d' lo') : Calls Try.prog 19 #[tdV a b c d lo, stV g] w fun e w' => e = .returned (.bool (clS lo' g == lo')) ∧ Below w.heap.size w w' := by
  have hT := B2.start w a b c d lo g
  have HC := HS g (w2 w a b c d lo g)
  generalize clS lo' g = G at *
  have e1 := eql28 G lo'
  unfold w2 tdO stO at hT HC
  unfold tdV at *
  go_enter Try.func19, Try.ntmps19
  go_wp2_with (go_at_call 34; refine HC.mono ?_; rintro e w1 ⟨rfl, hb1⟩; replace hT := hT.next hb1; clear hb1 HC; obtain ⟨c0, c1⟩ := hT.s.cells; obtain ⟨⟨g0, g1, g2, g3, g4⟩, f0, f1, f2, f3, f4⟩ := hT.t.cells; replace hT := hT.putT a' b' c' d' lo'; obtain ⟨p0, p1⟩ := hT.s.cells; replace hT := hT.setS G; obtain ⟨⟨q0, q1, q2, q3, q4⟩, -⟩ := hT.t.cells; unfold putT at p0 p1 hT q0 q1 q2 q3 q4)
  go_ret
  exact ⟨rfl, hT.bel⟩
set_option maxRecDepth 100000 in
set_option maxHeartbeats 4000000 in
theorem rready_t {a b c d a' b' c' d' lo' : Nat} {lo : Int} (g : Int) (w : World) (HS : Eff 35 a b c d lo a' b' c' d' lo') : Calls Try.prog 20 #[tdV a b c d lo, stV g] w fun e w' => e = .returned (.bool (clS lo' g == lo')) ∧ Below w.heap.size w w' := by
  have hT := B2.start w a b c d lo g
  have HC := HS g (w2 w a b c d lo g)
  generalize clS lo' g = G at *

  unfold w2 tdO stO at hT HC
  unfold tdV at *
  go_enter Try.func20, Try.ntmps20
  go_wp2_with (go_at_call 35; refine HC.mono ?_; rintro e w1 ⟨rfl, hb1⟩; replace hT := hT.next hb1; clear hb1 HC; obtain ⟨c0, c1⟩ := hT.s.cells; obtain ⟨⟨g0, g1, g2, g3, g4⟩, f0, f1, f2, f3, f4⟩ := hT.t.cells; replace hT := hT.putT a' b' c' d' lo'; obtain ⟨p0, p1⟩ := hT.s.cells; replace hT := hT.setS G; obtain ⟨⟨q0, q1, q2, q3, q4⟩, -⟩ := hT.t.cells; unfold putT at p0 p1 hT q0 q1 q2 q3 q4)
  go_ret
  exact ⟨rfl, hT.bel⟩
end Go.Proofs.Ytobgmgpclcfkcaa
