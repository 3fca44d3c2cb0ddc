/- sound, of the program and of the reference (may): the walks. -/
import Derived.Test.YtobgmgpclcfkcaaFu
namespace Go.Proofs.Ytobgmgpclcfkcaa
open Go.RowKit Go.Shelf
/-- The age as it is taken. -/
def clS (lo g : Int) : Int := if okS lo g = true then g else -1
theorem c4_all : C4 (fun _ => true) 18446744073709551615 18446744073709551615 18446744073709551615 18446744073709551615 := by
  refine ⟨by decide, by decide, by decide, by decide, ?_, ?_, ?_, ?_⟩ <;> decide +kernel
theorem full_t (w : World) : Calls Try.prog 53 #[] w fun e w' => e = .returned (.agg #[.int .u64 18446744073709551615, .int .u64 18446744073709551615, .int .u64 18446744073709551615, .int .u64 18446744073709551615]) ∧ Below w.heap.size w w' := by
  refine (full_any w).mono ?_
  rintro e w' ⟨⟨a, b, c, d, rfl, h⟩, hb⟩
  obtain ⟨rfl, rfl, rfl, rfl⟩ := h.uniq c4_all
  exact ⟨rfl, hb⟩
theorem rfull_t (w : World) : Calls Try.prog 54 #[] w fun e w' => e = .returned (.agg #[.int .u64 18446744073709551615, .int .u64 18446744073709551615, .int .u64 18446744073709551615, .int .u64 18446744073709551615]) ∧ Below w.heap.size w w' := by
  refine (rfull_any w).mono ?_
  rintro e w' ⟨⟨a, b, c, d, rfl, h⟩, hb⟩
  obtain ⟨rfl, rfl, rfl, rfl⟩ := h.uniq (c4_all.congr (Q := rg 0 256) (fun b hb => by simp [rg]; omega))
  exact ⟨rfl, hb⟩
@[reducible] def w4 (w : World) (a b c d : Nat) (lo g : Int) : World := ((((w.alloc (tdO a b c d lo)).alloc (stO g)).alloc (tdO 0 0 0 0 0)).alloc (stO 0))
/-- The four boxes. -/
structure B4 (w : World) (a b c d : Nat) (lo g : Int) (W : World) : Prop where
  t : TdAt W w.heap.size a b c d lo
  s : StAt W (w.heap.size + 1) g
  u : TdAt W (w.heap.size + 1 + 1) 0 0 0 0 0
  v : StAt W (w.heap.size + 1 + 1 + 1) 0
  bel : Below w.heap.size w W
theorem B4.start (w : World) (a b c d : Nat) (lo g : Int) : B4 w a b c d lo g (w4 w a b c d lo g) := by
  have h0 := TdAt.new w a b c d lo
  have h1 := StAt.new (w.alloc (tdO a b c d lo)) g
  have h2 := TdAt.new ((w.alloc (tdO a b c d lo)).alloc (stO g)) 0 0 0 0 0
  have h3 := StAt.new (((w.alloc (tdO a b c d lo)).alloc (stO g)).alloc (tdO 0 0 0 0 0)) 0
  simp only [World.size_alloc] at h1 h2 h3
  refine ⟨((h0.alloc _).alloc _).alloc _, (h1.alloc _).alloc _, h2.alloc _, h3, ?_⟩
  exact ((((Below.refl _ _).alloc (Nat.le_refl _) _).alloc (by simp) _).alloc (by simp; omega) _).alloc (by simp; omega) _
theorem B4.next {w : World} {a b c d : Nat} {lo g : Int} {W W' : World} (h : B4 w a b c d lo g W) (hb : Below W.heap.size W W') : B4 w a b c d lo g W' :=
  ⟨h.t.below hb, h.s.below hb, h.u.below hb, h.v.below hb, h.bel.trans (hb.mono h.bel.size)⟩
theorem B4.putT {w : World} {a b c d : Nat} {lo g : Int} {W : World} (h : B4 w a b c d lo g W) (a' b' c' d' : Nat) (lo' : Int) : B4 w a' b' c' d' lo' g (putT W w.heap.size a' b' c' d' lo') :=
  ⟨h.t.put, h.s.putT (by omega), Cl.putT h.u (by omega), h.v.putT (by omega), below_putT h.bel (Nat.le_refl _)⟩
theorem B4.setS {w : World} {a b c d : Nat} {lo g : Int} {W : World} (h : B4 w a b c d lo g W) (g' : Int) : B4 w a b c d lo g' (W.setCell ⟨w.heap.size + 1, 0, none⟩ (.int .i64 g')) :=
  ⟨h.t.other (by omega) _ _, h.s.set g', h.u.other (by omega) _ _, h.v.other (by omega) _ _, h.bel.setCell (by simp) _⟩
theorem Hid.mk' {p : Prop} (h : p) : Hid p := h
/-- What stands behind the two stores. -/
theorem B4.fin {w : World} {a b c d : Nat} {lo g : Int} {W : World} (h : B4 w a b c d lo g W) : TdAt ((Ytobgmgpclcfkcaa.putT W (w.heap.size + 1 + 1) a b c d lo).setCell ⟨w.heap.size + 1 + 1 + 1, 0, none⟩ (.int .i64 g)) (w.heap.size + 1 + 1) a b c d lo ∧ StAt ((Ytobgmgpclcfkcaa.putT W (w.heap.size + 1 + 1) a b c d lo).setCell ⟨w.heap.size + 1 + 1 + 1, 0, none⟩ (.int .i64 g)) (w.heap.size + 1 + 1 + 1) g ∧ Below w.heap.size w ((Ytobgmgpclcfkcaa.putT W (w.heap.size + 1 + 1) a b c d lo).setCell ⟨w.heap.size + 1 + 1 + 1, 0, none⟩ (.int .i64 g)) :=
  ⟨h.u.put.other (by omega) _ _, (h.v.putT (by omega)).set g, (below_putT h.bel (by omega)).setCell (by simp; omega) _⟩
set_option maxRecDepth 100000 in
set_option maxHeartbeats 4000000 in
/-- Of a tide that may be. -/
theorem sound_yes {a b c d : Nat} {lo : Int} (g : Int) (w : World) (hok : okT a b c d lo = true) : Calls Try.prog 34 #[tdV a b c d lo, stV g] w fun e w' => e = .returned (.tuple #[tdV a b c d lo, stV (clS lo g)]) ∧ Below w.heap.size w w' := by
  have hT := B4.start w a b c d lo g
  have HC := fun W => check_t a b c d lo W
  have HK := fun W => cstate_t a b c d lo g W
  simp only [hok, if_pos, Bool.true_and] at HC HK
  unfold clS
  unfold w4 tdO stO at hT
  unfold tdV at *
  cases ho : okS lo g with
  | true =>
    rw [ho, if_pos rfl] at HK
    rw [if_pos rfl]
    go_enter Try.func34, Try.ntmps34
    go_wp2_with (first
      | (go_at_call 10; refine (HC _).mono ?_; rintro e w1 ⟨rfl, hb1⟩; replace hT := hT.next hb1; clear hb1 HC; obtain ⟨⟨g0, g1, g2, g3, g4⟩, -⟩ := hT.t.cells; obtain ⟨c0, -⟩ := hT.s.cells)
      | (go_at_call 12; refine (HK _).mono ?_; rintro e w2 ⟨rfl, hb2⟩; replace hT := hT.next hb2; clear hb2 HK g0 g1 g2 g3 g4 c0))
    obtain ⟨⟨g0, g1, g2, g3, g4⟩, -⟩ := hT.t.cells
    obtain ⟨c0, -⟩ := hT.s.cells
    obtain ⟨⟨u0, u1, u2, u3, u4⟩, f0, f1, f2, f3, f4⟩ := hT.u.cells
    obtain ⟨v0, f5⟩ := hT.v.cells
    have HT := Hid.mk' hT
    clear hT
    go_region_with (fail)
    all_goals
      clear g0 g1 g2 g3 g4 c0 u0 u1 u2 u3 u4 v0 f0 f1 f2 f3 f4 f5
      go_wp2_with fail
      obtain ⟨y1, y2, y3⟩ := HT.out.fin
      obtain ⟨⟨k0, k1, k2, k3, k4⟩, -⟩ := y1.cells
      obtain ⟨k5, -⟩ := y2.cells
      unfold putT at k0 k1 k2 k3 k4 k5 y3
      exact bodyPost_ret (by simp [results, Try.results34, go_sem, k0, k1, k2, k3, k4, k5]) rfl ⟨rfl, y3.drew⟩
  | false =>
    rw [ho, if_neg (by decide)] at HK
    rw [if_neg (by decide)]
    go_enter Try.func34, Try.ntmps34
    go_wp2_with (first
      | (go_at_call 10; refine (HC _).mono ?_; rintro e w1 ⟨rfl, hb1⟩; replace hT := hT.next hb1; clear hb1 HC; obtain ⟨⟨g0, g1, g2, g3, g4⟩, -⟩ := hT.t.cells; obtain ⟨c0, -⟩ := hT.s.cells)
      | (go_at_call 12; refine (HK _).mono ?_; rintro e w2 ⟨rfl, hb2⟩; replace hT := hT.next hb2; clear hb2 HK g0 g1 g2 g3 g4 c0)
      | (go_at_call 14; refine (new_t _).mono ?_; rintro e w3 ⟨rfl, hb3⟩; replace hT := hT.next hb3; clear hb3; obtain ⟨c0, c1⟩ := hT.s.cells))
    replace hT := hT.setS (-1)
    clear c0 c1
    obtain ⟨⟨g0, g1, g2, g3, g4⟩, -⟩ := hT.t.cells
    obtain ⟨c0, -⟩ := hT.s.cells
    obtain ⟨⟨u0, u1, u2, u3, u4⟩, f0, f1, f2, f3, f4⟩ := hT.u.cells
    obtain ⟨v0, f5⟩ := hT.v.cells
    have HT := Hid.mk' hT
    clear hT
    go_region_with (fail)
    all_goals
      clear g0 g1 g2 g3 g4 c0 u0 u1 u2 u3 u4 v0 f0 f1 f2 f3 f4 f5
      go_wp2_with fail
      obtain ⟨y1, y2, y3⟩ := HT.out.fin
      obtain ⟨⟨k0, k1, k2, k3, k4⟩, -⟩ := y1.cells
      obtain ⟨k5, -⟩ := y2.cells
      unfold putT at k0 k1 k2 k3 k4 k5 y3
      exact bodyPost_ret (by simp [results, Try.results34, go_sem, k0, k1, k2, k3, k4, k5]) rfl ⟨rfl, y3.drew⟩
set_option maxRecDepth 100000 in
set_option maxHeartbeats 4000000 in
/-- Of another one. -/
theorem sound_no {a b c d a' b' c' d' : Nat} {lo : Int} (g : Int) (w : World) (hok : okT a b c d lo = false) (hF : okT a' b' c' d' 0 = true) (HF : ∀ w, Calls Try.prog 53 #[] w fun e w' => e = .returned (.agg #[.int .u64 (a' : Nat), .int .u64 (b' : Nat), .int .u64 (c' : Nat), .int .u64 (d' : Nat)]) ∧ Below w.heap.size w w') : Calls Try.prog 34 #[tdV a b c d lo, stV g] w fun e w' => e = .returned (.tuple #[tdV a' b' c' d' 0, stV (clS 0 g)]) ∧ Below w.heap.size w w' := by
  have hT := B4.start w a b c d lo g
  have HC := fun W => check_t a b c d lo W
  have HK := fun W => cstate_t a' b' c' d' 0 g W
  simp only [hok, hF, Bool.false_eq_true, Bool.true_and, if_false] at HC HK
  unfold clS
  unfold w4 tdO stO at hT
  unfold tdV at *
  cases ho : okS 0 g with
  | true =>
    rw [ho, if_pos rfl] at HK
    rw [if_pos rfl]
    go_enter Try.func34, Try.ntmps34
    go_wp2_with (first
      | (go_at_call 10; refine (HC _).mono ?_; rintro e w1 ⟨rfl, hb1⟩; replace hT := hT.next hb1; clear hb1 HC)
      | (go_at_call 53; refine (HF _).mono ?_; rintro e w4 ⟨rfl, hb4⟩; replace hT := hT.next hb4; clear hb4; obtain ⟨⟨g0, g1, g2, g3, g4⟩, f0, f1, f2, f3, f4⟩ := hT.t.cells; have hP := hT.putT a' b' c' d' 0; obtain ⟨⟨p0, p1, p2, p3, p4⟩, -⟩ := hP.t.cells; obtain ⟨c0, -⟩ := hP.s.cells; unfold putT at p0 p1 p2 p3 p4 c0 hP)
      | (go_at_call 12; refine (HK _).mono ?_; rintro e w2 ⟨rfl, hb2⟩; replace hT := hP.next hb2; clear hb2 HK hP g0 g1 g2 g3 g4 c0 f0 f1 f2 f3 f4 p0 p1 p2 p3 p4))
    obtain ⟨⟨g0, g1, g2, g3, g4⟩, -⟩ := hT.t.cells
    obtain ⟨c0, -⟩ := hT.s.cells
    obtain ⟨⟨u0, u1, u2, u3, u4⟩, f0, f1, f2, f3, f4⟩ := hT.u.cells
    obtain ⟨v0, f5⟩ := hT.v.cells
    have HT := Hid.mk' hT
    clear hT
    go_region_with (fail)
    all_goals
      clear g0 g1 g2 g3 g4 c0 u0 u1 u2 u3 u4 v0 f0 f1 f2 f3 f4 f5
      go_wp2_with fail
      obtain ⟨y1, y2, y3⟩ := HT.out.fin
      obtain ⟨⟨k0, k1, k2, k3, k4⟩, -⟩ := y1.cells
      obtain ⟨k5, -⟩ := y2.cells
      unfold putT at k0 k1 k2 k3 k4 k5 y3
      exact bodyPost_ret (by simp [results, Try.results34, go_sem, k0, k1, k2, k3, k4, k5]) rfl ⟨rfl, y3.drew⟩
  | false =>
    rw [ho, if_neg (by decide)] at HK
    rw [if_neg (by decide)]
    go_enter Try.func34, Try.ntmps34
    go_wp2_with (first
      | (go_at_call 10; refine (HC _).mono ?_; rintro e w1 ⟨rfl, hb1⟩; replace hT := hT.next hb1; clear hb1 HC)
      | (go_at_call 53; refine (HF _).mono ?_; rintro e w4 ⟨rfl, hb4⟩; replace hT := hT.next hb4; clear hb4; obtain ⟨⟨g0, g1, g2, g3, g4⟩, f0, f1, f2, f3, f4⟩ := hT.t.cells; have hP := hT.putT a' b' c' d' 0; obtain ⟨⟨p0, p1, p2, p3, p4⟩, -⟩ := hP.t.cells; obtain ⟨c0, -⟩ := hP.s.cells; unfold putT at p0 p1 p2 p3 p4 c0 hP)
      | (go_at_call 12; refine (HK _).mono ?_; rintro e w2 ⟨rfl, hb2⟩; replace hT := hP.next hb2; clear hb2 HK hP g0 g1 g2 g3 g4 c0 f0 f1 f2 f3 f4 p0 p1 p2 p3 p4)
      | (go_at_call 14; refine (new_t _).mono ?_; rintro e w3 ⟨rfl, hb3⟩; replace hT := hT.next hb3; clear hb3; obtain ⟨c0, c1⟩ := hT.s.cells))
    replace hT := hT.setS (-1)
    clear c0 c1
    obtain ⟨⟨g0, g1, g2, g3, g4⟩, -⟩ := hT.t.cells
    obtain ⟨c0, -⟩ := hT.s.cells
    obtain ⟨⟨u0, u1, u2, u3, u4⟩, f0, f1, f2, f3, f4⟩ := hT.u.cells
    obtain ⟨v0, f5⟩ := hT.v.cells
    have HT := Hid.mk' hT
    clear hT
    go_region_with (fail)
    all_goals
      clear g0 g1 g2 g3 g4 c0 u0 u1 u2 u3 u4 v0 f0 f1 f2 f3 f4 f5
      go_wp2_with fail
      obtain ⟨y1, y2, y3⟩ := HT.out.fin
      obtain ⟨⟨k0, k1, k2, k3, k4⟩, -⟩ := y1.cells
      obtain ⟨k5, -⟩ := y2.cells
      unfold putT at k0 k1 k2 k3 k4 k5 y3
      exact bodyPost_ret (by simp [results, Try.results34, go_sem, k0, k1, k2, k3, k4, k5]) rfl ⟨rfl, y3.drew⟩
set_option maxRecDepth 100000 in
set_option maxHeartbeats 4000000 in
/-- Of a tide that may be. -/
theorem may_yes {a b c d : Nat} {lo : Int} (g : Int) (w : World) (hok : okT a b c d lo = true) : Calls Try.prog 35 #[tdV a b c d lo, stV g] w fun e w' => e = .returned (.tuple #[tdV a b c d lo, stV (clS lo g)]) ∧ Below w.heap.size w w' := by
  have hT := B4.start w a b c d lo g
  have HC := fun W => rcheck_t a b c d lo W
  have HK := fun W => rcstate_t a b c d lo g W
  simp only [hok, if_pos, Bool.true_and] at HC HK
  unfold clS
  unfold w4 tdO stO at hT
  unfold tdV at *
  cases ho : okS lo g with
  | true =>
    rw [ho, if_pos rfl] at HK
    rw [if_pos rfl]
    go_enter Try.func35, Try.ntmps35
    go_wp2_with (first
      | (go_at_call 11; refine (HC _).mono ?_; rintro e w1 ⟨rfl, hb1⟩; replace hT := hT.next hb1; clear hb1 HC; obtain ⟨⟨g0, g1, g2, g3, g4⟩, -⟩ := hT.t.cells; obtain ⟨c0, -⟩ := hT.s.cells)
      | (go_at_call 13; refine (HK _).mono ?_; rintro e w2 ⟨rfl, hb2⟩; replace hT := hT.next hb2; clear hb2 HK g0 g1 g2 g3 g4 c0))
    obtain ⟨⟨g0, g1, g2, g3, g4⟩, -⟩ := hT.t.cells
    obtain ⟨c0, -⟩ := hT.s.cells
    obtain ⟨⟨u0, u1, u2, u3, u4⟩, f0, f1, f2, f3, f4⟩ := hT.u.cells
    obtain ⟨v0, f5⟩ := hT.v.cells
    have HT := Hid.mk' hT
    clear hT
    go_region_with (fail)
    all_goals
      clear g0 g1 g2 g3 g4 c0 u0 u1 u2 u3 u4 v0 f0 f1 f2 f3 f4 f5
      go_wp2_with fail
      obtain ⟨y1, y2, y3⟩ := HT.out.fin
      obtain ⟨⟨k0, k1, k2, k3, k4⟩, -⟩ := y1.cells
      obtain ⟨k5, -⟩ := y2.cells
      unfold putT at k0 k1 k2 k3 k4 k5 y3
      exact bodyPost_ret (by simp [results, Try.results35, go_sem, k0, k1, k2, k3, k4, k5]) rfl ⟨rfl, y3.drew⟩
  | false =>
    rw [ho, if_neg (by decide)] at HK
    rw [if_neg (by decide)]
    go_enter Try.func35, Try.ntmps35
    go_wp2_with (first
      | (go_at_call 11; refine (HC _).mono ?_; rintro e w1 ⟨rfl, hb1⟩; replace hT := hT.next hb1; clear hb1 HC; obtain ⟨⟨g0, g1, g2, g3, g4⟩, -⟩ := hT.t.cells; obtain ⟨c0, -⟩ := hT.s.cells)
      | (go_at_call 13; refine (HK _).mono ?_; rintro e w2 ⟨rfl, hb2⟩; replace hT := hT.next hb2; clear hb2 HK g0 g1 g2 g3 g4 c0; obtain ⟨c0, c1⟩ := hT.s.cells))
    replace hT := hT.setS (-1)
    clear c0 c1
    obtain ⟨⟨g0, g1, g2, g3, g4⟩, -⟩ := hT.t.cells
    obtain ⟨c0, -⟩ := hT.s.cells
    obtain ⟨⟨u0, u1, u2, u3, u4⟩, f0, f1, f2, f3, f4⟩ := hT.u.cells
    obtain ⟨v0, f5⟩ := hT.v.cells
    have HT := Hid.mk' hT
    clear hT
    go_region_with (fail)
    all_goals
      clear g0 g1 g2 g3 g4 c0 u0 u1 u2 u3 u4 v0 f0 f1 f2 f3 f4 f5
      go_wp2_with fail
      obtain ⟨y1, y2, y3⟩ := HT.out.fin
      obtain ⟨⟨k0, k1, k2, k3, k4⟩, -⟩ := y1.cells
      obtain ⟨k5, -⟩ := y2.cells
      unfold putT at k0 k1 k2 k3 k4 k5 y3
      exact bodyPost_ret (by simp [results, Try.results35, go_sem, k0, k1, k2, k3, k4, k5]) rfl ⟨rfl, y3.drew⟩
set_option maxRecDepth 100000 in
set_option maxHeartbeats 4000000 in
/-- Of another one. -/
theorem may_no {a b c d a' b' c' d' : Nat} {lo : Int} (g : Int) (w : World) (hok : okT a b c d lo = false) (hF : okT a' b' c' d' 0 = true) (HF : ∀ w, Calls Try.prog 54 #[] w fun e w' => e = .returned (.agg #[.int .u64 (a' : Nat), .int .u64 (b' : Nat), .int .u64 (c' : Nat), .int .u64 (d' : Nat)]) ∧ Below w.heap.size w w') : Calls Try.prog 35 #[tdV a b c d lo, stV g] w fun e w' => e = .returned (.tuple #[tdV a' b' c' d' 0, stV (clS 0 g)]) ∧ Below w.heap.size w w' := by
  have hT := B4.start w a b c d lo g
  have HC := fun W => rcheck_t a b c d lo W
  have HK := fun W => rcstate_t a' b' c' d' 0 g W
  simp only [hok, hF, Bool.false_eq_true, Bool.true_and, if_false] at HC HK
  unfold clS
  unfold w4 tdO stO at hT
  unfold tdV at *
  cases ho : okS 0 g with
  | true =>
    rw [ho, if_pos rfl] at HK
    rw [if_pos rfl]
    go_enter Try.func35, Try.ntmps35
    go_wp2_with (first
      | (go_at_call 11; refine (HC _).mono ?_; rintro e w1 ⟨rfl, hb1⟩; replace hT := hT.next hb1; clear hb1 HC)
      | (go_at_call 54; refine (HF _).mono ?_; rintro e w4 ⟨rfl, hb4⟩; replace hT := hT.next hb4; clear hb4; obtain ⟨⟨g0, g1, g2, g3, g4⟩, f0, f1, f2, f3, f4⟩ := hT.t.cells; have hP := hT.putT a' b' c' d' 0; obtain ⟨⟨p0, p1, p2, p3, p4⟩, -⟩ := hP.t.cells; obtain ⟨c0, -⟩ := hP.s.cells; unfold putT at p0 p1 p2 p3 p4 c0 hP)
      | (go_at_call 13; refine (HK _).mono ?_; rintro e w2 ⟨rfl, hb2⟩; replace hT := hP.next hb2; clear hb2 HK hP g0 g1 g2 g3 g4 c0 f0 f1 f2 f3 f4 p0 p1 p2 p3 p4))
    obtain ⟨⟨g0, g1, g2, g3, g4⟩, -⟩ := hT.t.cells
    obtain ⟨c0, -⟩ := hT.s.cells
    obtain ⟨⟨u0, u1, u2, u3, u4⟩, f0, f1, f2, f3, f4⟩ := hT.u.cells
    obtain ⟨v0, f5⟩ := hT.v.cells
    have HT := Hid.mk' hT
    clear hT
    go_region_with (fail)
    all_goals
      clear g0 g1 g2 g3 g4 c0 u0 u1 u2 u3 u4 v0 f0 f1 f2 f3 f4 f5
      go_wp2_with fail
      obtain ⟨y1, y2, y3⟩ := HT.out.fin
      obtain ⟨⟨k0, k1, k2, k3, k4⟩, -⟩ := y1.cells
      obtain ⟨k5, -⟩ := y2.cells
      unfold putT at k0 k1 k2 k3 k4 k5 y3
      exact bodyPost_ret (by simp [results, Try.results35, go_sem, k0, k1, k2, k3, k4, k5]) rfl ⟨rfl, y3.drew⟩
  | false =>
    rw [ho, if_neg (by decide)] at HK
    rw [if_neg (by decide)]
    go_enter Try.func35, Try.ntmps35
    go_wp2_with (first
      | (go_at_call 11; refine (HC _).mono ?_; rintro e w1 ⟨rfl, hb1⟩; replace hT := hT.next hb1; clear hb1 HC)
      | (go_at_call 54; refine (HF _).mono ?_; rintro e w4 ⟨rfl, hb4⟩; replace hT := hT.next hb4; clear hb4; obtain ⟨⟨g0, g1, g2, g3, g4⟩, f0, f1, f2, f3, f4⟩ := hT.t.cells; have hP := hT.putT a' b' c' d' 0; obtain ⟨⟨p0, p1, p2, p3, p4⟩, -⟩ := hP.t.cells; obtain ⟨c0, -⟩ := hP.s.cells; unfold putT at p0 p1 p2 p3 p4 c0 hP)
      | (go_at_call 13; refine (HK _).mono ?_; rintro e w2 ⟨rfl, hb2⟩; replace hT := hP.next hb2; clear hb2 HK hP g0 g1 g2 g3 g4 c0 f0 f1 f2 f3 f4 p0 p1 p2 p3 p4; obtain ⟨c0, c1⟩ := hT.s.cells))
    replace hT := hT.setS (-1)
    clear c0 c1
    obtain ⟨⟨g0, g1, g2, g3, g4⟩, -⟩ := hT.t.cells
    obtain ⟨c0, -⟩ := hT.s.cells
    obtain ⟨⟨u0, u1, u2, u3, u4⟩, f0, f1, f2, f3, f4⟩ := hT.u.cells
    obtain ⟨v0, f5⟩ := hT.v.cells
    have HT := Hid.mk' hT
    clear hT
    go_region_with (fail)
    all_goals
      clear g0 g1 g2 g3 g4 c0 u0 u1 u2 u3 u4 v0 f0 f1 f2 f3 f4 f5
      go_wp2_with fail
      obtain ⟨y1, y2, y3⟩ := HT.out.fin
      obtain ⟨⟨k0, k1, k2, k3, k4⟩, -⟩ := y1.cells
      obtain ⟨k5, -⟩ := y2.cells
      unfold putT at k0 k1 k2 k3 k4 k5 y3
      exact bodyPost_ret (by simp [results, Try.results35, go_sem, k0, k1, k2, k3, k4, k5]) rfl ⟨rfl, y3.drew⟩
end Go.Proofs.Ytobgmgpclcfkcaa
