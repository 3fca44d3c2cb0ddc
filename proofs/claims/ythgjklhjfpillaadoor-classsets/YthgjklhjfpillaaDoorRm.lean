/- The reference's Meet and Fold: the walks. -/
import Derived.Test.YthgjklhjfpillaaDoorMl
namespace Go.Proofs.YthgjklhjfpillaaDoor
open Go.RowKit
/-- Two classes in their boxes, beside the result's. -/
structure M3 (w : World) (e f g h p q r s : Nat) (wr : World) : Prop where
  a : Bx wr w.heap.size (.int .u64 (p : Nat)) (.int .u64 (q : Nat)) (.int .u64 (r : Nat)) (.int .u64 (s : Nat))
  b : Bx wr (w.heap.size + 1) (.int .u64 (e : Nat)) (.int .u64 (f : Nat)) (.int .u64 (g : Nat)) (.int .u64 (h : Nat))
  c : Bx wr (w.heap.size + 2) (.int .u64 0) (.int .u64 0) (.int .u64 0) (.int .u64 0)
  bel : Below w.heap.size w wr
section
variable {w wr : World} {e f g h p q r s : Nat}
theorem M3.drew (t : M3 w e f g h p q r s wr) : M3 w e f g h p q r s wr.drew := ⟨t.a.drew, t.b.drew, t.c.drew, t.bel.drew⟩
theorem M3.set0 (t : M3 w e f g h p q r s wr) (u : Nat) : M3 w e f g h u q r s (wr.setCell ⟨w.heap.size, 0, none⟩ (.int .u64 (u : Nat))) :=
  ⟨t.a.set0 _, t.b.other (p := ⟨w.heap.size, 0, none⟩) (by simp) _, t.c.other (p := ⟨w.heap.size, 0, none⟩) (by simp) _, t.bel.setCell (p := ⟨w.heap.size, 0, none⟩) (by simp) _⟩
theorem M3.set1 (t : M3 w e f g h p q r s wr) (u : Nat) : M3 w e f g h p u r s (wr.setCell ⟨w.heap.size, 1, none⟩ (.int .u64 (u : Nat))) :=
  ⟨t.a.set1 _, t.b.other (p := ⟨w.heap.size, 1, none⟩) (by simp) _, t.c.other (p := ⟨w.heap.size, 1, none⟩) (by simp) _, t.bel.setCell (p := ⟨w.heap.size, 1, none⟩) (by simp) _⟩
theorem M3.set2 (t : M3 w e f g h p q r s wr) (u : Nat) : M3 w e f g h p q u s (wr.setCell ⟨w.heap.size, 2, none⟩ (.int .u64 (u : Nat))) :=
  ⟨t.a.set2 _, t.b.other (p := ⟨w.heap.size, 2, none⟩) (by simp) _, t.c.other (p := ⟨w.heap.size, 2, none⟩) (by simp) _, t.bel.setCell (p := ⟨w.heap.size, 2, none⟩) (by simp) _⟩
theorem M3.set3 (t : M3 w e f g h p q r s wr) (u : Nat) : M3 w e f g h p q r u (wr.setCell ⟨w.heap.size, 3, none⟩ (.int .u64 (u : Nat))) :=
  ⟨t.a.set3 _, t.b.other (p := ⟨w.heap.size, 3, none⟩) (by simp) _, t.c.other (p := ⟨w.heap.size, 3, none⟩) (by simp) _, t.bel.setCell (p := ⟨w.heap.size, 3, none⟩) (by simp) _⟩
end
theorem M3.start (w : World) (p q r s e f g h : Nat) : M3 w e f g h p q r s (((w.alloc (.cells #[.int .u64 (p : Nat), .int .u64 (q : Nat), .int .u64 (r : Nat), .int .u64 (s : Nat)] 26)).alloc (.cells #[.int .u64 (e : Nat), .int .u64 (f : Nat), .int .u64 (g : Nat), .int .u64 (h : Nat)] 26)).alloc (.cells #[.int .u64 0, .int .u64 0, .int .u64 0, .int .u64 0] 26)) := by
  refine ⟨((Bx.new w _ _ _ _).alloc _).alloc _, Bx.alloc ?_ _, ?_, below3 _ _ _ _⟩
  · have := Bx.new (w.alloc (.cells #[.int .u64 (p : Nat), .int .u64 (q : Nat), .int .u64 (r : Nat), .int .u64 (s : Nat)] 26)) (.int .u64 (e : Nat)) (.int .u64 (f : Nat)) (.int .u64 (g : Nat)) (.int .u64 (h : Nat))
    simpa using this
  · have := Bx.new ((w.alloc (.cells #[.int .u64 (p : Nat), .int .u64 (q : Nat), .int .u64 (r : Nat), .int .u64 (s : Nat)] 26)).alloc (.cells #[.int .u64 (e : Nat), .int .u64 (f : Nat), .int .u64 (g : Nat), .int .u64 (h : Nat)] 26)) (.int .u64 0) (.int .u64 0) (.int .u64 0) (.int .u64 0)
    simpa using this
set_option maxRecDepth 10000 in
set_option maxHeartbeats 2000000 in
theorem rmeet_c {P Q : Nat → Bool} {a b c d e f g h : Nat} (k : C4 P a b c d) (l : C4 Q e f g h) (w : World) : Calls Tryd.prog 30 #[.agg #[.int .u64 (a : Nat), .int .u64 (b : Nat), .int .u64 (c : Nat), .int .u64 (d : Nat)], .agg #[.int .u64 (e : Nat), .int .u64 (f : Nat), .int .u64 (g : Nat), .int .u64 (h : Nat)]] w (RetC w fun x => P x && Q x) := by
  have va := u64_and_nat a e k.la l.la
  have vb := u64_and_nat b f k.lb l.lb
  have vc := u64_and_nat c g k.lc l.lc
  have vd := u64_and_nat d h k.ld l.ld
  have HO : Hid (C4 (fun x => P x && Q x) (a &&& e) (b &&& f) (c &&& g) (d &&& h)) := k.and l
  have t0 := M3.start w a b c d e f g h
  clear k l
  go_enter Tryd.func30, Tryd.ntmps30
  go_wp2_with fail
  go_loopw [5] (fun i wv => ∃ p q r s : Nat, M3 w e f g h p q r s wv ∧ ((i = .int .i64 0 ∧ p = a ∧ q = b ∧ r = c ∧ s = d) ∨ (i = .int .i64 1 ∧ p = a &&& e ∧ q = b ∧ r = c ∧ s = d) ∨ (i = .int .i64 2 ∧ p = a &&& e ∧ q = b &&& f ∧ r = c ∧ s = d) ∨
    (i = .int .i64 3 ∧ p = a &&& e ∧ q = b &&& f ∧ r = c &&& g ∧ s = d) ∨ (i = .int .i64 4 ∧ p = a &&& e ∧ q = b &&& f ∧ r = c &&& g ∧ s = d &&& h))) (fun i _ => 4 - (intOf i).toNat)
  case atStart => exact ⟨a, b, c, d, t0, .inl ⟨rfl, rfl, rfl, rfl, rfl⟩⟩
  case round =>
    obtain ⟨p, q, r, s, hV0, hh⟩ := hrel
    have hV := hV0.drew
    obtain ⟨c0, c1, c2, c3, f0, f1, f2, f3⟩ := hV.a.cells
    obtain ⟨d0, d1, d2, d3, _⟩ := hV.b.cells
    rcases hh with ⟨rfl, rfl, rfl, rfl, rfl⟩ | ⟨rfl, rfl, rfl, rfl, rfl⟩ | ⟨rfl, rfl, rfl, rfl, rfl⟩ | ⟨rfl, rfl, rfl, rfl, rfl⟩ | ⟨rfl, rfl, rfl, rfl, rfl⟩
    · have hV' := (hV0.set0 (p &&& e)).drew
      go_wp2_with fail
      go_region
      go_wp2
      exact ⟨⟨_, _, _, _, hV', .inr (.inl ⟨rfl, rfl, rfl, rfl, rfl⟩)⟩, by decide⟩
    · have hV' := (hV0.set1 (q &&& f)).drew
      go_wp2_with fail
      go_region
      go_wp2
      exact ⟨⟨_, _, _, _, hV', .inr (.inr (.inl ⟨rfl, rfl, rfl, rfl, rfl⟩))⟩, by decide⟩
    · have hV' := (hV0.set2 (r &&& g)).drew
      go_wp2_with fail
      go_region
      go_wp2
      exact ⟨⟨_, _, _, _, hV', .inr (.inr (.inr (.inl ⟨rfl, rfl, rfl, rfl, rfl⟩)))⟩, by decide⟩
    · have hV' := (hV0.set3 (s &&& h)).drew
      go_wp2_with fail
      go_region
      go_wp2
      exact ⟨⟨_, _, _, _, hV', .inr (.inr (.inr (.inr ⟨rfl, rfl, rfl, rfl, rfl⟩)))⟩, by decide⟩
    · obtain ⟨p0, p1, p2, p3, p4, p5, p6, p7⟩ := hV0.a.cells
      obtain ⟨y0, y1, y2, y3, v0, v1, v2, v3⟩ := hV0.c.cells
      obtain ⟨z0, z1, z2, z3, _⟩ := (hV0.c.set (.int .u64 ((a &&& e : Nat))) (.int .u64 ((b &&& f : Nat))) (.int .u64 ((c &&& g : Nat))) (.int .u64 ((d &&& h : Nat)))).cells
      have hbel := hV0.bel
      have hclt := hV0.c.lt
      clear hV
      generalize a &&& e = A at *
      generalize b &&& f = B at *
      generalize c &&& g = C at *
      generalize d &&& h = D at *
      go_wp2
      exact bodyPost_ret (v := .agg #[.int .u64 (A : Nat), .int .u64 (B : Nat), .int .u64 (C : Nat), .int .u64 (D : Nat)]) (by simp [results, Tryd.results30, go_sem, z0, z1, z2, z3]) rfl ⟨⟨A, B, C, D, rfl, HO.out⟩, below_put4 hbel (by omega) _ _ _ _⟩
end Go.Proofs.YthgjklhjfpillaaDoor
