/- LiteralLetters: the walk. -/
import Derived.Test.YthbmfnibgjlkhaaDoorGLhLjLk
import Derived.Test.YthbmfnibgjlkhaaDoorLe
import Derived.Deep.DeepCutAuto
import Derived.Deep.RegionHeld3
import Derived.Deep.QuietTactic
namespace Go.Proofs.YthbmfnibgjlkhaaDoor
open Go.RowKit K
theorem run_eql26 (x y : Int) (f g : Bool) (w : World) : (Go.binOp BinOp.eql 26 (.agg #[.int .u8 x, .bool f]) (.agg #[.int .u8 y, .bool g])).run Tryd.prog w = .ok (.bool (x == y && f == g)) w := by
  have h := equal26 x y f g w
  simp only [binOp]
  simp [h]
theorem neqC_same (a b c d : Nat) (w : World) : (Go.binOp .neq 24 (.agg #[.int .u64 (a : Nat), .int .u64 (b : Nat), .int .u64 (c : Nat), .int .u64 (d : Nat)]) (.agg #[.int .u64 (a : Nat), .int .u64 (b : Nat), .int .u64 (c : Nat), .int .u64 (d : Nat)])).run Tryd.prog w = .ok (.bool false) w := by
  have h := eql4i 9998 a b c d a b c d w
  simp only [binOp]
  simp [Op.equal, Op.maxDepth, h]
/-- The boxes of the law's letters. -/
structure L3 (w : World) (bx bY xb lb : Nat) (xf lf : Bool) (W : World) : Prop where
  kx : Cl W bx 26 [.int .u8 (xb : Nat), .bool xf]
  ky : Cl W bY 26 [.int .u8 (xb : Nat), .bool xf]
  kl : Cl W (w.heap.size + 1) 26 [.int .u8 (lb : Nat), .bool lf]
  bel : Below w.heap.size w W
theorem L3.next {w : World} {bx bY xb lb : Nat} {xf lf : Bool} {W V : World} (h : L3 w bx bY xb lb xf lf W) (hb : Below W.heap.size W V) : L3 w bx bY xb lb xf lf V := ⟨h.kx.below hb, h.ky.below hb, h.kl.below hb, h.bel.trans (hb.mono h.bel.size)⟩
theorem L3.cells {w : World} {bx bY xb lb : Nat} {xf lf : Bool} {W : World} (h : L3 w bx bY xb lb xf lf W) : W.cell? ⟨bx, 0, none⟩ = some (.int .u8 (xb : Nat)) ∧ W.cell? ⟨bx, 1, none⟩ = some (.bool xf) ∧ W.cell? ⟨bY, 0, none⟩ = some (.int .u8 (xb : Nat)) ∧ W.cell? ⟨bY, 1, none⟩ = some (.bool xf) ∧ W.cell? ⟨w.heap.size + 1, 0, none⟩ = some (.int .u8 (lb : Nat)) ∧ W.cell? ⟨w.heap.size + 1, 1, none⟩ = some (.bool lf) := ⟨h.kx.cell 0 rfl, h.kx.cell 1 rfl, h.ky.cell 0 rfl, h.ky.cell 1 rfl, h.kl.cell 0 rfl, h.kl.cell 1 rfl⟩
theorem ltF_cl (b : Nat) (f : Bool) (hb : b < 256) : ltF (clP b f) = some (b, f && smB b) := by
  refine ltF_is ⟨hb, fun h => ?_⟩ ((eqC_iff _ _).2 fun x _ => ?_)
  · simp only [Bool.and_eq_true] at h
    exact h.2
  · unfold clP
    cases f <;> simp
set_option maxRecDepth 10000 in
set_option maxHeartbeats 4000000 in
theorem letters_walk {P : Nat → Bool} {a b c d : Nat} (h4 : C4 P a b c d) (lb : Nat) (lf : Bool) (x : Nat) (w : World) (hlb : lb < 256) (hx : x < 256) (hT : Tab w) : Calls Tryd.prog 3 #[.agg #[.int .u64 (a : Nat), .int .u64 (b : Nat), .int .u64 (c : Nat), .int .u64 (d : Nat)], .agg #[.int .u8 (lb : Nat), .bool lf], .int .u8 (x : Nat)] w (fun e w' => e = .returned (.bool true) ∧ Below w.heap.size w w') := by
  have hB := (below1 w (.cells #[.int .u64 (a : Nat), .int .u64 (b : Nat), .int .u64 (c : Nat), .int .u64 (d : Nat)] 24)).alloc (by simp) (.cells #[.int .u8 (lb : Nat), .bool lf] 26)
  have X0 := (Bx.new w (.int .u64 (a : Nat)) (.int .u64 (b : Nat)) (.int .u64 (c : Nat)) (.int .u64 (d : Nat))).alloc (.cells #[.int .u8 (lb : Nat), .bool lf] 26)
  have kl0 : Cl ((w.alloc (.cells #[.int .u64 (a : Nat), .int .u64 (b : Nat), .int .u64 (c : Nat), .int .u64 (d : Nat)] 24)).alloc (.cells #[.int .u8 (lb : Nat), .bool lf] 26)) (w.heap.size + 1) 26 [.int .u8 (lb : Nat), .bool lf] := by
    have := Cl.new (w.alloc (.cells #[.int .u64 (a : Nat), .int .u64 (b : Nat), .int .u64 (c : Nat), .int .u64 (d : Nat)] 24)) 26 [.int .u8 (lb : Nat), .bool lf]
    simpa only [World.size_alloc] using this
  have H0 := live_any _ (hT.below hB)
  obtain ⟨xb, xf, xk, hv⟩ : ∃ (b : Nat) (f ok : Bool), ltV (ltF P) = .tuple #[.agg #[.int .u8 (b : Nat), .bool f], .bool ok] := by
    cases ltF P with
    | none => exact ⟨0, false, false, rfl⟩
    | some l => exact ⟨l.1, l.2, true, rfl⟩
  have H1 : Hid (∀ W : World, Tab W → Calls Tryd.prog 8 #[.agg #[.int .u64 (a : Nat), .int .u64 (b : Nat), .int .u64 (c : Nat), .int .u64 (d : Nat)]] W (fun e w' => e = .returned (.tuple #[.agg #[.int .u8 (xb : Nat), .bool xf], .bool xk]) ∧ Below W.heap.size W w')) := fun W hW => (letter_any h4 W hW).mono fun e w' h => by
    have := RetLt.is h
    rwa [hv] at this
  have H2 : Hid (∀ W : World, Calls Tryd.prog 9 #[.agg #[.int .u64 (a : Nat), .int .u64 (b : Nat), .int .u64 (c : Nat), .int .u64 (d : Nat)]] W (fun e w' => e = .returned (.tuple #[.agg #[.int .u8 (xb : Nat), .bool xf], .bool xk]) ∧ Below W.heap.size W w')) := fun W => (rletter_any h4 W).mono fun e w' h => by
    have := RetLt.is h
    rwa [hv] at this
  clear hv
  have HTb : Hid (∀ W, Below w.heap.size w W → Tab W) := fun W h => hT.below h
  go_enter Tryd.func3, Tryd.ntmps3
  go_upto_region 3 with (go_at_call 7; refine H0.mono ?_; rintro e w1 ⟨rfl, hb1⟩)
  have X1 := X0.below hb1
  have kl1 := kl0.below hb1
  have hB1 := hB.trans (hb1.mono (by simp; omega))
  clear X0 kl0 hb1 hB H0
  obtain ⟨x0, x1, x2, x3, _⟩ := X1.cells
  go_upto_region 4 with (go_at_call 8; refine (H1.out _ (HTb.out _ hB1)).mono ?_; rintro e w2 ⟨rfl, hb2⟩)
  have X2 := (X1.below hb2).alloc (.cells #[.int .u8 (xb : Nat), .bool xf] 26)
  have kl2 := (kl1.below hb2).alloc (.cells #[.int .u8 (xb : Nat), .bool xf] 26)
  have kx2 := Cl.new w2 26 [.int .u8 (xb : Nat), .bool xf]
  have hB2 := (hB1.trans (hb2.mono hB1.size)).alloc (Nat.le_trans hB1.size hb2.size) (.cells #[.int .u8 (xb : Nat), .bool xf] 26)
  clear X1 kl1 hb2 hB1 x0 x1 x2 x3
  generalize w2.alloc (.cells #[.int .u8 (xb : Nat), .bool xf] 26) = w3 at *
  generalize w2.heap.size = bx at *
  obtain ⟨x0, x1, x2, x3, _⟩ := X2.cells
  go_upto_region 5 with (go_at_call 9; refine (H2.out _).mono ?_; rintro e w4 ⟨rfl, hb4⟩)
  have t : L3 w bx w4.heap.size xb lb xf lf (w4.alloc (.cells #[.int .u8 (xb : Nat), .bool xf] 26)).drew := ⟨(kx2.below hb4).alloc _, Cl.new w4 26 [.int .u8 (xb : Nat), .bool xf], (kl2.below hb4).alloc _, ((hB2.trans (hb4.mono hB2.size)).alloc (Nat.le_trans hB2.size hb4.size) _).drew⟩
  clear X2 kl2 kx2 hb4 hB2 x0 x1 x2 x3
  generalize w4.alloc (.cells #[.int .u8 (xb : Nat), .bool xf] 26) = w5 at *
  generalize w4.heap.size = bY at *
  have hc := t.cells
  have H3 : Hid (∀ W : World, Calls Tryd.prog 10 #[.agg #[.int .u8 (lb : Nat), .bool lf]] W (RetC W (clP lb lf))) := fun W => class_any lb lf W hlb
  have H4 : Hid (∀ W : World, Calls Tryd.prog 11 #[.agg #[.int .u8 (lb : Nat), .bool lf]] W (RetC W (clP lb lf))) := fun W => rclass_any lb lf W hlb
  have H5 : Hid (∀ W : World, Calls Tryd.prog 12 #[.agg #[.int .u8 (lb : Nat), .bool lf], .int .u8 (x : Nat)] W fun e w' => e = .returned (.bool (clP lb lf x)) ∧ Below W.heap.size W w') := fun W => is_any lb x lf W hlb
  have H6 : Hid (∀ W : World, Calls Tryd.prog 13 #[.agg #[.int .u8 (lb : Nat), .bool lf], .int .u8 (x : Nat)] W fun e w' => e = .returned (.bool (clP lb lf x)) ∧ Below W.heap.size W w') := fun W => ris_any lb x lf W hlb hx
  have hne : ∀ W, (Go.binOp BinOp.neq 26 (.agg #[.int .u8 (xb : Nat), .bool xf]) (.agg #[.int .u8 (xb : Nat), .bool xf])).run Tryd.prog W = .ok (.bool false) W := fun W => by
    rw [run_neq26]
    simp
  have hnc := neqC_same
  go_cut [49] from 26 to 49 (fun v wx => v = .bool false ∧ L3 w bx bY xb lb xf lf wx)
  case first =>
    go_region_held3 (fun w' => w'.cell? ⟨bx, 0, none⟩ = some (.int .u8 (xb : Nat)) ∧ w'.cell? ⟨bx, 1, none⟩ = some (.bool xf) ∧ w'.cell? ⟨bY, 0, none⟩ = some (.int .u8 (xb : Nat)) ∧ w'.cell? ⟨bY, 1, none⟩ = some (.bool xf) ∧ w'.cell? ⟨w.heap.size + 1, 0, none⟩ = some (.int .u8 (lb : Nat)) ∧ w'.cell? ⟨w.heap.size + 1, 1, none⟩ = some (.bool lf)) (exact hc)
      (first
        | (go_at_call 10; refine (H3.out _).mono ?_; rintro en v1 ⟨⟨p, q, r, s, rfl, k1⟩, qb⟩; replace t := t.next qb; clear qb hc; have hc := t.cells)
        | (go_at_call 11; refine (H4.out _).mono ?_; rintro en v2 ⟨⟨p', q', r', s', rfl, k2⟩, qb⟩; obtain ⟨rfl, rfl, rfl, rfl⟩ := k1.uniq k2; clear k2; replace t := t.next qb; clear qb hc; have hc := t.cells)
        | (go_at_call 12; refine (H5.out _).mono ?_; rintro en v3 ⟨rfl, qb⟩; replace t := t.next qb; clear qb hc; have hc := t.cells)
        | (go_at_call 13; refine (H6.out _).mono ?_; rintro en v4 ⟨rfl, qb⟩; replace t := t.next qb; clear qb hc; have hc := t.cells))
    all_goals go_wp2_with fail
    all_goals go_meet
    all_goals exact ⟨rfl, t⟩
  case rest =>
    obtain ⟨rfl, t9⟩ := hcut
    have H7 : Hid (∀ (p q r s : Nat) (W : World), C4 (clP lb lf) p q r s → Tab W → Calls Tryd.prog 8 #[.agg #[.int .u64 (p : Nat), .int .u64 (q : Nat), .int .u64 (r : Nat), .int .u64 (s : Nat)]] W (fun e w' => e = .returned (.tuple #[.agg #[.int .u8 (lb : Nat), .bool (lf && smB lb)], .bool true]) ∧ Below W.heap.size W w')) := fun p q r s W hC hW => (letter_any hC W hW).mono fun e w' h => by
      have := RetLt.is h
      rwa [ltF_cl lb lf hlb] at this
    have e0 := t9.kl.cell 0 rfl
    have e1 := t9.kl.cell 1 rfl
    have hB9 := t9.bel
    have kl9 := t9.kl
    clear t9 t hc H1 H2 H4 H5 H6 hne hnc
    go_upto_region 8 with (first | (go_at_call 8; refine (H7.out _ _ _ _ _ k1 (HTb.out _ (hB9.trans (hbA.mono hB9.size)))).mono ?_; rintro en wB ⟨rfl, hbB⟩) | (go_at_call 10; refine (H3.out _).mono ?_; rintro en wA ⟨⟨p, q, r, s, rfl, k1⟩, hbA⟩))
    have klB := ((kl9.below hbA).below hbB).alloc (.cells #[.int .u8 (lb : Nat), .bool (lf && smB lb)] 26)
    have kzB := Cl.new wB 26 [.int .u8 (lb : Nat), .bool (lf && smB lb)]
    have hBB := hB9.trans (hbA.mono hB9.size)
    have hBC := (hBB.trans (hbB.mono hBB.size)).alloc (Nat.le_trans hBB.size hbB.size) (.cells #[.int .u8 (lb : Nat), .bool (lf && smB lb)] 26)
    have heq : ∀ W, (Go.binOp BinOp.eql 26 (.agg #[.int .u8 (lb : Nat), .bool (lf && smB lb)]) (.agg #[.int .u8 (lb : Nat), .bool lf])).run Tryd.prog W = .ok (.bool ((lf && smB lb) == lf)) W := fun W => by
      rw [run_eql26]
      simp
    clear kl9 hbA hbB k1 hB9 hBB H3 H7 e0 e1
    generalize hZ : (lf && smB lb) = zf at *
    generalize wB.alloc (.cells #[.int .u8 (lb : Nat), .bool zf] 26) = w9 at *
    generalize wB.heap.size = bz at *
    have l0 := klB.cell 0 rfl
    have l1 := klB.cell 1 rfl
    have z0 := kzB.cell 0 rfl
    have z1 := kzB.cell 1 rfl
    have HB : Hid _ := hBC
    clear hBC klB kzB
    cases hs : smB lb with
    | true =>
      obtain ⟨s1, s2⟩ := smB_le hs
      have i1 : (lb : Int) ≥ 97 := by omega
      have i2 : (lb : Int) ≤ 122 := by omega
      rw [hs, Bool.and_true] at hZ
      subst hZ
      have hbb : (lf == lf) = true := by simp
      rw [hbb] at heq
      clear hs hbb s1 s2
      cases lf
      all_goals
        go_wp2_with fail
        go_quiet (fail)
        go_wp2
        go_ret
        exact ⟨rfl, below_drewN HB.out _⟩
    | false =>
      rw [hs, Bool.and_false] at hZ
      subst hZ
      by_cases s1 : 97 ≤ lb
      · have s2 : ¬ lb ≤ 122 := fun h => by simp [smB, s1, h] at hs
        have i1 : (lb : Int) ≥ 97 := by omega
        have i2 : ¬ (lb : Int) ≤ 122 := by omega
        clear hs s1 s2
        cases lf
        all_goals
          go_wp2_with fail
          go_quiet (fail)
          go_wp2
          go_ret
          exact ⟨rfl, below_drewN HB.out _⟩
      · have i1 : ¬ (lb : Int) ≥ 97 := by omega
        clear hs s1
        cases lf
        all_goals
          go_wp2_with fail
          go_quiet (fail)
          go_wp2
          go_ret
          exact ⟨rfl, below_drewN HB.out _⟩
end Go.Proofs.YthbmfnibgjlkhaaDoor
