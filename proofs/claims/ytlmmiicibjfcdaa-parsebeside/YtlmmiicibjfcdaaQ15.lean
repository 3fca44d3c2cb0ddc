/- parse: Leaf: the walk. -/
import Derived.Deep.RegionLaw
import Derived.Test.YtlmmiicibjfcdaaQ14
namespace Go.Proofs.Ytlmmiicibjfcdaa
open Go.RowKit
/-- A node put into its cells. -/
def put10 (w : World) (b : Nat) (x0 x1 x2 x3 x4 x5 x6 x7 x8 x9 : Value) : World := (((((((((w.setCell ⟨b, 0, none⟩ x0).setCell ⟨b, 1, none⟩ x1).setCell ⟨b, 2, none⟩ x2).setCell ⟨b, 3, none⟩ x3).setCell ⟨b, 4, none⟩ x4).setCell ⟨b, 5, none⟩ x5).setCell ⟨b, 6, none⟩ x6).setCell ⟨b, 7, none⟩ x7).setCell ⟨b, 8, none⟩ x8).setCell ⟨b, 9, none⟩ x9
section
variable {w w' : World} {b : Nat} {t : TypeId}
theorem Cl.ten {x0 x1 x2 x3 x4 x5 x6 x7 x8 x9 : Value} (h : Cl w b t [x0, x1, x2, x3, x4, x5, x6, x7, x8, x9]) : w.cell? ⟨b, 0, none⟩ = some x0 ∧ w.cell? ⟨b, 1, none⟩ = some x1 ∧ w.cell? ⟨b, 2, none⟩ = some x2 ∧ w.cell? ⟨b, 3, none⟩ = some x3 ∧ w.cell? ⟨b, 4, none⟩ = some x4 ∧ w.cell? ⟨b, 5, none⟩ = some x5 ∧ w.cell? ⟨b, 6, none⟩ = some x6 ∧ w.cell? ⟨b, 7, none⟩ = some x7 ∧ w.cell? ⟨b, 8, none⟩ = some x8 ∧ w.cell? ⟨b, 9, none⟩ = some x9 ∧ w.frozen? ⟨b, 0, none⟩ = false ∧ w.frozen? ⟨b, 1, none⟩ = false ∧ w.frozen? ⟨b, 2, none⟩ = false ∧ w.frozen? ⟨b, 3, none⟩ = false ∧ w.frozen? ⟨b, 4, none⟩ = false ∧ w.frozen? ⟨b, 5, none⟩ = false ∧ w.frozen? ⟨b, 6, none⟩ = false ∧ w.frozen? ⟨b, 7, none⟩ = false ∧ w.frozen? ⟨b, 8, none⟩ = false ∧ w.frozen? ⟨b, 9, none⟩ = false :=
  ⟨h.cell 0 rfl, h.cell 1 rfl, h.cell 2 rfl, h.cell 3 rfl, h.cell 4 rfl, h.cell 5 rfl, h.cell 6 rfl, h.cell 7 rfl, h.cell 8 rfl, h.cell 9 rfl, h.frozen 0, h.frozen 1, h.frozen 2, h.frozen 3, h.frozen 4, h.frozen 5, h.frozen 6, h.frozen 7, h.frozen 8, h.frozen 9⟩
theorem Cl.put10 {y0 y1 y2 y3 y4 y5 y6 y7 y8 y9 : Value} (h : Cl w b t [y0, y1, y2, y3, y4, y5, y6, y7, y8, y9]) (x0 x1 x2 x3 x4 x5 x6 x7 x8 x9 : Value) : Cl (Ytlmmiicibjfcdaa.put10 w b x0 x1 x2 x3 x4 x5 x6 x7 x8 x9) b t [x0, x1, x2, x3, x4, x5, x6, x7, x8, x9] := (((((((((h.set 0 x0).set 1 x1).set 2 x2).set 3 x3).set 4 x4).set 5 x5).set 6 x6).set 7 x7).set 8 x8).set 9 x9
theorem below_put10 {B : Nat} (h : Below B w w') (hb : B ≤ b) (x0 x1 x2 x3 x4 x5 x6 x7 x8 x9 : Value) : Below B w (Ytlmmiicibjfcdaa.put10 w' b x0 x1 x2 x3 x4 x5 x6 x7 x8 x9) := (((((((((h.setCell (p := ⟨b, 0, none⟩) hb x0).setCell (p := ⟨b, 1, none⟩) hb x1).setCell (p := ⟨b, 2, none⟩) hb x2).setCell (p := ⟨b, 3, none⟩) hb x3).setCell (p := ⟨b, 4, none⟩) hb x4).setCell (p := ⟨b, 5, none⟩) hb x5).setCell (p := ⟨b, 6, none⟩) hb x6).setCell (p := ⟨b, 7, none⟩) hb x7).setCell (p := ⟨b, 8, none⟩) hb x8).setCell (p := ⟨b, 9, none⟩) hb x9
end
/-- The node of a class. -/
def clN (Q : Nat → Bool) : Nd := ⟨2, (wds Q 0 : Nat), (wds Q 1 : Nat), (wds Q 2 : Nat), (wds Q 3 : Nat), 0, 0, 0, 0, false⟩
def ndK (k : Int) : Nd := ⟨k, 0, 0, 0, 0, 0, 0, 0, 0, false⟩
/-- What Leaf says. -/
def leafS (fl : Fg) (k : Int) (b : Nat) (P : Nat → Bool) (nt : Bool) : Nd × Bool :=
  if k = 1 then (clN (csP fl (ofN (fun _ => b) 1)), true)
  else if k = 2 then (clN (if nt then fun x => !csP fl P x else csP fl P), true)
  else if k = 3 then (clN (dotP fl), true)
  else if k = 8 then (ndK 6, true)
  else if k = 9 then (ndK 7, true)
  else (ndK 0, false)
def RetLf (w : World) (x : Nd × Bool) (e : Ending) (w' : World) : Prop := e = .returned (.tuple #[ndV x.1, .bool x.2]) ∧ Below w.heap.size w w'
theorem clN_of {Q : Nat → Bool} {a b c d : Nat} (h : C4 Q a b c d) : ndV (clN Q) = .agg #[.int .i64 2, .int .u64 (a : Nat), .int .u64 (b : Nat), .int .u64 (c : Nat), .int .u64 (d : Nat), .int .i64 0, .int .i64 0, .int .i64 0, .int .i64 0, .bool false] := by
  obtain ⟨rfl, rfl, rfl, rfl⟩ := h.uniq (wds_is Q)
  rfl
theorem Cl.others4c {w : World} {b k : Nat} {t : TypeId} {vs : List Value} (h : Cl w b t vs) (hk : k ≠ b) (x0 x1 x2 x3 : Value) : Cl (put4 w k x0 x1 x2 x3) b t vs := (((h.other hk 0 x0).other hk 1 x1).other hk 2 x2).other hk 3 x3
section
variable (fl : Fg) (b a0 a1 a2 a3 : Nat) (nt : Bool) (l m : Int) (lz : Bool) (t : Int) (w : World)
theorem leaf_start (k : Int) : Below w.heap.size w (((w.alloc (.cells #[.int .i64 k, .int .u8 (b : Nat), .int .u64 (a0 : Nat), .int .u64 (a1 : Nat), .int .u64 (a2 : Nat), .int .u64 (a3 : Nat), .bool nt, .int .i64 l, .int .i64 m, .bool lz, .int .i64 t] 42)).alloc (.cells #[.bool fl.c, .bool fl.d, .bool fl.m, .bool fl.o, .bool fl.l] 23)).alloc (.cells #[.int .i64 0, .int .u64 0, .int .u64 0, .int .u64 0, .int .u64 0, .int .i64 0, .int .i64 0, .int .i64 0, .int .i64 0, .bool false] 44)) ∧ Cl (((w.alloc (.cells #[.int .i64 k, .int .u8 (b : Nat), .int .u64 (a0 : Nat), .int .u64 (a1 : Nat), .int .u64 (a2 : Nat), .int .u64 (a3 : Nat), .bool nt, .int .i64 l, .int .i64 m, .bool lz, .int .i64 t] 42)).alloc (.cells #[.bool fl.c, .bool fl.d, .bool fl.m, .bool fl.o, .bool fl.l] 23)).alloc (.cells #[.int .i64 0, .int .u64 0, .int .u64 0, .int .u64 0, .int .u64 0, .int .i64 0, .int .i64 0, .int .i64 0, .int .i64 0, .bool false] 44)) w.heap.size 42 [.int .i64 k, .int .u8 (b : Nat), .int .u64 (a0 : Nat), .int .u64 (a1 : Nat), .int .u64 (a2 : Nat), .int .u64 (a3 : Nat), .bool nt, .int .i64 l, .int .i64 m, .bool lz, .int .i64 t] ∧ Cl (((w.alloc (.cells #[.int .i64 k, .int .u8 (b : Nat), .int .u64 (a0 : Nat), .int .u64 (a1 : Nat), .int .u64 (a2 : Nat), .int .u64 (a3 : Nat), .bool nt, .int .i64 l, .int .i64 m, .bool lz, .int .i64 t] 42)).alloc (.cells #[.bool fl.c, .bool fl.d, .bool fl.m, .bool fl.o, .bool fl.l] 23)).alloc (.cells #[.int .i64 0, .int .u64 0, .int .u64 0, .int .u64 0, .int .u64 0, .int .i64 0, .int .i64 0, .int .i64 0, .int .i64 0, .bool false] 44)) (w.heap.size + 1) 23 [.bool fl.c, .bool fl.d, .bool fl.m, .bool fl.o, .bool fl.l] ∧ Cl (((w.alloc (.cells #[.int .i64 k, .int .u8 (b : Nat), .int .u64 (a0 : Nat), .int .u64 (a1 : Nat), .int .u64 (a2 : Nat), .int .u64 (a3 : Nat), .bool nt, .int .i64 l, .int .i64 m, .bool lz, .int .i64 t] 42)).alloc (.cells #[.bool fl.c, .bool fl.d, .bool fl.m, .bool fl.o, .bool fl.l] 23)).alloc (.cells #[.int .i64 0, .int .u64 0, .int .u64 0, .int .u64 0, .int .u64 0, .int .i64 0, .int .i64 0, .int .i64 0, .int .i64 0, .bool false] 44)) (w.heap.size + 1 + 1) 44 [.int .i64 0, .int .u64 0, .int .u64 0, .int .u64 0, .int .u64 0, .int .i64 0, .int .i64 0, .int .i64 0, .int .i64 0, .bool false] := by
  refine ⟨below3 w _ _ _, ((Cl.new w 42 [.int .i64 k, .int .u8 (b : Nat), .int .u64 (a0 : Nat), .int .u64 (a1 : Nat), .int .u64 (a2 : Nat), .int .u64 (a3 : Nat), .bool nt, .int .i64 l, .int .i64 m, .bool lz, .int .i64 t]).alloc _).alloc _, ?_, ?_⟩
  · have := (Cl.new (w.alloc (.cells #[.int .i64 k, .int .u8 (b : Nat), .int .u64 (a0 : Nat), .int .u64 (a1 : Nat), .int .u64 (a2 : Nat), .int .u64 (a3 : Nat), .bool nt, .int .i64 l, .int .i64 m, .bool lz, .int .i64 t] 42)) 23 [.bool fl.c, .bool fl.d, .bool fl.m, .bool fl.o, .bool fl.l]).alloc (.cells #[.int .i64 0, .int .u64 0, .int .u64 0, .int .u64 0, .int .u64 0, .int .i64 0, .int .i64 0, .int .i64 0, .int .i64 0, .bool false] 44)
    simpa using this
  · have := Cl.new ((w.alloc (.cells #[.int .i64 k, .int .u8 (b : Nat), .int .u64 (a0 : Nat), .int .u64 (a1 : Nat), .int .u64 (a2 : Nat), .int .u64 (a3 : Nat), .bool nt, .int .i64 l, .int .i64 m, .bool lz, .int .i64 t] 42)).alloc (.cells #[.bool fl.c, .bool fl.d, .bool fl.m, .bool fl.o, .bool fl.l] 23)) 44 [.int .i64 0, .int .u64 0, .int .u64 0, .int .u64 0, .int .u64 0, .int .i64 0, .int .i64 0, .int .i64 0, .int .i64 0, .bool false]
    simpa using this
set_option maxRecDepth 10000 in
set_option maxHeartbeats 2000000 in
theorem leaf_8 : Calls Try.prog 15 #[tokI 8 b a0 a1 a2 a3 nt l m lz t, fgV fl] w (RetLf w (ndK 6, true)) := by
  obtain ⟨hB, kT, kF, kN9⟩ := leaf_start fl b a0 a1 a2 a3 nt l m lz t w 8
  unfold tokI fgV
  go_enter Try.func15, Try.ntmps15
  go_wp2
  exact bodyPost_ret (v := .tuple #[.agg #[.int .i64 6, .int .u64 0, .int .u64 0, .int .u64 0, .int .u64 0, .int .i64 0, .int .i64 0, .int .i64 0, .int .i64 0, .bool false], .bool true]) (by simp [results, Try.results15, go_sem]) rfl ⟨rfl, below3 _ _ _ _⟩
set_option maxRecDepth 10000 in
set_option maxHeartbeats 2000000 in
theorem leaf_9 : Calls Try.prog 15 #[tokI 9 b a0 a1 a2 a3 nt l m lz t, fgV fl] w (RetLf w (ndK 7, true)) := by
  obtain ⟨hB, kT, kF, kN9⟩ := leaf_start fl b a0 a1 a2 a3 nt l m lz t w 9
  unfold tokI fgV
  go_enter Try.func15, Try.ntmps15
  go_wp2
  exact bodyPost_ret (v := .tuple #[.agg #[.int .i64 7, .int .u64 0, .int .u64 0, .int .u64 0, .int .u64 0, .int .i64 0, .int .i64 0, .int .i64 0, .int .i64 0, .bool false], .bool true]) (by simp [results, Try.results15, go_sem]) rfl ⟨rfl, below3 _ _ _ _⟩
set_option maxRecDepth 10000 in
set_option maxHeartbeats 2000000 in
theorem leaf_0 (k : Int) (h1 : (k == 1) = false) (h2 : (k == 2) = false) (h3 : (k == 3) = false) (h8 : (k == 8) = false) (h9 : (k == 9) = false) : Calls Try.prog 15 #[tokI k b a0 a1 a2 a3 nt l m lz t, fgV fl] w (RetLf w (ndK 0, false)) := by
  unfold tokI fgV
  go_enter Try.func15, Try.ntmps15
  go_wp2
  exact bodyPost_ret (v := .tuple #[.agg #[.int .i64 0, .int .u64 0, .int .u64 0, .int .u64 0, .int .u64 0, .int .i64 0, .int .i64 0, .int .i64 0, .int .i64 0, .bool false], .bool false]) (by simp [results, Try.results15, go_sem]) rfl ⟨rfl, below3 _ _ _ _⟩
set_option maxRecDepth 10000 in
set_option maxHeartbeats 2000000 in
theorem leaf_3 : Calls Try.prog 15 #[tokI 3 b a0 a1 a2 a3 nt l m lz t, fgV fl] w (RetLf w (clN (dotP fl), true)) := by
  obtain ⟨hB, kT, kF, kN⟩ := leaf_start fl b a0 a1 a2 a3 nt l m lz t w 3
  have HD := dot_c fl (((w.alloc (.cells #[.int .i64 3, .int .u8 (b : Nat), .int .u64 (a0 : Nat), .int .u64 (a1 : Nat), .int .u64 (a2 : Nat), .int .u64 (a3 : Nat), .bool nt, .int .i64 l, .int .i64 m, .bool lz, .int .i64 t] 42)).alloc (.cells #[.bool fl.c, .bool fl.d, .bool fl.m, .bool fl.o, .bool fl.l] 23)).alloc (.cells #[.int .i64 0, .int .u64 0, .int .u64 0, .int .u64 0, .int .u64 0, .int .i64 0, .int .i64 0, .int .i64 0, .int .i64 0, .bool false] 44))
  unfold tokI
  unfold fgV at *
  clear kT kF
  go_enter Try.func15, Try.ntmps15
  go_wp2_with fail
  refine HD.mono ?_
  rintro e w1 ⟨⟨q0, q1, q2, q3, rfl, h4⟩, hb1⟩
  have kN9 := kN.below hb1
  have hB1 := hB.trans (hb1.mono hB.size)
  obtain ⟨y0, y1, y2, y3, y4, y5, y6, y7, y8, y9, v0, v1, v2, v3, v4, v5, v6, v7, v8, v9⟩ := kN9.ten
  obtain ⟨z0, z1, z2, z3, z4, z5, z6, z7, z8, z9, _⟩ := (kN9.put10 (.int .i64 2) (.int .u64 (q0 : Nat)) (.int .u64 (q1 : Nat)) (.int .u64 (q2 : Nat)) (.int .u64 (q3 : Nat)) (.int .i64 0) (.int .i64 0) (.int .i64 0) (.int .i64 0) (.bool false)).ten
  have HB : Hid (Below w.heap.size w (Ytlmmiicibjfcdaa.put10 w1 (w.heap.size + 1 + 1) (.int .i64 2) (.int .u64 (q0 : Nat)) (.int .u64 (q1 : Nat)) (.int .u64 (q2 : Nat)) (.int .u64 (q3 : Nat)) (.int .i64 0) (.int .i64 0) (.int .i64 0) (.int .i64 0) (.bool false))) := below_put10 hB1 (by omega) _ _ _ _ _ _ _ _ _ _
  clear HD hb1 hB hB1 kN
  go_wp2
  clear y0 y1 y2 y3 y4 y5 y6 y7 y8 y9 v0 v1 v2 v3 v4 v5 v6 v7 v8 v9 kN9
  change bodyPost _ _ _ _ _ (Ytlmmiicibjfcdaa.put10 w1 (w.heap.size + 1 + 1) (.int .i64 2) (.int .u64 (q0 : Nat)) (.int .u64 (q1 : Nat)) (.int .u64 (q2 : Nat)) (.int .u64 (q3 : Nat)) (.int .i64 0) (.int .i64 0) (.int .i64 0) (.int .i64 0) (.bool false))
  generalize Ytlmmiicibjfcdaa.put10 w1 (w.heap.size + 1 + 1) (.int .i64 2) (.int .u64 (q0 : Nat)) (.int .u64 (q1 : Nat)) (.int .u64 (q2 : Nat)) (.int .u64 (q3 : Nat)) (.int .i64 0) (.int .i64 0) (.int .i64 0) (.int .i64 0) (.bool false) = U at *
  exact bodyPost_ret (v := .tuple #[.agg #[.int .i64 2, .int .u64 (q0 : Nat), .int .u64 (q1 : Nat), .int .u64 (q2 : Nat), .int .u64 (q3 : Nat), .int .i64 0, .int .i64 0, .int .i64 0, .int .i64 0, .bool false], .bool true]) (by simp [results, Try.results15, go_sem, z0, z1, z2, z3, z4, z5, z6, z7, z8, z9]) rfl ⟨by rw [clN_of h4], HB.out⟩
set_option maxRecDepth 10000 in
set_option maxHeartbeats 1000000 in
theorem leaf_2f {P : Nat → Bool} (h0 : C4 P a0 a1 a2 a3) : Calls Try.prog 15 #[tokI 2 b a0 a1 a2 a3 false l m lz t, fgV fl] w (RetLf w (clN (csP fl P), true)) := by
  obtain ⟨hB, kT, kF, kN⟩ := leaf_start fl b a0 a1 a2 a3 false l m lz t w 2
  have HC := cased_c h0 fl (((w.alloc (.cells #[.int .i64 2, .int .u8 (b : Nat), .int .u64 (a0 : Nat), .int .u64 (a1 : Nat), .int .u64 (a2 : Nat), .int .u64 (a3 : Nat), .bool false, .int .i64 l, .int .i64 m, .bool lz, .int .i64 t] 42)).alloc (.cells #[.bool fl.c, .bool fl.d, .bool fl.m, .bool fl.o, .bool fl.l] 23)).alloc (.cells #[.int .i64 0, .int .u64 0, .int .u64 0, .int .u64 0, .int .u64 0, .int .i64 0, .int .i64 0, .int .i64 0, .int .i64 0, .bool false] 44))
  unfold tokI
  unfold fgV at *
  go_enter Try.func15, Try.ntmps15
  go_wp2_with fail
  refine HC.mono ?_
  rintro e w1 ⟨⟨q0, q1, q2, q3, rfl, h4⟩, hb1⟩
  have kNA := (kN.below hb1).alloc (.cells #[.int .u64 (q0 : Nat), .int .u64 (q1 : Nat), .int .u64 (q2 : Nat), .int .u64 (q3 : Nat)] 40)
  have t6 := ((kT.below hb1).alloc (.cells #[.int .u64 (q0 : Nat), .int .u64 (q1 : Nat), .int .u64 (q2 : Nat), .int .u64 (q3 : Nat)] 40)).cell 6 rfl
  have hB1 := hB.trans (hb1.mono hB.size)
  have hBA := hB1.trans ((bel1 w1 (.cells #[.int .u64 (q0 : Nat), .int .u64 (q1 : Nat), .int .u64 (q2 : Nat), .int .u64 (q3 : Nat)] 40)).mono hB1.size)
  have hx0 := Bx.new w1 (.int .u64 (q0 : Nat)) (.int .u64 (q1 : Nat)) (.int .u64 (q2 : Nat)) (.int .u64 (q3 : Nat))
  have hlt := (kN.below hb1).lt
  have hsz := hB1.size
  clear HC kT kF kN hb1 hB hB1
  go_upto_region 6 with fail
  generalize w1.alloc (.cells #[.int .u64 (q0 : Nat), .int .u64 (q1 : Nat), .int .u64 (q2 : Nat), .int .u64 (q3 : Nat)] 40) = V1 at *
  generalize w1.heap.size = bq at *
  obtain ⟨g0, g1, g2, g3, e0, e1, e2, e3⟩ := hx0.cells
  have kN9 := kNA
  obtain ⟨y0, y1, y2, y3, y4, y5, y6, y7, y8, y9, v0, v1, v2, v3, v4, v5, v6, v7, v8, v9⟩ := kN9.ten
  obtain ⟨z0, z1, z2, z3, z4, z5, z6, z7, z8, z9, _⟩ := (kN9.put10 (.int .i64 2) (.int .u64 (q0 : Nat)) (.int .u64 (q1 : Nat)) (.int .u64 (q2 : Nat)) (.int .u64 (q3 : Nat)) (.int .i64 0) (.int .i64 0) (.int .i64 0) (.int .i64 0) (.bool false)).ten
  have HB : Hid (Below w.heap.size w (Ytlmmiicibjfcdaa.put10 V1 (w.heap.size + 1 + 1) (.int .i64 2) (.int .u64 (q0 : Nat)) (.int .u64 (q1 : Nat)) (.int .u64 (q2 : Nat)) (.int .u64 (q3 : Nat)) (.int .i64 0) (.int .i64 0) (.int .i64 0) (.int .i64 0) (.bool false))) := below_put10 hBA (by omega) _ _ _ _ _ _ _ _ _ _
  clear hBA kNA hx0
  go_wp2
  clear y0 y1 y2 y3 y4 y5 y6 y7 y8 y9 v0 v1 v2 v3 v4 v5 v6 v7 v8 v9 kN9
  change bodyPost _ _ _ _ _ (Ytlmmiicibjfcdaa.put10 V1 (w.heap.size + 1 + 1) (.int .i64 2) (.int .u64 (q0 : Nat)) (.int .u64 (q1 : Nat)) (.int .u64 (q2 : Nat)) (.int .u64 (q3 : Nat)) (.int .i64 0) (.int .i64 0) (.int .i64 0) (.int .i64 0) (.bool false))
  generalize Ytlmmiicibjfcdaa.put10 V1 (w.heap.size + 1 + 1) (.int .i64 2) (.int .u64 (q0 : Nat)) (.int .u64 (q1 : Nat)) (.int .u64 (q2 : Nat)) (.int .u64 (q3 : Nat)) (.int .i64 0) (.int .i64 0) (.int .i64 0) (.int .i64 0) (.bool false) = U at *
  exact bodyPost_ret (v := .tuple #[.agg #[.int .i64 2, .int .u64 (q0 : Nat), .int .u64 (q1 : Nat), .int .u64 (q2 : Nat), .int .u64 (q3 : Nat), .int .i64 0, .int .i64 0, .int .i64 0, .int .i64 0, .bool false], .bool true]) (by simp [results, Try.results15, go_sem, z0, z1, z2, z3, z4, z5, z6, z7, z8, z9]) rfl ⟨by rw [clN_of h4], HB.out⟩
set_option maxRecDepth 10000 in
set_option maxHeartbeats 1000000 in
theorem leaf_2t {P : Nat → Bool} (h0 : C4 P a0 a1 a2 a3) : Calls Try.prog 15 #[tokI 2 b a0 a1 a2 a3 true l m lz t, fgV fl] w (RetLf w (clN (fun x => !csP fl P x), true)) := by
  obtain ⟨hB, kT, kF, kN⟩ := leaf_start fl b a0 a1 a2 a3 true l m lz t w 2
  have HC := cased_c h0 fl (((w.alloc (.cells #[.int .i64 2, .int .u8 (b : Nat), .int .u64 (a0 : Nat), .int .u64 (a1 : Nat), .int .u64 (a2 : Nat), .int .u64 (a3 : Nat), .bool true, .int .i64 l, .int .i64 m, .bool lz, .int .i64 t] 42)).alloc (.cells #[.bool fl.c, .bool fl.d, .bool fl.m, .bool fl.o, .bool fl.l] 23)).alloc (.cells #[.int .i64 0, .int .u64 0, .int .u64 0, .int .u64 0, .int .u64 0, .int .i64 0, .int .i64 0, .int .i64 0, .int .i64 0, .bool false] 44))
  unfold tokI
  unfold fgV at *
  go_enter Try.func15, Try.ntmps15
  go_wp2_with fail
  refine HC.mono ?_
  rintro e w1 ⟨⟨q0, q1, q2, q3, rfl, h4⟩, hb1⟩
  have kNA := (kN.below hb1).alloc (.cells #[.int .u64 (q0 : Nat), .int .u64 (q1 : Nat), .int .u64 (q2 : Nat), .int .u64 (q3 : Nat)] 40)
  have t6 := ((kT.below hb1).alloc (.cells #[.int .u64 (q0 : Nat), .int .u64 (q1 : Nat), .int .u64 (q2 : Nat), .int .u64 (q3 : Nat)] 40)).cell 6 rfl
  have hB1 := hB.trans (hb1.mono hB.size)
  have hBA := hB1.trans ((bel1 w1 (.cells #[.int .u64 (q0 : Nat), .int .u64 (q1 : Nat), .int .u64 (q2 : Nat), .int .u64 (q3 : Nat)] 40)).mono hB1.size)
  have hx0 := Bx.new w1 (.int .u64 (q0 : Nat)) (.int .u64 (q1 : Nat)) (.int .u64 (q2 : Nat)) (.int .u64 (q3 : Nat))
  have hlt := (kN.below hb1).lt
  have hsz := hB1.size
  clear HC kT kF kN hb1 hB hB1
  go_upto_region 6 with fail
  generalize w1.alloc (.cells #[.int .u64 (q0 : Nat), .int .u64 (q1 : Nat), .int .u64 (q2 : Nat), .int .u64 (q3 : Nat)] 40) = V1 at *
  generalize w1.heap.size = bq at *
  obtain ⟨g0, g1, g2, g3, e0, e1, e2, e3⟩ := hx0.cells
  have HN := not_c h4 V1
  go_wp2_with fail
  refine HN.mono ?_
  rintro e w2 ⟨⟨r0, r1, r2, r3, rfl, h5⟩, hb2⟩
  have hx := hx0.below hb2
  have kN2 := kNA.below hb2
  have hB2 := hBA.trans (hb2.mono hBA.size)
  clear g0 g1 g2 g3 e0 e1 e2 e3 t6
  obtain ⟨g0, g1, g2, g3, e0, e1, e2, e3⟩ := hx.cells
  have hx9 := hx.set (.int .u64 (r0 : Nat)) (.int .u64 (r1 : Nat)) (.int .u64 (r2 : Nat)) (.int .u64 (r3 : Nat))
  have kN9 := kN2.others4c (k := bq) (by omega) (.int .u64 (r0 : Nat)) (.int .u64 (r1 : Nat)) (.int .u64 (r2 : Nat)) (.int .u64 (r3 : Nat))
  have hB3 := below_put4 hB2 (show w.heap.size ≤ bq from hsz) (.int .u64 (r0 : Nat)) (.int .u64 (r1 : Nat)) (.int .u64 (r2 : Nat)) (.int .u64 (r3 : Nat))
  clear HN hb2 hBA hB2 kNA kN2 hx0 hx
  go_upto_region 8 with fail
  change Code.wp _ _ _ _ (put4 w2 bq (.int .u64 (r0 : Nat)) (.int .u64 (r1 : Nat)) (.int .u64 (r2 : Nat)) (.int .u64 (r3 : Nat)))
  generalize put4 w2 bq (.int .u64 (r0 : Nat)) (.int .u64 (r1 : Nat)) (.int .u64 (r2 : Nat)) (.int .u64 (r3 : Nat)) = V2 at *
  clear g0 g1 g2 g3 e0 e1 e2 e3
  obtain ⟨g0, g1, g2, g3, e0, e1, e2, e3⟩ := hx9.cells
  obtain ⟨y0, y1, y2, y3, y4, y5, y6, y7, y8, y9, v0, v1, v2, v3, v4, v5, v6, v7, v8, v9⟩ := kN9.ten
  obtain ⟨z0, z1, z2, z3, z4, z5, z6, z7, z8, z9, _⟩ := (kN9.put10 (.int .i64 2) (.int .u64 (r0 : Nat)) (.int .u64 (r1 : Nat)) (.int .u64 (r2 : Nat)) (.int .u64 (r3 : Nat)) (.int .i64 0) (.int .i64 0) (.int .i64 0) (.int .i64 0) (.bool false)).ten
  have HB : Hid (Below w.heap.size w (Ytlmmiicibjfcdaa.put10 V2 (w.heap.size + 1 + 1) (.int .i64 2) (.int .u64 (r0 : Nat)) (.int .u64 (r1 : Nat)) (.int .u64 (r2 : Nat)) (.int .u64 (r3 : Nat)) (.int .i64 0) (.int .i64 0) (.int .i64 0) (.int .i64 0) (.bool false))) := below_put10 hB3 (by omega) _ _ _ _ _ _ _ _ _ _
  clear hB3 hx9
  go_wp2
  clear y0 y1 y2 y3 y4 y5 y6 y7 y8 y9 v0 v1 v2 v3 v4 v5 v6 v7 v8 v9 kN9
  change bodyPost _ _ _ _ _ (Ytlmmiicibjfcdaa.put10 V2 (w.heap.size + 1 + 1) (.int .i64 2) (.int .u64 (r0 : Nat)) (.int .u64 (r1 : Nat)) (.int .u64 (r2 : Nat)) (.int .u64 (r3 : Nat)) (.int .i64 0) (.int .i64 0) (.int .i64 0) (.int .i64 0) (.bool false))
  generalize Ytlmmiicibjfcdaa.put10 V2 (w.heap.size + 1 + 1) (.int .i64 2) (.int .u64 (r0 : Nat)) (.int .u64 (r1 : Nat)) (.int .u64 (r2 : Nat)) (.int .u64 (r3 : Nat)) (.int .i64 0) (.int .i64 0) (.int .i64 0) (.int .i64 0) (.bool false) = U at *
  exact bodyPost_ret (v := .tuple #[.agg #[.int .i64 2, .int .u64 (r0 : Nat), .int .u64 (r1 : Nat), .int .u64 (r2 : Nat), .int .u64 (r3 : Nat), .int .i64 0, .int .i64 0, .int .i64 0, .int .i64 0, .bool false], .bool true]) (by simp [results, Try.results15, go_sem, z0, z1, z2, z3, z4, z5, z6, z7, z8, z9]) rfl ⟨by rw [clN_of h5], HB.out⟩
set_option maxRecDepth 10000 in
set_option maxHeartbeats 1000000 in
theorem leaf_1 (hb : b < 256) : Calls Try.prog 15 #[tokI 1 b a0 a1 a2 a3 nt l m lz t, fgV fl] w (RetLf w (clN (csP fl (ofN (fun _ => b) 1)), true)) := by
  obtain ⟨hB, kT, kF, kN⟩ := leaf_start fl b a0 a1 a2 a3 nt l m lz t w 1
  unfold tokI
  have hfg : fgV fl = .agg #[.bool fl.c, .bool fl.d, .bool fl.m, .bool fl.o, .bool fl.l] := rfl
  rw [hfg]
  go_enter Try.func15, Try.ntmps15
  go_wp2_with fail
  generalize ((w.alloc (.cells #[.int .i64 1, .int .u8 (b : Nat), .int .u64 (a0 : Nat), .int .u64 (a1 : Nat), .int .u64 (a2 : Nat), .int .u64 (a3 : Nat), .bool nt, .int .i64 l, .int .i64 m, .bool lz, .int .i64 t] 42)).alloc (.cells #[.bool fl.c, .bool fl.d, .bool fl.m, .bool fl.o, .bool fl.l] 23)).alloc (.cells #[.int .i64 0, .int .u64 0, .int .u64 0, .int .u64 0, .int .u64 0, .int .i64 0, .int .i64 0, .int .i64 0, .int .i64 0, .bool false] 44) = V at *
  have HO : Calls Try.prog 28 #[.slice (some ⟨V.drew.heap.size, 0, none⟩) 1 1] (V.drew.alloc (.cells #[.int .u8 (b : Nat)] 5)) _ := of_any _ 1 1 (fun _ => b) _ (rd_one V.drew b hb) (by decide)
  have t1 : V.drew.cell? ⟨w.heap.size, 1, none⟩ = some (.int .u8 (b : Nat)) := kT.cell 1 rfl
  have f0 : V.drew.cell? ⟨w.heap.size + 1, 0, none⟩ = some (.bool fl.c) := kF.cell 0 rfl
  have f1 : V.drew.cell? ⟨w.heap.size + 1, 1, none⟩ = some (.bool fl.d) := kF.cell 1 rfl
  have f2 : V.drew.cell? ⟨w.heap.size + 1, 2, none⟩ = some (.bool fl.m) := kF.cell 2 rfl
  have f3 : V.drew.cell? ⟨w.heap.size + 1, 3, none⟩ = some (.bool fl.o) := kF.cell 3 rfl
  have f4 : V.drew.cell? ⟨w.heap.size + 1, 4, none⟩ = some (.bool fl.l) := kF.cell 4 rfl
  have kFA := kF.alloc (.cells #[.int .u8 (b : Nat)] 5)
  have f0' := kFA.cell 0 rfl
  have f1' := kFA.cell 1 rfl
  have f2' := kFA.cell 2 rfl
  have f3' := kFA.cell 3 rfl
  have f4' := kFA.cell 4 rfl
  have kFD := kF.drew.alloc (.cells #[.int .u8 (b : Nat)] 5)
  have kND := kN.drew.alloc (.cells #[.int .u8 (b : Nat)] 5)
  have hBD : Below w.heap.size w (V.drew.alloc (.cells #[.int .u8 (b : Nat)] 5)) := hB.drew.trans ((bel1 V.drew _).mono hB.drew.size)
  clear kT kF kN hB kFA
  go_region_law
    (first
      | (go_simp; go_at_call 28; refine HO.mono ?_; rintro e w1 ⟨⟨q0, q1, q2, q3, rfl, h4⟩, hb1⟩; have kF1 := kFD.below hb1; have kN1 := kND.below hb1; have hB1 := hBD.trans (hb1.mono hBD.size); have HC := cased_c h4 fl w1; rw [hfg] at HC; have u0 := kF1.cell 0 rfl; have u1 := kF1.cell 1 rfl; have u2 := kF1.cell 2 rfl; have u3 := kF1.cell 3 rfl; have u4 := kF1.cell 4 rfl; clear hb1 kF1)
      | (go_simp; go_at_call 27; refine HC.mono ?_; rintro e w2 ⟨⟨r0, r1, r2, r3, rfl, h5⟩, hb2⟩; have kN9 := kN1.below hb2; have hB2 := hB1.trans (hb2.mono hB1.size); obtain ⟨y0, y1, y2, y3, y4, y5, y6, y7, y8, y9, v0, v1, v2, v3, v4, v5, v6, v7, v8, v9⟩ := kN9.ten; clear hb2))
  all_goals
    obtain ⟨z0, z1, z2, z3, z4, z5, z6, z7, z8, z9, _⟩ := (kN9.put10 (.int .i64 2) (.int .u64 (r0 : Nat)) (.int .u64 (r1 : Nat)) (.int .u64 (r2 : Nat)) (.int .u64 (r3 : Nat)) (.int .i64 0) (.int .i64 0) (.int .i64 0) (.int .i64 0) (.bool false)).ten
    have HB : Hid (Below w.heap.size w (Ytlmmiicibjfcdaa.put10 w2 (w.heap.size + 1 + 1) (.int .i64 2) (.int .u64 (r0 : Nat)) (.int .u64 (r1 : Nat)) (.int .u64 (r2 : Nat)) (.int .u64 (r3 : Nat)) (.int .i64 0) (.int .i64 0) (.int .i64 0) (.int .i64 0) (.bool false))) := below_put10 hB2 (by omega) _ _ _ _ _ _ _ _ _ _
    go_wp2
    clear y0 y1 y2 y3 y4 y5 y6 y7 y8 y9 v0 v1 v2 v3 v4 v5 v6 v7 v8 v9 kN9 hB2
    change bodyPost _ _ _ _ _ (Ytlmmiicibjfcdaa.put10 w2 (w.heap.size + 1 + 1) (.int .i64 2) (.int .u64 (r0 : Nat)) (.int .u64 (r1 : Nat)) (.int .u64 (r2 : Nat)) (.int .u64 (r3 : Nat)) (.int .i64 0) (.int .i64 0) (.int .i64 0) (.int .i64 0) (.bool false))
    generalize Ytlmmiicibjfcdaa.put10 w2 (w.heap.size + 1 + 1) (.int .i64 2) (.int .u64 (r0 : Nat)) (.int .u64 (r1 : Nat)) (.int .u64 (r2 : Nat)) (.int .u64 (r3 : Nat)) (.int .i64 0) (.int .i64 0) (.int .i64 0) (.int .i64 0) (.bool false) = U at *
    exact bodyPost_ret (v := .tuple #[.agg #[.int .i64 2, .int .u64 (r0 : Nat), .int .u64 (r1 : Nat), .int .u64 (r2 : Nat), .int .u64 (r3 : Nat), .int .i64 0, .int .i64 0, .int .i64 0, .int .i64 0, .bool false], .bool true]) (by simp [results, Try.results15, go_sem, z0, z1, z2, z3, z4, z5, z6, z7, z8, z9]) rfl ⟨by rw [clN_of h5], HB.out⟩
theorem leaf_any (k : Int) {P : Nat → Bool} (hb : b < 256) (h4 : C4 P a0 a1 a2 a3) : Calls Try.prog 15 #[tokI k b a0 a1 a2 a3 nt l m lz t, fgV fl] w (RetLf w (leafS fl k b P nt)) := by
  unfold leafS
  split
  · rename_i h; subst h; exact leaf_1 fl b a0 a1 a2 a3 nt l m lz t w hb
  rename_i h1
  split
  · rename_i h; subst h
    cases nt with
    | false => exact leaf_2f fl b a0 a1 a2 a3 l m lz t w h4
    | true => exact leaf_2t fl b a0 a1 a2 a3 l m lz t w h4
  rename_i h2
  split
  · rename_i h; subst h; exact leaf_3 fl b a0 a1 a2 a3 nt l m lz t w
  rename_i h3
  split
  · rename_i h; subst h; exact leaf_8 fl b a0 a1 a2 a3 nt l m lz t w
  rename_i h8
  split
  · rename_i h; subst h; exact leaf_9 fl b a0 a1 a2 a3 nt l m lz t w
  rename_i h9
  exact leaf_0 fl b a0 a1 a2 a3 nt l m lz t w k (by simpa using h1) (by simpa using h2) (by simpa using h3) (by simpa using h8) (by simpa using h9)
end
end Go.Proofs.Ytlmmiicibjfcdaa
