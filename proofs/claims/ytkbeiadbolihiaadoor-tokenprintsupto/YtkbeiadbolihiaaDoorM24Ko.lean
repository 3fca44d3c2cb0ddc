/- token: Same, and the reference's: the walks. token: bytesOf: the walk. token: units: the walk where the first unit is bad, or stands alone. token: units: the walks with two units: the second is bad; a range. -/
import Derived.Test.YtkbeiadbolihiaaDoorM10Cx
import Derived.Test.YtkbeiadbolihiaaDoorM18Kj
import Derived.Test.YtkbeiadbolihiaaDoorM20Cw
import Derived.Deep.RegionWith
namespace Go.Proofs.YtkbeiadbolihiaaDoor
open Go.RowKit
set_option maxRecDepth 20000 in
set_option maxHeartbeats 1000000 in
theorem same12 (k : Int) (b a0 a1 a2 a3 : Nat) (nt : Bool) (l m : Int) (lz : Bool) (t : Int) (k' : Int) (b' a0' a1' a2' a3' : Nat) (nt' : Bool) (l' m' : Int) (lz' : Bool) (t' : Int) (w : World) : Calls Tryd.prog 12 #[tokI k b a0 a1 a2 a3 nt l m lz t, tokI k' b' a0' a1' a2' a3' nt' l' m' lz' t'] w (RetB w (eqT k b a0 a1 a2 a3 nt l m lz t' k' b' a0' a1' a2' a3' nt' l' m' lz' t')) := by
  have hn := run_eql26 k b a0 a1 a2 a3 nt l m lz t' k' b' a0' a1' a2' a3' nt' l' m' lz' t'
  have hB := below2 w (.cells #[.int .i64 k, .int .u8 (b : Nat), .int .u64 (a0 : Nat), .int .u64 (a1 : Nat), .int .u64 (a2 : Nat), .int .u64 (a3 : Nat), .bool nt, .int .i64 l, .int .i64 m, .bool lz, .int .i64 t'] 26) (.cells #[.int .i64 k', .int .u8 (b' : Nat), .int .u64 (a0' : Nat), .int .u64 (a1' : Nat), .int .u64 (a2' : Nat), .int .u64 (a3' : Nat), .bool nt', .int .i64 l', .int .i64 m', .bool lz', .int .i64 t'] 26)
  generalize eqT k b a0 a1 a2 a3 nt l m lz t' k' b' a0' a1' a2' a3' nt' l' m' lz' t' = x at *
  unfold tokI
  go_enter Tryd.func12, Tryd.ntmps12
  go_wp2
  go_ret
  exact ⟨rfl, hB⟩
set_option maxRecDepth 20000 in
set_option maxHeartbeats 1000000 in
theorem same13 (k : Int) (b a0 a1 a2 a3 : Nat) (nt : Bool) (l m : Int) (lz : Bool) (t : Int) (k' : Int) (b' a0' a1' a2' a3' : Nat) (nt' : Bool) (l' m' : Int) (lz' : Bool) (t' : Int) (w : World) : Calls Tryd.prog 13 #[tokI k b a0 a1 a2 a3 nt l m lz t, tokI k' b' a0' a1' a2' a3' nt' l' m' lz' t'] w (RetB w (eqT k b a0 a1 a2 a3 nt l m lz t' k' b' a0' a1' a2' a3' nt' l' m' lz' t')) := by
  have hn := run_eql26 k b a0 a1 a2 a3 nt l m lz t' k' b' a0' a1' a2' a3' nt' l' m' lz' t'
  have hB := below2 w (.cells #[.int .i64 k, .int .u8 (b : Nat), .int .u64 (a0 : Nat), .int .u64 (a1 : Nat), .int .u64 (a2 : Nat), .int .u64 (a3 : Nat), .bool nt, .int .i64 l, .int .i64 m, .bool lz, .int .i64 t'] 26) (.cells #[.int .i64 k', .int .u8 (b' : Nat), .int .u64 (a0' : Nat), .int .u64 (a1' : Nat), .int .u64 (a2' : Nat), .int .u64 (a3' : Nat), .bool nt', .int .i64 l', .int .i64 m', .bool lz', .int .i64 t'] 26)
  generalize eqT k b a0 a1 a2 a3 nt l m lz t' k' b' a0' a1' a2' a3' nt' l' m' lz' t' = x at *
  unfold tokI
  go_enter Tryd.func13, Tryd.ntmps13
  go_wp2
  go_ret
  exact ⟨rfl, hB⟩
end Go.Proofs.YtkbeiadbolihiaaDoor
namespace Go.Proofs.YtkbeiadbolihiaaDoor
open Go.RowKit
set_option maxRecDepth 10000 in
set_option maxHeartbeats 2000000 in
theorem bytesOf_class {P : Nat → Bool} {a0 a1 a2 a3 : Nat} (h4 : C4 P a0 a1 a2 a3) (nt : Bool) (l m : Int) (lz : Bool) (at_ : Nat) (w : World) : Calls Tryd.prog 85 #[tokV 2 0 a0 a1 a2 a3 nt l m lz at_] w (RetC w P) := by
  unfold tokV
  go_enter Tryd.func85, Tryd.ntmps85
  go_wp2
  exact bodyPost_ret (v := .agg #[.int .u64 (a0 : Nat), .int .u64 (a1 : Nat), .int .u64 (a2 : Nat), .int .u64 (a3 : Nat)]) (by simp [results, Tryd.results85, go_sem]) rfl ⟨⟨a0, a1, a2, a3, rfl, h4⟩, bel2 _ _ _⟩
set_option maxRecDepth 10000 in
set_option maxHeartbeats 2000000 in
theorem bytesOf_byte (b : Nat) (hb : b < 256) (at_ : Nat) (w : World) : Calls Tryd.prog 85 #[tokV 1 b 0 0 0 0 false 0 0 false at_] w (RetC w (ofN (fun _ => b) 1)) := by
  unfold tokV
  have hO : Hid (∀ W : World, Calls Tryd.prog 38 #[.slice (some ⟨W.heap.size, 0, none⟩) 1 1] (W.alloc (.cells #[.int .u8 (b : Nat)] 5)) (RetC (W.alloc (.cells #[.int .u8 (b : Nat)] 5)) (ofN (fun _ => b) 1))) := fun W => of_any _ 1 1 (fun _ => b) _ (rd_one _ _ hb) (by decide)
  go_enter Tryd.func85, Tryd.ntmps85
  go_wp2_with fail
  have hO1 := hO.out ((w.alloc (.cells #[.int .i64 1, .int .u8 (b : Nat), .int .u64 0, .int .u64 0, .int .u64 0, .int .u64 0, .bool false, .int .i64 0, .int .i64 0, .bool false, .int .i64 (at_ : Nat)] 26)).alloc (.cells #[.int .u64 0, .int .u64 0, .int .u64 0, .int .u64 0] 24))
  simp only [World.size_alloc] at hO1
  refine hO1.mono ?_
  rintro e w1 ⟨⟨a, b', c, d, rfl, h4⟩, hb1⟩
  have hx : Bx w1 (w.heap.size + 1) (.int .u64 0) (.int .u64 0) (.int .u64 0) (.int .u64 0) := by
    have := ((Bx.new (w.alloc (.cells #[.int .i64 1, .int .u8 (b : Nat), .int .u64 0, .int .u64 0, .int .u64 0, .int .u64 0, .bool false, .int .i64 0, .int .i64 0, .bool false, .int .i64 (at_ : Nat)] 26)) (.int .u64 0) (.int .u64 0) (.int .u64 0) (.int .u64 0)).alloc (.cells #[.int .u8 (b : Nat)] 5)).below hb1
    simpa using this
  have hB1 : Below w.heap.size w w1 := (bel3 w _ _ _).trans (hb1.mono (by simp; omega))
  obtain ⟨y0, y1, y2, y3, v0, v1, v2, v3⟩ := hx.cells
  obtain ⟨z0, z1, z2, z3, _⟩ := (hx.set (.int .u64 (a : Nat)) (.int .u64 (b' : Nat)) (.int .u64 (c : Nat)) (.int .u64 (d : Nat))).cells
  have HB : Hid (Below w.heap.size w (put4 w1 (w.heap.size + 1) (.int .u64 (a : Nat)) (.int .u64 (b' : Nat)) (.int .u64 (c : Nat)) (.int .u64 (d : Nat)))) := below_put4 hB1 (by omega) _ _ _ _
  clear hb1 hO1 hB1
  go_wp2
  exact bodyPost_ret (v := .agg #[.int .u64 (a : Nat), .int .u64 (b' : Nat), .int .u64 (c : Nat), .int .u64 (d : Nat)]) (by simp [results, Tryd.results85, go_sem, z0, z1, z2, z3]) rfl ⟨⟨a, b', c, d, rfl, h4⟩, HB.out⟩
end Go.Proofs.YtkbeiadbolihiaaDoor
namespace Go.Proofs.YtkbeiadbolihiaaDoor
open Go.RowKit
/-- A class and a mark; nothing old has turned. -/
def RetU (w : World) (P : Nat → Bool) (en : Nat) (er : Int) (e : Ending) (w' : World) : Prop :=
  ∃ a b c d : Nat, e = .returned (.tuple #[.agg #[.int .u64 (a : Nat), .int .u64 (b : Nat), .int .u64 (c : Nat), .int .u64 (d : Nat)], markV en er]) ∧ C4 P a b c d ∧ Below w.heap.size w w'
/-- The four blocks of units, the last two at S. -/
structure Uq (w : World) (S : Nat) (k : Int) (b a0 a1 a2 a3 : Nat) (nt : Bool) (l m : Int) (lz : Bool) (at' en : Nat) (er : Int) (W : World) : Prop where
  k0 : Cl W w.heap.size 24 [.int .u64 0, .int .u64 0, .int .u64 0, .int .u64 0]
  k1 : Cl W (w.heap.size + 1) 53 [.int .i64 0, .int .i64 0]
  k2 : Cl W S 26 [.int .i64 k, .int .u8 (b : Nat), .int .u64 (a0 : Nat), .int .u64 (a1 : Nat), .int .u64 (a2 : Nat), .int .u64 (a3 : Nat), .bool nt, .int .i64 l, .int .i64 m, .bool lz, .int .i64 (at' : Nat)]
  k3 : Cl W (S + 1) 53 [.int .i64 (en : Nat), .int .i64 er]
  bel : Below w.heap.size w W
  lt : w.heap.size + 2 ≤ S
theorem Cl.four {w : World} {b : Nat} {t : TypeId} {x0 x1 x2 x3 : Value} (h : Cl w b t [x0, x1, x2, x3]) : (w.cell? ⟨b, 0, none⟩ = some x0 ∧ w.cell? ⟨b, 1, none⟩ = some x1 ∧ w.cell? ⟨b, 2, none⟩ = some x2 ∧ w.cell? ⟨b, 3, none⟩ = some x3) ∧ w.frozen? ⟨b, 0, none⟩ = false ∧ w.frozen? ⟨b, 1, none⟩ = false ∧ w.frozen? ⟨b, 2, none⟩ = false ∧ w.frozen? ⟨b, 3, none⟩ = false :=
  ⟨⟨h.cell 0 rfl, h.cell 1 rfl, h.cell 2 rfl, h.cell 3 rfl⟩, h.frozen 0, h.frozen 1, h.frozen 2, h.frozen 3⟩
def putc (w : World) (b : Nat) (x0 x1 x2 x3 : Value) : World := (((w.setCell ⟨b, 0, none⟩ x0).setCell ⟨b, 1, none⟩ x1).setCell ⟨b, 2, none⟩ x2).setCell ⟨b, 3, none⟩ x3
theorem Cl.putc {w : World} {b : Nat} {t : TypeId} {y0 y1 y2 y3 : Value} (h : Cl w b t [y0, y1, y2, y3]) (x0 x1 x2 x3 : Value) : Cl (YtkbeiadbolihiaaDoor.putc w b x0 x1 x2 x3) b t [x0, x1, x2, x3] := (((h.set 0 x0).set 1 x1).set 2 x2).set 3 x3
theorem Cl.others4 {w : World} {b k : Nat} {t : TypeId} {vs : List Value} (h : Cl w b t vs) (hk : k ≠ b) (x0 x1 x2 x3 : Value) : Cl (YtkbeiadbolihiaaDoor.putc w k x0 x1 x2 x3) b t vs := (((h.other hk 0 x0).other hk 1 x1).other hk 2 x2).other hk 3 x3
theorem below_putc {w w' : World} {B b : Nat} (h : Below B w w') (hb : B ≤ b) (x0 x1 x2 x3 : Value) : Below B w (putc w' b x0 x1 x2 x3) := (((h.setCell (p := ⟨b, 0, none⟩) hb x0).setCell (p := ⟨b, 1, none⟩) hb x1).setCell (p := ⟨b, 2, none⟩) hb x2).setCell (p := ⟨b, 3, none⟩) hb x3
theorem el0 (w : World) : Cl ((w.alloc (.cells #[.int .u64 0, .int .u64 0, .int .u64 0, .int .u64 0] 24)).alloc (.cells #[.int .i64 0, .int .i64 0] 53)) w.heap.size 24 [.int .u64 0, .int .u64 0, .int .u64 0, .int .u64 0] := (Cl.new w 24 _).alloc _
theorem uq_start (w w1 : World) (k : Int) (b a0 a1 a2 a3 : Nat) (nt : Bool) (l m : Int) (lz : Bool) (at' en : Nat) (er : Int)
    (hb : Below ((w.alloc (.cells #[.int .u64 0, .int .u64 0, .int .u64 0, .int .u64 0] 24)).alloc (.cells #[.int .i64 0, .int .i64 0] 53)).heap.size ((w.alloc (.cells #[.int .u64 0, .int .u64 0, .int .u64 0, .int .u64 0] 24)).alloc (.cells #[.int .i64 0, .int .i64 0] 53)) w1) :
    Uq w w1.heap.size k b a0 a1 a2 a3 nt l m lz at' en er ((w1.alloc (.cells #[.int .i64 k, .int .u8 (b : Nat), .int .u64 (a0 : Nat), .int .u64 (a1 : Nat), .int .u64 (a2 : Nat), .int .u64 (a3 : Nat), .bool nt, .int .i64 l, .int .i64 m, .bool lz, .int .i64 (at' : Nat)] 26)).alloc (.cells #[.int .i64 (en : Nat), .int .i64 er] 53)) := by
  have hs := hb.size
  simp only [World.size_alloc] at hs
  refine ⟨(((el0 w).below hb).alloc _).alloc _, (((dl1 w _).below hb).alloc _).alloc _, (Cl.new w1 26 _).alloc _, ?_, ?_, by omega⟩
  · have := Cl.new (w1.alloc (.cells #[.int .i64 k, .int .u8 (b : Nat), .int .u64 (a0 : Nat), .int .u64 (a1 : Nat), .int .u64 (a2 : Nat), .int .u64 (a3 : Nat), .bool nt, .int .i64 l, .int .i64 m, .bool lz, .int .i64 (at' : Nat)] 26)) 53 [.int .i64 (en : Nat), .int .i64 er]
    simpa using this
  · exact (((bel2 w _ _).trans (hb.mono (by simp; omega))).alloc (by omega) _).alloc (by simp; omega) _
theorem Uq.next {w W w1 : World} {S : Nat} {k : Int} {b a0 a1 a2 a3 : Nat} {nt : Bool} {l m : Int} {lz : Bool} {at' en : Nat} {er : Int} (h : Uq w S k b a0 a1 a2 a3 nt l m lz at' en er W) (hb : Below W.heap.size W w1) : Uq w S k b a0 a1 a2 a3 nt l m lz at' en er w1 :=
  ⟨h.k0.below hb, h.k1.below hb, h.k2.below hb, h.k3.below hb, h.bel.trans (hb.mono h.bel.size), h.lt⟩
set_option maxRecDepth 10000 in
set_option maxHeartbeats 8000000 in
theorem un_bad (ao : Option Addr) (n cap at_ : Nat) (z : Nat → Nat) (w : World) (hr : Rd w ao n z) (hn : (n : Int) ≤ 1024) (ha : at_ < n) (he : (uniS z n at_).er ≠ 0) : Calls Tryd.prog 74 #[.slice ao n cap, .int .i64 (at_ : Nat)] w (RetU w (fun _ => false) (uniS z n at_).en (uniS z n at_).er) := by
  have HU : Hid (∀ W, Below w.heap.size w W → Calls Tryd.prog 83 #[.slice ao n cap, .int .i64 (at_ : Nat)] W (RetT W (uniS z n at_))) := fun W hb => unit_any ao n cap at_ z W (hr.below hb) hn ha
  generalize uniS z n at_ = s at *
  go_enter Tryd.func74, Tryd.ntmps74
  go_wp2_with fail
  refine (HU.out _ (bel2 _ _ _)).mono ?_
  rintro e w1 ⟨k, b, a0, a1, a2, a3, nt, l, m, lz, at', en, er, rfl, ⟨-, -, -, -, -, -, -, -, rfl, rfl⟩, hb⟩
  have uq := uq_start w w1 k b a0 a1 a2 a3 nt l m lz at' s.en s.er hb
  simp only [tokV, markV]
  go_wp2_with fail
  generalize ((w1.alloc (.cells #[.int .i64 k, .int .u8 (b : Nat), .int .u64 (a0 : Nat), .int .u64 (a1 : Nat), .int .u64 (a2 : Nat), .int .u64 (a3 : Nat), .bool nt, .int .i64 l, .int .i64 m, .bool lz, .int .i64 (at' : Nat)] 26)).alloc (.cells #[.int .i64 (s.en : Nat), .int .i64 s.er] 53)) = W at *
  have hS := uq.lt
  generalize w1.heap.size = S at *
  clear hb
  obtain ⟨⟨r0, r1⟩, s0, s1⟩ := uq.k3.two
  obtain ⟨⟨c0, c1, c2, c3⟩, h0, h1, h2, h3⟩ := uq.k0.four
  obtain ⟨⟨d0, d1⟩, e0, e1⟩ := uq.k1.two
  have F := ((uq.k0.putc (.int .u64 0) (.int .u64 0) (.int .u64 0) (.int .u64 0)).others2 (k := w.heap.size + 1) (by omega) (.int .i64 (s.en : Nat)) (.int .i64 s.er)).drew.four.1
  have G := ((uq.k1.others4 (k := w.heap.size) (by omega) (.int .u64 0) (.int .u64 0) (.int .u64 0) (.int .u64 0)).put2 (.int .i64 (s.en : Nat)) (.int .i64 s.er)).drew.two.1
  have hB4 := (below_put2 (b := w.heap.size + 1) (below_putc (b := w.heap.size) uq.bel (Nat.le_refl _) (.int .u64 0) (.int .u64 0) (.int .u64 0) (.int .u64 0)) (by omega) (.int .i64 (s.en : Nat)) (.int .i64 s.er)).drew
  simp only [put2, putc] at F G
  obtain ⟨F0, F1, F2, F3⟩ := F
  obtain ⟨G0, G1⟩ := G
  have HF : Hid (Below w.heap.size w _) := hB4
  have n1 : S + 1 ≠ w.heap.size := by omega
  have n2 : S + 1 ≠ w.heap.size + 1 := by omega
  have n3 : S ≠ w.heap.size := by omega
  have n4 : S ≠ w.heap.size + 1 := by omega
  clear hB4 uq
  go_region_with (fail)
  all_goals go_wp2
  all_goals exact bodyPost_ret (v := .tuple #[.agg #[.int .u64 0, .int .u64 0, .int .u64 0, .int .u64 0], markV s.en s.er]) (by simp [results, Tryd.results74, go_sem, markV, F0, F1, F2, F3, G0, G1]) rfl ⟨0, 0, 0, 0, rfl, c4_none, HF.out⟩
set_option maxRecDepth 10000 in
set_option maxHeartbeats 8000000 in
theorem un_one (ao : Option Addr) (n cap at_ : Nat) (w : World) (s : TokS) (P : Nat → Bool) (he : s.er = 0)
    (HU : Hid (∀ W, Below w.heap.size w W → Calls Tryd.prog 83 #[.slice ao n cap, .int .i64 (at_ : Nat)] W (RetT W s)))
    (HD : Hid (∀ W, Below w.heap.size w W → Calls Tryd.prog 84 #[.slice ao n cap, .int .i64 (s.en : Nat)] W fun e w' => e = .returned (.bool false) ∧ w' = W))
    (HB : Hid (∀ k b a0 a1 a2 a3 nt l m lz at' en er, s.is k b a0 a1 a2 a3 nt l m lz at' en er → ∀ W, Calls Tryd.prog 85 #[tokV k b a0 a1 a2 a3 nt l m lz at'] W (RetC W P))) : Calls Tryd.prog 74 #[.slice ao n cap, .int .i64 (at_ : Nat)] w (RetU w P s.en 0) := by
  go_enter Tryd.func74, Tryd.ntmps74
  go_wp2_with fail
  refine (HU.out _ (bel2 _ _ _)).mono ?_
  rintro e w1 ⟨k, b, a0, a1, a2, a3, nt, l, m, lz, at', en, er, rfl, hs, hb⟩
  have hB := HB.out _ _ _ _ _ _ _ _ _ _ _ _ _ hs
  obtain ⟨-, -, -, -, -, -, -, -, rfl, rfl⟩ := hs
  rw [he]
  have HC : Hid (∀ W, Calls Tryd.prog 85 #[.agg #[.int .i64 k, .int .u8 (b : Nat), .int .u64 (a0 : Nat), .int .u64 (a1 : Nat), .int .u64 (a2 : Nat), .int .u64 (a3 : Nat), .bool nt, .int .i64 l, .int .i64 m, .bool lz, .int .i64 (at' : Nat)]] W (RetC W P)) := hB
  clear hB HB HU
  have uq := uq_start w w1 k b a0 a1 a2 a3 nt l m lz at' s.en 0 hb
  simp only [tokV, markV]
  go_wp2_with fail
  refine (HD.out _ uq.bel).mono ?_
  rintro e w2 ⟨rfl, rfl⟩
  generalize ((w1.alloc (.cells #[.int .i64 k, .int .u8 (b : Nat), .int .u64 (a0 : Nat), .int .u64 (a1 : Nat), .int .u64 (a2 : Nat), .int .u64 (a3 : Nat), .bool nt, .int .i64 l, .int .i64 m, .bool lz, .int .i64 (at' : Nat)] 26)).alloc (.cells #[.int .i64 (s.en : Nat), .int .i64 0] 53)) = W at *
  have hS := uq.lt
  generalize w1.heap.size = S at *
  clear hb HD
  obtain ⟨⟨b0, b1, b2, b3, b4, b5, b6, b7, b8, b9, b10⟩, g0, g1, g2, g3, g4, g5, g6, g7, g8, g9, g10⟩ := uq.k2.eleven
  obtain ⟨⟨r0, r1⟩, s0, s1⟩ := uq.k3.two
  have n1 : S + 1 ≠ w.heap.size := by omega
  have n2 : S + 1 ≠ w.heap.size + 1 := by omega
  have n3 : S ≠ w.heap.size := by omega
  have n4 : S ≠ w.heap.size + 1 := by omega
  have HQ : Hid (Uq w S k b a0 a1 a2 a3 nt l m lz at' s.en 0 W) := uq
  clear uq
  go_wp2_with fail
  go_region_with (first | (
    go_at_call 85
    refine (HC.out _).mono ?_
    rintro e w2 ⟨⟨x0, x1, x2, x3, rfl, h4⟩, hb2⟩
    have u2 := (HQ.out.next (Below.refl _ _).drew).next hb2
    have H4 : Hid (C4 P x0 x1 x2 x3) := h4
    obtain ⟨⟨t0, t1⟩, v0, v1⟩ := u2.k3.two
    obtain ⟨⟨c0, c1, c2, c3⟩, h0, h1, h2, h3⟩ := u2.k0.four
    obtain ⟨⟨d0, d1⟩, e0, e1⟩ := u2.k1.two
    have F := ((u2.k0.putc (.int .u64 (x0 : Nat)) (.int .u64 (x1 : Nat)) (.int .u64 (x2 : Nat)) (.int .u64 (x3 : Nat))).others2 (k := w.heap.size + 1) (by omega) (.int .i64 (s.en : Nat)) (.int .i64 0)).four.1
    have G := ((u2.k1.others4 (k := w.heap.size) (by omega) (.int .u64 (x0 : Nat)) (.int .u64 (x1 : Nat)) (.int .u64 (x2 : Nat)) (.int .u64 (x3 : Nat))).put2 (.int .i64 (s.en : Nat)) (.int .i64 0)).two.1
    have hB4 := below_put2 (b := w.heap.size + 1) (below_putc (b := w.heap.size) u2.bel (Nat.le_refl _) (.int .u64 (x0 : Nat)) (.int .u64 (x1 : Nat)) (.int .u64 (x2 : Nat)) (.int .u64 (x3 : Nat))) (by omega) (.int .i64 (s.en : Nat)) (.int .i64 0)
    simp only [put2, putc] at F G
    obtain ⟨F0, F1, F2, F3⟩ := F
    obtain ⟨G0, G1⟩ := G
    have HF : Hid (Below w.heap.size w _) := hB4
    clear hB4 u2 h4 hb2))
  all_goals go_wp2
  all_goals exact bodyPost_ret (v := .tuple #[.agg #[.int .u64 (x0 : Nat), .int .u64 (x1 : Nat), .int .u64 (x2 : Nat), .int .u64 (x3 : Nat)], markV s.en 0]) (by simp [results, Tryd.results74, go_sem, markV, F0, F1, F2, F3, G0, G1]) rfl ⟨x0, x1, x2, x3, rfl, H4.out, HF.out⟩
end Go.Proofs.YtkbeiadbolihiaaDoor
namespace Go.Proofs.YtkbeiadbolihiaaDoor
open Go.RowKit
set_option maxRecDepth 60000 in
set_option maxHeartbeats 8000000 in
theorem un_bad2 (ao : Option Addr) (n cap at_ : Nat) (w : World) (s : TokS) (he : s.er = 0)
    (HU : Hid (∀ W, Below w.heap.size w W → Calls Tryd.prog 83 #[.slice ao n cap, .int .i64 (at_ : Nat)] W (RetT W s)))
    (HD : Hid (∀ W, Below w.heap.size w W → Calls Tryd.prog 84 #[.slice ao n cap, .int .i64 (s.en : Nat)] W fun e w' => e = .returned (.bool true) ∧ w' = W))
    (t : TokS) (HV : Hid (∀ W, Below w.heap.size w W → Calls Tryd.prog 83 #[.slice ao n cap, .int .i64 ((s.en : Int) + 1)] W (RetT W t))) (hse : (s.en : Int) ≤ 2048) (ht : t.er ≠ 0) : Calls Tryd.prog 74 #[.slice ao n cap, .int .i64 (at_ : Nat)] w (RetU w (fun _ => false) t.en t.er) := by
  go_enter Tryd.func74, Tryd.ntmps74
  go_wp2_with fail
  refine (HU.out _ (bel2 _ _ _)).mono ?_
  rintro e w1 ⟨k, b, a0, a1, a2, a3, nt, l, m, lz, at', en, er, rfl, hs, hb⟩
  obtain ⟨-, -, -, -, -, -, -, -, rfl, rfl⟩ := hs
  rw [he]
  clear HU
  have uq := uq_start w w1 k b a0 a1 a2 a3 nt l m lz at' s.en 0 hb
  simp only [tokV, markV]
  go_wp2_with fail
  refine (HD.out _ uq.bel).mono ?_
  rintro e w2 ⟨rfl, rfl⟩
  generalize ((w1.alloc (.cells #[.int .i64 k, .int .u8 (b : Nat), .int .u64 (a0 : Nat), .int .u64 (a1 : Nat), .int .u64 (a2 : Nat), .int .u64 (a3 : Nat), .bool nt, .int .i64 l, .int .i64 m, .bool lz, .int .i64 (at' : Nat)] 26)).alloc (.cells #[.int .i64 (s.en : Nat), .int .i64 0] 53)) = W at *
  have hS := uq.lt
  generalize w1.heap.size = S at *
  clear hb HD
  obtain ⟨⟨b0, b1, b2, b3, b4, b5, b6, b7, b8, b9, b10⟩, g0, g1, g2, g3, g4, g5, g6, g7, g8, g9, g10⟩ := uq.k2.eleven
  obtain ⟨⟨r0, r1⟩, s0, s1⟩ := uq.k3.two
  have n1 : S + 1 ≠ w.heap.size := by omega
  have n2 : S + 1 ≠ w.heap.size + 1 := by omega
  have n3 : S ≠ w.heap.size := by omega
  have n4 : S ≠ w.heap.size + 1 := by omega
  have HQ : Hid (Uq w S k b a0 a1 a2 a3 nt l m lz at' s.en 0 W) := uq
  clear uq
  have i5 : (s.en : Int) + 1 < 9223372036854775808 := by omega
  go_wp2_with fail
  refine (HV.out _ HQ.out.bel).mono ?_
  rintro e w2 ⟨k', b', a0', a1', a2', a3', nt', l', m', lz', at'', en', er', rfl, hs', hb2⟩
  obtain ⟨-, -, -, -, -, -, -, -, rfl, rfl⟩ := hs'
  have u2 := HQ.out.next hb2
  obtain ⟨⟨t0, t1⟩, v0, v1⟩ := u2.k3.two
  have l2 : S + 1 < w2.heap.size := u2.k3.lt
  have n5 : w2.heap.size ≠ S + 1 := by omega
  have n6 : S + 1 ≠ w2.heap.size := by omega
  have u3 := (u2.k3.alloc (.cells #[.int .i64 k', .int .u8 (b' : Nat), .int .u64 (a0' : Nat), .int .u64 (a1' : Nat), .int .u64 (a2' : Nat), .int .u64 (a3' : Nat), .bool nt', .int .i64 l', .int .i64 m', .bool lz', .int .i64 (at'' : Nat)] 26))
  have v3 := u3.put2 (.int .i64 (t.en : Nat)) (.int .i64 t.er)
  have vk0 := (u2.k0.alloc (.cells #[.int .i64 k', .int .u8 (b' : Nat), .int .u64 (a0' : Nat), .int .u64 (a1' : Nat), .int .u64 (a2' : Nat), .int .u64 (a3' : Nat), .bool nt', .int .i64 l', .int .i64 m', .bool lz', .int .i64 (at'' : Nat)] 26)).others2 (k := S + 1) (by omega) (.int .i64 (t.en : Nat)) (.int .i64 t.er)
  have vk1 := (u2.k1.alloc (.cells #[.int .i64 k', .int .u8 (b' : Nat), .int .u64 (a0' : Nat), .int .u64 (a1' : Nat), .int .u64 (a2' : Nat), .int .u64 (a3' : Nat), .bool nt', .int .i64 l', .int .i64 m', .bool lz', .int .i64 (at'' : Nat)] 26)).others2 (k := S + 1) (by omega) (.int .i64 (t.en : Nat)) (.int .i64 t.er)
  have vb := below_put2 (b := S + 1) (u2.bel.alloc u2.bel.size (.cells #[.int .i64 k', .int .u8 (b' : Nat), .int .u64 (a0' : Nat), .int .u64 (a1' : Nat), .int .u64 (a2' : Nat), .int .u64 (a3' : Nat), .bool nt', .int .i64 l', .int .i64 m', .bool lz', .int .i64 (at'' : Nat)] 26)) (by omega) (.int .i64 (t.en : Nat)) (.int .i64 t.er)
  obtain ⟨⟨p0, p1⟩, q0, q1⟩ := u3.two
  simp only [put2] at v3 vk0 vk1 vb
  clear u3 t0 t1 v0 v1 u2 l2 hb2 HV he n1 n2 n3 n4 i5 hse b0 b1 b2 b3 b4 b5 b6 b7 b8 b9 b10 g0 g1 g2 g3 g4 g5 g6 g7 g8 g9 g10 r0 r1 s0 s1
  have HV3 : Hid (Cl _ _ _ _) := v3
  have HV0 : Hid (Cl _ _ _ _) := vk0
  have HV1 : Hid (Cl _ _ _ _) := vk1
  have HVb : Hid (Below _ _ _) := vb
  have HS : Hid (w.heap.size + 2 ≤ S) := hS
  clear v3 vk0 vk1 vb hS
  simp only [tokV, markV]
  go_wp2_with fail
  generalize (((w2.alloc (.cells #[.int .i64 k', .int .u8 (b' : Nat), .int .u64 (a0' : Nat), .int .u64 (a1' : Nat), .int .u64 (a2' : Nat), .int .u64 (a3' : Nat), .bool nt', .int .i64 l', .int .i64 m', .bool lz', .int .i64 (at'' : Nat)] 26)).setCell ⟨S + 1, 0, none⟩ (.int .i64 (t.en : Nat))).setCell ⟨S + 1, 1, none⟩ (.int .i64 t.er)) = W3 at *
  have hS := HS.out
  obtain ⟨⟨r0, r1⟩, s0, s1⟩ := HV3.out.two
  obtain ⟨⟨c0, c1, c2, c3⟩, h0, h1, h2, h3⟩ := HV0.out.four
  obtain ⟨⟨d0, d1⟩, e0, e1⟩ := HV1.out.two
  have F := ((HV0.out.putc (.int .u64 0) (.int .u64 0) (.int .u64 0) (.int .u64 0)).others2 (k := w.heap.size + 1) (by omega) (.int .i64 (t.en : Nat)) (.int .i64 t.er)).drew.four.1
  have G := ((HV1.out.others4 (k := w.heap.size) (by omega) (.int .u64 0) (.int .u64 0) (.int .u64 0) (.int .u64 0)).put2 (.int .i64 (t.en : Nat)) (.int .i64 t.er)).drew.two.1
  have hB4 := (below_put2 (b := w.heap.size + 1) (below_putc (b := w.heap.size) HVb.out (Nat.le_refl _) (.int .u64 0) (.int .u64 0) (.int .u64 0) (.int .u64 0)) (by omega) (.int .i64 (t.en : Nat)) (.int .i64 t.er)).drew
  simp only [put2, putc] at F G
  obtain ⟨F0, F1, F2, F3⟩ := F
  obtain ⟨G0, G1⟩ := G
  have HF : Hid (Below w.heap.size w _) := hB4
  have n1 : S + 1 ≠ w.heap.size := by omega
  have n2 : S + 1 ≠ w.heap.size + 1 := by omega
  clear hB4 hS
  go_region_with (fail)
  all_goals go_wp2
  all_goals exact bodyPost_ret (v := .tuple #[.agg #[.int .u64 0, .int .u64 0, .int .u64 0, .int .u64 0], markV t.en t.er]) (by simp [results, Tryd.results74, go_sem, markV, F0, F1, F2, F3, G0, G1]) rfl ⟨0, 0, 0, 0, rfl, c4_none, HF.out⟩
set_option maxRecDepth 60000 in
set_option maxHeartbeats 8000000 in
theorem un_rng (ao : Option Addr) (n cap at_ : Nat) (w : World) (s : TokS) (he : s.er = 0)
    (HU : Hid (∀ W, Below w.heap.size w W → Calls Tryd.prog 83 #[.slice ao n cap, .int .i64 (at_ : Nat)] W (RetT W s)))
    (HD : Hid (∀ W, Below w.heap.size w W → Calls Tryd.prog 84 #[.slice ao n cap, .int .i64 (s.en : Nat)] W fun e w' => e = .returned (.bool true) ∧ w' = W))
    (t : TokS) (HV : Hid (∀ W, Below w.heap.size w W → Calls Tryd.prog 83 #[.slice ao n cap, .int .i64 ((s.en : Int) + 1)] W (RetT W t))) (hse : (s.en : Int) ≤ 2048) (ht : t.er = 0) (hk : s.k = 1) (hk2 : t.k = 1) (hle : s.b ≤ t.b) (hlt : t.b < 256) : Calls Tryd.prog 74 #[.slice ao n cap, .int .i64 (at_ : Nat)] w (RetU w (rg s.b (t.b + 1 - s.b)) t.en 0) := by
  go_enter Tryd.func74, Tryd.ntmps74
  go_wp2_with fail
  refine (HU.out _ (bel2 _ _ _)).mono ?_
  rintro e w1 ⟨_, _, a0, a1, a2, a3, nt, l, m, lz, at', en, er, rfl, hs, hb⟩
  obtain ⟨rfl, rfl, -, -, -, -, -, -, rfl, rfl⟩ := hs
  rw [he, hk]
  clear HU
  have uq := uq_start w w1 1 s.b a0 a1 a2 a3 nt l m lz at' s.en 0 hb
  simp only [tokV, markV]
  go_wp2_with fail
  refine (HD.out _ uq.bel).mono ?_
  rintro e w2 ⟨rfl, rfl⟩
  generalize ((w1.alloc (.cells #[.int .i64 1, .int .u8 (s.b : Nat), .int .u64 (a0 : Nat), .int .u64 (a1 : Nat), .int .u64 (a2 : Nat), .int .u64 (a3 : Nat), .bool nt, .int .i64 l, .int .i64 m, .bool lz, .int .i64 (at' : Nat)] 26)).alloc (.cells #[.int .i64 (s.en : Nat), .int .i64 0] 53)) = W at *
  have hS := uq.lt
  generalize w1.heap.size = S at *
  clear hb HD
  obtain ⟨⟨b0, b1, b2, b3, b4, b5, b6, b7, b8, b9, b10⟩, g0, g1, g2, g3, g4, g5, g6, g7, g8, g9, g10⟩ := uq.k2.eleven
  obtain ⟨⟨r0, r1⟩, s0, s1⟩ := uq.k3.two
  have n1 : S + 1 ≠ w.heap.size := by omega
  have n2 : S + 1 ≠ w.heap.size + 1 := by omega
  have n3 : S ≠ w.heap.size := by omega
  have n4 : S ≠ w.heap.size + 1 := by omega
  have HQ : Hid (Uq w S 1 s.b a0 a1 a2 a3 nt l m lz at' s.en 0 W) := uq
  clear uq
  have i5 : (s.en : Int) + 1 < 9223372036854775808 := by omega
  go_wp2_with fail
  refine (HV.out _ HQ.out.bel).mono ?_
  rintro e w2 ⟨_, _, a0', a1', a2', a3', nt', l', m', lz', at'', en', er', rfl, hs', hb2⟩
  obtain ⟨rfl, rfl, -, -, -, -, -, -, rfl, rfl⟩ := hs'
  rw [ht, hk2]
  have u2 := HQ.out.next hb2
  obtain ⟨⟨t0, t1⟩, v0, v1⟩ := u2.k3.two
  have l2 : S + 1 < w2.heap.size := u2.k3.lt
  have n5 : w2.heap.size ≠ S + 1 := by omega
  have n6 : S + 1 ≠ w2.heap.size := by omega
  have u3 := (u2.k3.alloc (.cells #[.int .i64 1, .int .u8 (t.b : Nat), .int .u64 (a0' : Nat), .int .u64 (a1' : Nat), .int .u64 (a2' : Nat), .int .u64 (a3' : Nat), .bool nt', .int .i64 l', .int .i64 m', .bool lz', .int .i64 (at'' : Nat)] 26))
  have v3 := u3.put2 (.int .i64 (t.en : Nat)) (.int .i64 0)
  have vk0 := (u2.k0.alloc (.cells #[.int .i64 1, .int .u8 (t.b : Nat), .int .u64 (a0' : Nat), .int .u64 (a1' : Nat), .int .u64 (a2' : Nat), .int .u64 (a3' : Nat), .bool nt', .int .i64 l', .int .i64 m', .bool lz', .int .i64 (at'' : Nat)] 26)).others2 (k := S + 1) (by omega) (.int .i64 (t.en : Nat)) (.int .i64 0)
  have vk1 := (u2.k1.alloc (.cells #[.int .i64 1, .int .u8 (t.b : Nat), .int .u64 (a0' : Nat), .int .u64 (a1' : Nat), .int .u64 (a2' : Nat), .int .u64 (a3' : Nat), .bool nt', .int .i64 l', .int .i64 m', .bool lz', .int .i64 (at'' : Nat)] 26)).others2 (k := S + 1) (by omega) (.int .i64 (t.en : Nat)) (.int .i64 0)
  have v2 := (u2.k2.alloc (.cells #[.int .i64 1, .int .u8 (t.b : Nat), .int .u64 (a0' : Nat), .int .u64 (a1' : Nat), .int .u64 (a2' : Nat), .int .u64 (a3' : Nat), .bool nt', .int .i64 l', .int .i64 m', .bool lz', .int .i64 (at'' : Nat)] 26)).others2 (k := S + 1) (by omega) (.int .i64 (t.en : Nat)) (.int .i64 0)
  have v4 := (Cl.new w2 26 [.int .i64 1, .int .u8 (t.b : Nat), .int .u64 (a0' : Nat), .int .u64 (a1' : Nat), .int .u64 (a2' : Nat), .int .u64 (a3' : Nat), .bool nt', .int .i64 l', .int .i64 m', .bool lz', .int .i64 (at'' : Nat)]).others2 (k := S + 1) (by omega) (.int .i64 (t.en : Nat)) (.int .i64 0)
  have vb := below_put2 (b := S + 1) (u2.bel.alloc u2.bel.size (.cells #[.int .i64 1, .int .u8 (t.b : Nat), .int .u64 (a0' : Nat), .int .u64 (a1' : Nat), .int .u64 (a2' : Nat), .int .u64 (a3' : Nat), .bool nt', .int .i64 l', .int .i64 m', .bool lz', .int .i64 (at'' : Nat)] 26)) (by omega) (.int .i64 (t.en : Nat)) (.int .i64 0)
  obtain ⟨⟨p0, p1⟩, q0, q1⟩ := u3.two
  simp only [put2] at v3 vk0 vk1 vb v2 v4
  clear u3 t0 t1 v0 v1 u2 l2 hb2 HV he ht hk hk2 n1 n2 n3 n4 i5 hse b0 b1 b2 b3 b4 b5 b6 b7 b8 b9 b10 g0 g1 g2 g3 g4 g5 g6 g7 g8 g9 g10 r0 r1 s0 s1
  obtain ⟨⟨y0, y1, -, -, -, -, -, -, -, -, -⟩, -⟩ := v2.eleven
  obtain ⟨⟨y2, y3, -, -, -, -, -, -, -, -, -⟩, -⟩ := v4.eleven
  clear v2 v4
  have HV3 : Hid (Cl _ _ _ _) := v3
  have HV0 : Hid (Cl _ _ _ _) := vk0
  have HV1 : Hid (Cl _ _ _ _) := vk1
  have HVb : Hid (Below _ _ _) := vb
  have HS : Hid (w.heap.size + 2 ≤ S) := hS
  clear v3 vk0 vk1 vb hS
  simp only [tokV, markV]
  go_wp2_with fail
  have HG : Hid (∀ W, Calls Tryd.prog 86 #[.int .u8 (s.b : Nat), .int .u8 (t.b : Nat)] W (RetC W (rg s.b (t.b + 1 - s.b)))) := fun W => range_any s.b t.b W (by omega) hlt
  generalize (((w2.alloc (.cells #[.int .i64 1, .int .u8 (t.b : Nat), .int .u64 (a0' : Nat), .int .u64 (a1' : Nat), .int .u64 (a2' : Nat), .int .u64 (a3' : Nat), .bool nt', .int .i64 l', .int .i64 m', .bool lz', .int .i64 (at'' : Nat)] 26)).setCell ⟨S + 1, 0, none⟩ (.int .i64 (t.en : Nat))).setCell ⟨S + 1, 1, none⟩ (.int .i64 0)) = W3 at *
  generalize rg s.b (t.b + 1 - s.b) = P at *
  obtain ⟨⟨r0, r1⟩, s0, s1⟩ := HV3.out.two
  go_region_with (first | (
    go_at_call 86
    refine (HG.out _).mono ?_
    rintro e w4 ⟨⟨x0, x1, x2, x3, rfl, h4⟩, hb4⟩
    have hS := HS.out
    have n1 : S + 1 ≠ w.heap.size := by omega
    have n2 : S + 1 ≠ w.heap.size + 1 := by omega
    have z3 := HV3.out.drew.below hb4
    have z0 := HV0.out.drew.below hb4
    have z1 := HV1.out.drew.below hb4
    have zb : Below w.heap.size w w4 := HVb.out.drew.trans (hb4.mono HVb.out.drew.size)
    have H4 : Hid (C4 P x0 x1 x2 x3) := h4
    obtain ⟨⟨t0, t1⟩, v0, v1⟩ := z3.two
    obtain ⟨⟨c0, c1, c2, c3⟩, h0, h1, h2, h3⟩ := z0.four
    obtain ⟨⟨d0, d1⟩, e0, e1⟩ := z1.two
    have F := ((z0.putc (.int .u64 (x0 : Nat)) (.int .u64 (x1 : Nat)) (.int .u64 (x2 : Nat)) (.int .u64 (x3 : Nat))).others2 (k := w.heap.size + 1) (by omega) (.int .i64 (t.en : Nat)) (.int .i64 0)).four.1
    have G := ((z1.others4 (k := w.heap.size) (by omega) (.int .u64 (x0 : Nat)) (.int .u64 (x1 : Nat)) (.int .u64 (x2 : Nat)) (.int .u64 (x3 : Nat))).put2 (.int .i64 (t.en : Nat)) (.int .i64 0)).two.1
    have hB4 := below_put2 (b := w.heap.size + 1) (below_putc (b := w.heap.size) zb (Nat.le_refl _) (.int .u64 (x0 : Nat)) (.int .u64 (x1 : Nat)) (.int .u64 (x2 : Nat)) (.int .u64 (x3 : Nat))) (by omega) (.int .i64 (t.en : Nat)) (.int .i64 0)
    simp only [put2, putc] at F G
    obtain ⟨F0, F1, F2, F3⟩ := F
    obtain ⟨G0, G1⟩ := G
    have HF : Hid (Below w.heap.size w _) := hB4
    clear hB4 z0 z1 z3 zb h4 hb4 hS))
  all_goals go_wp2
  all_goals exact bodyPost_ret (v := .tuple #[.agg #[.int .u64 (x0 : Nat), .int .u64 (x1 : Nat), .int .u64 (x2 : Nat), .int .u64 (x3 : Nat)], markV t.en 0]) (by simp [results, Tryd.results74, go_sem, markV, F0, F1, F2, F3, G0, G1]) rfl ⟨x0, x1, x2, x3, rfl, H4.out, HF.out⟩
end Go.Proofs.YtkbeiadbolihiaaDoor
