/- token: units: the walk where the first unit is bad, or stands alone. -/
import Derived.Test.YtlmmiicibjfcdaaKm
import Derived.Test.YtlmmiicibjfcdaaKl
import Derived.Deep.RegionWith
namespace Go.Proofs.Ytlmmiicibjfcdaa
open Go.RowKit
/-- A class and a mark; nothing old has turned. -/
def RetU (w : World) (P : Nat → Bool) (en : Nat) (er : Int) (e : Ending) (w' : World) : Prop :=
  ∃ a b c d : Nat, e = .returned (.tuple #[.agg #[.int .u64 (a : Nat), .int .u64 (b : Nat), .int .u64 (c : Nat), .int .u64 (d : Nat)], markV en er]) ∧ C4 P a b c d ∧ Below w.heap.size w w'
/-- The four blocks of units, the last two at S. -/
structure Uq (w : World) (S : Nat) (k : Int) (b a0 a1 a2 a3 : Nat) (nt : Bool) (l m : Int) (lz : Bool) (at' en : Nat) (er : Int) (W : World) : Prop where
  k0 : Cl W w.heap.size 40 [.int .u64 0, .int .u64 0, .int .u64 0, .int .u64 0]
  k1 : Cl W (w.heap.size + 1) 96 [.int .i64 0, .int .i64 0]
  k2 : Cl W S 42 [.int .i64 k, .int .u8 (b : Nat), .int .u64 (a0 : Nat), .int .u64 (a1 : Nat), .int .u64 (a2 : Nat), .int .u64 (a3 : Nat), .bool nt, .int .i64 l, .int .i64 m, .bool lz, .int .i64 (at' : Nat)]
  k3 : Cl W (S + 1) 96 [.int .i64 (en : Nat), .int .i64 er]
  bel : Below w.heap.size w W
  lt : w.heap.size + 2 ≤ S
theorem Cl.four {w : World} {b : Nat} {t : TypeId} {x0 x1 x2 x3 : Value} (h : Cl w b t [x0, x1, x2, x3]) : (w.cell? ⟨b, 0, none⟩ = some x0 ∧ w.cell? ⟨b, 1, none⟩ = some x1 ∧ w.cell? ⟨b, 2, none⟩ = some x2 ∧ w.cell? ⟨b, 3, none⟩ = some x3) ∧ w.frozen? ⟨b, 0, none⟩ = false ∧ w.frozen? ⟨b, 1, none⟩ = false ∧ w.frozen? ⟨b, 2, none⟩ = false ∧ w.frozen? ⟨b, 3, none⟩ = false :=
  ⟨⟨h.cell 0 rfl, h.cell 1 rfl, h.cell 2 rfl, h.cell 3 rfl⟩, h.frozen 0, h.frozen 1, h.frozen 2, h.frozen 3⟩
def putc (w : World) (b : Nat) (x0 x1 x2 x3 : Value) : World := (((w.setCell ⟨b, 0, none⟩ x0).setCell ⟨b, 1, none⟩ x1).setCell ⟨b, 2, none⟩ x2).setCell ⟨b, 3, none⟩ x3
theorem Cl.putc {w : World} {b : Nat} {t : TypeId} {y0 y1 y2 y3 : Value} (h : Cl w b t [y0, y1, y2, y3]) (x0 x1 x2 x3 : Value) : Cl (Ytlmmiicibjfcdaa.putc w b x0 x1 x2 x3) b t [x0, x1, x2, x3] := (((h.set 0 x0).set 1 x1).set 2 x2).set 3 x3
theorem Cl.others4 {w : World} {b k : Nat} {t : TypeId} {vs : List Value} (h : Cl w b t vs) (hk : k ≠ b) (x0 x1 x2 x3 : Value) : Cl (Ytlmmiicibjfcdaa.putc w k x0 x1 x2 x3) b t vs := (((h.other hk 0 x0).other hk 1 x1).other hk 2 x2).other hk 3 x3
theorem below_putc {w w' : World} {B b : Nat} (h : Below B w w') (hb : B ≤ b) (x0 x1 x2 x3 : Value) : Below B w (putc w' b x0 x1 x2 x3) := (((h.setCell (p := ⟨b, 0, none⟩) hb x0).setCell (p := ⟨b, 1, none⟩) hb x1).setCell (p := ⟨b, 2, none⟩) hb x2).setCell (p := ⟨b, 3, none⟩) hb x3
theorem el0 (w : World) : Cl ((w.alloc (.cells #[.int .u64 0, .int .u64 0, .int .u64 0, .int .u64 0] 40)).alloc (.cells #[.int .i64 0, .int .i64 0] 96)) w.heap.size 40 [.int .u64 0, .int .u64 0, .int .u64 0, .int .u64 0] := (Cl.new w 40 _).alloc _
theorem uq_start (w w1 : World) (k : Int) (b a0 a1 a2 a3 : Nat) (nt : Bool) (l m : Int) (lz : Bool) (at' en : Nat) (er : Int)
    (hb : Below ((w.alloc (.cells #[.int .u64 0, .int .u64 0, .int .u64 0, .int .u64 0] 40)).alloc (.cells #[.int .i64 0, .int .i64 0] 96)).heap.size ((w.alloc (.cells #[.int .u64 0, .int .u64 0, .int .u64 0, .int .u64 0] 40)).alloc (.cells #[.int .i64 0, .int .i64 0] 96)) w1) :
    Uq w w1.heap.size k b a0 a1 a2 a3 nt l m lz at' en er ((w1.alloc (.cells #[.int .i64 k, .int .u8 (b : Nat), .int .u64 (a0 : Nat), .int .u64 (a1 : Nat), .int .u64 (a2 : Nat), .int .u64 (a3 : Nat), .bool nt, .int .i64 l, .int .i64 m, .bool lz, .int .i64 (at' : Nat)] 42)).alloc (.cells #[.int .i64 (en : Nat), .int .i64 er] 96)) := by
  have hs := hb.size
  simp only [World.size_alloc] at hs
  refine ⟨(((el0 w).below hb).alloc _).alloc _, (((dl1 w _).below hb).alloc _).alloc _, (Cl.new w1 42 _).alloc _, ?_, ?_, by omega⟩
  · have := Cl.new (w1.alloc (.cells #[.int .i64 k, .int .u8 (b : Nat), .int .u64 (a0 : Nat), .int .u64 (a1 : Nat), .int .u64 (a2 : Nat), .int .u64 (a3 : Nat), .bool nt, .int .i64 l, .int .i64 m, .bool lz, .int .i64 (at' : Nat)] 42)) 96 [.int .i64 (en : Nat), .int .i64 er]
    simpa using this
  · exact (((bel2 w _ _).trans (hb.mono (by simp; omega))).alloc (by omega) _).alloc (by simp; omega) _
theorem Uq.next {w W w1 : World} {S : Nat} {k : Int} {b a0 a1 a2 a3 : Nat} {nt : Bool} {l m : Int} {lz : Bool} {at' en : Nat} {er : Int} (h : Uq w S k b a0 a1 a2 a3 nt l m lz at' en er W) (hb : Below W.heap.size W w1) : Uq w S k b a0 a1 a2 a3 nt l m lz at' en er w1 :=
  ⟨h.k0.below hb, h.k1.below hb, h.k2.below hb, h.k3.below hb, h.bel.trans (hb.mono h.bel.size), h.lt⟩
set_option maxRecDepth 10000 in
set_option maxHeartbeats 8000000 in
theorem un_bad (ao : Option Addr) (n cap at_ : Nat) (z : Nat → Nat) (w : World) (hr : Rd w ao n z) (hn : (n : Int) ≤ 1024) (ha : at_ < n) (he : (uniS z n at_).er ≠ 0) : Calls Try.prog 100 #[.slice ao n cap, .int .i64 (at_ : Nat)] w (RetU w (fun _ => false) (uniS z n at_).en (uniS z n at_).er) := by
  have HU : Hid (∀ W, Below w.heap.size w W → Calls Try.prog 118 #[.slice ao n cap, .int .i64 (at_ : Nat)] W (RetT W (uniS z n at_))) := fun W hb => unit_any ao n cap at_ z W (hr.below hb) hn ha
  generalize uniS z n at_ = s at *
  go_enter Try.func100, Try.ntmps100
  go_wp2_with fail
  refine (HU.out _ (bel2 _ _ _)).mono ?_
  rintro e w1 ⟨k, b, a0, a1, a2, a3, nt, l, m, lz, at', en, er, rfl, ⟨-, -, -, -, -, -, -, -, rfl, rfl⟩, hb⟩
  have uq := uq_start w w1 k b a0 a1 a2 a3 nt l m lz at' s.en s.er hb
  simp only [tokV, markV]
  go_wp2_with fail
  generalize ((w1.alloc (.cells #[.int .i64 k, .int .u8 (b : Nat), .int .u64 (a0 : Nat), .int .u64 (a1 : Nat), .int .u64 (a2 : Nat), .int .u64 (a3 : Nat), .bool nt, .int .i64 l, .int .i64 m, .bool lz, .int .i64 (at' : Nat)] 42)).alloc (.cells #[.int .i64 (s.en : Nat), .int .i64 s.er] 96)) = W at *
  have hS := uq.lt
  generalize w1.heap.size = S at *
  clear hb
  obtain ⟨⟨r0, r1⟩, s0, s1⟩ := uq.k3.two
  obtain ⟨⟨c0, c1, c2, c3⟩, h0, h1, h2, h3⟩ := uq.k0.four
  obtain ⟨⟨d0, d1⟩, e0, e1⟩ := uq.k1.two
  have F := ((uq.k0.putc (.int .u64 0) (.int .u64 0) (.int .u64 0) (.int .u64 0)).others2 (k := w.heap.size + 1) (by omega) (.int .i64 (s.en : Nat)) (.int .i64 s.er)).drew.four.1
  have G := ((uq.k1.others4 (k := w.heap.size) (by omega) (.int .u64 0) (.int .u64 0) (.int .u64 0) (.int .u64 0)).put2 (.int .i64 (s.en : Nat)) (.int .i64 s.er)).drew.two.1
  have hB4 := (below_put2 (b := w.heap.size + 1) (below_putc (b := w.heap.size) uq.bel (Nat.le_refl _) (.int .u64 0) (.int .u64 0) (.int .u64 0) (.int .u64 0)) (by omega) (.int .i64 (s.en : Nat)) (.int .i64 s.er)).drew
  simp only [put2, putc] at F G
  obtain ⟨F0, F1, F2, F3⟩ := F
  obtain ⟨G0, G1⟩ := G
  have HF : Hid (Below w.heap.size w _) := hB4
  have n1 : S + 1 ≠ w.heap.size := by omega
  have n2 : S + 1 ≠ w.heap.size + 1 := by omega
  have n3 : S ≠ w.heap.size := by omega
  have n4 : S ≠ w.heap.size + 1 := by omega
  clear hB4 uq
  go_region_with (fail)
  all_goals go_wp2
  all_goals exact bodyPost_ret (v := .tuple #[.agg #[.int .u64 0, .int .u64 0, .int .u64 0, .int .u64 0], markV s.en s.er]) (by simp [results, Try.results100, go_sem, markV, F0, F1, F2, F3, G0, G1]) rfl ⟨0, 0, 0, 0, rfl, c4_none, HF.out⟩
set_option maxRecDepth 10000 in
set_option maxHeartbeats 8000000 in
theorem un_one (ao : Option Addr) (n cap at_ : Nat) (w : World) (s : TokS) (P : Nat → Bool) (he : s.er = 0)
    (HU : Hid (∀ W, Below w.heap.size w W → Calls Try.prog 118 #[.slice ao n cap, .int .i64 (at_ : Nat)] W (RetT W s)))
    (HD : Hid (∀ W, Below w.heap.size w W → Calls Try.prog 119 #[.slice ao n cap, .int .i64 (s.en : Nat)] W fun e w' => e = .returned (.bool false) ∧ w' = W))
    (HB : Hid (∀ k b a0 a1 a2 a3 nt l m lz at' en er, s.is k b a0 a1 a2 a3 nt l m lz at' en er → ∀ W, Calls Try.prog 120 #[tokV k b a0 a1 a2 a3 nt l m lz at'] W (RetC W P))) : Calls Try.prog 100 #[.slice ao n cap, .int .i64 (at_ : Nat)] w (RetU w P s.en 0) := by
  go_enter Try.func100, Try.ntmps100
  go_wp2_with fail
  refine (HU.out _ (bel2 _ _ _)).mono ?_
  rintro e w1 ⟨k, b, a0, a1, a2, a3, nt, l, m, lz, at', en, er, rfl, hs, hb⟩
  have hB := HB.out _ _ _ _ _ _ _ _ _ _ _ _ _ hs
  obtain ⟨-, -, -, -, -, -, -, -, rfl, rfl⟩ := hs
  rw [he]
  have HC : Hid (∀ W, Calls Try.prog 120 #[.agg #[.int .i64 k, .int .u8 (b : Nat), .int .u64 (a0 : Nat), .int .u64 (a1 : Nat), .int .u64 (a2 : Nat), .int .u64 (a3 : Nat), .bool nt, .int .i64 l, .int .i64 m, .bool lz, .int .i64 (at' : Nat)]] W (RetC W P)) := hB
  clear hB HB HU
  have uq := uq_start w w1 k b a0 a1 a2 a3 nt l m lz at' s.en 0 hb
  simp only [tokV, markV]
  go_wp2_with fail
  refine (HD.out _ uq.bel).mono ?_
  rintro e w2 ⟨rfl, rfl⟩
  generalize ((w1.alloc (.cells #[.int .i64 k, .int .u8 (b : Nat), .int .u64 (a0 : Nat), .int .u64 (a1 : Nat), .int .u64 (a2 : Nat), .int .u64 (a3 : Nat), .bool nt, .int .i64 l, .int .i64 m, .bool lz, .int .i64 (at' : Nat)] 42)).alloc (.cells #[.int .i64 (s.en : Nat), .int .i64 0] 96)) = W at *
  have hS := uq.lt
  generalize w1.heap.size = S at *
  clear hb HD
  obtain ⟨⟨b0, b1, b2, b3, b4, b5, b6, b7, b8, b9, b10⟩, g0, g1, g2, g3, g4, g5, g6, g7, g8, g9, g10⟩ := uq.k2.eleven
  obtain ⟨⟨r0, r1⟩, s0, s1⟩ := uq.k3.two
  have n1 : S + 1 ≠ w.heap.size := by omega
  have n2 : S + 1 ≠ w.heap.size + 1 := by omega
  have n3 : S ≠ w.heap.size := by omega
  have n4 : S ≠ w.heap.size + 1 := by omega
  have HQ : Hid (Uq w S k b a0 a1 a2 a3 nt l m lz at' s.en 0 W) := uq
  clear uq
  go_wp2_with fail
  go_region_with (first | (
    go_at_call 120
    refine (HC.out _).mono ?_
    rintro e w2 ⟨⟨x0, x1, x2, x3, rfl, h4⟩, hb2⟩
    have u2 := (HQ.out.next (Below.refl _ _).drew).next hb2
    have H4 : Hid (C4 P x0 x1 x2 x3) := h4
    obtain ⟨⟨t0, t1⟩, v0, v1⟩ := u2.k3.two
    obtain ⟨⟨c0, c1, c2, c3⟩, h0, h1, h2, h3⟩ := u2.k0.four
    obtain ⟨⟨d0, d1⟩, e0, e1⟩ := u2.k1.two
    have F := ((u2.k0.putc (.int .u64 (x0 : Nat)) (.int .u64 (x1 : Nat)) (.int .u64 (x2 : Nat)) (.int .u64 (x3 : Nat))).others2 (k := w.heap.size + 1) (by omega) (.int .i64 (s.en : Nat)) (.int .i64 0)).four.1
    have G := ((u2.k1.others4 (k := w.heap.size) (by omega) (.int .u64 (x0 : Nat)) (.int .u64 (x1 : Nat)) (.int .u64 (x2 : Nat)) (.int .u64 (x3 : Nat))).put2 (.int .i64 (s.en : Nat)) (.int .i64 0)).two.1
    have hB4 := below_put2 (b := w.heap.size + 1) (below_putc (b := w.heap.size) u2.bel (Nat.le_refl _) (.int .u64 (x0 : Nat)) (.int .u64 (x1 : Nat)) (.int .u64 (x2 : Nat)) (.int .u64 (x3 : Nat))) (by omega) (.int .i64 (s.en : Nat)) (.int .i64 0)
    simp only [put2, putc] at F G
    obtain ⟨F0, F1, F2, F3⟩ := F
    obtain ⟨G0, G1⟩ := G
    have HF : Hid (Below w.heap.size w _) := hB4
    clear hB4 u2 h4 hb2))
  all_goals go_wp2
  all_goals exact bodyPost_ret (v := .tuple #[.agg #[.int .u64 (x0 : Nat), .int .u64 (x1 : Nat), .int .u64 (x2 : Nat), .int .u64 (x3 : Nat)], markV s.en 0]) (by simp [results, Try.results100, go_sem, markV, F0, F1, F2, F3, G0, G1]) rfl ⟨x0, x1, x2, x3, rfl, H4.out, HF.out⟩
end Go.Proofs.Ytlmmiicibjfcdaa
