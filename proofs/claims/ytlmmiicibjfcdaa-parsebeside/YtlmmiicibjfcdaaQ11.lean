/- token: tokens as values; the tokens of a pattern, one by one. token: the iterator of words: its passes. token: the iterator of words as a whole. token: Lex: the walk. token: Lex as a whole. -/
import Derived.OwnWalkIn
import Derived.TacticsInMore
import Derived.LoopNIn
import Derived.LoopIn
import Derived.Shelf.Abstract
import Derived.Maps.AppendAt
import Derived.Shelf.RegionOpen
import Derived.Test.YtlmmiicibjfcdaaQ10
namespace Go.Proofs.Ytlmmiicibjfcdaa
open Go.RowKit
theorem word_d (ao : Option Addr) (n cap at_ : Nat) (z : Nat → Nat) (w : World) (hr : Rd w ao n z) (hn : (n : Int) ≤ 1024) (ha : at_ < n) : Calls Try.prog 77 #[.slice ao n cap, .int .i64 (at_ : Nat)] w (RetD w (wrd z n at_)) :=
  (word_whole ao n cap at_ z w hr hn ha).mono fun _ _ h => h.d
/-- The words from a place on, the bad one last. -/
def wl (z : Nat → Nat) (n : Nat) : Nat → Nat → List TokS
  | 0, _ => []
  | f + 1, i => if n ≤ i then [] else wrd z n i :: if (wrd z n i).er = 0 then wl z n f (wrd z n i).en else []
theorem Rd.same {w w' : World} {ao : Option Addr} {len : Nat} {z : Nat → Nat} (h : Rd w ao len z) (hs : w.heap.size ≤ w'.heap.size) (hb : ∀ k, k < w.heap.size → w'.heap[k]? = w.heap[k]?) : Rd w' ao len z := by
  refine ⟨h.small, fun hl => ?_⟩
  obtain ⟨b, off, e, hlt, hc⟩ := h.at_ hl
  exact ⟨b, off, e, Nat.lt_of_lt_of_le hlt hs, fun i hi => by rw [← hc i hi]; simp [World.cell?, hb b hlt]⟩
theorem wo8_0 : findLabel (scopeIn Try.f76) 0 = some (Code.skip.seq (labelIn Try.f76 0)) := by kernel_rfl
def fr8 (b bp : Nat) (u : Nat → Value) : Array Value := #[.func (.yield (b + 1)) #[] #[], .pointer (some ⟨bp, 0, none⟩), u 2, .pointer (some ⟨b + 1 + 1, 0, none⟩), .pointer (some ⟨b + 1 + 1 + 1, 0, none⟩), u 5, u 6, u 7, u 8, u 9, u 10, u 11, u 12, u 13, u 14, u 15, u 16, u 17, u 18, u 19, u 20, u 21, u 22, u 23, u 24, u 25]
def Fr8 (b bp : Nat) (tm : Array Value) : Prop := ∃ u, tm = fr8 b bp u
theorem Fr8.of {b bp : Nat} (tm : Array Value) (h : tm = fr8 b bp (nth tm.toList)) : Fr8 b bp tm := ⟨_, h⟩
/-- The iterator's two blocks, the box of the pattern, and what lay there ahead. -/
structure It8 (wL : World) (b bp : Nat) (ao : Option Addr) (n cap : Nat) (i : Nat) (W : World) : Prop where
  t : ∃ x0 x1 x2 x3 x4 x5 x6 x7 x8 x9 x10, Cl W (b + 1 + 1) 42 [x0, x1, x2, x3, x4, x5, x6, x7, x8, x9, x10]
  m : Cl W (b + 1 + 1 + 1) 96 [.int .i64 (i : Nat), .int .i64 0]
  p : Cl W bp 48 [.slice ao n cap]
  old : ∀ k, k < wL.heap.size → W.heap[k]? = wL.heap[k]?
  sz : wL.heap.size ≤ bp ∧ bp < b
end Go.Proofs.Ytlmmiicibjfcdaa
namespace Go.Proofs.Ytlmmiicibjfcdaa
open Go.RowKit Go.Shelf
attribute [local go_sem] Oper.semAt_some
theorem put11_other {w : World} {k j : Nat} (h : j ≠ k) (x0 x1 x2 x3 x4 x5 x6 x7 x8 x9 x10 : Value) : (put11 w k x0 x1 x2 x3 x4 x5 x6 x7 x8 x9 x10).heap[j]? = w.heap[j]? := by
  unfold put11
  rw [Below.heap_setCell _ ⟨k, 10, none⟩ _ _ h, Below.heap_setCell _ ⟨k, 9, none⟩ _ _ h, Below.heap_setCell _ ⟨k, 8, none⟩ _ _ h, Below.heap_setCell _ ⟨k, 7, none⟩ _ _ h, Below.heap_setCell _ ⟨k, 6, none⟩ _ _ h, Below.heap_setCell _ ⟨k, 5, none⟩ _ _ h, Below.heap_setCell _ ⟨k, 4, none⟩ _ _ h, Below.heap_setCell _ ⟨k, 3, none⟩ _ _ h, Below.heap_setCell _ ⟨k, 2, none⟩ _ _ h, Below.heap_setCell _ ⟨k, 1, none⟩ _ _ h, Below.heap_setCell _ ⟨k, 0, none⟩ _ _ h]
theorem put2_other {w : World} {k j : Nat} (h : j ≠ k) (x0 x1 : Value) : (put2 w k x0 x1).heap[j]? = w.heap[j]? := by
  unfold put2
  rw [Below.heap_setCell _ ⟨k, 1, none⟩ _ _ h, Below.heap_setCell _ ⟨k, 0, none⟩ _ _ h]
theorem Cl.same {w w' : World} {b : Nat} {t : TypeId} {vs : List Value} (h : Cl w b t vs) (e : w'.heap[b]? = w.heap[b]?) : Cl w' b t vs := e.trans h
theorem Cl.one {w : World} {b : Nat} {t : TypeId} {x0 : Value} (h : Cl w b t [x0]) : w.cell? ⟨b, 0, none⟩ = some x0 ∧ w.frozen? ⟨b, 0, none⟩ = false := ⟨h.cell 0 rfl, h.frozen 0⟩
set_option maxRecDepth 20000 in
set_option maxHeartbeats 1000000 in
theorem w8_end {K : Nat → Act → World → Prop} {Q : Exit → Act → World → Prop} (wL : World) (b bp : Nat) (ao : Option Addr) (n cap i : Nat) (u : Nat → Value) (W : World) (hI : It8 wL b bp ao n cap i W) (hi : i = n)
    (hQ : Hid (∀ tm, Q .ret ⟨tm, []⟩ W)) : Code.wp Try.prog (labelIn Try.f76 0) (jumps K Q) ⟨fr8 b bp u, []⟩ W := by
  subst hi
  obtain ⟨⟨m0, m1⟩, n0, n1⟩ := hI.m.two
  obtain ⟨p0, p1⟩ := hI.p.one
  clear hI
  unfold fr8
  conv => arg 2; whnf
  go_wp2
  rw [jumps_ret]
  exact hQ.out _
set_option maxRecDepth 20000 in
set_option maxHeartbeats 1000000 in
theorem w8_go {K : Nat → Act → World → Prop} {Q : Exit → Act → World → Prop} (mm : Nat) (hm : 1 ≤ mm) (wL : World) (b bp : Nat) (Old : Nat → Prop) (hOld : ∀ k, (k < wL.heap.size ∨ k = bp) → Old k) (ao : Option Addr) (n cap i : Nat) (u : Nat → Value) (W : World) (hI : It8 wL b bp ao n cap i W) (hi : i < n)
    (k : Int) (b0 a0 a1 a2 a3 : Nat) (nt : Bool) (l m : Int) (lz : Bool) (at' en : Nat) (X Y : World → Prop)
    (HW : Hid (Calls Try.prog 77 #[.slice ao n cap, .int .i64 (i : Nat)] W fun e w' => e = .returned (.tuple #[tokV k b0 a0 a1 a2 a3 nt l m lz at', markV en 0]) ∧ Below W.heap.size W w'))
    (HY : Hid (∀ W1, TurnI b W W1 → YieldAt Fence.wide (mm - 1) Try.prog (b + 1) #[tokV k b0 a0 a1 a2 a3 nt l m lz at', markV en 0] W1 fun e W' => (e = .returned (.bool true) ∧ X W' ∧ KeepY b Old W1 W') ∨ (e = .returned (.bool false) ∧ Y W')))
    (hK : Hid (∀ tm W', Fr8 b bp tm → It8 wL b bp ao n cap en W' → X W' → K 0 ⟨tm, []⟩ W')) (hN : Hid (∀ tm W', Y W' → Q .normal ⟨tm, []⟩ W')) : Code.wp Try.prog (labelIn Try.f76 0) (jumps K Q) ⟨fr8 b bp u, []⟩ W := by
  obtain ⟨⟨m0, m1⟩, n0, n1⟩ := hI.m.two
  obtain ⟨p0, p1⟩ := hI.p.one
  have h1 : ((i : Int) == (n : Int)) = false := by simp; omega
  have HI : Hid (It8 wL b bp ao n cap i W) := hI
  clear hI hi
  unfold fr8
  conv => arg 2; whnf
  refine (wpIn_wide (n := mm)).1 ?_
  gi_wp2_with fail
  refine ⟨trivial, ?_⟩
  refine (callsIn_wide.2 HW.out).mono ?_
  rintro e w1 ⟨rfl, hb⟩
  obtain ⟨x0, x1, x2, x3, x4, x5, x6, x7, x8, x9, x10, ht⟩ := HI.out.t
  have ht1 := ht.below hb
  have hm1 := HI.out.m.below hb
  have hp1 := HI.out.p.below hb
  obtain ⟨f0, f1, f2, f3, f4, f5, f6, f7, f8, f9, f10⟩ := ht1.eleven.2
  obtain ⟨c0, c1, c2, c3, c4, c5, c6, c7, c8, c9, c10⟩ := ht1.eleven.1
  have hm2 := hm1.others11 (k := b + 1 + 1) (by omega) (.int .i64 k) (.int .u8 (b0 : Nat)) (.int .u64 (a0 : Nat)) (.int .u64 (a1 : Nat)) (.int .u64 (a2 : Nat)) (.int .u64 (a3 : Nat)) (.bool nt) (.int .i64 l) (.int .i64 m) (.bool lz) (.int .i64 (at' : Nat))
  obtain ⟨⟨g0, g1⟩, g2, g3⟩ := hm2.two
  have ht3 := (ht1.put11 (.int .i64 k) (.int .u8 (b0 : Nat)) (.int .u64 (a0 : Nat)) (.int .u64 (a1 : Nat)) (.int .u64 (a2 : Nat)) (.int .u64 (a3 : Nat)) (.bool nt) (.int .i64 l) (.int .i64 m) (.bool lz) (.int .i64 (at' : Nat))).others2 (k := b + 1 + 1 + 1) (by omega) (.int .i64 (en : Nat)) (.int .i64 0)
  have hm3 := hm2.put2 (.int .i64 (en : Nat)) (.int .i64 0)
  have hB3 := below_put2 (B := b + 1 + 1) (b := b + 1 + 1 + 1) (below_put11 (B := b + 1 + 1) (b := b + 1 + 1) (Below.refl _ w1) (Nat.le_refl _) (.int .i64 k) (.int .u8 (b0 : Nat)) (.int .u64 (a0 : Nat)) (.int .u64 (a1 : Nat)) (.int .u64 (a2 : Nat)) (.int .u64 (a3 : Nat)) (.bool nt) (.int .i64 l) (.int .i64 m) (.bool lz) (.int .i64 (at' : Nat))) (by omega) (.int .i64 (en : Nat)) (.int .i64 0)
  have hT : TurnI b w1 (put2 (put11 w1 (b + 1 + 1) (.int .i64 k) (.int .u8 (b0 : Nat)) (.int .u64 (a0 : Nat)) (.int .u64 (a1 : Nat)) (.int .u64 (a2 : Nat)) (.int .u64 (a3 : Nat)) (.bool nt) (.int .i64 l) (.int .i64 m) (.bool lz) (.int .i64 (at' : Nat))) (b + 1 + 1 + 1) (.int .i64 (en : Nat)) (.int .i64 0)) :=
    TurnI.of_set hB3 (fun j h2 h3 => (put2_other (show j ≠ b + 1 + 1 + 1 from h3) _ _).trans (put11_other (show j ≠ b + 1 + 1 from h2) _ _ _ _ _ _ _ _ _ _ _))
  have hT2 := (TurnI.of_below hb).trans hT
  have hold : ∀ j, j < wL.heap.size → (put2 (put11 w1 (b + 1 + 1) (.int .i64 k) (.int .u8 (b0 : Nat)) (.int .u64 (a0 : Nat)) (.int .u64 (a1 : Nat)) (.int .u64 (a2 : Nat)) (.int .u64 (a3 : Nat)) (.bool nt) (.int .i64 l) (.int .i64 m) (.bool lz) (.int .i64 (at' : Nat))) (b + 1 + 1 + 1) (.int .i64 (en : Nat)) (.int .i64 0)).heap[j]? = wL.heap[j]? := fun j hj => by
    have hz := HI.out.sz
    have hlt := HI.out.m.lt
    rw [hB3.block j (by omega), hb.block j (by omega)]
    exact HI.out.old j hj
  have hp3 := (hp1.others11 (k := b + 1 + 1) (by have := HI.out.sz; omega) (.int .i64 k) (.int .u8 (b0 : Nat)) (.int .u64 (a0 : Nat)) (.int .u64 (a1 : Nat)) (.int .u64 (a2 : Nat)) (.int .u64 (a3 : Nat)) (.bool nt) (.int .i64 l) (.int .i64 m) (.bool lz) (.int .i64 (at' : Nat))).others2 (k := b + 1 + 1 + 1) (by have := HI.out.sz; omega) (.int .i64 (en : Nat)) (.int .i64 0)
  obtain ⟨fn, tmps, assign, body, hy, hR⟩ := HY.out _ hT2
  have HR : Hid (∀ R', (∀ e w', _ → R' e w') → RoundIn Fence.wide (mm - 1) Try.prog (b + 1) fn tmps assign body _ R') := fun R' h => hR.mono h
  have hc := ht3.eleven.1
  have hd := hm3.two.1
  have H3 : Hid (Cl _ _ _ _ ∧ Cl _ _ _ _ ∧ Cl _ _ _ _) := ⟨ht3, hm3, hp3⟩
  have HO : Hid (∀ j, j < wL.heap.size → _) := hold
  simp only [put2, put11, tokV, markV] at hy hc hd g0 g1 g2 g3
  obtain ⟨d0, d1, d2, d3, d4, d5, d6, d7, d8, d9, d10⟩ := hc
  obtain ⟨e0, e1⟩ := hd
  clear hR ht ht1 hm1 hp1 hm2 ht3 hm3 hB3 hT hT2 hold hp3 m0 m1 n0 n1 p0 p1 hb HY HW
  simp only [tokV, markV]
  gi_wp2_with fail
  clear c0 c1 c2 c3 c4 c5 c6 c7 c8 c9 c10 f0 f1 f2 f3 f4 f5 f6 f7 f8 f9 f10 g0 g1 g2 g3 d0 d1 d2 d3 d4 d5 d6 d7 d8 d9 d10 e0 e1 hy
  refine HR.out _ ?_
  rintro e W3 (⟨rfl, hX, hk⟩ | ⟨rfl, hY⟩)
  · have hm3 := H3.out.2.1.same (hk.2 (b + 3) (.inr (.inr rfl)))
    have ht3 := H3.out.1.same (hk.2 (b + 2) (.inr (.inl rfl)))
    have hp3 := H3.out.2.2.same (hk.2 bp (.inl (hOld _ (.inr rfl))))
    have HG : Hid (It8 wL b bp ao n cap en W3) := ⟨⟨_, _, _, _, _, _, _, _, _, _, _, ht3⟩, hm3, hp3, fun j hj => (hk.2 j (.inl (hOld _ (.inl hj)))).trans (HO.out j hj), HI.out.sz⟩
    have HX : Hid (X W3) := hX
    obtain ⟨⟨e0, e1⟩, e2, e3⟩ := hm3.two
    clear hX hm3 ht3 hp3 hk HR H3 HO HI h1
    gi_wp2
    refine wpIn_wide.2 ?_
    go_step3
    exact hK.out _ _ (Fr8.of _ rfl) HG.out HX.out
  · have HV : Hid (Y W3) := hY
    clear hY HR H3 HO HI h1
    gi_wp2
    exact hN.out _ _ HV.out
set_option maxRecDepth 20000 in
set_option maxHeartbeats 1000000 in
theorem w8_bad {K : Nat → Act → World → Prop} {Q : Exit → Act → World → Prop} (mm : Nat) (hm : 1 ≤ mm) (wL : World) (b bp : Nat) (Old : Nat → Prop) (ao : Option Addr) (n cap i : Nat) (u : Nat → Value) (W : World) (hI : It8 wL b bp ao n cap i W) (hi : i < n)
    (k : Int) (b0 a0 a1 a2 a3 : Nat) (nt : Bool) (l m : Int) (lz : Bool) (at' en : Nat) (er : Int) (her : er ≠ 0) (X Y : World → Prop)
    (HW : Hid (Calls Try.prog 77 #[.slice ao n cap, .int .i64 (i : Nat)] W fun e w' => e = .returned (.tuple #[tokV k b0 a0 a1 a2 a3 nt l m lz at', markV en er]) ∧ Below W.heap.size W w'))
    (HY : Hid (∀ W1, TurnI b W W1 → YieldAt Fence.wide (mm - 1) Try.prog (b + 1) #[tokV k b0 a0 a1 a2 a3 nt l m lz at', markV en er] W1 fun e W' => (e = .returned (.bool true) ∧ X W' ∧ KeepY b Old W1 W') ∨ (e = .returned (.bool false) ∧ Y W')))
    (hK : Hid (∀ tm W', X W' → Q .normal ⟨tm, []⟩ W')) (hN : Hid (∀ tm W', Y W' → Q .normal ⟨tm, []⟩ W')) : Code.wp Try.prog (labelIn Try.f76 0) (jumps K Q) ⟨fr8 b bp u, []⟩ W := by
  obtain ⟨⟨m0, m1⟩, n0, n1⟩ := hI.m.two
  obtain ⟨p0, p1⟩ := hI.p.one
  have h1 : ((i : Int) == (n : Int)) = false := by simp; omega
  have h9 : (er == 0) = false := by simp [her]
  clear her
  have HI : Hid (It8 wL b bp ao n cap i W) := hI
  clear hI hi
  unfold fr8
  conv => arg 2; whnf
  refine (wpIn_wide (n := mm)).1 ?_
  gi_wp2_with fail
  refine ⟨trivial, ?_⟩
  refine (callsIn_wide.2 HW.out).mono ?_
  rintro e w1 ⟨rfl, hb⟩
  obtain ⟨x0, x1, x2, x3, x4, x5, x6, x7, x8, x9, x10, ht⟩ := HI.out.t
  have ht1 := ht.below hb
  have hm1 := HI.out.m.below hb
  have hp1 := HI.out.p.below hb
  obtain ⟨f0, f1, f2, f3, f4, f5, f6, f7, f8, f9, f10⟩ := ht1.eleven.2
  obtain ⟨c0, c1, c2, c3, c4, c5, c6, c7, c8, c9, c10⟩ := ht1.eleven.1
  have hm2 := hm1.others11 (k := b + 1 + 1) (by omega) (.int .i64 k) (.int .u8 (b0 : Nat)) (.int .u64 (a0 : Nat)) (.int .u64 (a1 : Nat)) (.int .u64 (a2 : Nat)) (.int .u64 (a3 : Nat)) (.bool nt) (.int .i64 l) (.int .i64 m) (.bool lz) (.int .i64 (at' : Nat))
  obtain ⟨⟨g0, g1⟩, g2, g3⟩ := hm2.two
  have ht3 := (ht1.put11 (.int .i64 k) (.int .u8 (b0 : Nat)) (.int .u64 (a0 : Nat)) (.int .u64 (a1 : Nat)) (.int .u64 (a2 : Nat)) (.int .u64 (a3 : Nat)) (.bool nt) (.int .i64 l) (.int .i64 m) (.bool lz) (.int .i64 (at' : Nat))).others2 (k := b + 1 + 1 + 1) (by omega) (.int .i64 (en : Nat)) (.int .i64 er)
  have hm3 := hm2.put2 (.int .i64 (en : Nat)) (.int .i64 er)
  have hB3 := below_put2 (B := b + 1 + 1) (b := b + 1 + 1 + 1) (below_put11 (B := b + 1 + 1) (b := b + 1 + 1) (Below.refl _ w1) (Nat.le_refl _) (.int .i64 k) (.int .u8 (b0 : Nat)) (.int .u64 (a0 : Nat)) (.int .u64 (a1 : Nat)) (.int .u64 (a2 : Nat)) (.int .u64 (a3 : Nat)) (.bool nt) (.int .i64 l) (.int .i64 m) (.bool lz) (.int .i64 (at' : Nat))) (by omega) (.int .i64 (en : Nat)) (.int .i64 er)
  have hT : TurnI b w1 (put2 (put11 w1 (b + 1 + 1) (.int .i64 k) (.int .u8 (b0 : Nat)) (.int .u64 (a0 : Nat)) (.int .u64 (a1 : Nat)) (.int .u64 (a2 : Nat)) (.int .u64 (a3 : Nat)) (.bool nt) (.int .i64 l) (.int .i64 m) (.bool lz) (.int .i64 (at' : Nat))) (b + 1 + 1 + 1) (.int .i64 (en : Nat)) (.int .i64 er)) :=
    TurnI.of_set hB3 (fun j h2 h3 => (put2_other (show j ≠ b + 1 + 1 + 1 from h3) _ _).trans (put11_other (show j ≠ b + 1 + 1 from h2) _ _ _ _ _ _ _ _ _ _ _))
  have hT2 := (TurnI.of_below hb).trans hT
  have hold : ∀ j, j < wL.heap.size → (put2 (put11 w1 (b + 1 + 1) (.int .i64 k) (.int .u8 (b0 : Nat)) (.int .u64 (a0 : Nat)) (.int .u64 (a1 : Nat)) (.int .u64 (a2 : Nat)) (.int .u64 (a3 : Nat)) (.bool nt) (.int .i64 l) (.int .i64 m) (.bool lz) (.int .i64 (at' : Nat))) (b + 1 + 1 + 1) (.int .i64 (en : Nat)) (.int .i64 er)).heap[j]? = wL.heap[j]? := fun j hj => by
    have hz := HI.out.sz
    have hlt := HI.out.m.lt
    rw [hB3.block j (by omega), hb.block j (by omega)]
    exact HI.out.old j hj
  have hp3 := (hp1.others11 (k := b + 1 + 1) (by have := HI.out.sz; omega) (.int .i64 k) (.int .u8 (b0 : Nat)) (.int .u64 (a0 : Nat)) (.int .u64 (a1 : Nat)) (.int .u64 (a2 : Nat)) (.int .u64 (a3 : Nat)) (.bool nt) (.int .i64 l) (.int .i64 m) (.bool lz) (.int .i64 (at' : Nat))).others2 (k := b + 1 + 1 + 1) (by have := HI.out.sz; omega) (.int .i64 (en : Nat)) (.int .i64 er)
  obtain ⟨fn, tmps, assign, body, hy, hR⟩ := HY.out _ hT2
  have HR : Hid (∀ R', (∀ e w', _ → R' e w') → RoundIn Fence.wide (mm - 1) Try.prog (b + 1) fn tmps assign body _ R') := fun R' h => hR.mono h
  have hc := ht3.eleven.1
  have hd := hm3.two.1
  have H3 : Hid (Cl _ _ _ _ ∧ Cl _ _ _ _ ∧ Cl _ _ _ _) := ⟨ht3, hm3, hp3⟩
  have HO : Hid (∀ j, j < wL.heap.size → _) := hold
  simp only [put2, put11, tokV, markV] at hy hc hd g0 g1 g2 g3
  obtain ⟨d0, d1, d2, d3, d4, d5, d6, d7, d8, d9, d10⟩ := hc
  obtain ⟨e0, e1⟩ := hd
  clear hR ht ht1 hm1 hp1 hm2 ht3 hm3 hB3 hT hT2 hold hp3 m0 m1 n0 n1 p0 p1 hb HY HW
  simp only [tokV, markV]
  gi_wp2_with fail
  clear c0 c1 c2 c3 c4 c5 c6 c7 c8 c9 c10 f0 f1 f2 f3 f4 f5 f6 f7 f8 f9 f10 g0 g1 g2 g3 d0 d1 d2 d3 d4 d5 d6 d7 d8 d9 d10 e0 e1 hy
  refine HR.out _ ?_
  rintro e W3 (⟨rfl, hX, hk⟩ | ⟨rfl, hY⟩)
  · have hm3 := H3.out.2.1.same (hk.2 (b + 3) (.inr (.inr rfl)))
    have HX : Hid (X W3) := hX
    obtain ⟨⟨e0, e1⟩, e2, e3⟩ := hm3.two
    clear hX hm3 hk HR H3 HO HI h1
    gi_wp2
    exact hK.out _ _ HX.out
  · have HV : Hid (Y W3) := hY
    clear hY HR H3 HO HI h1
    gi_wp2
    exact hN.out _ _ HV.out
end Go.Proofs.Ytlmmiicibjfcdaa
namespace Go.Proofs.Ytlmmiicibjfcdaa
open Go.RowKit Go.Shelf
theorem wl_end {z : Nat → Nat} {n f i : Nat} (h : n ≤ i) : wl z n f i = [] := by
  cases f with
  | zero => rfl
  | succ f => rw [wl, if_pos h]
theorem wl_go {z : Nat → Nat} {n f i : Nat} (h : i < n) (e : (wrd z n i).er = 0) : wl z n (f + 1) i = wrd z n i :: wl z n f (wrd z n i).en := by rw [wl, if_neg (by omega), if_pos e]
theorem wl_bad {z : Nat → Nat} {n f i : Nat} (h : i < n) (e : (wrd z n i).er ≠ 0) : wl z n (f + 1) i = [wrd z n i] := by rw [wl, if_neg (by omega), if_neg e]
/-- What holds at the iterator's jumps, and what it answers. -/
def WoJ (wL : World) (b bp : Nat) (ao : Option Addr) (n cap : Nat) (z : Nat → Nat) (J : List TokS → World → Prop) (l m : Nat) (a : Act) (W : World) : Prop :=
  l = 0 ∧ ∃ u f i pre, m = f ∧ a = ⟨fr8 b bp u, []⟩ ∧ It8 wL b bp ao n cap i W ∧ J pre W ∧ pre.length ≤ i ∧ i ≤ n ∧ n - i < f ∧ pre ++ wl z n f i = wl z n 1100 0
def WoR (n : Nat) (z : Nat → Nat) (J Jx : List TokS → World → Prop) (e : Ending) (W' : World) : Prop := (∃ v, e = .returned v) ∧ ((∃ xs, xs = wl z n 1100 0 ∧ J xs W') ∨ (∃ pre, pre <+: wl z n 1100 0 ∧ Jx pre W'))
/-- The iterator of words. -/
theorem words_seq (mm : Nat) (hm : 1 ≤ mm) (wL w : World) (bp : Nat) (Old : Nat → Prop) (hOld : ∀ k, (k < wL.heap.size ∨ k = bp) → Old k) (ao : Option Addr) (n cap : Nat) (z : Nat → Nat) (hr : Rd wL ao n z) (hn : (n : Int) ≤ 1024)
    (hp : Cl w bp 48 [.slice ao n cap]) (hold : ∀ k, k < wL.heap.size → w.heap[k]? = wL.heap[k]?) (hbp : wL.heap.size ≤ bp) :
    SeqT Fence.wide mm Try.prog w.heap.size Old 76 #[.pointer (some ⟨bp, 0, none⟩)] (fun s : TokS => #[tokOf s, markV s.en s.er]) (fun ys => ys = wl z n 1100 0) (fun pre => pre <+: wl z n 1100 0) 1024 w := by
  intro J Jx W hb hs hJ hJx hY h0
  have hlt := hp.lt
  have key : ∀ (f i : Nat) (pre : List TokS) (u : Nat → Value) (W : World), It8 wL w.heap.size bp ao n cap i W → J pre W → pre.length ≤ i → i ≤ n → n - i < f → pre ++ wl z n f i = wl z n 1100 0 →
      Code.wp Try.prog (labelIn Try.f76 0) (jumps (fun l' a' w' => ∃ m', m' < f ∧ WoJ wL w.heap.size bp ao n cap z J l' m' a' w') (bodyPost Try.prog Try.f76 (WoR n z J Jx))) ⟨fr8 w.heap.size bp u, []⟩ W := by
    intro f i pre u W hI hj hpi hi hf hall
    obtain ⟨f, rfl⟩ : ∃ f', f = f' + 1 := ⟨f - 1, by omega⟩
    by_cases hin : i = n
    · rw [wl_end (by omega), List.append_nil] at hall
      exact w8_end wL _ bp ao n cap i u W hI hin (fun tm => bodyPost_ret (results_none rfl _ _ _) rfl ⟨⟨_, rfl⟩, .inl ⟨pre, hall, hj⟩⟩)
    have hin' : i < n := by omega
    have hrW : Rd W ao n z := hr.same (by have := hI.m.lt; have := hI.sz; omega) hI.old
    have HW := word_d ao n cap i z W hrW hn hin'
    have hsz : w.heap.size + 4 ≤ W.heap.size := by have := hI.m.lt; omega
    by_cases he : (wrd z n i).er = 0
    · rw [wl_go hin' he] at hall
      have hen := wrd_lt hin' he
      unfold RetD tokOf at HW
      rw [he] at HW
      refine w8_go mm hm wL _ bp Old hOld ao n cap i u W hI hin' _ _ _ _ _ _ _ _ _ _ _ _ (fun W' => J (pre ++ [wrd z n i]) W') (fun W' => Jx (pre ++ [wrd z n i]) W') HW (fun W1 ht => ?_) (fun tm W' hfr hI' hx => ?_) (fun tm W' hy => ?_)
      · have := hY pre (wrd z n i) W1 (hJ _ _ _ hj ht) (Nat.le_trans hsz ht.size) (by omega)
        dsimp only [tokOf] at this
        rw [he] at this
        exact this
      · obtain ⟨u', rfl⟩ := hfr
        exact ⟨f, by omega, rfl, u', f, _, _, rfl, rfl, hI', hx, by rw [List.length_append, List.length_singleton]; omega, hen.2.1, by omega, by rw [← hall]; simp⟩
      · exact bodyPost_end (results_none rfl _ _ _) rfl ⟨⟨_, rfl⟩, .inr ⟨_, ⟨wl z n f (wrd z n i).en, by rw [← hall]; simp⟩, hy⟩⟩
    · rw [wl_bad hin' he] at hall
      unfold RetD tokOf at HW
      refine w8_bad mm hm wL _ bp Old ao n cap i u W hI hin' _ _ _ _ _ _ _ _ _ _ _ _ _ he (fun W' => J (pre ++ [wrd z n i]) W') (fun W' => Jx (pre ++ [wrd z n i]) W') HW (fun W1 ht => ?_) (fun tm W' hx => ?_) (fun tm W' hy => ?_)
      · have := hY pre (wrd z n i) W1 (hJ _ _ _ hj ht) (Nat.le_trans hsz ht.size) (by omega)
        dsimp only [tokOf] at this
        exact this
      · exact bodyPost_end (results_none rfl _ _ _) rfl ⟨⟨_, rfl⟩, .inl ⟨_, hall, hx⟩⟩
      · exact bodyPost_end (results_none rfl _ _ _) rfl ⟨⟨_, rfl⟩, .inr ⟨_, ⟨[], by rw [List.append_nil]; exact hall⟩, hy⟩⟩
  show CallsIn Fence.wide mm Try.prog 76 _ W (WoR n z J Jx)
  refine callsIn_of_wp Try.func76 rfl trivial ?_ rfl
  refine wpIn_wide.2 ?_
  refine wp_scope_labels (WoJ wL w.heap.size bp ao n cap z J) ?_ ?_
  · have HK : Hid (∀ (tm : Array Value) W, Fr8 w.heap.size bp tm → It8 wL w.heap.size bp ao n cap 0 W → J [] W → Code.wp Try.prog (labelIn Try.f76 0) (jumps (fun l' a' w' => ∃ m', WoJ wL w.heap.size bp ao n cap z J l' m' a' w') (bodyPost Try.prog Try.f76 (WoR n z J Jx))) ⟨tm, []⟩ W) := fun tm W ⟨u, e⟩ hI hj => e ▸ Code.wp_mono (jumps_mono fun l a w' ⟨m, _, h⟩ => ⟨m, h⟩) (key 1100 0 [] u W hI hj (Nat.zero_le _) (Nat.zero_le _) (by omega) rfl)
    have hB : Below (w.heap.size + 2) W ((W.alloc (.cells #[.int .i64 0, .int .u8 0, .int .u64 0, .int .u64 0, .int .u64 0, .int .u64 0, .bool false, .int .i64 0, .int .i64 0, .bool false, .int .i64 0] 42)).alloc (.cells #[.int .i64 0, .int .i64 0] 96)) := by rw [← hs]; exact bel2 W _ _
    have HI : Hid (It8 wL w.heap.size bp ao n cap 0 ((W.alloc (.cells #[.int .i64 0, .int .u8 0, .int .u64 0, .int .u64 0, .int .u64 0, .int .u64 0, .bool false, .int .i64 0, .int .i64 0, .bool false, .int .i64 0] 42)).alloc (.cells #[.int .i64 0, .int .i64 0] 96))) := by
      have k0 := dl0 W (.cells #[.int .i64 0, .int .i64 0] 96)
      have k1 := dl1 W (.cells #[.int .i64 0, .int .u8 0, .int .u64 0, .int .u64 0, .int .u64 0, .int .u64 0, .bool false, .int .i64 0, .int .i64 0, .bool false, .int .i64 0] 42)
      rw [hs] at k0 k1
      refine ⟨⟨_, _, _, _, _, _, _, _, _, _, _, k0⟩, k1, ?_, fun k hk => ?_, hbp, hlt⟩
      · exact (hp.same (hb.block bp hlt)).same (hB.block bp (by omega))
      · rw [hB.block k (by omega), hb.block k (by omega)]; exact hold k hk
    have HJ : Hid (J [] ((W.alloc (.cells #[.int .i64 0, .int .u8 0, .int .u64 0, .int .u64 0, .int .u64 0, .int .u64 0, .bool false, .int .i64 0, .int .i64 0, .bool false, .int .i64 0] 42)).alloc (.cells #[.int .i64 0, .int .i64 0] 96))) := hJ _ _ _ h0 (TurnI.of_below (bel2 W _ _))
    clear key h0 hB hY hJ hJx hold hp hb hlt hbp hOld hr hm hn
    have hs1 : W.heap.size = w.heap.size + 1 + 1 := hs
    clear hs
    simp only [Try.ntmps76, List.size_toArray, List.length_cons, List.length_nil, Nat.reduceAdd, Nat.reduceSub, Array.replicate_succ, Array.replicate_zero, List.push_toArray, List.append_toArray, List.nil_append, List.cons_append]
    go_wp2_with fail
    go_step3
    rename_i K hK
    refine hK _ _ ?_
    clear hK
    exact HK.out _ _ (Fr8.of _ rfl) HI.out HJ.out
  · rintro l m a W' ⟨rfl, u, f, i, pre, rfl, rfl, hI, hj, hpi, hi, hf, hall⟩
    exact ⟨_, wo8_0, wp_skip_seq (key m i pre u W' hI hj hpi hi hf hall)⟩
end Go.Proofs.Ytlmmiicibjfcdaa
namespace Go.Proofs.Ytlmmiicibjfcdaa
open Go.RowKit Go.Shelf
attribute [local go_sem] Oper.semAt_some
set_option maxHeartbeats 400000 in
theorem words_any (ao : Option Addr) (n cap : Nat) (w : World) : Calls Try.prog 60 #[.slice ao n cap] w fun e w' => e = .returned (.func (.func 76) #[] #[.pointer (some ⟨w.heap.size, 0, none⟩)]) ∧ w' = w.alloc (.cells #[.slice ao n cap] 48) := by
  go_enter Try.func60, Try.ntmps60
  go_wp2
  go_ret
  exact ⟨rfl, rfl⟩
theorem b_tok : (Try.prog.info? 42).map (fun i => (i.zero, i.size, i.bytes)) = some (some (.agg #[.int .i64 0, .int .u8 0, .int .u64 0, .int .u64 0, .int .u64 0, .int .u64 0, .bool false, .int .i64 0, .int .i64 0, .bool false, .int .i64 0]), 11, 88) := by kernel_rfl
/-- The cells of tokens, one behind the other. -/
def tokL (l : List TokS) : List Value := l.flatMap tokC
theorem tokL_snoc (l : List TokS) (x : TokS) : tokL (l ++ [x]) = tokL l ++ tokC x := by simp [tokL]
theorem ownsRow_at {W W' : World} {base e size k : Nat} {v : Value} {xs : List Value} (h : W.ownsRow base e size v k xs) (hs : ∀ g, base ≤ g → g < W.heap.size → W'.heap[g]? = W.heap[g]?) : W'.ownsRow base e size v k xs :=
  ⟨h.1, h.2.imp id fun ⟨g, cap, cur, hv, hg, hc, r⟩ => ⟨g, cap, cur, hv, hg, (hs g hg (Array.getElem?_eq_some_iff.1 hc).1).trans hc, r⟩⟩
theorem ownsRow_own {W : World} {base e size k : Nat} {v : Value} {xs : List Value} (h : W.ownsRow base e size v k xs) : ∀ g, v.ownBlock = some g → base ≤ g := by
  intro g hg
  rcases h.2 with ⟨rfl, _⟩ | ⟨g', cap, cur, rfl, hb, _⟩
  · cases hg
  · simp [Value.ownBlock] at hg; omega
theorem ownsRow_slice {W : World} {base e size k : Nat} {v : Value} {xs : List Value} (h : W.ownsRow base e size v k xs) : ∃ ao cap, v = .slice ao k cap := by
  rcases h.2 with ⟨h, h0⟩ | ⟨g, cap, cur, h, _⟩
  · exact ⟨none, 0, by rw [h, h0]⟩
  · exact ⟨_, cap, h⟩
theorem ownsRow_base {W : World} {base base' e size k : Nat} {v : Value} {xs : List Value} (h : W.ownsRow base e size v k xs) (hb : base' ≤ base) : W.ownsRow base' e size v k xs :=
  ⟨h.1, h.2.imp id fun ⟨g, cap, cur, hv, hg, r⟩ => ⟨g, cap, cur, hv, Nat.le_trans hb hg, r⟩⟩
/-- What Lex holds between rounds: the tokens in a row of their own, none of them bad. -/
structure LxI (w : World) (pre : List TokS) (W : World) : Prop where
  row : ∃ v, Cl W (w.heap.size + 1 + 1 + 1) 24 [v] ∧ W.ownsRow (w.heap.size + 9) 42 11 v pre.length (tokL pre)
  r0 : Cl W w.heap.size 24 [.slice none 0 0]
  r1 : Cl W (w.heap.size + 1) 3 [.int .i64 0]
  r2 : Cl W (w.heap.size + 1 + 1) 29 [.int .i64 0]
  bel : Below w.heap.size w W
  good : ∀ s, s ∈ pre → s.er = 0
/-- What it has stored where a word is bad. -/
structure LxX (w : World) (pre : List TokS) (W : World) : Prop where
  bad : ∃ s, s ∈ pre ∧ s.er ≠ 0 ∧ Cl W (w.heap.size + 1) 3 [.int .i64 (s.en : Nat)] ∧ Cl W (w.heap.size + 1 + 1) 29 [.int .i64 s.er]
  r0 : Cl W w.heap.size 24 [.slice none 0 0]
  bel : Below w.heap.size w W
theorem Cl.turn {A B : World} {b k : Nat} {t : TypeId} {vs : List Value} (h : Cl A k t vs) (ht : Turn b A B) (hk : k < b ∨ b + 4 ≤ k) : Cl B k t vs := h.same (ht.block k h.lt hk)
theorem Turn.below {N b : Nat} {w A B : World} (ht : Turn b A B) (h : Below N w A) (hN : N ≤ b) (hs : N ≤ A.heap.size) : Below N w B :=
  ⟨ht.os.trans h.os, ht.tape.trans h.tape, ht.output.trans h.output, Nat.le_trans h.size ht.size, fun k hk => (ht.block k (by omega) (by omega)).trans (h.block k hk)⟩
theorem LxI.turn {w A B : World} {pre : List TokS} (h : LxI w pre A) (ht : Turn (w.heap.size + 5) A B) : LxI w pre B := by
  obtain ⟨⟨v, hv, hrow⟩, h0, h1, h2, hb, hg⟩ := h
  exact ⟨⟨v, hv.turn ht (by omega), ownsRow_at hrow fun g hg hl => ht.block g hl (by omega)⟩, h0.turn ht (by omega), h1.turn ht (by omega), h2.turn ht (by omega), ht.below hb (by omega) (Nat.le_of_lt h0.lt), hg⟩
theorem LxX.turn {w A B : World} {pre : List TokS} (h : LxX w pre A) (ht : Turn (w.heap.size + 5) A B) : LxX w pre B := by
  obtain ⟨⟨s, hs, he, h1, h2⟩, h0, hb⟩ := h
  exact ⟨⟨s, hs, he, h1.turn ht (by omega), h2.turn ht (by omega)⟩, h0.turn ht (by omega), ht.below hb (by omega) (Nat.le_of_lt h0.lt)⟩
/-- The loop's variables in a round. -/
def LxA (w : World) (ao : Option Addr) (n cap : Nat) (x : TokS) (a' : Act) (W : World) : Prop :=
  ∃ p, w.heap.size + 9 ≤ p ∧ a' = ⟨#[.slice ao n cap, undef, .pointer (some ⟨w.heap.size, 0, none⟩), .pointer (some ⟨w.heap.size + 1, 0, none⟩), .pointer (some ⟨w.heap.size + 1 + 1, 0, none⟩), .pointer (some ⟨w.heap.size + 1 + 1 + 1, 0, none⟩), .pointer (some ⟨p, 0, none⟩), .pointer (some ⟨p + 1, 0, none⟩), .slice ao n cap, .int .i64 (n : Nat), .bool false, .slice ao n cap, .func (.func 76) #[] #[.pointer (some ⟨w.heap.size + 1 + 1 + 1 + 1, 0, none⟩)], tokOf x, markV x.en x.er, undef, undef, undef, undef, undef, undef, undef, undef, undef, undef, undef, undef, undef, undef], []⟩ ∧ Cl W p 42 (tokC x) ∧ Cl W (p + 1) 96 [.int .i64 (x.en : Nat), .int .i64 x.er]
def LxOld (w : World) (k : Nat) : Prop := k < w.heap.size ∨ k = w.heap.size + 4
theorem KeepT.of_below {w A B : World} (h : Below A.heap.size A B) (hs : w.heap.size + 9 ≤ A.heap.size) : KeepT (w.heap.size + 5) (LxOld w) A B :=
  ⟨h.size, fun k hk => h.block k (by unfold LxOld at hk; omega)⟩
theorem lx_step {w W w2 : World} {pre : List TokS} {x : TokS} {v v' : Value} {tmp : Obj} (h : LxI w pre W) (he : x.er = 0) (hsz : w.heap.size + 9 ≤ W.heap.size) (hv : Cl W (w.heap.size + 1 + 1 + 1) 24 [v]) (hrow : W.ownsRow (w.heap.size + 9) 42 11 v pre.length (tokL pre))
    (hown' : w2.ownsRow (w.heap.size + 9) 42 11 v' (pre.length + 1) (tokL pre ++ tokC x)) (hgrow : (W.alloc tmp).grownBy w2 v.ownBlock) :
    Cl w2 (w.heap.size + 1 + 1 + 1) 24 [v] ∧ KeepT (w.heap.size + 5) (LxOld w) W (w2.setCell ⟨w.heap.size + 1 + 1 + 1, 0, none⟩ v') ∧ LxI w (pre ++ [x]) (w2.setCell ⟨w.heap.size + 1 + 1 + 1, 0, none⟩ v') := by
  have hsm : ∀ k, k < W.heap.size → k < w.heap.size + 9 → w2.heap[k]? = W.heap[k]? := fun k hk hk9 => by
    rw [hgrow.block k (by simp; omega) (fun e => by have := ownsRow_own hrow k e.symm; omega), Below.heap_alloc W tmp k hk]
  have hss : ∀ k, k ≠ w.heap.size + 1 + 1 + 1 → (w2.setCell ⟨w.heap.size + 1 + 1 + 1, 0, none⟩ v').heap[k]? = w2.heap[k]? := fun k hk => Below.heap_setCell _ _ _ _ hk
  have hv2 := hv.same (hsm _ hv.lt (by omega))
  have hsize : W.heap.size ≤ w2.heap.size := by have := hgrow.size; simp at this; omega
  have hsz2 : (w2.setCell ⟨w.heap.size + 1 + 1 + 1, 0, none⟩ v').heap.size = w2.heap.size := by simp
  refine ⟨hv2, ⟨by omega, fun k hk => ?_⟩, ⟨⟨v', ?_, ?_⟩, ?_, ?_, ?_, ?_, ?_⟩⟩
  · unfold LxOld at hk
    rw [hss k (by omega), hsm k (by omega) (by omega)]
  · exact hv2.set 0 v'
  · rw [List.length_append, List.length_singleton, tokL_snoc]
    exact ownsRow_at hown' fun g hg _ => hss g (by omega)
  · exact (h.r0.same (hsm _ h.r0.lt (by omega))).same (hss _ (by omega))
  · exact (h.r1.same (hsm _ h.r1.lt (by omega))).same (hss _ (by omega))
  · exact (h.r2.same (hsm _ h.r2.lt (by omega))).same (hss _ (by omega))
  · exact ⟨hgrow.os.trans h.bel.os, hgrow.tape.trans h.bel.tape, hgrow.output.trans h.bel.output, by rw [hsz2]; exact Nat.le_trans h.bel.size hsize, fun k hk => by rw [hss k (by omega), hsm k (by omega) (by omega)]; exact h.bel.block k hk⟩
  · intro s hs
    rcases List.mem_append.1 hs with hs | hs
    · exact h.good s hs
    · rw [List.mem_singleton.1 hs]; exact he
theorem put3 {w W : World} {pre : List TokS} (h : LxI w pre W) (x y z : Value) :
    Cl ((((W.setCell ⟨w.heap.size, 0, none⟩ x).setCell ⟨w.heap.size + 1, 0, none⟩ y).setCell ⟨w.heap.size + 1 + 1, 0, none⟩ z)) w.heap.size 24 [x] ∧ Cl ((((W.setCell ⟨w.heap.size, 0, none⟩ x).setCell ⟨w.heap.size + 1, 0, none⟩ y).setCell ⟨w.heap.size + 1 + 1, 0, none⟩ z)) (w.heap.size + 1) 3 [y] ∧ Cl ((((W.setCell ⟨w.heap.size, 0, none⟩ x).setCell ⟨w.heap.size + 1, 0, none⟩ y).setCell ⟨w.heap.size + 1 + 1, 0, none⟩ z)) (w.heap.size + 1 + 1) 29 [z] ∧
    Below w.heap.size w ((((W.setCell ⟨w.heap.size, 0, none⟩ x).setCell ⟨w.heap.size + 1, 0, none⟩ y).setCell ⟨w.heap.size + 1 + 1, 0, none⟩ z)) ∧ (∀ k, k ≠ w.heap.size → k ≠ w.heap.size + 1 → k ≠ w.heap.size + 1 + 1 → ((((W.setCell ⟨w.heap.size, 0, none⟩ x).setCell ⟨w.heap.size + 1, 0, none⟩ y).setCell ⟨w.heap.size + 1 + 1, 0, none⟩ z)).heap[k]? = W.heap[k]?) := by
  refine ⟨((h.r0.set 0 x).other (by omega) 0 y).other (by omega) 0 z, ((h.r1.other (by omega) 0 x).set 0 y).other (by omega) 0 z, ((h.r2.other (by omega) 0 x).other (by omega) 0 y).set 0 z, ((h.bel.setCell (p := ⟨w.heap.size, 0, none⟩) (Nat.le_refl _) x).setCell (p := ⟨w.heap.size + 1, 0, none⟩) (by show w.heap.size ≤ w.heap.size + 1; omega) y).setCell (p := ⟨w.heap.size + 1 + 1, 0, none⟩) (by show w.heap.size ≤ w.heap.size + 1 + 1; omega) z, fun k h0 h1 h2 => ?_⟩
  rw [Below.heap_setCell _ ⟨w.heap.size + 1 + 1, 0, none⟩ _ _ h2, Below.heap_setCell _ ⟨w.heap.size + 1, 0, none⟩ _ _ h1, Below.heap_setCell _ ⟨w.heap.size, 0, none⟩ _ _ h0]
theorem eleven_new (w : World) (x0 x1 x2 x3 x4 x5 x6 x7 x8 x9 x10 : Value) (t : TypeId) : ∀ j u, [x0, x1, x2, x3, x4, x5, x6, x7, x8, x9, x10][j]? = some u → (w.alloc (.cells #[x0, x1, x2, x3, x4, x5, x6, x7, x8, x9, x10] t)).cell? ((⟨w.heap.size, 0, none⟩ : Addr).add j) = some u := by
  intro j u hj
  have h := (Cl.new w t [x0, x1, x2, x3, x4, x5, x6, x7, x8, x9, x10]).cell j hj
  have e : (⟨w.heap.size, 0, none⟩ : Addr).add j = ⟨w.heap.size, j, none⟩ := by simp [Addr.add]; exact fun h => h.symm
  rw [e]
  exact h
/-- What Lex answers. -/
def RetLx (w : World) (z : Nat → Nat) (n : Nat) (e : Ending) (w' : World) : Prop :=
  (∃ ao cap, (∀ s, s ∈ wl z n 1100 0 → s.er = 0) ∧ e = .returned (.tuple #[.slice ao (wl z n 1100 0).length cap, .int .i64 (n : Nat), .int .i64 0]) ∧ w'.ownsRow w.heap.size 42 11 (.slice ao (wl z n 1100 0).length cap) (wl z n 1100 0).length (tokL (wl z n 1100 0)) ∧ Below w.heap.size w w') ∨
  (∃ s, s ∈ wl z n 1100 0 ∧ s.er ≠ 0 ∧ e = .returned (.tuple #[.slice none 0 0, .int .i64 (s.en : Nat), .int .i64 s.er]) ∧ Below w.heap.size w w')
end Go.Proofs.Ytlmmiicibjfcdaa
namespace Go.Proofs.Ytlmmiicibjfcdaa
open Go.RowKit Go.Shelf
attribute [local go_sem] Oper.semAt_some
set_option maxRecDepth 100000 in
set_option maxHeartbeats 2000000 in
theorem lex_short (ao : Option Addr) (n cap : Nat) (z : Nat → Nat) (w : World) (hr : Rd w ao n z) (hn : (n : Int) ≤ 1024) : Calls Try.prog 35 #[.slice ao n cap] w (RetLx w z n) := by
  have hgt : ¬ ((n : Int) > 1024) := by omega
  have hB0 : Below w.heap.size w (((((w.alloc (.cells #[.slice none 0 0] 24)).alloc (.cells #[.int .i64 0] 3)).alloc (.cells #[.int .i64 0] 29)).alloc (.cells #[.slice none 0 0] 24)).alloc (.cells #[.slice ao n cap] 48)) := (bel4 w _ _ _ _).alloc (by simp; omega) _
  have hI0 : LxI w [] (((((w.alloc (.cells #[.slice none 0 0] 24)).alloc (.cells #[.int .i64 0] 3)).alloc (.cells #[.int .i64 0] 29)).alloc (.cells #[.slice none 0 0] 24)).alloc (.cells #[.slice ao n cap] 48)) := by
    refine ⟨⟨.slice none 0 0, ?_, World.ownsRow_nil _ _ _ _⟩, ?_, ?_, ?_, hB0, fun s hs => by cases hs⟩
    · have := (Cl.new (((w.alloc (.cells #[.slice none 0 0] 24)).alloc (.cells #[.int .i64 0] 3)).alloc (.cells #[.int .i64 0] 29)) 24 [.slice none 0 0]).alloc (.cells #[.slice ao n cap] 48)
      simpa using this
    · exact ((((Cl.new w 24 [.slice none 0 0]).alloc _).alloc _).alloc _).alloc _
    · have := (((Cl.new (w.alloc (.cells #[.slice none 0 0] 24)) 3 [.int .i64 0]).alloc (.cells #[.int .i64 0] 29)).alloc (.cells #[.slice none 0 0] 24)).alloc (.cells #[.slice ao n cap] 48)
      simpa using this
    · have := ((Cl.new ((w.alloc (.cells #[.slice none 0 0] 24)).alloc (.cells #[.int .i64 0] 3)) 29 [.int .i64 0]).alloc (.cells #[.slice none 0 0] 24)).alloc (.cells #[.slice ao n cap] 48)
      simpa using this
  have hP0 : Cl (((((w.alloc (.cells #[.slice none 0 0] 24)).alloc (.cells #[.int .i64 0] 3)).alloc (.cells #[.int .i64 0] 29)).alloc (.cells #[.slice none 0 0] 24)).alloc (.cells #[.slice ao n cap] 48)) (w.heap.size + 1 + 1 + 1 + 1) 48 [.slice ao n cap] := by
    have := Cl.new ((((w.alloc (.cells #[.slice none 0 0] 24)).alloc (.cells #[.int .i64 0] 3)).alloc (.cells #[.int .i64 0] 29)).alloc (.cells #[.slice none 0 0] 24)) 48 [.slice ao n cap]
    simpa using this
  have hW := words_any ao n cap
  refine (callsIn_wide (n := 5)).1 ?_
  refine callsIn_of_wp_marks Try.func35 rfl trivial ?_ rfl
  simp only [Try.ntmps35, List.size_toArray, List.length_cons, List.length_nil, Nat.reduceAdd, Nat.reduceSub, Array.replicate_succ, Array.replicate_zero, List.push_toArray, List.append_toArray, List.nil_append, List.cons_append]
  gi_wp2_with (refine ⟨trivial, ?_⟩; gi_at_call 60; refine (callsIn_wide.2 (hW _)).mono ?_; rintro e w1 ⟨rfl, rfl⟩)
  generalize hw1 : ((((w.alloc (.cells #[.slice none 0 0] 24)).alloc (.cells #[.int .i64 0] 3)).alloc (.cells #[.int .i64 0] 29)).alloc (.cells #[.slice none 0 0] 24)).alloc (.cells #[.slice ao n cap] 48) = w1 at *
  have hs : w1.heap.size = w.heap.size + 5 := by rw [← hw1]; simp
  have hold : ∀ k, k < w.heap.size → w1.heap[k]? = w.heap[k]? := fun k hk => hB0.block k hk
  clear hw1 hW
  obtain ⟨i0, hi, hz0, hz1, hz2⟩ := info_parts b_tok
  refine wpIn_rangeFunc_turn (n := 5) rfl (by decide) (gf := 76) (lb := #[.pointer (some ⟨w.heap.size + 1 + 1 + 1 + 1, 0, none⟩)]) rfl trivial (enters_of Try.func76 (by kernel_rfl) rfl)
    (encs := fun s : TokS => #[tokOf s, markV s.en s.er]) (S := fun ys => ys = wl z n 1100 0) (Sp := fun pre => pre <+: wl z n 1100 0) (N := 1024) (LxOld w) (fun k hk => by unfold LxOld at hk; omega)
    (words_seq 4 (by decide) w w1 (w.heap.size + 1 + 1 + 1 + 1) (LxOld w) (fun _ h => h) ao n cap z hr hn hP0 hold (by omega)) (fun _ => rfl)
    (LxI w) (fun c pre W => c = .ret ∧ LxX w pre W) (fun s A B h ht => h.turn (hs ▸ ht)) (fun c s A B h ht => ⟨h.1, h.2.turn (hs ▸ ht)⟩) hI0
    (LxA w ao n cap) (fun x a' A B h ht => ?_) ?assign ?body ?done ?stop
  · obtain ⟨p, hp, e, h1, h2⟩ := h
    exact ⟨p, hp, e, h1.turn ht (by omega), h2.turn ht (by omega)⟩
  case assign =>
    intro pre x W K hI hsz hK
    rw [hs] at hsz
    have HX : Hid (LxA w ao n cap x ⟨#[.slice ao n cap, undef, .pointer (some ⟨w.heap.size, 0, none⟩), .pointer (some ⟨w.heap.size + 1, 0, none⟩), .pointer (some ⟨w.heap.size + 1 + 1, 0, none⟩), .pointer (some ⟨w.heap.size + 1 + 1 + 1, 0, none⟩), .pointer (some ⟨W.heap.size, 0, none⟩), .pointer (some ⟨W.heap.size + 1, 0, none⟩), .slice ao n cap, .int .i64 (n : Nat), .bool false, .slice ao n cap, .func (.func 76) #[] #[.pointer (some ⟨w.heap.size + 1 + 1 + 1 + 1, 0, none⟩)], tokOf x, markV x.en x.er, undef, undef, undef, undef, undef, undef, undef, undef, undef, undef, undef, undef, undef, undef], []⟩ ((W.alloc (.cells #[.int .i64 x.k, .int .u8 (x.b : Nat), .int .u64 (wds x.P 0 : Nat), .int .u64 (wds x.P 1 : Nat), .int .u64 (wds x.P 2 : Nat), .int .u64 (wds x.P 3 : Nat), .bool x.nt, .int .i64 x.l, .int .i64 x.m, .bool x.lz, .int .i64 (x.at_ : Nat)] 42)).alloc (.cells #[.int .i64 (x.en : Nat), .int .i64 x.er] 96))) := by
      refine ⟨W.heap.size, by omega, rfl, (Cl.new W 42 _).alloc _, ?_⟩
      have := Cl.new (W.alloc (.cells #[.int .i64 x.k, .int .u8 (x.b : Nat), .int .u64 (wds x.P 0 : Nat), .int .u64 (wds x.P 1 : Nat), .int .u64 (wds x.P 2 : Nat), .int .u64 (wds x.P 3 : Nat), .bool x.nt, .int .i64 x.l, .int .i64 x.m, .bool x.lz, .int .i64 (x.at_ : Nat)] 42)) 96 [.int .i64 (x.en : Nat), .int .i64 x.er]
      simpa using this
    have HI : Hid (LxI w pre ((W.alloc (.cells #[.int .i64 x.k, .int .u8 (x.b : Nat), .int .u64 (wds x.P 0 : Nat), .int .u64 (wds x.P 1 : Nat), .int .u64 (wds x.P 2 : Nat), .int .u64 (wds x.P 3 : Nat), .bool x.nt, .int .i64 x.l, .int .i64 x.m, .bool x.lz, .int .i64 (x.at_ : Nat)] 42)).alloc (.cells #[.int .i64 (x.en : Nat), .int .i64 x.er] 96))) := hI.turn (Turn.of_below (bel2 W _ _))
    have HT : Hid (KeepT w1.heap.size (LxOld w) W ((W.alloc (.cells #[.int .i64 x.k, .int .u8 (x.b : Nat), .int .u64 (wds x.P 0 : Nat), .int .u64 (wds x.P 1 : Nat), .int .u64 (wds x.P 2 : Nat), .int .u64 (wds x.P 3 : Nat), .bool x.nt, .int .i64 x.l, .int .i64 x.m, .bool x.lz, .int .i64 (x.at_ : Nat)] 42)).alloc (.cells #[.int .i64 (x.en : Nat), .int .i64 x.er] 96))) := by rw [hs]; exact KeepT.of_below (bel2 W _ _) (by omega)
    clear hI hold hP0 hI0 hB0 hr
    unfold tokOf markV tokV at *
    gi_wp2
    exact hK _ _ HT.out HI.out HX.out
  case body =>
    rintro pre x a' W hI ⟨p, hp, rfl, ht, hm⟩ hsz hlen
    rw [hs] at hsz
    obtain ⟨v, hv, hrow⟩ := hI.row
    obtain ⟨⟨m0, m1⟩, n0, n1⟩ := hm.two
    obtain ⟨v0, v1⟩ := hv.one
    by_cases he : x.er = 0
    · have h9 : (x.er != 0) = false := by simp [he]
      have HC : Hid (Cl W p 42 [.int .i64 x.k, .int .u8 (x.b : Nat), .int .u64 (wds x.P 0 : Nat), .int .u64 (wds x.P 1 : Nat), .int .u64 (wds x.P 2 : Nat), .int .u64 (wds x.P 3 : Nat), .bool x.nt, .int .i64 x.l, .int .i64 x.m, .bool x.lz, .int .i64 (x.at_ : Nat)]) := ht
      obtain ⟨c0, c1, c2, c3, c4, c5, c6, c7, c8, c9, c10⟩ := HC.out.eleven.1
      obtain ⟨ao', cap', rfl⟩ := ownsRow_slice hrow
      have HS : Hid (∀ v' w2, w2.ownsRow (w.heap.size + 9) 42 11 v' (pre.length + 1) (tokL pre ++ [.int .i64 x.k, .int .u8 (x.b : Nat), .int .u64 (wds x.P 0 : Nat), .int .u64 (wds x.P 1 : Nat), .int .u64 (wds x.P 2 : Nat), .int .u64 (wds x.P 3 : Nat), .bool x.nt, .int .i64 x.l, .int .i64 x.m, .bool x.lz, .int .i64 (x.at_ : Nat)]) → (W.alloc (.cells #[.int .i64 x.k, .int .u8 (x.b : Nat), .int .u64 (wds x.P 0 : Nat), .int .u64 (wds x.P 1 : Nat), .int .u64 (wds x.P 2 : Nat), .int .u64 (wds x.P 3 : Nat), .bool x.nt, .int .i64 x.l, .int .i64 x.m, .bool x.lz, .int .i64 (x.at_ : Nat)] 42)).grownBy w2 (Value.slice ao' pre.length cap').ownBlock → _) := fun v' w2 ho hg => lx_step (x := x) hI he hsz hv hrow ho hg
      have hb : (pre.length : Int) < 1024 := by omega
      clear ht hm hI hv hold hP0 hI0 hB0 hr he
      unfold tokOf markV tokV
      generalize wds x.P 0 = a0 at *
      generalize wds x.P 1 = a1 at *
      generalize wds x.P 2 = a2 at *
      generalize wds x.P 3 = a3 at *
      gi_wp2_with (gi_at_builtin; refine wpListIn_append_own _ rfl _ _ 24 rfl (w.heap.size + 9) 42 i0 (.agg #[.int .i64 0, .int .u8 0, .int .u64 0, .int .u64 0, .int .u64 0, .int .u64 0, .bool false, .int .i64 0, .int .i64 0, .bool false, .int .i64 0]) 11 88 Try.underlying24 hi hz0 hz1 hz2 rfl (by decide) _ _ _ rfl (hrow.alloc _) ⟨W.heap.size, 0, none⟩ 1 1 [.int .i64 x.k, .int .u8 (x.b : Nat), .int .u64 (a0 : Nat), .int .u64 (a1 : Nat), .int .u64 (a2 : Nat), .int .u64 (a3 : Nat), .bool x.nt, .int .i64 x.l, .int .i64 x.m, .bool x.lz, .int .i64 (x.at_ : Nat)] rfl rfl (eleven_new _ _ _ _ _ _ _ _ _ _ _ _ _) (by simp [Value.oneCell']) (by unfold maxLen; omega) (by omega) (by simp; omega) ?_; intro v' w2 hown' hgrow _; obtain ⟨hv2, hk2, hi2⟩ := HS.out v' w2 hown' hgrow; obtain ⟨ao2, cap2, rfl⟩ := ownsRow_slice hown'; obtain ⟨q0, q1⟩ := hv2.one; have HZ : Hid (_ ∧ _) := ⟨hk2, hi2⟩; clear hk2 hi2 hv2 hgrow)
      exact ⟨by rw [hs]; exact HZ.out.1, HZ.out.2⟩
    · have h9 : (x.er != 0) = true := by simp [he]
      obtain ⟨p0, p1, p2, p3, p4⟩ := put3 hI (.slice none 0 0) (.int .i64 (x.en : Nat)) (.int .i64 x.er)
      have HX : Hid (LxX w (pre ++ [x]) ((((W.setCell ⟨w.heap.size, 0, none⟩ (.slice none 0 0)).setCell ⟨w.heap.size + 1, 0, none⟩ (.int .i64 (x.en : Nat))).setCell ⟨w.heap.size + 1 + 1, 0, none⟩ (.int .i64 x.er)).drew)) := ⟨⟨x, by simp, he, p1.drew, p2.drew⟩, p0.drew, p3.drew⟩
      have HK : Hid (KeepT w1.heap.size (LxOld w) W ((((W.setCell ⟨w.heap.size, 0, none⟩ (.slice none 0 0)).setCell ⟨w.heap.size + 1, 0, none⟩ (.int .i64 (x.en : Nat))).setCell ⟨w.heap.size + 1 + 1, 0, none⟩ (.int .i64 x.er)).drew)) := ⟨by show W.heap.size ≤ (((W.setCell _ _).setCell _ _).setCell _ _).heap.size; simp, fun k hk => by rw [hs] at hk; unfold LxOld at hk; exact p4 k (by omega) (by omega) (by omega)⟩
      obtain ⟨r0, r1⟩ := hI.r0.one
      obtain ⟨s0, s1⟩ := hI.r1.one
      obtain ⟨t0, t1⟩ := hI.r2.one
      have hmo : Try.prog.follows .mixedOrders = true := by kernel_rfl
      have np : p ≠ w.heap.size ∧ p ≠ w.heap.size + 1 ∧ p ≠ w.heap.size + 1 + 1 ∧ p + 1 ≠ w.heap.size ∧ p + 1 ≠ w.heap.size + 1 ∧ p + 1 ≠ w.heap.size + 1 + 1 := by omega
      obtain ⟨np0, np1, np2, np3, np4, np5⟩ := np
      clear ht hm hI hv hold hP0 hI0 hB0 hr he hrow p0 p1 p2 p3 p4
      unfold tokOf markV tokV
      gi_wp2_with fail
      gi_region_with_o (fail)
      all_goals gi_wp2
      all_goals exact ⟨HK.out, rfl, HX.out⟩
  case done =>
    rintro xs W rfl hI hD
    obtain ⟨v, hv, hrow⟩ := hI.row
    obtain ⟨ao', cap', rfl⟩ := ownsRow_slice hrow
    obtain ⟨v0, v1⟩ := hv.one
    obtain ⟨r0, r1⟩ := hI.r0.one
    obtain ⟨s0, s1⟩ := hI.r1.one
    obtain ⟨t0, t1⟩ := hI.r2.one
    have hg := hI.good
    obtain ⟨p0, p1, p2, p3, p4⟩ := put3 hI (.slice ao' (wl z n 1100 0).length cap') (.int .i64 (n : Nat)) (.int .i64 0)
    have HR : Hid (RetLx w z n (.returned (.tuple #[.slice ao' (wl z n 1100 0).length cap', .int .i64 (n : Nat), .int .i64 0])) (((((W.setCell ⟨w.heap.size, 0, none⟩ (.slice ao' (wl z n 1100 0).length cap')).setCell ⟨w.heap.size + 1, 0, none⟩ (.int .i64 (n : Nat))).setCell ⟨w.heap.size + 1 + 1, 0, none⟩ (.int .i64 0)).putObj w1.heap.size (.deferred none)))) := by
      refine .inl ⟨ao', cap', hg, rfl, ownsRow_base (ownsRow_at (ownsRow_at hrow fun g hg _ => p4 g (by omega) (by omega) (by omega)) fun g hg _ => World.putObj_heap_other (by omega)) (by omega), ?_⟩
      exact (Turn.put (b := w1.heap.size) (w1.heap.size) _ ⟨Nat.le_refl _, by omega⟩).below p3 (by omega) (Nat.le_trans (Nat.le_of_lt p0.lt) (Nat.le_refl _))
    have q0 := (p0.same (World.putObj_heap_other (r := w1.heap.size) (o := .deferred none) (by omega))).one.1
    have q1 := (p1.same (World.putObj_heap_other (r := w1.heap.size) (o := .deferred none) (by omega))).one.1
    have q2 := (p2.same (World.putObj_heap_other (r := w1.heap.size) (o := .deferred none) (by omega))).one.1
    have hD2 := (p4 w1.heap.size (by omega) (by omega) (by omega)).trans hD
    clear p0 p1 p2 p3 p4 hI hrow hg hv hold hP0 hI0 hB0 hr
    generalize (wl z n 1100 0).length = len at *
    gi_wp2
    refine ⟨by simp, .inl ⟨_, _, rfl, run_takeDeferred hD2, ?_⟩⟩
    exact ⟨.tuple #[.slice ao' len cap', .int .i64 (n : Nat), .int .i64 0], by simp [results, Try.results35, go_sem, q0, q1, q2], HR.out⟩
  case stop =>
    rintro pre W hSp ⟨-, ⟨s, hs1, he, h1, h2⟩, h0, hb⟩ hD
    have HR : Hid (RetLx w z n (.returned (.tuple #[.slice none 0 0, .int .i64 (s.en : Nat), .int .i64 s.er])) (W.putObj w1.heap.size (.deferred none))) :=
      .inr ⟨s, hSp.subset hs1, he, rfl, (Turn.put (b := w1.heap.size) (w1.heap.size) _ ⟨Nat.le_refl _, by omega⟩).below hb (by omega) (Nat.le_of_lt h0.lt)⟩
    have q0 := (h0.same (World.putObj_heap_other (r := w1.heap.size) (o := .deferred none) (by omega))).one.1
    have q1 := (h1.same (World.putObj_heap_other (r := w1.heap.size) (o := .deferred none) (by omega))).one.1
    have q2 := (h2.same (World.putObj_heap_other (r := w1.heap.size) (o := .deferred none) (by omega))).one.1
    clear h0 h1 h2 hb hSp hs1 he hold hP0 hI0 hB0 hr
    gi_wp2
    refine ⟨by simp, .inl ⟨_, _, rfl, run_takeDeferred hD, ?_⟩⟩
    exact ⟨.tuple #[.slice none 0 0, .int .i64 (s.en : Nat), .int .i64 s.er], by simp [results, Try.results35, go_sem, q0, q1, q2], HR.out⟩
set_option maxRecDepth 10000 in
set_option maxHeartbeats 400000 in
theorem lex_long (ao : Option Addr) (n cap : Nat) (w : World) (hn : (n : Int) > 1024) : Calls Try.prog 35 #[.slice ao n cap] w fun e w' => e = .returned (.tuple #[.slice none 0 0, .int .i64 0, .int .i64 3]) ∧ Below w.heap.size w w' := by
  go_enter Try.func35, Try.ntmps35
  go_wp2
  exact bodyPost_ret (v := .tuple #[.slice none 0 0, .int .i64 0, .int .i64 3]) (by simp [results, Try.results35, go_sem]) rfl ⟨rfl, bel3 _ _ _ _⟩
end Go.Proofs.Ytlmmiicibjfcdaa
