/- token: the iterator of words: its passes. token: the iterator of words as a whole. -/
import Derived.Test.YtkbeiadbolihiaaDoorM18Wo
import Derived.OwnWalkIn
import Derived.TacticsInMore
import Derived.LoopNIn
import Derived.LoopIn
import Derived.Shelf.Abstract
namespace Go.Proofs.YtkbeiadbolihiaaDoor
open Go.RowKit Go.Shelf
attribute [local go_sem] Oper.semAt_some
theorem put11_other {w : World} {k j : Nat} (h : j ≠ k) (x0 x1 x2 x3 x4 x5 x6 x7 x8 x9 x10 : Value) : (put11 w k x0 x1 x2 x3 x4 x5 x6 x7 x8 x9 x10).heap[j]? = w.heap[j]? := by
  unfold put11
  rw [Below.heap_setCell _ ⟨k, 10, none⟩ _ _ h, Below.heap_setCell _ ⟨k, 9, none⟩ _ _ h, Below.heap_setCell _ ⟨k, 8, none⟩ _ _ h, Below.heap_setCell _ ⟨k, 7, none⟩ _ _ h, Below.heap_setCell _ ⟨k, 6, none⟩ _ _ h, Below.heap_setCell _ ⟨k, 5, none⟩ _ _ h, Below.heap_setCell _ ⟨k, 4, none⟩ _ _ h, Below.heap_setCell _ ⟨k, 3, none⟩ _ _ h, Below.heap_setCell _ ⟨k, 2, none⟩ _ _ h, Below.heap_setCell _ ⟨k, 1, none⟩ _ _ h, Below.heap_setCell _ ⟨k, 0, none⟩ _ _ h]
theorem put2_other {w : World} {k j : Nat} (h : j ≠ k) (x0 x1 : Value) : (put2 w k x0 x1).heap[j]? = w.heap[j]? := by
  unfold put2
  rw [Below.heap_setCell _ ⟨k, 1, none⟩ _ _ h, Below.heap_setCell _ ⟨k, 0, none⟩ _ _ h]
theorem Cl.same {w w' : World} {b : Nat} {t : TypeId} {vs : List Value} (h : Cl w b t vs) (e : w'.heap[b]? = w.heap[b]?) : Cl w' b t vs := e.trans h
theorem Cl.one {w : World} {b : Nat} {t : TypeId} {x0 : Value} (h : Cl w b t [x0]) : w.cell? ⟨b, 0, none⟩ = some x0 ∧ w.frozen? ⟨b, 0, none⟩ = false := ⟨h.cell 0 rfl, h.frozen 0⟩
set_option maxRecDepth 20000 in
set_option maxHeartbeats 1000000 in
theorem w8_end {K : Nat → Act → World → Prop} {Q : Exit → Act → World → Prop} (wL : World) (b bp : Nat) (ao : Option Addr) (n cap i : Nat) (u : Nat → Value) (W : World) (hI : It8 wL b bp ao n cap i W) (hi : i = n)
    (hQ : Hid (∀ tm, Q .ret ⟨tm, []⟩ W)) : Code.wp Tryd.prog (labelIn Tryd.f46 0) (jumps K Q) ⟨fr8 b bp u, []⟩ W := by
  subst hi
  obtain ⟨⟨m0, m1⟩, n0, n1⟩ := hI.m.two
  obtain ⟨p0, p1⟩ := hI.p.one
  clear hI
  unfold fr8
  conv => arg 2; whnf
  go_wp2
  rw [jumps_ret]
  exact hQ.out _
set_option maxRecDepth 20000 in
set_option maxHeartbeats 1000000 in
theorem w8_go {K : Nat → Act → World → Prop} {Q : Exit → Act → World → Prop} (mm : Nat) (hm : 1 ≤ mm) (wL : World) (b bp : Nat) (Old : Nat → Prop) (hOld : ∀ k, (k < wL.heap.size ∨ k = bp) → Old k) (ao : Option Addr) (n cap i : Nat) (u : Nat → Value) (W : World) (hI : It8 wL b bp ao n cap i W) (hi : i < n)
    (k : Int) (b0 a0 a1 a2 a3 : Nat) (nt : Bool) (l m : Int) (lz : Bool) (at' en : Nat) (X Y : World → Prop)
    (HW : Hid (Calls Tryd.prog 47 #[.slice ao n cap, .int .i64 (i : Nat)] W fun e w' => e = .returned (.tuple #[tokV k b0 a0 a1 a2 a3 nt l m lz at', markV en 0]) ∧ Below W.heap.size W w'))
    (HY : Hid (∀ W1, TurnI b W W1 → YieldAt Fence.wide (mm - 1) Tryd.prog (b + 1) #[tokV k b0 a0 a1 a2 a3 nt l m lz at', markV en 0] W1 fun e W' => (e = .returned (.bool true) ∧ X W' ∧ KeepY b Old W1 W') ∨ (e = .returned (.bool false) ∧ Y W')))
    (hK : Hid (∀ tm W', Fr8 b bp tm → It8 wL b bp ao n cap en W' → X W' → K 0 ⟨tm, []⟩ W')) (hN : Hid (∀ tm W', Y W' → Q .normal ⟨tm, []⟩ W')) : Code.wp Tryd.prog (labelIn Tryd.f46 0) (jumps K Q) ⟨fr8 b bp u, []⟩ W := by
  obtain ⟨⟨m0, m1⟩, n0, n1⟩ := hI.m.two
  obtain ⟨p0, p1⟩ := hI.p.one
  have h1 : ((i : Int) == (n : Int)) = false := by simp; omega
  have HI : Hid (It8 wL b bp ao n cap i W) := hI
  clear hI hi
  unfold fr8
  conv => arg 2; whnf
  refine (wpIn_wide (n := mm)).1 ?_
  gi_wp2_with fail
  refine ⟨trivial, ?_⟩
  refine (callsIn_wide.2 HW.out).mono ?_
  rintro e w1 ⟨rfl, hb⟩
  obtain ⟨x0, x1, x2, x3, x4, x5, x6, x7, x8, x9, x10, ht⟩ := HI.out.t
  have ht1 := ht.below hb
  have hm1 := HI.out.m.below hb
  have hp1 := HI.out.p.below hb
  obtain ⟨f0, f1, f2, f3, f4, f5, f6, f7, f8, f9, f10⟩ := ht1.eleven.2
  obtain ⟨c0, c1, c2, c3, c4, c5, c6, c7, c8, c9, c10⟩ := ht1.eleven.1
  have hm2 := hm1.others11 (k := b + 1 + 1) (by omega) (.int .i64 k) (.int .u8 (b0 : Nat)) (.int .u64 (a0 : Nat)) (.int .u64 (a1 : Nat)) (.int .u64 (a2 : Nat)) (.int .u64 (a3 : Nat)) (.bool nt) (.int .i64 l) (.int .i64 m) (.bool lz) (.int .i64 (at' : Nat))
  obtain ⟨⟨g0, g1⟩, g2, g3⟩ := hm2.two
  have ht3 := (ht1.put11 (.int .i64 k) (.int .u8 (b0 : Nat)) (.int .u64 (a0 : Nat)) (.int .u64 (a1 : Nat)) (.int .u64 (a2 : Nat)) (.int .u64 (a3 : Nat)) (.bool nt) (.int .i64 l) (.int .i64 m) (.bool lz) (.int .i64 (at' : Nat))).others2 (k := b + 1 + 1 + 1) (by omega) (.int .i64 (en : Nat)) (.int .i64 0)
  have hm3 := hm2.put2 (.int .i64 (en : Nat)) (.int .i64 0)
  have hB3 := below_put2 (B := b + 1 + 1) (b := b + 1 + 1 + 1) (below_put11 (B := b + 1 + 1) (b := b + 1 + 1) (Below.refl _ w1) (Nat.le_refl _) (.int .i64 k) (.int .u8 (b0 : Nat)) (.int .u64 (a0 : Nat)) (.int .u64 (a1 : Nat)) (.int .u64 (a2 : Nat)) (.int .u64 (a3 : Nat)) (.bool nt) (.int .i64 l) (.int .i64 m) (.bool lz) (.int .i64 (at' : Nat))) (by omega) (.int .i64 (en : Nat)) (.int .i64 0)
  have hT : TurnI b w1 (put2 (put11 w1 (b + 1 + 1) (.int .i64 k) (.int .u8 (b0 : Nat)) (.int .u64 (a0 : Nat)) (.int .u64 (a1 : Nat)) (.int .u64 (a2 : Nat)) (.int .u64 (a3 : Nat)) (.bool nt) (.int .i64 l) (.int .i64 m) (.bool lz) (.int .i64 (at' : Nat))) (b + 1 + 1 + 1) (.int .i64 (en : Nat)) (.int .i64 0)) :=
    TurnI.of_set hB3 (fun j h2 h3 => (put2_other (show j ≠ b + 1 + 1 + 1 from h3) _ _).trans (put11_other (show j ≠ b + 1 + 1 from h2) _ _ _ _ _ _ _ _ _ _ _))
  have hT2 := (TurnI.of_below hb).trans hT
  have hold : ∀ j, j < wL.heap.size → (put2 (put11 w1 (b + 1 + 1) (.int .i64 k) (.int .u8 (b0 : Nat)) (.int .u64 (a0 : Nat)) (.int .u64 (a1 : Nat)) (.int .u64 (a2 : Nat)) (.int .u64 (a3 : Nat)) (.bool nt) (.int .i64 l) (.int .i64 m) (.bool lz) (.int .i64 (at' : Nat))) (b + 1 + 1 + 1) (.int .i64 (en : Nat)) (.int .i64 0)).heap[j]? = wL.heap[j]? := fun j hj => by
    have hz := HI.out.sz
    have hlt := HI.out.m.lt
    rw [hB3.block j (by omega), hb.block j (by omega)]
    exact HI.out.old j hj
  have hp3 := (hp1.others11 (k := b + 1 + 1) (by have := HI.out.sz; omega) (.int .i64 k) (.int .u8 (b0 : Nat)) (.int .u64 (a0 : Nat)) (.int .u64 (a1 : Nat)) (.int .u64 (a2 : Nat)) (.int .u64 (a3 : Nat)) (.bool nt) (.int .i64 l) (.int .i64 m) (.bool lz) (.int .i64 (at' : Nat))).others2 (k := b + 1 + 1 + 1) (by have := HI.out.sz; omega) (.int .i64 (en : Nat)) (.int .i64 0)
  obtain ⟨fn, tmps, assign, body, hy, hR⟩ := HY.out _ hT2
  have HR : Hid (∀ R', (∀ e w', _ → R' e w') → RoundIn Fence.wide (mm - 1) Tryd.prog (b + 1) fn tmps assign body _ R') := fun R' h => hR.mono h
  have hc := ht3.eleven.1
  have hd := hm3.two.1
  have H3 : Hid (Cl _ _ _ _ ∧ Cl _ _ _ _ ∧ Cl _ _ _ _) := ⟨ht3, hm3, hp3⟩
  have HO : Hid (∀ j, j < wL.heap.size → _) := hold
  simp only [put2, put11, tokV, markV] at hy hc hd g0 g1 g2 g3
  obtain ⟨d0, d1, d2, d3, d4, d5, d6, d7, d8, d9, d10⟩ := hc
  obtain ⟨e0, e1⟩ := hd
  clear hR ht ht1 hm1 hp1 hm2 ht3 hm3 hB3 hT hT2 hold hp3 m0 m1 n0 n1 p0 p1 hb HY HW
  simp only [tokV, markV]
  gi_wp2_with fail
  clear c0 c1 c2 c3 c4 c5 c6 c7 c8 c9 c10 f0 f1 f2 f3 f4 f5 f6 f7 f8 f9 f10 g0 g1 g2 g3 d0 d1 d2 d3 d4 d5 d6 d7 d8 d9 d10 e0 e1 hy
  refine HR.out _ ?_
  rintro e W3 (⟨rfl, hX, hk⟩ | ⟨rfl, hY⟩)
  · have hm3 := H3.out.2.1.same (hk.2 (b + 3) (.inr (.inr rfl)))
    have ht3 := H3.out.1.same (hk.2 (b + 2) (.inr (.inl rfl)))
    have hp3 := H3.out.2.2.same (hk.2 bp (.inl (hOld _ (.inr rfl))))
    have HG : Hid (It8 wL b bp ao n cap en W3) := ⟨⟨_, _, _, _, _, _, _, _, _, _, _, ht3⟩, hm3, hp3, fun j hj => (hk.2 j (.inl (hOld _ (.inl hj)))).trans (HO.out j hj), HI.out.sz⟩
    have HX : Hid (X W3) := hX
    obtain ⟨⟨e0, e1⟩, e2, e3⟩ := hm3.two
    clear hX hm3 ht3 hp3 hk HR H3 HO HI h1
    gi_wp2
    refine wpIn_wide.2 ?_
    go_step3
    exact hK.out _ _ (Fr8.of _ rfl) HG.out HX.out
  · have HV : Hid (Y W3) := hY
    clear hY HR H3 HO HI h1
    gi_wp2
    exact hN.out _ _ HV.out
set_option maxRecDepth 20000 in
set_option maxHeartbeats 1000000 in
theorem w8_bad {K : Nat → Act → World → Prop} {Q : Exit → Act → World → Prop} (mm : Nat) (hm : 1 ≤ mm) (wL : World) (b bp : Nat) (Old : Nat → Prop) (ao : Option Addr) (n cap i : Nat) (u : Nat → Value) (W : World) (hI : It8 wL b bp ao n cap i W) (hi : i < n)
    (k : Int) (b0 a0 a1 a2 a3 : Nat) (nt : Bool) (l m : Int) (lz : Bool) (at' en : Nat) (er : Int) (her : er ≠ 0) (X Y : World → Prop)
    (HW : Hid (Calls Tryd.prog 47 #[.slice ao n cap, .int .i64 (i : Nat)] W fun e w' => e = .returned (.tuple #[tokV k b0 a0 a1 a2 a3 nt l m lz at', markV en er]) ∧ Below W.heap.size W w'))
    (HY : Hid (∀ W1, TurnI b W W1 → YieldAt Fence.wide (mm - 1) Tryd.prog (b + 1) #[tokV k b0 a0 a1 a2 a3 nt l m lz at', markV en er] W1 fun e W' => (e = .returned (.bool true) ∧ X W' ∧ KeepY b Old W1 W') ∨ (e = .returned (.bool false) ∧ Y W')))
    (hK : Hid (∀ tm W', X W' → Q .normal ⟨tm, []⟩ W')) (hN : Hid (∀ tm W', Y W' → Q .normal ⟨tm, []⟩ W')) : Code.wp Tryd.prog (labelIn Tryd.f46 0) (jumps K Q) ⟨fr8 b bp u, []⟩ W := by
  obtain ⟨⟨m0, m1⟩, n0, n1⟩ := hI.m.two
  obtain ⟨p0, p1⟩ := hI.p.one
  have h1 : ((i : Int) == (n : Int)) = false := by simp; omega
  have h9 : (er == 0) = false := by simp [her]
  clear her
  have HI : Hid (It8 wL b bp ao n cap i W) := hI
  clear hI hi
  unfold fr8
  conv => arg 2; whnf
  refine (wpIn_wide (n := mm)).1 ?_
  gi_wp2_with fail
  refine ⟨trivial, ?_⟩
  refine (callsIn_wide.2 HW.out).mono ?_
  rintro e w1 ⟨rfl, hb⟩
  obtain ⟨x0, x1, x2, x3, x4, x5, x6, x7, x8, x9, x10, ht⟩ := HI.out.t
  have ht1 := ht.below hb
  have hm1 := HI.out.m.below hb
  have hp1 := HI.out.p.below hb
  obtain ⟨f0, f1, f2, f3, f4, f5, f6, f7, f8, f9, f10⟩ := ht1.eleven.2
  obtain ⟨c0, c1, c2, c3, c4, c5, c6, c7, c8, c9, c10⟩ := ht1.eleven.1
  have hm2 := hm1.others11 (k := b + 1 + 1) (by omega) (.int .i64 k) (.int .u8 (b0 : Nat)) (.int .u64 (a0 : Nat)) (.int .u64 (a1 : Nat)) (.int .u64 (a2 : Nat)) (.int .u64 (a3 : Nat)) (.bool nt) (.int .i64 l) (.int .i64 m) (.bool lz) (.int .i64 (at' : Nat))
  obtain ⟨⟨g0, g1⟩, g2, g3⟩ := hm2.two
  have ht3 := (ht1.put11 (.int .i64 k) (.int .u8 (b0 : Nat)) (.int .u64 (a0 : Nat)) (.int .u64 (a1 : Nat)) (.int .u64 (a2 : Nat)) (.int .u64 (a3 : Nat)) (.bool nt) (.int .i64 l) (.int .i64 m) (.bool lz) (.int .i64 (at' : Nat))).others2 (k := b + 1 + 1 + 1) (by omega) (.int .i64 (en : Nat)) (.int .i64 er)
  have hm3 := hm2.put2 (.int .i64 (en : Nat)) (.int .i64 er)
  have hB3 := below_put2 (B := b + 1 + 1) (b := b + 1 + 1 + 1) (below_put11 (B := b + 1 + 1) (b := b + 1 + 1) (Below.refl _ w1) (Nat.le_refl _) (.int .i64 k) (.int .u8 (b0 : Nat)) (.int .u64 (a0 : Nat)) (.int .u64 (a1 : Nat)) (.int .u64 (a2 : Nat)) (.int .u64 (a3 : Nat)) (.bool nt) (.int .i64 l) (.int .i64 m) (.bool lz) (.int .i64 (at' : Nat))) (by omega) (.int .i64 (en : Nat)) (.int .i64 er)
  have hT : TurnI b w1 (put2 (put11 w1 (b + 1 + 1) (.int .i64 k) (.int .u8 (b0 : Nat)) (.int .u64 (a0 : Nat)) (.int .u64 (a1 : Nat)) (.int .u64 (a2 : Nat)) (.int .u64 (a3 : Nat)) (.bool nt) (.int .i64 l) (.int .i64 m) (.bool lz) (.int .i64 (at' : Nat))) (b + 1 + 1 + 1) (.int .i64 (en : Nat)) (.int .i64 er)) :=
    TurnI.of_set hB3 (fun j h2 h3 => (put2_other (show j ≠ b + 1 + 1 + 1 from h3) _ _).trans (put11_other (show j ≠ b + 1 + 1 from h2) _ _ _ _ _ _ _ _ _ _ _))
  have hT2 := (TurnI.of_below hb).trans hT
  have hold : ∀ j, j < wL.heap.size → (put2 (put11 w1 (b + 1 + 1) (.int .i64 k) (.int .u8 (b0 : Nat)) (.int .u64 (a0 : Nat)) (.int .u64 (a1 : Nat)) (.int .u64 (a2 : Nat)) (.int .u64 (a3 : Nat)) (.bool nt) (.int .i64 l) (.int .i64 m) (.bool lz) (.int .i64 (at' : Nat))) (b + 1 + 1 + 1) (.int .i64 (en : Nat)) (.int .i64 er)).heap[j]? = wL.heap[j]? := fun j hj => by
    have hz := HI.out.sz
    have hlt := HI.out.m.lt
    rw [hB3.block j (by omega), hb.block j (by omega)]
    exact HI.out.old j hj
  have hp3 := (hp1.others11 (k := b + 1 + 1) (by have := HI.out.sz; omega) (.int .i64 k) (.int .u8 (b0 : Nat)) (.int .u64 (a0 : Nat)) (.int .u64 (a1 : Nat)) (.int .u64 (a2 : Nat)) (.int .u64 (a3 : Nat)) (.bool nt) (.int .i64 l) (.int .i64 m) (.bool lz) (.int .i64 (at' : Nat))).others2 (k := b + 1 + 1 + 1) (by have := HI.out.sz; omega) (.int .i64 (en : Nat)) (.int .i64 er)
  obtain ⟨fn, tmps, assign, body, hy, hR⟩ := HY.out _ hT2
  have HR : Hid (∀ R', (∀ e w', _ → R' e w') → RoundIn Fence.wide (mm - 1) Tryd.prog (b + 1) fn tmps assign body _ R') := fun R' h => hR.mono h
  have hc := ht3.eleven.1
  have hd := hm3.two.1
  have H3 : Hid (Cl _ _ _ _ ∧ Cl _ _ _ _ ∧ Cl _ _ _ _) := ⟨ht3, hm3, hp3⟩
  have HO : Hid (∀ j, j < wL.heap.size → _) := hold
  simp only [put2, put11, tokV, markV] at hy hc hd g0 g1 g2 g3
  obtain ⟨d0, d1, d2, d3, d4, d5, d6, d7, d8, d9, d10⟩ := hc
  obtain ⟨e0, e1⟩ := hd
  clear hR ht ht1 hm1 hp1 hm2 ht3 hm3 hB3 hT hT2 hold hp3 m0 m1 n0 n1 p0 p1 hb HY HW
  simp only [tokV, markV]
  gi_wp2_with fail
  clear c0 c1 c2 c3 c4 c5 c6 c7 c8 c9 c10 f0 f1 f2 f3 f4 f5 f6 f7 f8 f9 f10 g0 g1 g2 g3 d0 d1 d2 d3 d4 d5 d6 d7 d8 d9 d10 e0 e1 hy
  refine HR.out _ ?_
  rintro e W3 (⟨rfl, hX, hk⟩ | ⟨rfl, hY⟩)
  · have hm3 := H3.out.2.1.same (hk.2 (b + 3) (.inr (.inr rfl)))
    have HX : Hid (X W3) := hX
    obtain ⟨⟨e0, e1⟩, e2, e3⟩ := hm3.two
    clear hX hm3 hk HR H3 HO HI h1
    gi_wp2
    exact hK.out _ _ HX.out
  · have HV : Hid (Y W3) := hY
    clear hY HR H3 HO HI h1
    gi_wp2
    exact hN.out _ _ HV.out
end Go.Proofs.YtkbeiadbolihiaaDoor
namespace Go.Proofs.YtkbeiadbolihiaaDoor
open Go.RowKit Go.Shelf
theorem wl_end {z : Nat → Nat} {n f i : Nat} (h : n ≤ i) : wl z n f i = [] := by
  cases f with
  | zero => rfl
  | succ f => rw [wl, if_pos h]
theorem wl_go {z : Nat → Nat} {n f i : Nat} (h : i < n) (e : (wrd z n i).er = 0) : wl z n (f + 1) i = wrd z n i :: wl z n f (wrd z n i).en := by rw [wl, if_neg (by omega), if_pos e]
theorem wl_bad {z : Nat → Nat} {n f i : Nat} (h : i < n) (e : (wrd z n i).er ≠ 0) : wl z n (f + 1) i = [wrd z n i] := by rw [wl, if_neg (by omega), if_neg e]
/-- What holds at the iterator's jumps, and what it answers. -/
def WoJ (wL : World) (b bp : Nat) (ao : Option Addr) (n cap : Nat) (z : Nat → Nat) (J : List TokS → World → Prop) (l m : Nat) (a : Act) (W : World) : Prop :=
  l = 0 ∧ ∃ u f i pre, m = f ∧ a = ⟨fr8 b bp u, []⟩ ∧ It8 wL b bp ao n cap i W ∧ J pre W ∧ pre.length ≤ i ∧ i ≤ n ∧ n - i < f ∧ pre ++ wl z n f i = wl z n 1100 0
def WoR (n : Nat) (z : Nat → Nat) (J Jx : List TokS → World → Prop) (e : Ending) (W' : World) : Prop := (∃ v, e = .returned v) ∧ ((∃ xs, xs = wl z n 1100 0 ∧ J xs W') ∨ (∃ pre, pre <+: wl z n 1100 0 ∧ Jx pre W'))
/-- The iterator of words. -/
theorem words_seq (mm : Nat) (hm : 1 ≤ mm) (wL w : World) (bp : Nat) (Old : Nat → Prop) (hOld : ∀ k, (k < wL.heap.size ∨ k = bp) → Old k) (ao : Option Addr) (n cap : Nat) (z : Nat → Nat) (hr : Rd wL ao n z) (hn : (n : Int) ≤ 1024)
    (hp : Cl w bp 34 [.slice ao n cap]) (hold : ∀ k, k < wL.heap.size → w.heap[k]? = wL.heap[k]?) (hbp : wL.heap.size ≤ bp) :
    SeqT Fence.wide mm Tryd.prog w.heap.size Old 46 #[.pointer (some ⟨bp, 0, none⟩)] (fun s : TokS => #[tokOf s, markV s.en s.er]) (fun ys => ys = wl z n 1100 0) (fun pre => pre <+: wl z n 1100 0) 1024 w := by
  intro J Jx W hb hs hJ hJx hY h0
  have hlt := hp.lt
  have key : ∀ (f i : Nat) (pre : List TokS) (u : Nat → Value) (W : World), It8 wL w.heap.size bp ao n cap i W → J pre W → pre.length ≤ i → i ≤ n → n - i < f → pre ++ wl z n f i = wl z n 1100 0 →
      Code.wp Tryd.prog (labelIn Tryd.f46 0) (jumps (fun l' a' w' => ∃ m', m' < f ∧ WoJ wL w.heap.size bp ao n cap z J l' m' a' w') (bodyPost Tryd.prog Tryd.f46 (WoR n z J Jx))) ⟨fr8 w.heap.size bp u, []⟩ W := by
    intro f i pre u W hI hj hpi hi hf hall
    obtain ⟨f, rfl⟩ : ∃ f', f = f' + 1 := ⟨f - 1, by omega⟩
    by_cases hin : i = n
    · rw [wl_end (by omega), List.append_nil] at hall
      exact w8_end wL _ bp ao n cap i u W hI hin (fun tm => bodyPost_ret (results_none rfl _ _ _) rfl ⟨⟨_, rfl⟩, .inl ⟨pre, hall, hj⟩⟩)
    have hin' : i < n := by omega
    have hrW : Rd W ao n z := hr.same (by have := hI.m.lt; have := hI.sz; omega) hI.old
    have HW := word_d ao n cap i z W hrW hn hin'
    have hsz : w.heap.size + 4 ≤ W.heap.size := by have := hI.m.lt; omega
    by_cases he : (wrd z n i).er = 0
    · rw [wl_go hin' he] at hall
      have hen := wrd_lt hin' he
      unfold RetD tokOf at HW
      rw [he] at HW
      refine w8_go mm hm wL _ bp Old hOld ao n cap i u W hI hin' _ _ _ _ _ _ _ _ _ _ _ _ (fun W' => J (pre ++ [wrd z n i]) W') (fun W' => Jx (pre ++ [wrd z n i]) W') HW (fun W1 ht => ?_) (fun tm W' hfr hI' hx => ?_) (fun tm W' hy => ?_)
      · have := hY pre (wrd z n i) W1 (hJ _ _ _ hj ht) (Nat.le_trans hsz ht.size) (by omega)
        dsimp only [tokOf] at this
        rw [he] at this
        exact this
      · obtain ⟨u', rfl⟩ := hfr
        exact ⟨f, by omega, rfl, u', f, _, _, rfl, rfl, hI', hx, by rw [List.length_append, List.length_singleton]; omega, hen.2.1, by omega, by rw [← hall]; simp⟩
      · exact bodyPost_end (results_none rfl _ _ _) rfl ⟨⟨_, rfl⟩, .inr ⟨_, ⟨wl z n f (wrd z n i).en, by rw [← hall]; simp⟩, hy⟩⟩
    · rw [wl_bad hin' he] at hall
      unfold RetD tokOf at HW
      refine w8_bad mm hm wL _ bp Old ao n cap i u W hI hin' _ _ _ _ _ _ _ _ _ _ _ _ _ he (fun W' => J (pre ++ [wrd z n i]) W') (fun W' => Jx (pre ++ [wrd z n i]) W') HW (fun W1 ht => ?_) (fun tm W' hx => ?_) (fun tm W' hy => ?_)
      · have := hY pre (wrd z n i) W1 (hJ _ _ _ hj ht) (Nat.le_trans hsz ht.size) (by omega)
        dsimp only [tokOf] at this
        exact this
      · exact bodyPost_end (results_none rfl _ _ _) rfl ⟨⟨_, rfl⟩, .inl ⟨_, hall, hx⟩⟩
      · exact bodyPost_end (results_none rfl _ _ _) rfl ⟨⟨_, rfl⟩, .inr ⟨_, ⟨[], by rw [List.append_nil]; exact hall⟩, hy⟩⟩
  show CallsIn Fence.wide mm Tryd.prog 46 _ W (WoR n z J Jx)
  refine callsIn_of_wp Tryd.func46 rfl trivial ?_ rfl
  refine wpIn_wide.2 ?_
  refine wp_scope_labels (WoJ wL w.heap.size bp ao n cap z J) ?_ ?_
  · have HK : Hid (∀ (tm : Array Value) W, Fr8 w.heap.size bp tm → It8 wL w.heap.size bp ao n cap 0 W → J [] W → Code.wp Tryd.prog (labelIn Tryd.f46 0) (jumps (fun l' a' w' => ∃ m', WoJ wL w.heap.size bp ao n cap z J l' m' a' w') (bodyPost Tryd.prog Tryd.f46 (WoR n z J Jx))) ⟨tm, []⟩ W) := fun tm W ⟨u, e⟩ hI hj => e ▸ Code.wp_mono (jumps_mono fun l a w' ⟨m, _, h⟩ => ⟨m, h⟩) (key 1100 0 [] u W hI hj (Nat.zero_le _) (Nat.zero_le _) (by omega) rfl)
    have hB : Below (w.heap.size + 2) W ((W.alloc (.cells #[.int .i64 0, .int .u8 0, .int .u64 0, .int .u64 0, .int .u64 0, .int .u64 0, .bool false, .int .i64 0, .int .i64 0, .bool false, .int .i64 0] 26)).alloc (.cells #[.int .i64 0, .int .i64 0] 53)) := by rw [← hs]; exact bel2 W _ _
    have HI : Hid (It8 wL w.heap.size bp ao n cap 0 ((W.alloc (.cells #[.int .i64 0, .int .u8 0, .int .u64 0, .int .u64 0, .int .u64 0, .int .u64 0, .bool false, .int .i64 0, .int .i64 0, .bool false, .int .i64 0] 26)).alloc (.cells #[.int .i64 0, .int .i64 0] 53))) := by
      have k0 := dl0 W (.cells #[.int .i64 0, .int .i64 0] 53)
      have k1 := dl1 W (.cells #[.int .i64 0, .int .u8 0, .int .u64 0, .int .u64 0, .int .u64 0, .int .u64 0, .bool false, .int .i64 0, .int .i64 0, .bool false, .int .i64 0] 26)
      rw [hs] at k0 k1
      refine ⟨⟨_, _, _, _, _, _, _, _, _, _, _, k0⟩, k1, ?_, fun k hk => ?_, hbp, hlt⟩
      · exact (hp.same (hb.block bp hlt)).same (hB.block bp (by omega))
      · rw [hB.block k (by omega), hb.block k (by omega)]; exact hold k hk
    have HJ : Hid (J [] ((W.alloc (.cells #[.int .i64 0, .int .u8 0, .int .u64 0, .int .u64 0, .int .u64 0, .int .u64 0, .bool false, .int .i64 0, .int .i64 0, .bool false, .int .i64 0] 26)).alloc (.cells #[.int .i64 0, .int .i64 0] 53))) := hJ _ _ _ h0 (TurnI.of_below (bel2 W _ _))
    clear key h0 hB hY hJ hJx hold hp hb hlt hbp hOld hr hm hn
    have hs1 : W.heap.size = w.heap.size + 1 + 1 := hs
    clear hs
    simp only [Tryd.ntmps46, List.size_toArray, List.length_cons, List.length_nil, Nat.reduceAdd, Nat.reduceSub, Array.replicate_succ, Array.replicate_zero, List.push_toArray, List.append_toArray, List.nil_append, List.cons_append]
    go_wp2_with fail
    go_step3
    rename_i K hK
    refine hK _ _ ?_
    clear hK
    exact HK.out _ _ (Fr8.of _ rfl) HI.out HJ.out
  · rintro l m a W' ⟨rfl, u, f, i, pre, rfl, rfl, hI, hj, hpi, hi, hf, hall⟩
    exact ⟨_, wo8_0, wp_skip_seq (key m i pre u W' hI hj hpi hi hf hall)⟩
end Go.Proofs.YtkbeiadbolihiaaDoor
