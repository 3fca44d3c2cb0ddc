/- BitsOwn: the walk. -/
import Derived.Test.YtclgefpkcagbfaaLive
import Derived.Test.YtclgefpkcagbfaaOr
import Derived.Test.YtclgefpkcagbfaaAnd
import Derived.Test.YtclgefpkcagbfaaNot
import Derived.Deep.RegionHeld3
import Derived.Deep.DeepCutAuto
namespace Go.Proofs.Ytclgefpkcagbfaa
open Go.RowKit
attribute [local go_sem ↓] Go.wp_at_zero Go.wp_at_succ

/-- Clone of any slice of words that can be read: the same words, in memory of its own. -/
theorem clone_any (ao : Option Addr) (l c : Nat) (f : Nat → Nat) (w : World) (hr : Rd w ao l f) (hm : l * 8 ≤ 140737488351232) (hn : (ao = none ∧ l = 0 ∧ c = 0) ∨ ∃ a, ao = some a) :
    Calls Try.prog 30 #[.slice ao l c] w fun e w' => ∃ ao' cap, e = .returned (.slice ao' l cap) ∧ Rd w' ao' l f ∧ Below w.heap.size w w' := by
  rcases hn with ⟨rfl, rfl, rfl⟩ | ⟨a, rfl⟩
  · exact (clone_nil w).mono fun e w' ⟨he, hw⟩ => ⟨none, 0, he, by rw [hw]; exact hr, by rw [hw]; exact Below.refl _ _⟩
  · exact (clone_some a l c f w hr hm).mono fun e w' ⟨g, cap, he, hr', _, _, hb⟩ => ⟨_, cap, he, hr', hb⟩

/-- The two arguments, in their boxes; nothing of wC has turned. -/
structure T2 (w : World) (m1 : Int) (a1 : Option Addr) (l1 c1 : Nat) (m2 : Int) (a2 : Option Addr) (l2 c2 : Nat) (n1 : Nat) (P : Nat → Bool) (n2 : Nat) (Q : Nat → Bool) (wC W : World) : Prop where
  b0 : Box W w.heap.size (.int .i64 m1) (.slice a1 l1 c1)
  b1 : Box W (w.heap.size + 1) (.int .i64 m2) (.slice a2 l2 c2)
  A : Arg W (.agg #[.int .i64 m1, .slice a1 l1 c1]) n1 P
  B : Arg W (.agg #[.int .i64 m2, .slice a2 l2 c2]) n2 Q
  below : Below w.heap.size w W
  near : Below wC.heap.size wC W
theorem T2.next {w : World} {m1 : Int} {a1 : Option Addr} {l1 c1 : Nat} {m2 : Int} {a2 : Option Addr} {l2 c2 : Nat} {n1 : Nat} {P : Nat → Bool} {n2 : Nat} {Q : Nat → Bool} {wC W W' : World} (h : T2 w m1 a1 l1 c1 m2 a2 l2 c2 n1 P n2 Q wC W) (hb : Below W.heap.size W W') : T2 w m1 a1 l1 c1 m2 a2 l2 c2 n1 P n2 Q wC W' :=
  ⟨h.b0.below hb, h.b1.below hb, h.A.below hb, h.B.below hb, h.below.trans (hb.mono h.below.size), h.near.trans (hb.mono h.near.size)⟩
/-- A slice of words that may be written, in a block from B on. -/
def Wt (B : Nat) (W : World) (ao : Option Addr) (len : Nat) : Prop := len ≤ 128 ∧ ∃ f, Own B W ao len f
theorem Wt.below {B : Nat} {W W' : World} {ao : Option Addr} {len : Nat} (h : Wt B W ao len) (hb : Below W.heap.size W W') : Wt B W' ao len := ⟨h.1, h.2.elim fun f ho => ⟨f, ho.below hb⟩⟩
theorem RetSet.wt {w : World} {n : Nat} {P : Nat → Bool} {e : Ending} {w' : World} {B : Nat} (h : RetSet w n P e w') (hB : B ≤ w.heap.size) : ∃ ao len cap, e = .returned (.agg #[.int .i64 (n : Nat), .slice ao len cap]) ∧ Wt B w' ao len ∧ Below w.heap.size w w' := by
  obtain ⟨ao, len, cap, f, he, ho, hs, hb⟩ := h
  exact ⟨ao, len, cap, he, ⟨by have := hs.hle; have := hs.hlen; omega, f, ho.mono hB⟩, hb⟩
theorem below_drew (w : World) : Below w.heap.size w w.drew := (Below.refl _ _).drew

/-- The loops of BitsOwn: the list of sets in block q, as it was laid; each one's words may be written; nothing of wC has turned. -/
structure LoopI (wC : World) (q : Nat) (A : Array Value) (aa : Nat → Option Addr) (ll : Nat → Nat) (wr : World) : Prop where
  near : Below wC.heap.size wC wr
  arr : wr.heap[q]? = some (.cells A 25 (0, 0))
  wt : ∀ i, i < 7 → Wt wC.heap.size wr (aa i) (ll i)
theorem LoopI.next {wC : World} {q : Nat} {A : Array Value} {aa : Nat → Option Addr} {ll : Nat → Nat} {wr wr' : World} (h : LoopI wC q A aa ll wr) (hb : Below wr.heap.size wr wr') : LoopI wC q A aa ll wr' :=
  ⟨h.near.trans (hb.mono h.near.size), by rw [hb.block q (Array.getElem?_eq_some_iff.1 h.arr).1]; exact h.arr, fun i hi => (h.wt i hi).below hb⟩
/-- A store into one of them. -/
theorem LoopI.store {wC : World} {q : Nat} {A : Array Value} {aa : Nat → Option Addr} {ll : Nat → Nat} {wr : World} (h : LoopI wC q A aa ll wr) {i j b v : Nat} (hi : i < 7) (e : aa i = some ⟨b, 0, none⟩) (hj : j < ll i) (hv : v < 18446744073709551616) :
    LoopI wC q A aa ll (wr.setCell ⟨b, j, none⟩ (.int .u64 (v : Nat))) := by
  obtain ⟨_, f, ho⟩ := h.wt i hi
  obtain ⟨b', cur, e', hh, hsz, _⟩ := ho.row (by omega)
  obtain rfl : b' = b := by rw [e] at e'; simpa using e'.symm
  have hbB : wC.heap.size ≤ b' := (ho.lt _ e).2
  have hq : q ≠ b' := by
    rintro rfl
    have := h.arr.symm.trans hh
    simp at this
  refine ⟨h.near.setCell (p := ⟨b', j, none⟩) hbB _, ?_, fun i2 hi2 => ?_⟩
  · rw [Below.heap_setCell _ _ _ _ hq]; exact h.arr
  · obtain ⟨hl2, g, ho2⟩ := h.wt i2 hi2
    refine ⟨hl2, ?_⟩
    by_cases h0 : ll i2 = 0
    · exact ⟨g, ho2.small, fun a ea => by have := ho2.lt a ea; simpa [World.setCell] using this, fun hl => by omega⟩
    · obtain ⟨b2, cur2, e2, hh2, hsz2, hc2⟩ := ho2.row (by omega)
      by_cases hbb : b2 = b'
      · subst hbb
        have hcc : cur2 = cur := by have := hh2.symm.trans hh; simpa using this
        subst hcc
        exact ⟨_, ho2.set e2 (by omega) hv⟩
      · refine ⟨g, ho2.but (ax := some ⟨b', 0, none⟩) ((But.refl _ _).setCell (p := ⟨b', j, none⟩) (.inl ⟨⟨b', 0, none⟩, rfl, rfl⟩) _) ?_⟩
        intro a c ea ec
        obtain rfl := Option.some.inj ec
        rw [e2] at ea
        obtain rfl := Option.some.inj ea
        exact fun e => hbb e.symm
theorem LoopI.box {wC : World} {q : Nat} {A : Array Value} {aa : Nat → Option Addr} {ll : Nat → Nat} {wr : World} (h : LoopI wC q A aa ll wr) {i b bx : Nat} {x y : Value} (hi : i < 7) (e : aa i = some ⟨b, 0, none⟩) (hl : 0 < ll i) (bx1 : Box wr bx x y) : b ≠ bx := by
  obtain ⟨_, f, ho⟩ := h.wt i hi
  obtain ⟨b', cur, e', hh, hsz, _⟩ := ho.row hl
  obtain rfl : b' = b := by rw [e] at e'; simpa using e'.symm
  rintro rfl
  have := hh.symm.trans bx1
  simp at this

set_option maxHeartbeats 2000000 in
theorem bitsOwn_walk (m1 m2 k : Int) (a1 a2 : Option Addr) (l1 c1 l2 c2 : Nat) (f1 f2 : Nat → Nat) (w : World) (hr1 : Rd w a1 l1 f1) (hr2 : Rd w a2 l2 f2)
    (hm1 : l1 * 8 ≤ 140737488351232) (hm2 : l2 * 8 ≤ 140737488351232) (hn1 : (a1 = none ∧ l1 = 0 ∧ c1 = 0) ∨ ∃ a, a1 = some a) (hn2 : (a2 = none ∧ l2 = 0 ∧ c2 = 0) ∨ ∃ a, a2 = some a) :
    Calls Try.prog 6 #[.agg #[.int .i64 m1, .slice a1 l1 c1], .agg #[.int .i64 m2, .slice a2 l2 c2], .int .i64 k] w fun e w' => e = .returned (.bool true) ∧ Below w.heap.size w w' := by
  obtain ⟨n1, P, gA⟩ := arg_of (m := m1) (cap := c1) hr1
  obtain ⟨n2, Q, gB⟩ := arg_of (m := m2) (cap := c2) hr2
  have hB0 : Below w.heap.size w ((w.alloc (.cells #[.int .i64 m1, .slice a1 l1 c1] 25)).alloc (.cells #[.int .i64 m2, .slice a2 l2 c2] 25)) := ((Below.refl _ _).alloc (Nat.le_refl _) _).alloc (by simp) _
  have hT : T2 w m1 a1 l1 c1 m2 a2 l2 c2 n1 P n2 Q w ((w.alloc (.cells #[.int .i64 m1, .slice a1 l1 c1] 25)).alloc (.cells #[.int .i64 m2, .slice a2 l2 c2] 25)) :=
    ⟨(Box.new w _ _).alloc _, Box.new1 w _ _ _, gA.below hB0, gB.below hB0, hB0, hB0⟩
  have HN1 : Hid ((a1 = none ∧ l1 = 0 ∧ c1 = 0) ∨ ∃ a, a1 = some a) := hn1
  have HN2 : Hid ((a2 = none ∧ l2 = 0 ∧ c2 = 0) ∨ ∃ a, a2 = some a) := hn2
  clear gA gB hB0 hn1 hn2
  go_enter Try.func6, Try.ntmps6
  go_wp2_with fail
  refine (live_any _).mono ?_
  rintro e w1 ⟨rfl, hb⟩
  replace hT := hT.next hb
  clear hb
  obtain ⟨p0, p1, p2, p3⟩ := hT.b0.cells
  obtain ⟨q0, q1, q2, q3⟩ := hT.b1.cells
  go_wp2_with fail
  replace hT := hT.next (below_drew _)
  clear p0 p1 p2 p3 q0 q1 q2 q3
  go_region_held3 (fun w' => w'.cell? ⟨w.heap.size, 0, none⟩ = some (.int .i64 m1) ∧ w'.cell? ⟨w.heap.size, 1, none⟩ = some (.slice a1 l1 c1) ∧ w'.cell? ⟨w.heap.size + 1, 0, none⟩ = some (.int .i64 m2) ∧ w'.cell? ⟨w.heap.size + 1, 1, none⟩ = some (.slice a2 l2 c2)) (exact ⟨hT.b0.cells.1, hT.b0.cells.2.1, hT.b1.cells.1, hT.b1.cells.2.1⟩)
    (first
      | (go_at_call 30; (fail_if_success (have hx := hc1)); refine (clone_any a1 l1 c1 f1 _ (hr1.below hT.below) hm1 HN1.out).mono ?_; rintro e w' ⟨aw, cw, rfl, hc1, hb⟩; replace hT := hT.next hb)
      | (go_at_call 30; refine (clone_any a2 l2 c2 f2 _ (hr2.below hT.below) hm2 HN2.out).mono ?_; rintro e wC ⟨ah, ch, rfl, hc2, hb2⟩; replace hT := hT.next hb2))
  have hnear : T2 w m1 a1 l1 c1 m2 a2 l2 c2 n1 P n2 Q wC wC := ⟨hT.b0, hT.b1, hT.A, hT.B, hT.below, Below.refl _ _⟩
  replace hc1 := hc1.below hb2
  clear hT hb hb2
  have hT := hnear
  go_wp2_with fail
  replace hT := hT.next (below_drew _)
  go_region_held3 (fun w' => w'.cell? ⟨w.heap.size, 0, none⟩ = some (.int .i64 m1) ∧ w'.cell? ⟨w.heap.size, 1, none⟩ = some (.slice a1 l1 c1) ∧ w'.cell? ⟨w.heap.size + 1, 0, none⟩ = some (.int .i64 m2) ∧ w'.cell? ⟨w.heap.size + 1, 1, none⟩ = some (.slice a2 l2 c2)) (first | exact ⟨hT.b0.cells.1, hT.b0.cells.2.1, hT.b1.cells.1, hT.b1.cells.2.1⟩ | exact ⟨(hT.b0.alloc _).cells.1, (hT.b0.alloc _).cells.2.1, (hT.b1.alloc _).cells.1, (hT.b1.alloc _).cells.2.1⟩)
    (first
      | (go_at_call 15; refine (with_any k hT.A).mono ?_; rintro e w' hret; obtain ⟨x1, y1, z1, rfl, t1, hb⟩ := hret.wt hT.near.size; clear hret; replace hT := hT.next hb)
      | (go_at_call 17; refine (without_any k hT.A).mono ?_; rintro e w' hret; obtain ⟨x2, y2, z2, rfl, t2, hb⟩ := hret.wt hT.near.size; clear hret; replace t1 := t1.below hb; replace hT := hT.next hb)
      | (go_at_call 21; (fail_if_success (have hx := t3)); refine (or_any hT.A hT.B).mono ?_; rintro e w' hret; obtain ⟨x3, y3, z3, rfl, t3, hb⟩ := hret.wt hT.near.size; clear hret; replace t1 := t1.below hb; replace t2 := t2.below hb; replace hT := hT.next hb)
      | (go_at_call 21; refine (or_any hT.B hT.A).mono ?_; rintro e w' hret; obtain ⟨x4, y4, z4, rfl, t4, hb⟩ := hret.wt hT.near.size; clear hret; replace t1 := t1.below hb; replace t2 := t2.below hb; replace t3 := t3.below hb; replace hT := hT.next hb)
      | (go_at_call 23; refine (and_any hT.A hT.A).mono ?_; rintro e w' hret; obtain ⟨x5, y5, z5, rfl, t5, hb⟩ := hret.wt hT.near.size; clear hret; replace t1 := t1.below hb; replace t2 := t2.below hb; replace t3 := t3.below hb; replace t4 := t4.below hb; replace hT := hT.next hb)
      | (go_at_call 24; refine (not_any hT.A hT.B).mono ?_; rintro e w' hret; obtain ⟨x6, y6, z6, rfl, t6, hb⟩ := hret.wt hT.near.size; clear hret; replace t1 := t1.below hb; replace t2 := t2.below hb; replace t3 := t3.below hb; replace t4 := t4.below hb; replace t5 := t5.below hb; replace hT := hT.next hb)
      | (go_at_call 31; refine (shift_any 0 hT.A (by decide) (by decide)).mono ?_; rintro e w' hret; obtain ⟨x7, y7, z7, rfl, t7, hb⟩ := hret.wt hT.near.size; clear hret; replace t1 := t1.below hb; replace t2 := t2.below hb; replace t3 := t3.below hb; replace t4 := t4.below hb; replace t5 := t5.below hb; replace t6 := t6.below hb; replace hT := hT.next hb))
  obtain ⟨A, hA⟩ : ∃ A : Array Value, A = #[.int .i64 (n1 : Nat), .slice x1 y1 z1, .int .i64 (n1 : Nat), .slice x2 y2 z2, .int .i64 (n1 : Nat), .slice x3 y3 z3, .int .i64 (n2 : Nat), .slice x4 y4 z4, .int .i64 (n1 : Nat), .slice x5 y5 z5, .int .i64 (n1 : Nat), .slice x6 y6 z6, .int .i64 (n1 : Nat), .slice x7 y7 z7] := ⟨_, rfl⟩
  have hL : LoopI wC w'.heap.size A (fun i => [x1, x2, x3, x4, x5, x6, x7].getD i none) (fun i => [y1, y2, y3, y4, y5, y6, y7].getD i 0) (w'.alloc (.cells A 25)) := by
    refine LoopI.next (wr := w'.alloc (.cells A 25)) ⟨hT.near.alloc hT.near.size _, heap_alloc_new w' _, fun i hi => ?_⟩ (Below.refl _ _)
    refine Wt.below ?_ ((Below.refl _ _).alloc (Nat.le_refl _) _)
    match i, hi with
    | 0, _ => exact t1
    | 1, _ => exact t2
    | 2, _ => exact t3
    | 3, _ => exact t4
    | 4, _ => exact t5
    | 5, _ => exact t6
    | 6, _ => exact t7
  rw [← hA]
  go_wp2_with fail
  obtain ⟨aa, haa⟩ : ∃ aa : Nat → Option Addr, aa = fun i => [x1, x2, x3, x4, x5, x6, x7].getD i none := ⟨_, rfl⟩
  obtain ⟨ll, hll⟩ : ∃ ll : Nat → Nat, ll = fun i => [y1, y2, y3, y4, y5, y6, y7].getD i 0 := ⟨_, rfl⟩
  rw [← haa, ← hll] at hL
  have hcs : ∀ i, i < 7 → ∃ (nn : Int) (cc : Nat), A[2 * i]? = some (.int .i64 nn) ∧ A[2 * i + 1]? = some (.slice (aa i) (ll i) cc) := by
    intro i hi
    subst hA haa hll
    match i, hi with
    | 0, _ => exact ⟨_, _, rfl, rfl⟩
    | 1, _ => exact ⟨_, _, rfl, rfl⟩
    | 2, _ => exact ⟨_, _, rfl, rfl⟩
    | 3, _ => exact ⟨_, _, rfl, rfl⟩
    | 4, _ => exact ⟨_, _, rfl, rfl⟩
    | 5, _ => exact ⟨_, _, rfl, rfl⟩
    | 6, _ => exact ⟨_, _, rfl, rfl⟩
  have HCS : Hid (∀ i, i < 7 → ∃ (nn : Int) (cc : Nat), A[2 * i]? = some (.int .i64 nn) ∧ A[2 * i + 1]? = some (.slice (aa i) (ll i) cc)) := hcs
  clear hA haa hll hcs t1 t2 t3 t4 t5 t6 t7 hT hb
  generalize (w'.alloc (.cells A 25)) = wB at *
  generalize w'.heap.size = q at *
  go_loopw [42] (fun i wr => ∃ k : Nat, k ≤ 7 ∧ i = .int .i64 k ∧ LoopI wC q A aa ll wr) (fun i _ => 7 - (intOf i).toNat)
  case atStart => exact ⟨0, by omega, rfl, hL⟩
  case round =>
    obtain ⟨i, hi, rfl, hI⟩ := hrel
    by_cases hlt : i < 7
    · obtain ⟨nn, cc, hc0, hc1'⟩ := HCS.out i hlt
      have d0 : wr.cell? ⟨q, i * 2, none⟩ = some (.int .i64 nn) := by rw [cell_of_row wr q (i * 2) A 25 (0, 0) hI.arr, Nat.mul_comm]; exact hc0
      have d1 : wr.cell? ⟨q, i * 2 + 1, none⟩ = some (.slice (aa i) (ll i) cc) := by rw [cell_of_row wr q (i * 2 + 1) A 25 (0, 0) hI.arr, Nat.mul_comm]; exact hc1'
      have hq : q < wr.heap.size := (Array.getElem?_eq_some_iff.1 hI.arr).1
      have hii : (i : Int) < 7 := by omega
      have hl128 : (ll i : Int) ≤ 128 := by have := (hI.wt i hlt).1; omega
      clear hc0 hc1'
      have bx0 := Box.new wr (.int .i64 nn) (.slice (aa i) (ll i) cc)
      have hI0 := hI.next ((Below.refl _ _).alloc (Nat.le_refl _) (.cells #[.int .i64 nn, .slice (aa i) (ll i) cc] 25))
      go_wp2_with fail
      generalize wr.alloc (.cells #[.int .i64 nn, .slice (aa i) (ll i) cc] 25) = wD at *
      generalize wr.heap.size = bq at *
      go_loopw [49] (fun x wq => ∃ j : Nat, j ≤ ll i ∧ x = .int .i64 j ∧ LoopI wC q A aa ll wq ∧ Box wq bq (.int .i64 nn) (.slice (aa i) (ll i) cc)) (fun x _ => ll i - (intOf x).toNat)
      case atStart => exact ⟨0, Nat.zero_le _, rfl, hI0, bx0⟩
      case round =>
        obtain ⟨j, hj, rfl, hJ, bx⟩ := hrel
        by_cases hjl : j < ll i
        · obtain ⟨_, f, ho⟩ := hJ.wt i hlt
          obtain ⟨b, eb, hcb⟩ := ho.at_ (by omega)
          have hbx := hJ.box hlt eb (by omega) bx
          have hst := fun v hv => hJ.store (v := v) hlt eb hjl hv
          obtain ⟨g0, g1, g2, g3⟩ := bx.cells
          rw [eb] at g1
          obtain ⟨e0, e1⟩ := hcb j hjl
          have hji : (j : Int) < (ll i : Int) := by omega
          have hfs : Hid (f j < 18446744073709551616) := ho.small j hjl
          have hxor : Hid (bits .xor .u64 (f j : Nat) 5 = ((f j ^^^ 5 : Nat) : Int)) := bits_xor_u64_nat (f j) 5 hfs (by decide)
          have hov : Hid (f j ^^^ 5 < 18446744073709551616) := Nat.xor_lt_two_pow (n := 64) hfs (by decide)
          have HST : Hid (∀ v, v < 18446744073709551616 → LoopI wC q A aa ll (wr.setCell ⟨b, j, none⟩ (.int .u64 (v : Nat)))) := hst
          clear hst hcb d0 d1
          go_wp2
          go_roundw
          case rel => exact ⟨j + 1, by omega, by go_num, by rw [hxor.out]; exact HST.out _ hov.out, bx.other (p := ⟨b, j, none⟩) hbx _⟩
          case measure => simp [intOf]; omega
        · clear d0 d1
          go_wp2
          go_roundw
          case rel => exact ⟨i + 1, by omega, by go_num, hJ⟩
          case measure => simp [intOf]; omega
    · have hBr : Below w.heap.size w wr := hnear.below.trans (hI.near.mono hnear.below.size)
      obtain ⟨p0, p1, p2, p3⟩ := (hnear.b0.below hI.near).cells
      obtain ⟨q0, q1, q2, q3⟩ := (hnear.b1.below hI.near).cells
      have hq1 := hr1.below hBr
      have hq2 := hr2.below hBr
      have hw1 := hc1.below hI.near
      have hw2 := hc2.below hI.near
      go_wp2_with fail
      refine (equal_same a1 aw l1 c1 cw f1 f1 _ hq1 hw1 (by omega)).mono ?_
      rintro e wE ⟨rfl, qq, rfl⟩
      rw [show eqW l1 f1 f1 = true from decide_eq_true fun _ _ => rfl]
      go_wp2_with fail
      refine (equal_same a2 ah l2 c2 ch f2 f2 _ (hq2.drewN _) (hw2.drewN _) (by omega)).mono ?_
      rintro e wE ⟨rfl, q2', rfl⟩
      rw [show eqW l2 f2 f2 = true from decide_eq_true fun _ _ => rfl]
      go_wp2
      go_ret
      exact ⟨rfl, below_drewN hBr _⟩
end Go.Proofs.Ytclgefpkcagbfaa
