/- BitsNew: the walk. -/
import Derived.Test.YtclgefpkcagbfaaRw
import Derived.Test.YtclgefpkcagbfaaLive
import Derived.Test.YtclgefpkcagbfaaWth
namespace Go.Proofs.Ytclgefpkcagbfaa
open Go.RowKit
attribute [local go_sem ↓] Go.wp_at_zero Go.wp_at_succ

theorem exact_k {w : World} {x y : Value} {n : Nat} {P : Nat → Bool} {K : Ending → World → Prop} (h : SetAt w x n P) (h2 : SetAt w y n P) (hk : ∀ e w', (e = .returned (.bool true) ∧ Below w.heap.size w w') → K e w') : Calls Try.prog 10 #[x, y] w K :=
  (exact_same h h2 fun _ => rfl).mono hk
/-- What both Checks answer. -/
theorem checks {w : World} (m : Int) (ao : Option Addr) (len cap : Nat) (f : Nat → Nat) (hr : Rd w ao len f) : ∃ c : Int,
    (∀ W, Below w.heap.size w W → Calls Try.prog 11 #[.agg #[.int .i64 m, .slice ao len cap]] W fun e w' => e = .returned (.int .i64 c) ∧ Below W.heap.size W w') ∧
    (∀ W, Below w.heap.size w W → Calls Try.prog 12 #[.agg #[.int .i64 m, .slice ao len cap]] W fun e w' => e = .returned (.int .i64 c) ∧ Below W.heap.size W w') := by
  by_cases hok : Ok m len f
  · refine ⟨0, fun W hW => check_ok m ao len cap f W (hr.below hW) hok, fun W hW => (rcheck_any m ao len cap f W (hr.below hW)).mono fun e w' ⟨he, hb⟩ => ?_⟩
    rcases he with ⟨_, he⟩ | ⟨hn, _⟩
    · exact ⟨he, hb⟩
    · exact absurd hok hn
  · refine ⟨10, fun W hW => check_bad m ao len cap f W (hr.below hW) hok, fun W hW => (rcheck_any m ao len cap f W (hr.below hW)).mono fun e w' ⟨he, hb⟩ => ?_⟩
    rcases he with ⟨hy, _⟩ | ⟨_, he⟩
    · exact absurd hy hok
    · exact ⟨he, hb⟩
/-- What both Has answer. -/
theorem hases {w : World} {x : Value} {n : Nat} {P : Nat → Bool} (k : Int) (h : Arg w x n P) : ∃ b : Bool,
    (∀ W, Below w.heap.size w W → Calls Try.prog 13 #[x, .int .i64 k] W fun e w' => e = .returned (.bool b) ∧ Below W.heap.size W w') ∧
    (∀ W, Below w.heap.size w W → Calls Try.prog 14 #[x, .int .i64 k] W fun e w' => e = .returned (.bool b) ∧ Below W.heap.size W w') :=
  ⟨_, fun _ hW => has_any k (h.below hW), fun _ hW => rhas_any k (h.below hW)⟩
/-- What both New answer. -/
def RetN (W : World) (n : Nat) (P : Nat → Bool) (c : Int) (e : Ending) (w' : World) : Prop :=
  ∃ ao len cap, e = .returned (.tuple #[.agg #[.int .i64 (n : Nat), .slice ao len cap], .int .i64 c]) ∧ SetAt w' (.agg #[.int .i64 (n : Nat), .slice ao len cap]) n P ∧ Below W.heap.size W w'
theorem news {w : World} (n : Int) (lo : Option Addr) (ll lc : Nat) (z : Nat → Int) (hr : RdI w lo ll z) (hl : (ll : Int) ≤ 9223372036854775807) : ∃ (m : Nat) (P : Nat → Bool) (c : Int),
    (∀ W, Below w.heap.size w W → Calls Try.prog 8 #[.int .i64 n, .slice lo ll lc] W (RetN W m P c)) ∧ (∀ W, Below w.heap.size w W → Calls Try.prog 9 #[.int .i64 n, .slice lo ll lc] W (RetN W m P c)) := by
  by_cases hn : n < 0 ∨ 8192 < n
  · have hset : ∀ w' : World, SetAt w' (.agg #[.int .i64 ((0 : Nat) : Int), .slice none 0 0]) 0 (fun _ => false) := fun w' => ⟨none, 0, 0, fun _ => 0, rfl, rd_none _ _ _, isSet_none⟩
    exact ⟨0, fun _ => false, 1, fun W hW => (new_bad n lo ll lc W hn).mono fun e w' ⟨he, hb⟩ => ⟨none, 0, 0, he, hset w', hb⟩, fun W hW => (rnew_bad n lo ll lc W hn).mono fun e w' ⟨he, hb⟩ => ⟨none, 0, 0, he, hset w', hb⟩⟩
  · obtain ⟨m, rfl⟩ := Int.eq_ofNat_of_zero_le (show 0 ≤ n by omega)
    exact ⟨m, newP m z ll, 0, fun W hW => (new_any m lo ll lc z W (by omega) (hr.below hW) hl).mono fun e w' ⟨ao, len, cap, f, he, ho, hs, hb⟩ => ⟨ao, len, cap, he, ⟨ao, len, cap, f, rfl, ho.rd, hs⟩, hb⟩,
      fun W hW => (rnew_any m lo ll lc z W (by omega) (hr.below hW) hl).mono fun e w' ⟨ao, len, cap, f, he, ho, hs, hb⟩ => ⟨ao, len, cap, he, ⟨ao, len, cap, f, rfl, ho.rd, hs⟩, hb⟩⟩
/-- A set that a call made, as Exact takes it. -/
def RetE (w : World) (n : Nat) (P : Nat → Bool) (e : Ending) (w' : World) : Prop := ∃ ao len cap, e = .returned (.agg #[.int .i64 (n : Nat), .slice ao len cap]) ∧ SetAt w' (.agg #[.int .i64 (n : Nat), .slice ao len cap]) n P ∧ Below w.heap.size w w'
theorem RetSet.e {w : World} {n : Nat} {P : Nat → Bool} {e : Ending} {w' : World} (h : RetSet w n P e w') : RetE w n P e w' := by
  obtain ⟨ao, len, cap, f, he, ho, hs, hb⟩ := h
  exact ⟨ao, len, cap, he, ⟨ao, len, cap, f, rfl, ho.rd, hs⟩, hb⟩
theorem RetL.e {w : World} {n : Nat} {P : Nat → Bool} {e : Ending} {w' : World} (h : RetL w n P e w') : RetE w n P e w' := by
  obtain ⟨ao, len, cap, f, he, ho, hs, hb⟩ := h
  exact ⟨ao, len, cap, he, ⟨ao, len, cap, f, rfl, ho.rd, hs⟩, hb⟩

/-- The three boxes of BitsNew, and the sets in two of them. -/
structure T5 (w : World) (bm : Int) (bo : Option Addr) (bl bc : Nat) (nb : Nat) (PB : Nat → Bool) (na : Nat) (PA : Nat → Bool) (q5 q7 q9 : Nat) (aa : Option Addr) (la ca : Nat) (ac : Option Addr) (lc cc : Nat) (W : World) : Prop where
  b5 : Box W q5 (.int .i64 bm) (.slice bo bl bc)
  b7 : Box W q7 (.int .i64 (na : Nat)) (.slice aa la ca)
  b9 : Box W q9 (.int .i64 (na : Nat)) (.slice ac lc cc)
  B : Arg W (.agg #[.int .i64 bm, .slice bo bl bc]) nb PB
  A : SetAt W (.agg #[.int .i64 (na : Nat), .slice aa la ca]) na PA
  C : SetAt W (.agg #[.int .i64 (na : Nat), .slice ac lc cc]) na PA
  below : Below w.heap.size w W
theorem T5.next {w : World} {bm : Int} {bo : Option Addr} {bl bc : Nat} {nb : Nat} {PB : Nat → Bool} {na : Nat} {PA : Nat → Bool} {q5 q7 q9 : Nat} {aa : Option Addr} {la ca : Nat} {ac : Option Addr} {lc cc : Nat} {W W' : World}
    (h : T5 w bm bo bl bc nb PB na PA q5 q7 q9 aa la ca ac lc cc W) (hb : Below W.heap.size W W') : T5 w bm bo bl bc nb PB na PA q5 q7 q9 aa la ca ac lc cc W' :=
  ⟨h.b5.below hb, h.b7.below hb, h.b9.below hb, h.B.below hb, h.A.below hb, h.C.below hb, h.below.trans (hb.mono h.below.size)⟩
set_option maxHeartbeats 2000000 in
theorem bitsNew_walk (n bm x : Int) (lo : Option Addr) (ll lc : Nat) (z : Nat → Int) (bo : Option Addr) (bl bc : Nat) (f : Nat → Nat) (w : World) (hr : RdI w lo ll z) (hl : (ll : Int) ≤ 9223372036854775807) (hrb : Rd w bo bl f) :
    Calls Try.prog 3 #[.agg #[.int .i64 n, .slice lo ll lc, .int .i64 bm, .slice bo bl bc, .int .i64 x]] w fun e w' => e = .returned (.bool true) ∧ Below w.heap.size w w' := by
  obtain ⟨nb, PB, gB⟩ := arg_of (m := bm) (cap := bc) hrb
  obtain ⟨cc, H11, H12⟩ := checks bm bo bl bc f hrb
  obtain ⟨hb0, H13, H14⟩ := hases x gB
  obtain ⟨na, PA, er, H8, H9⟩ := news n lo ll lc z hr hl
  have K11 : Hid _ := H11
  have K12 : Hid _ := H12
  have K13 : Hid _ := H13
  have K14 : Hid _ := H14
  have K8 : Hid _ := H8
  have K9 : Hid _ := H9
  clear H11 H12 H13 H14 H8 H9
  go_enter Try.func3, Try.ntmps3
  go_wp2_with fail
  go_region
  have q5 := (Box.new1 w (.cells #[.int .i64 n, .slice lo ll lc, .int .i64 bm, .slice bo bl bc, .int .i64 x] 27) (.int .i64 bm) (.slice bo bl bc)).drew
  have hB : Below w.heap.size w ((w.alloc (.cells #[.int .i64 n, .slice lo ll lc, .int .i64 bm, .slice bo bl bc, .int .i64 x] 27)).alloc (.cells #[.int .i64 bm, .slice bo bl bc] 25)).drew := (((Below.refl _ _).alloc (Nat.le_refl _) _).alloc (by simp) _).drew
  go_wp2_with fail
  refine (live_any _).mono ?_
  rintro e w1 ⟨rfl, hb⟩
  replace q5 := q5.below hb
  replace hB := hB.trans (hb.mono hB.size)
  clear hb
  go_wp2_with fail
  refine (K8.out _ hB).mono ?_
  rintro e w2 ⟨aa, la, ca, rfl, gA, hb⟩
  replace q5 := q5.below hb
  replace hB := hB.trans (hb.mono hB.size)
  clear hb
  have q7 := Box.new w2 (.int .i64 (na : Nat)) (.slice aa la ca)
  go_wp2_with fail
  refine (K9.out _ (hB.alloc hB.size _)).mono ?_
  rintro e w3 ⟨ac, lc', cc', rfl, gC, hb⟩
  replace q5 := (q5.alloc _).below hb
  replace q7 := q7.below hb
  replace gA := (gA.below ((Below.refl _ _).alloc (Nat.le_refl _) _)).below hb
  replace hB := (hB.alloc hB.size _).trans (hb.mono (Nat.le_trans hB.size (by simp)))
  clear hb
  have hT : T5 w bm bo bl bc nb PB na PA (w.heap.size + 1) w2.heap.size w3.heap.size aa la ca ac lc' cc' (w3.alloc (.cells #[.int .i64 (na : Nat), .slice ac lc' cc'] 25)) :=
    ⟨q5.alloc _, q7.alloc _, Box.new _ _ _, gB.below (hB.alloc hB.size _), gA.below ((Below.refl _ _).alloc (Nat.le_refl _) _), gC.below ((Below.refl _ _).alloc (Nat.le_refl _) _), hB.alloc hB.size _⟩
  go_wp2_with fail
  clear q5 q7 gA gC gB hB
  generalize w3.alloc (.cells #[.int .i64 (na : Nat), .slice ac lc' cc'] 25) = wA at *
  generalize w2.heap.size = u7 at *
  generalize w3.heap.size = u9 at *
  generalize w.heap.size + 1 = u5 at *
  replace hT := hT.next (below_drew' _)
  go_region_held3 (fun w' => w'.cell? ⟨u5, 0, none⟩ = some (.int .i64 bm) ∧ w'.cell? ⟨u5, 1, none⟩ = some (.slice bo bl bc) ∧ w'.cell? ⟨u7, 0, none⟩ = some (.int .i64 (na : Nat)) ∧ w'.cell? ⟨u7, 1, none⟩ = some (.slice aa la ca) ∧ w'.cell? ⟨u9, 0, none⟩ = some (.int .i64 (na : Nat)) ∧ w'.cell? ⟨u9, 1, none⟩ = some (.slice ac lc' cc')) (exact ⟨hT.b5.cells.1, hT.b5.cells.2.1, hT.b7.cells.1, hT.b7.cells.2.1, hT.b9.cells.1, hT.b9.cells.2.1⟩)
    (first
      | (go_at_call 10; have gA := hT.A; have gC := hT.C; refine exact_k (n := ?_) (P := ?_) ?_ ?_ ?_; rotate_left 2; (focus (repeat (first | assumption | (apply SetAt.below; rotate_left; assumption)))); (focus (repeat (first | assumption | (apply SetAt.below; rotate_left; assumption)))); rintro e w' ⟨rfl, hb⟩; replace hT := hT.next hb)
      | (go_at_call 11; refine (K11.out _ hT.below).mono ?_; rintro e w' ⟨rfl, hb⟩; replace hT := hT.next hb)
      | (go_at_call 12; refine (K12.out _ hT.below).mono ?_; rintro e w' ⟨rfl, hb⟩; replace hT := hT.next hb)
      | (go_at_call 13; refine (K13.out _ hT.below).mono ?_; rintro e w' ⟨rfl, hb⟩; replace hT := hT.next hb)
      | (go_at_call 14; refine (K14.out _ hT.below).mono ?_; rintro e w' ⟨rfl, hb⟩; replace hT := hT.next hb)
      | (go_at_call 15; refine (with_any x hT.B).mono ?_; rintro e w' hret; obtain ⟨x1, y1, z1, rfl, g1, hb⟩ := hret.e; clear hret; replace hT := hT.next hb)
      | (go_at_call 16; refine (rwith_any x hT.B).mono ?_; rintro e w' hret; obtain ⟨x2, y2, z2, rfl, g2, hb⟩ := hret.e; clear hret; replace hT := hT.next hb)
      | (go_at_call 17; refine (without_any x hT.B).mono ?_; rintro e w' hret; obtain ⟨x3, y3, z3, rfl, g3, hb⟩ := hret.e; clear hret; replace hT := hT.next hb)
      | (go_at_call 18; refine (rwithout_any x hT.B).mono ?_; rintro e w' hret; obtain ⟨x4, y4, z4, rfl, g4, hb⟩ := hret.e; clear hret; replace hT := hT.next hb))
  go_wp2
  go_ret
  exact ⟨rfl, hT.below⟩
end Go.Proofs.Ytclgefpkcagbfaa
