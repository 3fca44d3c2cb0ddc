/- BitsTwo: the walk. -/
import Derived.Test.YtclgefpkcagbfaaRw
import Derived.Test.YtclgefpkcagbfaaRs
import Derived.Test.YtclgefpkcagbfaaLive
import Derived.Test.YtclgefpkcagbfaaOr
import Derived.Test.YtclgefpkcagbfaaAnd
import Derived.Test.YtclgefpkcagbfaaNot
namespace Go.Proofs.Ytclgefpkcagbfaa
open Go.RowKit
attribute [local go_sem ↓] Go.wp_at_zero Go.wp_at_succ
theorem exact_j {w : World} {x y : Value} {n : Nat} {P : Nat → Bool} {K : Ending → World → Prop} (h : SetAt w x n P) (h2 : SetAt w y n P) (hk : ∀ e w', (e = .returned (.bool true) ∧ Below w.heap.size w w') → K e w') : Calls Try.prog 10 #[x, y] w K :=
  (exact_same h h2 fun _ => rfl).mono hk
/-- A set that a call made, as Exact takes it. -/
def RetD (w : World) (n : Nat) (P : Nat → Bool) (e : Ending) (w' : World) : Prop := ∃ ao len cap, e = .returned (.agg #[.int .i64 (n : Nat), .slice ao len cap]) ∧ SetAt w' (.agg #[.int .i64 (n : Nat), .slice ao len cap]) n P ∧ Below w.heap.size w w'
theorem RetSet.d {w : World} {n : Nat} {P : Nat → Bool} {e : Ending} {w' : World} (h : RetSet w n P e w') : RetD w n P e w' := by
  obtain ⟨ao, len, cap, f, he, ho, hs, hb⟩ := h
  exact ⟨ao, len, cap, he, ⟨ao, len, cap, f, rfl, ho.rd, hs⟩, hb⟩
theorem RetL.d {w : World} {n : Nat} {P : Nat → Bool} {e : Ending} {w' : World} (h : RetL w n P e w') : RetD w n P e w' := by
  obtain ⟨ao, len, cap, f, he, ho, hs, hb⟩ := h
  exact ⟨ao, len, cap, he, ⟨ao, len, cap, f, rfl, ho.rd, hs⟩, hb⟩
theorem bool_of (p : Prop) : ∃ b : Bool, b = true ↔ p := by
  by_cases h : p
  · exact ⟨true, by simp [h]⟩
  · exact ⟨false, by simp [h]⟩
theorem RetBool.is {w : World} {p : Prop} {e : Ending} {w' : World} (h : RetBool w p e w') {b : Bool} (hb : b = true ↔ p) : e = .returned (.bool b) ∧ Below w.heap.size w w' := by
  obtain ⟨c, he, hc, hw⟩ := h
  have : c = b := by rw [Bool.eq_iff_iff]; exact hc.trans hb.symm
  rw [he, this]
  exact ⟨rfl, hw⟩
/-- The two arguments, in their boxes. -/
structure U2 (w : World) (m1 : Int) (a1 : Option Addr) (l1 c1 : Nat) (m2 : Int) (a2 : Option Addr) (l2 c2 : Nat) (n1 : Nat) (P : Nat → Bool) (n2 : Nat) (Q : Nat → Bool) (W : World) : Prop where
  b0 : Box W w.heap.size (.int .i64 m1) (.slice a1 l1 c1)
  b1 : Box W (w.heap.size + 1) (.int .i64 m2) (.slice a2 l2 c2)
  A : Arg W (.agg #[.int .i64 m1, .slice a1 l1 c1]) n1 P
  B : Arg W (.agg #[.int .i64 m2, .slice a2 l2 c2]) n2 Q
  below : Below w.heap.size w W
theorem U2.next {w : World} {m1 : Int} {a1 : Option Addr} {l1 c1 : Nat} {m2 : Int} {a2 : Option Addr} {l2 c2 : Nat} {n1 : Nat} {P : Nat → Bool} {n2 : Nat} {Q : Nat → Bool} {W W' : World} (h : U2 w m1 a1 l1 c1 m2 a2 l2 c2 n1 P n2 Q W) (hb : Below W.heap.size W W') : U2 w m1 a1 l1 c1 m2 a2 l2 c2 n1 P n2 Q W' :=
  ⟨h.b0.below hb, h.b1.below hb, h.A.below hb, h.B.below hb, h.below.trans (hb.mono h.below.size)⟩

set_option maxHeartbeats 2000000 in
theorem bitsTwo_walk (m1 m2 : Int) (a1 a2 : Option Addr) (l1 c1 l2 c2 : Nat) (f1 f2 : Nat → Nat) (w : World) (hr1 : Rd w a1 l1 f1) (hr2 : Rd w a2 l2 f2) :
    Calls Try.prog 4 #[.agg #[.int .i64 m1, .slice a1 l1 c1], .agg #[.int .i64 m2, .slice a2 l2 c2]] w fun e w' => e = .returned (.bool true) ∧ Below w.heap.size w w' := by
  obtain ⟨n1, P, gA⟩ := arg_of (m := m1) (cap := c1) hr1
  obtain ⟨n2, Q, gB⟩ := arg_of (m := m2) (cap := c2) hr2
  obtain ⟨mm, hmm⟩ := bool_of (∃ i, P i = true ∧ Q i = true)
  obtain ⟨ss, hss⟩ := bool_of (n1 = n2 ∧ ∀ k, P k = Q k)
  have HM : Hid _ := hmm
  have HS : Hid _ := hss
  have hB0 : Below w.heap.size w ((w.alloc (.cells #[.int .i64 m1, .slice a1 l1 c1] 25)).alloc (.cells #[.int .i64 m2, .slice a2 l2 c2] 25)) := ((Below.refl _ _).alloc (Nat.le_refl _) _).alloc (by simp) _
  have hT : U2 w m1 a1 l1 c1 m2 a2 l2 c2 n1 P n2 Q ((w.alloc (.cells #[.int .i64 m1, .slice a1 l1 c1] 25)).alloc (.cells #[.int .i64 m2, .slice a2 l2 c2] 25)) :=
    ⟨(Box.new w _ _).alloc _, Box.new1 w _ _ _, gA.below hB0, gB.below hB0, hB0⟩
  clear gA gB hB0 hmm hss hr1 hr2
  go_enter Try.func4, Try.ntmps4
  go_wp2_with fail
  refine (live_any _).mono ?_
  rintro e w1 ⟨rfl, hb⟩
  replace hT := hT.next hb
  clear hb
  obtain ⟨p0, p1, p2, p3⟩ := hT.b0.cells
  obtain ⟨q0, q1, q2, q3⟩ := hT.b1.cells
  go_wp2_with fail
  refine (rand_any hT.A hT.B).mono ?_
  rintro e w2 hret
  obtain ⟨ax, lx, cx, rfl, gx, hb⟩ := hret.out
  replace hT := hT.next hb
  clear hb hret p0 p1 p2 p3 q0 q1 q2 q3
  go_wp2_with fail
  refine (rlist_any gx).mono ?_
  rintro e w3 ⟨al, ln, cl, rfl, hiff, hln, hb⟩
  replace hT := hT.next hb
  have hdec : decide (0 < ln) = mm := by
    rw [Bool.eq_iff_iff, decide_eq_true_iff]
    refine Iff.trans ?_ HM.out.symm
    constructor
    · intro h
      obtain ⟨i, hi⟩ := hiff.1 h
      exact ⟨i, by simpa using hi⟩
    · rintro ⟨i, h1, h2⟩
      exact hiff.2 ⟨i, by simp [h1, h2]⟩
  clear hb hiff gx
  go_wp2_with fail
  clear hdec hln
  replace hT := hT.next (below_drew' _)
  go_region_held3 (fun w' => w'.cell? ⟨w.heap.size, 0, none⟩ = some (.int .i64 m1) ∧ w'.cell? ⟨w.heap.size, 1, none⟩ = some (.slice a1 l1 c1) ∧ w'.cell? ⟨w.heap.size + 1, 0, none⟩ = some (.int .i64 m2) ∧ w'.cell? ⟨w.heap.size + 1, 1, none⟩ = some (.slice a2 l2 c2)) (exact ⟨hT.b0.cells.1, hT.b0.cells.2.1, hT.b1.cells.1, hT.b1.cells.2.1⟩)
    (first
      | (go_at_call 10; refine exact_j (n := ?_) (P := ?_) ?_ ?_ ?_; rotate_left 2; (focus (repeat (first | assumption | (apply SetAt.below; rotate_left; assumption)))); (focus (repeat (first | assumption | (apply SetAt.below; rotate_left; assumption)))); rintro e w' ⟨rfl, hb⟩; replace hT := hT.next hb)
      | (go_at_call 21; refine (or_any hT.A hT.B).mono ?_; rintro e w' hret; obtain ⟨x1, y1, z1, rfl, g1, hb⟩ := hret.d; clear hret; replace hT := hT.next hb)
      | (go_at_call 22; refine (ror_any hT.A hT.B).mono ?_; rintro e w' hret; obtain ⟨x2, y2, z2, rfl, g2, hb⟩ := hret.d; clear hret; replace hT := hT.next hb)
      | (go_at_call 23; refine (and_any hT.A hT.B).mono ?_; rintro e w' hret; obtain ⟨x3, y3, z3, rfl, g3, hb⟩ := hret.d; clear hret; replace hT := hT.next hb)
      | (go_at_call 20; refine (rand_any hT.A hT.B).mono ?_; rintro e w' hret; obtain ⟨x4, y4, z4, rfl, g4, hb⟩ := hret.d; clear hret; replace hT := hT.next hb)
      | (go_at_call 24; refine (not_any hT.A hT.B).mono ?_; rintro e w' hret; obtain ⟨x5, y5, z5, rfl, g5, hb⟩ := hret.d; clear hret; replace hT := hT.next hb)
      | (go_at_call 25; refine (rnot_any hT.A hT.B).mono ?_; rintro e w' hret; obtain ⟨x6, y6, z6, rfl, g6, hb⟩ := hret.d; clear hret; replace hT := hT.next hb)
      | (go_at_call 26; refine (meet_any hT.A hT.B).mono ?_; rintro e w' hret; obtain ⟨rfl, hb⟩ := hret.is HM.out; clear hret; replace hT := hT.next hb)
      | (go_at_call 27; (fail_if_success (have hx := m27)); refine (same_any hT.A hT.B).mono ?_; rintro e w' hret; obtain ⟨rfl, hb⟩ := hret.is HS.out; clear hret; have m27 := trivial; replace hT := hT.next hb)
      | (go_at_call 28; refine (rsame_any hT.A hT.B).mono ?_; rintro e w' hret; obtain ⟨rfl, hb⟩ := hret.is HS.out; clear hret; replace hT := hT.next hb)
      | (go_at_call 27; refine (same_any hT.A hT.A).mono ?_; rintro e w' hret; obtain ⟨rfl, hb⟩ := hret.is (b := true) (by simp); clear hret; replace hT := hT.next hb))
  go_wp2
  go_ret
  exact ⟨rfl, hT.below⟩
end Go.Proofs.Ytclgefpkcagbfaa
