/- BitsLaws: the walk. -/
import Derived.Test.YtclgefpkcagbfaaSz
import Derived.Test.YtclgefpkcagbfaaLive
import Derived.Test.YtclgefpkcagbfaaOr
import Derived.Test.YtclgefpkcagbfaaAnd
import Derived.Test.YtclgefpkcagbfaaNot
import Derived.Deep.RegionHeld3
namespace Go.Proofs.Ytclgefpkcagbfaa
open Go.RowKit
attribute [local go_sem ↓] Go.wp_at_zero Go.wp_at_succ

theorem Arg.out {w : World} {x : Value} {n : Nat} {P : Nat → Bool} (h : Arg w x n P) : ∀ i, n ≤ i → P i = false := by
  obtain ⟨m, ao, len, cap, f, rfl, hr, h⟩ := h
  rcases h with ⟨rfl, hs⟩ | ⟨hn, rfl, rfl⟩
  · exact hs.hout
  · intro i _; rfl
/-- What a call answers that makes a set of N n, as another call takes it. -/
def RetArg (w : World) (n : Nat) (P : Nat → Bool) (e : Ending) (w' : World) : Prop := ∃ ao len cap, e = .returned (.agg #[.int .i64 (n : Nat), .slice ao len cap]) ∧ Arg w' (.agg #[.int .i64 (n : Nat), .slice ao len cap]) n P ∧ Below w.heap.size w w'
theorem RetSet.arg {w : World} {n : Nat} {P : Nat → Bool} {e : Ending} {w' : World} (h : RetSet w n P e w') : RetArg w n P e w' := by
  obtain ⟨ao, len, cap, f, he, ho, hs, hb⟩ := h
  exact ⟨ao, len, cap, he, SetAt.arg ⟨ao, len, cap, f, rfl, ho.rd, hs⟩, hb⟩
theorem or_arg {w : World} {x y : Value} {n : Nat} {P Q : Nat → Bool} (h : Arg w x n P) (h2 : Arg w y n Q) : Calls Try.prog 21 #[x, y] w (RetArg w n fun i => P i || Q i) := by
  have e : (fun i => P i || (Q i && decide (i < n))) = fun i => P i || Q i := by
    funext i
    by_cases hi : i < n
    · simp [hi]
    · simp [hi, h2.out i (by omega)]
  have := or_any h h2
  rw [e] at this
  exact this.mono fun _ _ h => h.arg
theorem and_arg {w : World} {x y : Value} {n : Nat} {P Q : Nat → Bool} (h : Arg w x n P) (h2 : Arg w y n Q) : Calls Try.prog 23 #[x, y] w (RetArg w n fun i => P i && Q i) := (and_any h h2).mono fun _ _ h => h.arg
theorem not_arg {w : World} {x y : Value} {n : Nat} {P Q : Nat → Bool} (h : Arg w x n P) (h2 : Arg w y n Q) : Calls Try.prog 24 #[x, y] w (RetArg w n fun i => P i && !Q i) := (not_any h h2).mono fun _ _ h => h.arg
theorem same_arg {w : World} {x y : Value} {n : Nat} {P Q : Nat → Bool} (h : Arg w x n P) (h2 : Arg w y n Q) (e : ∀ i, P i = Q i) : Calls Try.prog 27 #[x, y] w fun e w' => e = .returned (.bool true) ∧ Below w.heap.size w w' :=
  (same_any h h2).mono fun _ _ ⟨b, he, hi, hb⟩ => ⟨by rw [he, hi.2 ⟨rfl, e⟩], hb⟩
theorem meet_arg {w : World} {x y : Value} {n : Nat} {P Q : Nat → Bool} (h : Arg w x n P) (h2 : Arg w y n Q) (e : ∀ i, (P i && Q i) = false) : Calls Try.prog 26 #[x, y] w fun e w' => e = .returned (.bool false) ∧ Below w.heap.size w w' :=
  (meet_any h h2).mono fun _ _ ⟨b, he, hi, hb⟩ => ⟨by
    cases b with
    | false => exact he
    | true => obtain ⟨k, h1, h2⟩ := hi.1 rfl; have := e k; simp [h1, h2] at this, hb⟩

theorem or_k {w : World} {x y : Value} {n : Nat} {P Q : Nat → Bool} {K : Ending → World → Prop} (h : Arg w x n P) (h2 : Arg w y n Q) (hk : ∀ e w', RetArg w n (fun i => P i || Q i) e w' → K e w') : Calls Try.prog 21 #[x, y] w K := (or_arg h h2).mono hk
theorem and_k {w : World} {x y : Value} {n : Nat} {P Q : Nat → Bool} {K : Ending → World → Prop} (h : Arg w x n P) (h2 : Arg w y n Q) (hk : ∀ e w', RetArg w n (fun i => P i && Q i) e w' → K e w') : Calls Try.prog 23 #[x, y] w K := (and_arg h h2).mono hk
theorem not_k {w : World} {x y : Value} {n : Nat} {P Q : Nat → Bool} {K : Ending → World → Prop} (h : Arg w x n P) (h2 : Arg w y n Q) (hk : ∀ e w', RetArg w n (fun i => P i && !Q i) e w' → K e w') : Calls Try.prog 24 #[x, y] w K := (not_arg h h2).mono hk
theorem same_k {w : World} {x y : Value} {n : Nat} {P Q : Nat → Bool} {K : Ending → World → Prop} (h : Arg w x n P) (h2 : Arg w y n Q) (he : ∀ i, P i = Q i) (hk : ∀ e w', (e = .returned (.bool true) ∧ Below w.heap.size w w') → K e w') : Calls Try.prog 27 #[x, y] w K := (same_arg h h2 he).mono hk
theorem meet_k {w : World} {x y : Value} {n : Nat} {P Q : Nat → Bool} {K : Ending → World → Prop} (h : Arg w x n P) (h2 : Arg w y n Q) (he : ∀ i, (P i && Q i) = false) (hk : ∀ e w', (e = .returned (.bool false) ∧ Below w.heap.size w w') → K e w') : Calls Try.prog 26 #[x, y] w K := (meet_arg h h2 he).mono hk

/-- The three sets, in their boxes. -/
structure T3 (w : World) (q n : Nat) (aa : Option Addr) (la ca : Nat) (ab : Option Addr) (lb cb : Nat) (ac : Option Addr) (lc cc : Nat) (P Q R : Nat → Bool) (W : World) : Prop where
  a : Box W q (.int .i64 (n : Nat)) (.slice aa la ca)
  b : Box W (q + 1) (.int .i64 (n : Nat)) (.slice ab lb cb)
  c : Box W (q + 1 + 1) (.int .i64 (n : Nat)) (.slice ac lc cc)
  A : Arg W (.agg #[.int .i64 (n : Nat), .slice aa la ca]) n P
  B : Arg W (.agg #[.int .i64 (n : Nat), .slice ab lb cb]) n Q
  C : Arg W (.agg #[.int .i64 (n : Nat), .slice ac lc cc]) n R
  below : Below w.heap.size w W
theorem T3.next {w : World} {q n : Nat} {aa : Option Addr} {la ca : Nat} {ab : Option Addr} {lb cb : Nat} {ac : Option Addr} {lc cc : Nat} {P Q R : Nat → Bool} {W W' : World} (h : T3 w q n aa la ca ab lb cb ac lc cc P Q R W) (hb : Below W.heap.size W W') : T3 w q n aa la ca ab lb cb ac lc cc P Q R W' :=
  ⟨h.a.below hb, h.b.below hb, h.c.below hb, h.A.below hb, h.B.below hb, h.C.below hb, h.below.trans (hb.mono h.below.size)⟩
theorem below_drew (w : World) : Below w.heap.size w w.drew := (Below.refl _ _).drew

set_option maxHeartbeats 2000000 in
theorem bitsLaws_walk (n : Nat) (a1 a2 a3 : Option Addr) (l1 c1 l2 c2 l3 c3 : Nat) (z1 z2 z3 : Nat → Int) (w : World) (hn : (n : Int) ≤ 255) (h1 : RdI w a1 l1 z1) (h2 : RdI w a2 l2 z2) (h3 : RdI w a3 l3 z3)
    (k1 : (l1 : Int) ≤ 9223372036854775807) (k2 : (l2 : Int) ≤ 9223372036854775807) (k3 : (l3 : Int) ≤ 9223372036854775807) :
    Calls Try.prog 5 #[.agg #[.int .u8 (n : Nat), .slice a1 l1 c1, .slice a2 l2 c2, .slice a3 l3 c3]] w fun e w' => e = .returned (.bool true) ∧ Below w.heap.size w w' := by
  have hB0 : Below w.heap.size w (w.alloc (.cells #[.int .u8 (n : Nat), .slice a1 l1 c1, .slice a2 l2 c2, .slice a3 l3 c3] 41)) := (Below.refl _ _).alloc (Nat.le_refl _) _
  go_enter Try.func5, Try.ntmps5
  go_wp2_with fail
  refine (live_any _).mono ?_
  rintro e w1 ⟨rfl, hb⟩
  have hB1 := hB0.trans (hb.mono hB0.size)
  have hx : ∀ i v, (#[Value.int .u8 (n : Nat), .slice a1 l1 c1, .slice a2 l2 c2, .slice a3 l3 c3] : Array Value)[i]? = some v → w1.cell? ⟨w.heap.size, i, none⟩ = some v := by
    intro i v h
    rw [hb.cell (p := ⟨w.heap.size, i, none⟩) (by simp), World.cell?_alloc_new]; exact h
  have x0 := hx 0 _ rfl
  have x1 := hx 1 _ rfl
  have x2 := hx 2 _ rfl
  have x3 := hx 3 _ rfl
  clear hx hb hB0
  go_wp2_with fail
  refine (sized_any n a1 a2 a3 l1 c1 l2 c2 l3 c3 z1 z2 z3 _ hn (h1.below hB1) (h2.below hB1) (h3.below hB1) k1 k2 k3).mono ?_
  rintro e w2 ⟨aa, la, ca, fa, ab, lb, cb, fb, ac, lc, cc, fc, rfl, hoa, hsa, hob, hsb, hoc, hsc, hb⟩
  have hB2 := hB1.trans (hb.mono hB1.size)
  clear hb hB1 x0 x1 x2 x3 h1 h2 h3
  go_wp2_with fail
  have hBn : Below w2.heap.size w2 (((w2.alloc (.cells #[.int .i64 (n : Nat), .slice aa la ca] 25)).alloc (.cells #[.int .i64 (n : Nat), .slice ab lb cb] 25)).alloc (.cells #[.int .i64 (n : Nat), .slice ac lc cc] 25)) := (((Below.refl _ _).alloc (Nat.le_refl _) _).alloc (by simp) _).alloc (by simp; omega) _
  have hT : T3 w w2.heap.size n aa la ca ab lb cb ac lc cc (newP n z1 l1) (newP n z2 l2) (newP n z3 l3) (((w2.alloc (.cells #[.int .i64 (n : Nat), .slice aa la ca] 25)).alloc (.cells #[.int .i64 (n : Nat), .slice ab lb cb] 25)).alloc (.cells #[.int .i64 (n : Nat), .slice ac lc cc] 25)) :=
    ⟨((Box.new w2 _ _).alloc _).alloc _, (Box.new1 w2 _ _ _).alloc _, Box.new2 w2 _ _ _ _, (SetAt.arg ⟨aa, la, ca, fa, rfl, hoa.rd, hsa⟩).below hBn, (SetAt.arg ⟨ab, lb, cb, fb, rfl, hob.rd, hsb⟩).below hBn, (SetAt.arg ⟨ac, lc, cc, fc, rfl, hoc.rd, hsc⟩).below hBn, hB2.trans (hBn.mono hB2.size)⟩
  clear hBn hB2 hoa hsa hob hsb hoc hsc
  generalize newP n z1 l1 = P at *
  generalize newP n z2 l2 = Q at *
  generalize newP n z3 l3 = R at *
  generalize (((w2.alloc (.cells #[.int .i64 (n : Nat), .slice aa la ca] 25)).alloc (.cells #[.int .i64 (n : Nat), .slice ab lb cb] 25)).alloc (.cells #[.int .i64 (n : Nat), .slice ac lc cc] 25)) = wA at *
  generalize w2.heap.size = q at *
  replace hT := hT.next (below_drew _)
  go_region_held3 (fun w' => w'.cell? ⟨q, 0, none⟩ = some (.int .i64 (n : Nat)) ∧ w'.cell? ⟨q, 1, none⟩ = some (.slice aa la ca) ∧ w'.cell? ⟨q + 1, 0, none⟩ = some (.int .i64 (n : Nat)) ∧ w'.cell? ⟨q + 1, 1, none⟩ = some (.slice ab lb cb) ∧ w'.cell? ⟨q + 1 + 1, 0, none⟩ = some (.int .i64 (n : Nat)) ∧ w'.cell? ⟨q + 1 + 1, 1, none⟩ = some (.slice ac lc cc)) (exact ⟨hT.a.cells.1, hT.a.cells.2.1, hT.b.cells.1, hT.b.cells.2.1, hT.c.cells.1, hT.c.cells.2.1⟩)
    (first
      | (go_at_call 21; have gA := hT.A; have gB := hT.B; have gC := hT.C; refine or_k (n := ?_) (P := ?_) (Q := ?_) ?_ ?_ ?_; rotate_left 3; (focus (repeat (first | assumption | (apply Arg.below; rotate_left; assumption)))); (focus (repeat (first | assumption | (apply Arg.below; rotate_left; assumption)))); rintro e w' ⟨ao, len, cap, rfl, hg, hb⟩; replace hT := hT.next hb)
      | (go_at_call 23; have gA := hT.A; have gB := hT.B; have gC := hT.C; refine and_k (n := ?_) (P := ?_) (Q := ?_) ?_ ?_ ?_; rotate_left 3; (focus (repeat (first | assumption | (apply Arg.below; rotate_left; assumption)))); (focus (repeat (first | assumption | (apply Arg.below; rotate_left; assumption)))); rintro e w' ⟨ao, len, cap, rfl, hg, hb⟩; replace hT := hT.next hb)
      | (go_at_call 24; have gA := hT.A; have gB := hT.B; have gC := hT.C; refine not_k (n := ?_) (P := ?_) (Q := ?_) ?_ ?_ ?_; rotate_left 3; (focus (repeat (first | assumption | (apply Arg.below; rotate_left; assumption)))); (focus (repeat (first | assumption | (apply Arg.below; rotate_left; assumption)))); rintro e w' ⟨ao, len, cap, rfl, hg, hb⟩; replace hT := hT.next hb)
      | (go_at_call 26; have gA := hT.A; have gB := hT.B; have gC := hT.C; refine meet_k (n := ?_) (P := ?_) (Q := ?_) ?_ ?_ ?_ ?_; rotate_left 3; (focus (repeat (first | assumption | (apply Arg.below; rotate_left; assumption)))); (focus (repeat (first | assumption | (apply Arg.below; rotate_left; assumption)))); (focus (intro i; cases P i <;> cases Q i <;> cases R i <;> rfl)); rintro e w' ⟨rfl, hb⟩; replace hT := hT.next hb)
      | (go_at_call 27; have gA := hT.A; have gB := hT.B; have gC := hT.C; refine same_k (n := ?_) (P := ?_) (Q := ?_) ?_ ?_ ?_ ?_; rotate_left 3; (focus (repeat (first | assumption | (apply Arg.below; rotate_left; assumption)))); (focus (repeat (first | assumption | (apply Arg.below; rotate_left; assumption)))); (focus (intro i; cases P i <;> cases Q i <;> cases R i <;> rfl)); rintro e w' ⟨rfl, hb⟩; replace hT := hT.next hb))
  clear hb
  go_wp2_with fail
  replace hT := hT.next (below_drew _)
  go_region_held3 (fun w' => w'.cell? ⟨q, 0, none⟩ = some (.int .i64 (n : Nat)) ∧ w'.cell? ⟨q, 1, none⟩ = some (.slice aa la ca) ∧ w'.cell? ⟨q + 1, 0, none⟩ = some (.int .i64 (n : Nat)) ∧ w'.cell? ⟨q + 1, 1, none⟩ = some (.slice ab lb cb) ∧ w'.cell? ⟨q + 1 + 1, 0, none⟩ = some (.int .i64 (n : Nat)) ∧ w'.cell? ⟨q + 1 + 1, 1, none⟩ = some (.slice ac lc cc)) (exact ⟨hT.a.cells.1, hT.a.cells.2.1, hT.b.cells.1, hT.b.cells.2.1, hT.c.cells.1, hT.c.cells.2.1⟩)
    (first
      | (go_at_call 21; have gA := hT.A; have gB := hT.B; have gC := hT.C; refine or_k (n := ?_) (P := ?_) (Q := ?_) ?_ ?_ ?_; rotate_left 3; (focus (repeat (first | assumption | (apply Arg.below; rotate_left; assumption)))); (focus (repeat (first | assumption | (apply Arg.below; rotate_left; assumption)))); rintro e w' ⟨ao, len, cap, rfl, hg, hb⟩; replace hT := hT.next hb)
      | (go_at_call 23; have gA := hT.A; have gB := hT.B; have gC := hT.C; refine and_k (n := ?_) (P := ?_) (Q := ?_) ?_ ?_ ?_; rotate_left 3; (focus (repeat (first | assumption | (apply Arg.below; rotate_left; assumption)))); (focus (repeat (first | assumption | (apply Arg.below; rotate_left; assumption)))); rintro e w' ⟨ao, len, cap, rfl, hg, hb⟩; replace hT := hT.next hb)
      | (go_at_call 24; have gA := hT.A; have gB := hT.B; have gC := hT.C; refine not_k (n := ?_) (P := ?_) (Q := ?_) ?_ ?_ ?_; rotate_left 3; (focus (repeat (first | assumption | (apply Arg.below; rotate_left; assumption)))); (focus (repeat (first | assumption | (apply Arg.below; rotate_left; assumption)))); rintro e w' ⟨ao, len, cap, rfl, hg, hb⟩; replace hT := hT.next hb)
      | (go_at_call 26; have gA := hT.A; have gB := hT.B; have gC := hT.C; refine meet_k (n := ?_) (P := ?_) (Q := ?_) ?_ ?_ ?_ ?_; rotate_left 3; (focus (repeat (first | assumption | (apply Arg.below; rotate_left; assumption)))); (focus (repeat (first | assumption | (apply Arg.below; rotate_left; assumption)))); (focus (intro i; cases P i <;> cases Q i <;> cases R i <;> rfl)); rintro e w' ⟨rfl, hb⟩; replace hT := hT.next hb)
      | (go_at_call 27; have gA := hT.A; have gB := hT.B; have gC := hT.C; refine same_k (n := ?_) (P := ?_) (Q := ?_) ?_ ?_ ?_ ?_; rotate_left 3; (focus (repeat (first | assumption | (apply Arg.below; rotate_left; assumption)))); (focus (repeat (first | assumption | (apply Arg.below; rotate_left; assumption)))); (focus (intro i; cases P i <;> cases Q i <;> cases R i <;> rfl)); rintro e w' ⟨rfl, hb⟩; replace hT := hT.next hb))
  clear hb
  go_wp2_with fail
  replace hT := hT.next (below_drew _)
  go_region_held3 (fun w' => w'.cell? ⟨q, 0, none⟩ = some (.int .i64 (n : Nat)) ∧ w'.cell? ⟨q, 1, none⟩ = some (.slice aa la ca) ∧ w'.cell? ⟨q + 1, 0, none⟩ = some (.int .i64 (n : Nat)) ∧ w'.cell? ⟨q + 1, 1, none⟩ = some (.slice ab lb cb) ∧ w'.cell? ⟨q + 1 + 1, 0, none⟩ = some (.int .i64 (n : Nat)) ∧ w'.cell? ⟨q + 1 + 1, 1, none⟩ = some (.slice ac lc cc)) (exact ⟨hT.a.cells.1, hT.a.cells.2.1, hT.b.cells.1, hT.b.cells.2.1, hT.c.cells.1, hT.c.cells.2.1⟩)
    (first
      | (go_at_call 21; have gA := hT.A; have gB := hT.B; have gC := hT.C; refine or_k (n := ?_) (P := ?_) (Q := ?_) ?_ ?_ ?_; rotate_left 3; (focus (repeat (first | assumption | (apply Arg.below; rotate_left; assumption)))); (focus (repeat (first | assumption | (apply Arg.below; rotate_left; assumption)))); rintro e w' ⟨ao, len, cap, rfl, hg, hb⟩; replace hT := hT.next hb)
      | (go_at_call 23; have gA := hT.A; have gB := hT.B; have gC := hT.C; refine and_k (n := ?_) (P := ?_) (Q := ?_) ?_ ?_ ?_; rotate_left 3; (focus (repeat (first | assumption | (apply Arg.below; rotate_left; assumption)))); (focus (repeat (first | assumption | (apply Arg.below; rotate_left; assumption)))); rintro e w' ⟨ao, len, cap, rfl, hg, hb⟩; replace hT := hT.next hb)
      | (go_at_call 24; have gA := hT.A; have gB := hT.B; have gC := hT.C; refine not_k (n := ?_) (P := ?_) (Q := ?_) ?_ ?_ ?_; rotate_left 3; (focus (repeat (first | assumption | (apply Arg.below; rotate_left; assumption)))); (focus (repeat (first | assumption | (apply Arg.below; rotate_left; assumption)))); rintro e w' ⟨ao, len, cap, rfl, hg, hb⟩; replace hT := hT.next hb)
      | (go_at_call 26; have gA := hT.A; have gB := hT.B; have gC := hT.C; refine meet_k (n := ?_) (P := ?_) (Q := ?_) ?_ ?_ ?_ ?_; rotate_left 3; (focus (repeat (first | assumption | (apply Arg.below; rotate_left; assumption)))); (focus (repeat (first | assumption | (apply Arg.below; rotate_left; assumption)))); (focus (intro i; cases P i <;> cases Q i <;> cases R i <;> rfl)); rintro e w' ⟨rfl, hb⟩; replace hT := hT.next hb)
      | (go_at_call 27; have gA := hT.A; have gB := hT.B; have gC := hT.C; refine same_k (n := ?_) (P := ?_) (Q := ?_) ?_ ?_ ?_ ?_; rotate_left 3; (focus (repeat (first | assumption | (apply Arg.below; rotate_left; assumption)))); (focus (repeat (first | assumption | (apply Arg.below; rotate_left; assumption)))); (focus (intro i; cases P i <;> cases Q i <;> cases R i <;> rfl)); rintro e w' ⟨rfl, hb⟩; replace hT := hT.next hb))
  clear hb
  go_wp2_with fail
  replace hT := hT.next (below_drew _)
  go_region_held3 (fun w' => w'.cell? ⟨q, 0, none⟩ = some (.int .i64 (n : Nat)) ∧ w'.cell? ⟨q, 1, none⟩ = some (.slice aa la ca) ∧ w'.cell? ⟨q + 1, 0, none⟩ = some (.int .i64 (n : Nat)) ∧ w'.cell? ⟨q + 1, 1, none⟩ = some (.slice ab lb cb) ∧ w'.cell? ⟨q + 1 + 1, 0, none⟩ = some (.int .i64 (n : Nat)) ∧ w'.cell? ⟨q + 1 + 1, 1, none⟩ = some (.slice ac lc cc)) (exact ⟨hT.a.cells.1, hT.a.cells.2.1, hT.b.cells.1, hT.b.cells.2.1, hT.c.cells.1, hT.c.cells.2.1⟩)
    (first
      | (go_at_call 21; have gA := hT.A; have gB := hT.B; have gC := hT.C; refine or_k (n := ?_) (P := ?_) (Q := ?_) ?_ ?_ ?_; rotate_left 3; (focus (repeat (first | assumption | (apply Arg.below; rotate_left; assumption)))); (focus (repeat (first | assumption | (apply Arg.below; rotate_left; assumption)))); rintro e w' ⟨ao, len, cap, rfl, hg, hb⟩; replace hT := hT.next hb)
      | (go_at_call 23; have gA := hT.A; have gB := hT.B; have gC := hT.C; refine and_k (n := ?_) (P := ?_) (Q := ?_) ?_ ?_ ?_; rotate_left 3; (focus (repeat (first | assumption | (apply Arg.below; rotate_left; assumption)))); (focus (repeat (first | assumption | (apply Arg.below; rotate_left; assumption)))); rintro e w' ⟨ao, len, cap, rfl, hg, hb⟩; replace hT := hT.next hb)
      | (go_at_call 24; have gA := hT.A; have gB := hT.B; have gC := hT.C; refine not_k (n := ?_) (P := ?_) (Q := ?_) ?_ ?_ ?_; rotate_left 3; (focus (repeat (first | assumption | (apply Arg.below; rotate_left; assumption)))); (focus (repeat (first | assumption | (apply Arg.below; rotate_left; assumption)))); rintro e w' ⟨ao, len, cap, rfl, hg, hb⟩; replace hT := hT.next hb)
      | (go_at_call 26; have gA := hT.A; have gB := hT.B; have gC := hT.C; refine meet_k (n := ?_) (P := ?_) (Q := ?_) ?_ ?_ ?_ ?_; rotate_left 3; (focus (repeat (first | assumption | (apply Arg.below; rotate_left; assumption)))); (focus (repeat (first | assumption | (apply Arg.below; rotate_left; assumption)))); (focus (intro i; cases P i <;> cases Q i <;> cases R i <;> rfl)); rintro e w' ⟨rfl, hb⟩; replace hT := hT.next hb)
      | (go_at_call 27; have gA := hT.A; have gB := hT.B; have gC := hT.C; refine same_k (n := ?_) (P := ?_) (Q := ?_) ?_ ?_ ?_ ?_; rotate_left 3; (focus (repeat (first | assumption | (apply Arg.below; rotate_left; assumption)))); (focus (repeat (first | assumption | (apply Arg.below; rotate_left; assumption)))); (focus (intro i; cases P i <;> cases Q i <;> cases R i <;> rfl)); rintro e w' ⟨rfl, hb⟩; replace hT := hT.next hb))
  clear hb
  go_wp2
  go_ret
  exact ⟨rfl, hT.below⟩
end Go.Proofs.Ytclgefpkcagbfaa
