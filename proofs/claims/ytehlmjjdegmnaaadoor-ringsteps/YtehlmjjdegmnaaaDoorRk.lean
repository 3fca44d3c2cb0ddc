/- The reference's pick: the walk. -/
import Derived.Test.YtehlmjjdegmnaaaDoorRp
namespace Go.Proofs.YtehlmjjdegmnaaaDoor
open Go.RowKit
theorem Arg.out {w : World} {x : Value} {n : Nat} {P : Nat → Bool} (h : Arg w x n P) : ∀ i, n ≤ i → P i = false := by
  obtain ⟨m, ao, len, cap, f, rfl, hr, h⟩ := h
  rcases h with ⟨rfl, hs⟩ | ⟨hn, rfl, rfl⟩
  · exact hs.hout
  · intro i _; rfl
theorem rhas_n {w : World} {x : Value} {n : Nat} {P : Nat → Bool} (k : Nat) (h : Arg w x n P) : Calls Tryd.prog 44 #[x, .int .i64 (k : Nat)] w fun e w' => e = .returned (.bool (P k)) ∧ Below w.heap.size w w' := by
  have := rhas_any (k : Int) h
  rw [Int.toNat_natCast] at this
  by_cases hk : k < n
  · rwa [decide_eq_true (by omega), decide_eq_true (by omega), Bool.true_and, Bool.true_and] at this
  · rwa [decide_eq_false (p := ((k : Nat) : Int) < n) (by omega), Bool.and_false, Bool.false_and, ← h.out k (by omega)] at this
theorem field0 (x y : Value) (w : World) : (Instr.field 29 (.agg #[x, y]) 0).run Tryd.prog w = .ok x w := by kernel_rfl
/-- pick's boxes, and what is gathered. -/
structure RelP (w : World) (x0 x1 y0 y1 : Value) (n bc : Nat) (ao : Option Addr) (len cap : Nat) (P : Nat → Bool) (wr : World) : Prop where
  bc1 : Box wr bc (.int .i64 (n : Nat)) (.slice ao len cap)
  own : ∃ f, OwnL (w.heap.size + 3) wr ao len f ∧ IsSet n len f P
  below : Below w.heap.size w wr
  xa : Box wr w.heap.size x0 x1
  xb : Box wr (w.heap.size + 1) y0 y1
  xr : Box wr (w.heap.size + 2) (.int .i64 0) (.slice none 0 0)
theorem RelP.next {w : World} {x0 x1 y0 y1 : Value} {n bc : Nat} {ao : Option Addr} {len cap : Nat} {P : Nat → Bool} {wr wr' : World} (h : RelP w x0 x1 y0 y1 n bc ao len cap P wr) (hb : Below wr.heap.size wr wr') : RelP w x0 x1 y0 y1 n bc ao len cap P wr' :=
  ⟨h.bc1.below hb, h.own.elim fun f ⟨ho, hs⟩ => ⟨f, ho.below hb, hs⟩, h.below.trans (hb.mono h.below.size), h.xa.below hb, h.xb.below hb, h.xr.below hb⟩
theorem RelP.put {w : World} {x0 x1 y0 y1 : Value} {n bc : Nat} {ao : Option Addr} {len cap : Nat} {P P' : Nat → Bool} {wr wr' : World} {g : Nat → Nat} (h : RelP w x0 x1 y0 y1 n bc ao len cap P wr) (hb : But ao wr wr') (ho : OwnL (w.heap.size + 3) wr' ao len g) (hs : IsSet n len g P')
    (hao : ∀ a, ao = some a → w.heap.size + 3 ≤ a.block ∧ a.block ≠ bc) : RelP w x0 x1 y0 y1 n bc ao len cap P' wr' :=
  ⟨h.bc1.but hb (fun a e => (hao a e).2), ⟨g, ho, hs⟩, h.below.trans (hb.below h.below.size fun a e => by have := hao a e; omega), h.xa.but hb (fun a e => by have := hao a e; omega), h.xb.but hb (fun a e => by have := hao a e; omega), h.xr.but hb (fun a e => by have := hao a e; omega)⟩
theorem RelP.congr {w : World} {x0 x1 y0 y1 : Value} {n bc : Nat} {ao : Option Addr} {len cap : Nat} {P P' : Nat → Bool} {wr : World} (h : RelP w x0 x1 y0 y1 n bc ao len cap P wr) (e : ∀ i, P i = P' i) : RelP w x0 x1 y0 y1 n bc ao len cap P' wr := by
  obtain rfl : P = P' := funext e
  exact h
theorem upto_no {T : Nat → Bool} {k : Nat} (h : T k = false) : ∀ i, (T i && decide (i < k)) = (T i && decide (i < k + 1)) := by
  intro i
  by_cases hi : i = k
  · subst hi; simp [h]
  · congr 1; rw [decide_eq_decide]; omega
theorem upto_yes {T : Nat → Bool} {k n : Nat} (h : T k = true) (hk : k < n) : ∀ i, ((T i && decide (i < k)) || decide ((i : Int) = (k : Nat) ∧ i < n)) = (T i && decide (i < k + 1)) := by
  intro i
  by_cases hi : i = k
  · subst hi; simp [h, hk]
  · rw [decide_eq_false (p := (i : Int) = (k : Nat) ∧ i < n) (by omega), Bool.or_false]; congr 1; rw [decide_eq_decide]; omega
theorem upto_all {T : Nat → Bool} {n : Nat} (h : ∀ i, n ≤ i → T i = false) : ∀ i, (T i && decide (i < n)) = T i := by
  intro i
  by_cases hi : i < n
  · simp [hi]
  · rw [h i (by omega)]; rfl
end Go.Proofs.YtehlmjjdegmnaaaDoor
