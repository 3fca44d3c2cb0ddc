/- The reference's New: the walk. -/
import Derived.Test.YtehlmjjdegmnaaaDoorRh
namespace Go.Proofs.YtehlmjjdegmnaaaDoor
open Go.RowKit
attribute [local go_sem ↓] Go.wp_at_zero Go.wp_at_succ
/-- What a call answers that makes a set (in a row that may have room behind it). -/
def RetL (w : World) (n : Nat) (P : Nat → Bool) (e : Ending) (w' : World) : Prop :=
  ∃ ao len cap f, e = .returned (.agg #[.int .i64 (n : Nat), .slice ao len cap]) ∧ OwnL w.heap.size w' ao len f ∧ IsSet n len f P ∧ Below w.heap.size w w'
def RetNewL (w : World) (n : Nat) (P : Nat → Bool) (e : Ending) (w' : World) : Prop :=
  ∃ ao len cap f, e = .returned (.tuple #[.agg #[.int .i64 (n : Nat), .slice ao len cap], .int .i64 0]) ∧ OwnL w.heap.size w' ao len f ∧ IsSet n len f P ∧ Below w.heap.size w w'
structure RelL (w : World) (n bc : Nat) (ao : Option Addr) (len cap : Nat) (P : Nat → Bool) (wr : World) : Prop where
  bc1 : Box wr bc (.int .i64 (n : Nat)) (.slice ao len cap)
  own : ∃ f, OwnL (w.heap.size + 1) wr ao len f ∧ IsSet n len f P
  below : Below w.heap.size w wr
  b2 : Box wr w.heap.size (.int .i64 0) (.slice none 0 0)
theorem RelL.next {w : World} {n bc : Nat} {ao : Option Addr} {len cap : Nat} {P : Nat → Bool} {wr wr' : World} (h : RelL w n bc ao len cap P wr) (hb : Below wr.heap.size wr wr') : RelL w n bc ao len cap P wr' :=
  ⟨h.bc1.below hb, h.own.elim fun f ⟨ho, hs⟩ => ⟨f, ho.below hb, hs⟩, h.below.trans (hb.mono h.below.size), h.b2.below hb⟩
theorem RelL.put {w : World} {n bc : Nat} {ao : Option Addr} {len cap : Nat} {P P' : Nat → Bool} {wr wr' : World} {g : Nat → Nat} (h : RelL w n bc ao len cap P wr) (hb : But ao wr wr') (ho : OwnL (w.heap.size + 1) wr' ao len g) (hs : IsSet n len g P')
    (hao : ∀ a, ao = some a → w.heap.size + 1 ≤ a.block ∧ a.block ≠ bc) : RelL w n bc ao len cap P' wr' :=
  ⟨h.bc1.but hb (fun a e => (hao a e).2), ⟨g, ho, hs⟩, h.below.trans (hb.below h.below.size fun a e => by have := hao a e; omega), h.b2.but hb (fun a e => by have := hao a e; omega)⟩
theorem below_drew' (w : World) : Below w.heap.size w w.drew := (Below.refl _ _).drew
end Go.Proofs.YtehlmjjdegmnaaaDoor
