/- The reference's Bytes: the walk. -/
import Derived.Test.YthgjklhjfpillabDoorCn
import Derived.Test.YthgjklhjfpillabDoorBu
namespace Go.Proofs.YthgjklhjfpillabDoor
open Go.RowKit
/-- A row of bytes as values. -/
def byt (l : List Nat) : List Value := l.map fun x => Value.int .u8 (x : Nat)
/-- A list of bytes in memory of its own; nothing old has turned. -/
def RetBs (w : World) (l : List Nat) (e : Ending) (w' : World) : Prop := ∃ ao cap, e = .returned (.slice ao l.length cap) ∧ w'.ownsRow w.heap.size 5 1 (.slice ao l.length cap) l.length (byt l) ∧ Below w.heap.size w w'
theorem row_below {B : Nat} {w w' : World} {v : Value} {n : Nat} {xs : List Value} (h : w.ownsRow B 5 1 v n xs) (hb : Below w.heap.size w w') : w'.ownsRow B 5 1 v n xs := by
  refine ⟨h.1, ?_⟩
  rcases h.2 with h' | ⟨g, cap, cur, e, hg, hh, r⟩
  · exact .inl h'
  · exact .inr ⟨g, cap, cur, e, hg, by rw [hb.block g (Array.getElem?_eq_some_iff.1 hh).1]; exact hh, r⟩
theorem row_mono {B B' : Nat} {w : World} {v : Value} {n : Nat} {xs : List Value} (h : w.ownsRow B 5 1 v n xs) (hB : B' ≤ B) : w.ownsRow B' 5 1 v n xs :=
  ⟨h.1, h.2.imp id fun ⟨g, cap, cur, e, hg, r⟩ => ⟨g, cap, cur, e, Nat.le_trans hB hg, r⟩⟩
structure RelB (w : World) (a b c d : Nat) (P : Nat → Bool) (k : Nat) (v : Value) (wr : World) : Prop where
  box : Bx wr w.heap.size (.int .u64 (a : Nat)) (.int .u64 (b : Nat)) (.int .u64 (c : Nat)) (.int .u64 (d : Nat))
  own : wr.ownsRow (w.heap.size + 1) 5 1 v (come P k).length (byt (come P k))
  below : Below w.heap.size w wr
theorem RelB.next {w : World} {a b c d : Nat} {P : Nat → Bool} {k : Nat} {v : Value} {wr wr' : World} (h : RelB w a b c d P k v wr) (hb : Below wr.heap.size wr wr') : RelB w a b c d P k v wr' :=
  ⟨h.box.below hb, row_below h.own hb, h.below.trans (hb.mono h.below.size)⟩end Go.Proofs.YthgjklhjfpillabDoor
