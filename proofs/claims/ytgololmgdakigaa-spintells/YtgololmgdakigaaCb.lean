/- Cells; bytes that can be read. -/
import Derived.WalkKit
import Derived.WalkSpells
import Derived.WalkLawsBesides
import Derived.ChangeKeysEq
import Derived.Laws.StructEq
import Derived.Deep.QuietTactic
import Derived.BigQuiet
import Derived.Deep.RegionWith
import Derived.Test.YtgololmgdakigaaChecked
import Derived.Test.YtgololmgdakigaaFl
namespace Go.Proofs.Ytgololmgdakigaa
open Go.RowKit
theorem below2 (w : World) (o o' : Obj) : Below w.heap.size w ((w.alloc o).alloc o') := ((Below.refl _ _).alloc (Nat.le_refl _) _).alloc (by simp) _
theorem below1 (w : World) (o : Obj) : Below w.heap.size w (w.alloc o) := (Below.refl _ _).alloc (Nat.le_refl _) _
/-- A block of cells that may be written. -/
def Cl (w : World) (b : Nat) (t : TypeId) (vs : List Value) : Prop := w.heap[b]? = some (.cells vs.toArray t (0, 0))
section
variable {w w' : World} {b : Nat} {t : TypeId} {vs : List Value}
theorem Cl.lt (h : Cl w b t vs) : b < w.heap.size := (Array.getElem?_eq_some_iff.1 h).1
theorem Cl.new (w : World) (t : TypeId) (vs : List Value) : Cl (w.alloc (.cells vs.toArray t)) w.heap.size t vs := heap_alloc_new w _
theorem Cl.below (h : Cl w b t vs) (hb : Below w.heap.size w w') : Cl w' b t vs := by unfold Cl; rw [hb.block b h.lt]; exact h
theorem Cl.alloc (h : Cl w b t vs) (o : Obj) : Cl (w.alloc o) b t vs := h.below ((Below.refl _ _).alloc (Nat.le_refl _) o)
theorem Cl.drew (h : Cl w b t vs) : Cl w.drew b t vs := h.below (Below.refl _ _).drew
theorem Cl.cell (h : Cl w b t vs) (i : Nat) {v : Value} (hi : vs[i]? = some v) : w.cell? ⟨b, i, none⟩ = some v := by
  rw [cell_of_row w b i _ t (0, 0) h]
  simpa using hi
theorem Cl.frozen (h : Cl w b t vs) (i : Nat) : w.frozen? ⟨b, i, none⟩ = false := frozen_of_row w b i _ t h
theorem Cl.set (h : Cl w b t vs) (i : Nat) (v : Value) : Cl (w.setCell ⟨b, i, none⟩ v) b t (vs.set i v) := by
  have := heap_setCell_same w b i vs.toArray t v h
  simpa [Cl] using this
theorem Cl.other (h : Cl w b t vs) {k : Nat} (hk : k ≠ b) (i : Nat) (v : Value) : Cl (w.setCell ⟨k, i, none⟩ v) b t vs := by
  unfold Cl at *
  rw [Below.heap_setCell _ _ _ _ (Ne.symm hk)]
  exact h
theorem Cl.one {x0 : Value} (h : Cl w b t [x0]) : w.cell? ⟨b, 0, none⟩ = some x0 ∧ w.frozen? ⟨b, 0, none⟩ = false := ⟨h.cell 0 rfl, h.frozen 0⟩
theorem Cl.two {x0 x1 : Value} (h : Cl w b t [x0, x1]) : (w.cell? ⟨b, 0, none⟩ = some x0 ∧ w.cell? ⟨b, 1, none⟩ = some x1) ∧ w.frozen? ⟨b, 0, none⟩ = false ∧ w.frozen? ⟨b, 1, none⟩ = false := ⟨⟨h.cell 0 rfl, h.cell 1 rfl⟩, h.frozen 0, h.frozen 1⟩
end
/-- The bytes of a slice can be read. -/
structure Rd (w : World) (ao : Option Addr) (len : Nat) (z : Nat → Nat) : Prop where
  small : ∀ i, i < len → z i < 256
  at_ : 0 < len → ∃ b off, ao = some ⟨b, off, none⟩ ∧ b < w.heap.size ∧ ∀ i, i < len → w.cell? ⟨b, off + i, none⟩ = some (.int .u8 (z i : Nat))
theorem Rd.below {w w' : World} {ao : Option Addr} {len : Nat} {z : Nat → Nat} (h : Rd w ao len z) (hb : Below w.heap.size w w') : Rd w' ao len z := by
  refine ⟨h.small, fun hl => ?_⟩
  obtain ⟨b, off, e, hlt, hc⟩ := h.at_ hl
  exact ⟨b, off, e, Nat.lt_of_lt_of_le hlt hb.size, fun i hi => by rw [hb.cell (p := ⟨b, off + i, none⟩) hlt]; exact hc i hi⟩
end Go.Proofs.Ytgololmgdakigaa
