/- Patterns that came in. -/
import Derived.Test.YtlmmiicibjfcdaaGPqPvPtPxPyNeLpOx
namespace Go.Proofs.Ytlmmiicibjfcdaa
open Go.ChangeShapes Go.WideShapes Go.ChangeAt Go.RowKit
theorem rd_of {H : Type} {enc : TypeId × Value → H} {W : World} {n : Nat} {v : Value} {y : DataW H × List MemPlace} (h : DataW.trod enc Try.prog W 0 (fun _ => true) true n 48 [v] = some y) :
    ∃ ao len cap f, v = .slice ao len cap ∧ Rd W ao len f ∧ len ≤ cap ∧ ((ao = none ∧ len = 0 ∧ cap = 0) ∨ ∃ elems spare, y.1 = .slice elems spare ∧ elems.length = len ∧ ∃ a, ao = some a) := by
  rcases open_ints Try.underlying48 Try.underlying5 (by kernel_rfl) h with ⟨hcs, _⟩ | ⟨x, l, c, zs, hcs, hlc, hl, hm, hz, hx, hcell, hwz⟩
  · simp at hcs
    exact ⟨none, 0, 0, fun _ => 0, hcs, ⟨fun i hi => by omega, fun h => by omega⟩, Nat.le_refl _, .inl ⟨rfl, rfl, rfl⟩⟩
  · simp only [if_true] at hz
    simp at hcs
    have hb : ∀ i, i < zs.length → 0 ≤ zs.getD i 0 ∧ zs.getD i 0 < 256 := by
      intro i hi
      have hmem : zs.getD i 0 ∈ zs := by rw [List.getD_eq_getElem?_getD, List.getElem?_eq_getElem hi]; exact List.getElem_mem hi
      have := hwz _ hmem
      generalize zs.getD i 0 = x0 at *
      simp [Lit.wf, IntKind.min, IntKind.max, IntKind.signed, IntKind.bits] at this
      omega
    refine ⟨some x, l, c, fun i => (zs.getD i 0).toNat, hcs, ⟨fun i hi => ?_, fun h0 => ?_⟩, by omega, .inr ⟨_, _, by rw [hx], ?_, _, rfl⟩⟩
    · have := hb i (by omega); omega
    · obtain ⟨b, off, spot⟩ := x
      have hc := hcell 0 (by omega)
      have hspot : spot = none := by simpa [Addr.add] using World.cell?_spot hc
      subst hspot
      have hbb : b < W.heap.size := by have := cell_lt hc; simpa [Addr.add] using this
      refine ⟨b, off, rfl, hbb, fun i hi => ?_⟩
      have hci := hcell i (by omega)
      have e : (((zs.getD i 0).toNat : Nat) : Int) = zs.getD i 0 := Int.toNat_of_nonneg (hb i (by omega)).1
      rw [e]
      by_cases hi0 : i = 0
      · subst hi0; simpa [Addr.add] using hci
      · simpa [Addr.add, hi0] using hci
    · simp [lits]; omega
end Go.Proofs.Ytlmmiicibjfcdaa
