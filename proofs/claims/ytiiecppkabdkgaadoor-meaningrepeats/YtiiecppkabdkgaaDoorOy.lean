/- Bytes that came in. -/
import Derived.Test.YtiiecppkabdkgaaDoorOp
namespace Go.Proofs.YtiiecppkabdkgaaDoor
open Go.ChangeShapes Go.WideShapes Go.ChangeAt Go.RowKit Go.Joins Go.Deep
set_option maxRecDepth 20000 in
theorem byte_of {H : Type} {enc : TypeId × Value → H} {W : World} {b0 : Nat} {v : Value} {dd : DataW H} {p : List MemPlace} (hv : Value.okWide Tryd.prog W .any b0 5 v) (h : DataW.Trod enc Tryd.prog W 0 (fun _ => true) true 5 v dd p) :
    ∃ i : Nat, v = .int .u8 (i : Nat) ∧ i < 256 := by
  obtain ⟨x, rfl⟩ := okWide_int Tryd.underlying5 hv
  obtain ⟨fuel, hf⟩ := h
  obtain ⟨a, h0, _, hw⟩ := DataW.trod_int Tryd.underlying5 (by simpa [Value.cells] using hf)
  simp at h0
  subst h0
  simp [Lit.wf, IntKind.min, IntKind.max, IntKind.signed, IntKind.bits] at hw
  exact ⟨x.toNat, by rw [Int.toNat_of_nonneg (by omega)], by omega⟩
end Go.Proofs.YtiiecppkabdkgaaDoor
