/- How long the arguments may be. -/
import Derived.Test.YtnjnaihogbnmaaaOpen
import Derived.SizedLaws
namespace Go.Proofs.Ytnjnaihogbnmaaa
open Go.ChangeShapes Go.WideShapes Go.ChangeAt Go.RowKit Go.Joins

theorem Try.bytes5 : Try.prog.bytesOf 5 = 1 := by kernel_rfl
theorem sized_bytes {H : Type} {ts : List TypeId} {ds : List (DataW H)} (h : (DataW.weightsEach Try.prog ts ds).all (· ≤ reachBytes) = true) {j : Nat} {elems spare : List (DataW H)} (ht : ts[j]? = some 22) (hd : ds[j]? = some (.slice elems spare)) :
    elems.length ≤ 140737488351232 := by
  have hm : (elems.length + spare.length) * Try.prog.bytesOf 5 ∈ (DataW.slice elems spare).weights Try.prog 22 := by
    simp [DataW.weights, Try.underlying22]
  have := List.all_eq_true.1 h _ (DataW.weights_mem_each ht hd _ hm)
  rw [Try.bytes5] at this
  have h2 : (elems.length + spare.length) * 1 ≤ reachBytes := by simpa using this
  unfold reachBytes at h2
  omega

end Go.Proofs.Ytnjnaihogbnmaaa
