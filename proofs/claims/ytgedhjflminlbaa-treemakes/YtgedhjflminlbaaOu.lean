/- How long the trees of a Pair may be. -/
import Derived.Test.YtgedhjflminlbaaOq
import Derived.SizedLaws
namespace Go.Proofs.Ytgedhjflminlbaa
open Go.ChangeShapes Go.WideShapes Go.ChangeAt Go.RowKit Go.Joins Go.Deep
theorem Try.bytes29' : Try.prog.bytesOf 29 = 80 := by kernel_rfl
theorem sized_pair {H : Type} {ts : List TypeId} {ds : List (DataW H)} (h : (DataW.weightsEach Try.prog ts ds).all (· ≤ reachBytes) = true) {j : Nat} {elems spare : List (DataW H)} {rest : List (DataW H)} (ht : ts[j]? = some 31) (hd : ds[j]? = some (.agg (.agg [.slice elems spare] :: rest))) :
    elems.length * 80 ≤ 140737488351232 := by
  have hm : (elems.length + spare.length) * Try.prog.bytesOf 29 ∈ (DataW.agg (.agg [.slice elems spare] :: rest)).weights Try.prog 31 := by
    simp [DataW.weights, Try.underlying31, Try.underlying24, DataW.weightsEach, Try.underlying22]
  have := List.all_eq_true.1 h _ (DataW.weights_mem_each ht hd _ hm)
  rw [Try.bytes29'] at this
  have h2 : (elems.length + spare.length) * 80 ≤ reachBytes := by simpa using this
  unfold reachBytes at h2
  omega
theorem tree_datum' {H : Type} {enc : TypeId × Value → H} {W : World} {n : Nat} {ao : Option Addr} {len cap : Nat} {y : DataW H × List MemPlace} (h : DataW.trod enc Try.prog W 0 (fun _ => true) true n 24 [.slice ao len cap] = some y) : Shp ao len cap ∧ (len = 0 ∨ ∃ elems spare, y.1 = .agg [.slice elems spare] ∧ elems.length = len) := by
  refine ⟨?_, ?_⟩
  · obtain ⟨ao', len', cap', F, e, _, _, hs, _⟩ := tree_cells' h
    simp at e
    obtain ⟨rfl, rfl, rfl⟩ := e
    exact hs
  obtain ⟨xs, q, _, hx, hl, hlen, hfs⟩ := DataW.trod_struct Try.underlying24 h
  have k22 : Try.prog.cellsOf 22 = 1 := by kernel_rfl
  obtain ⟨y0, rfl⟩ := list1 hlen
  have e0 : DataW.trod enc Try.prog W 0 (fun _ => true) true q 22 [.slice ao len cap] = some y0 := by simpa [k22] using hfs 0 _ rfl
  rcases open_slice Try.underlying22 e0 with ⟨hcs, _⟩ | ⟨a, l, c, m, q, D, Pl, hcs, _, hlc, _, hm, hx0, hel⟩
  · simp at hcs
    exact .inl hcs.2.1
  · simp at hcs
    refine .inr ⟨(List.range l).map D, (List.range (m - l)).map fun j => D (l + j), ?_, by simp [hcs.2.1]⟩
    rw [hx, hx0]
    rfl
theorem pair_more {H : Type} {enc : TypeId × Value → H} {W : World} {f : Nat} {a b : Option Addr} {n c m d : Nat} {nd : Nd} {k l t : Int} {z : Bool} {y : DataW H × List MemPlace} (h : DataW.trod enc Try.prog W 0 (fun _ => true) true f 31 (pairL a n c b m d nd k l t z) = some y) :
    Shp a n c ∧ (n = 0 ∨ ∃ elems spare rest, y.1 = .agg (.agg [.slice elems spare] :: rest) ∧ elems.length = n) := by
  obtain ⟨xs, q, _, hx, hl, hlen, hfs⟩ := DataW.trod_struct Try.underlying31 h
  have k24 : Try.prog.cellsOf 24 = 1 := by kernel_rfl
  obtain ⟨y0, y1, y2, y3, y4, y5, y6, rfl⟩ := list7 hlen
  have e0 : DataW.trod enc Try.prog W 0 (fun _ => true) true q 24 [.slice a n c] = some y0 := by simpa [k24, pairL] using hfs 0 _ rfl
  obtain ⟨h1, h2⟩ := tree_datum' e0
  refine ⟨h1, h2.imp id ?_⟩
  rintro ⟨elems, spare, he, hl⟩
  refine ⟨elems, spare, [y1.1, y2.1, y3.1, y4.1, y5.1, y6.1], ?_, hl⟩
  rw [hx, ← he]
  rfl
end Go.Proofs.Ytgedhjflminlbaa
