/- TreeOwn: whatever trees are handed in, the law's call returns true, without a panic, and its arguments read behind the call as before it. No condition. -/
import Derived.Test.YtgedhjflminlbaaRows
import Derived.Test.YtgedhjflminlbaaTo
import Derived.Test.YtgedhjflminlbaaOq
import Derived.SizedLaws
namespace Go.Proofs.Ytgedhjflminlbaa
open Go.ChangeShapes Go.WideShapes Go.ChangeAt Go.RowKit Go.Joins Go.Deep

theorem Try.bytes29 : Try.prog.bytesOf 29 = 80 := by kernel_rfl
theorem sized_tree {H : Type} {ts : List TypeId} {ds : List (DataW H)} (h : (DataW.weightsEach Try.prog ts ds).all (· ≤ reachBytes) = true) {j : Nat} {elems spare : List (DataW H)} (ht : ts[j]? = some 24) (hd : ds[j]? = some (.agg [.slice elems spare])) :
    elems.length * 80 ≤ 140737488351232 := by
  have hm : (elems.length + spare.length) * Try.prog.bytesOf 29 ∈ (DataW.agg [.slice elems spare]).weights Try.prog 24 := by
    simp [DataW.weights, Try.underlying24, DataW.weightsEach, Try.underlying22]
  have := List.all_eq_true.1 h _ (DataW.weights_mem_each ht hd _ hm)
  rw [Try.bytes29] at this
  have h2 : (elems.length + spare.length) * 80 ≤ reachBytes := by simpa using this
  unfold reachBytes at h2
  omega
theorem tree_datum {H : Type} {enc : TypeId × Value → H} {W : World} {n : Nat} {ao : Option Addr} {len cap : Nat} {y : DataW H × List MemPlace} (h : DataW.trod enc Try.prog W 0 (fun _ => true) true n 24 [.slice ao len cap] = some y) : len = 0 ∨ ∃ elems spare, y.1 = .agg [.slice elems spare] ∧ elems.length = len := by
  obtain ⟨xs, q, _, hx, hl, hlen, hfs⟩ := DataW.trod_struct Try.underlying24 h
  have k22 : Try.prog.cellsOf 22 = 1 := by kernel_rfl
  obtain ⟨y0, rfl⟩ := list1 hlen
  have e0 : DataW.trod enc Try.prog W 0 (fun _ => true) true q 22 [.slice ao len cap] = some y0 := by simpa [k22] using hfs 0 _ rfl
  rcases open_slice Try.underlying22 e0 with ⟨hcs, _⟩ | ⟨a, l, c, m, q, D, Pl, hcs, _, hlc, _, hm, hx0, hel⟩
  · simp at hcs
    exact .inl hcs.2.1
  · simp at hcs
    refine .inr ⟨(List.range l).map D, (List.range (m - l)).map fun j => D (l + j), ?_, by simp [hcs.2.1]⟩
    rw [hx, hx0]
    rfl
set_option maxRecDepth 100000 in
theorem treeOwn_lifted (os : Os) (started : os.Started) (H : Type) (enc : TypeId × Value → H) :
    ReturnsInHanded {} Try.checked os 8 .any (Rows.treeOwnSpec.pre6 enc Try.prog Try.f8 Rows.treeOwnRow.domain false) (Rows.treeOwnSpec.post enc Try.prog Try.f8 false true false false) := by
  refine returnsInHanded_of_change_sized (C := Try.checked) Try.own started (by kernel_rfl) Try.func8
    (ChangeSpec.witness6 (enc := enc) (C := Try.checked) false ⟨#[], #[.agg #[.slice none 0 0], .agg #[.slice none 0 0]], []⟩ 8 (by kernel_rfl) (by kernel_rfl) (by kernel_rfl) (by kernel_rfl)) ?_
  intro W base args ds gs before hval0 hW hcnd hsz0 _
  have hval : ∀ (j : Nat) t v, Try.f8.params[j]? = some t → args[j]? = some v → Value.okWide Try.prog W .any base t v := hval0
  have hsz : (DataW.weightsEach Try.prog (Try.f8.params.toList ++ Rows.treeOwnSpec.plain.varTypes Try.prog) (ds ++ gs)).all (· ≤ reachBytes) = true := hsz0
  have hW' := hW
  obtain ⟨p, q, hA0, hV, rfl, hfz, hnd⟩ := hW
  have hA : DataW.TrodAll enc Try.prog W 0 (fun _ => true) true Try.f8.params.toList args.toList ds p := hA0
  rw [Try.params8] at hA hval hsz
  obtain ⟨v0, vs0, d0, ds0, p0, q0, hargs, rfl, rfl, h0, r0⟩ := trodAll_cons hA
  obtain ⟨v1, vs1, d1, ds1, p1, q1, rfl, rfl, rfl, h1, r1⟩ := trodAll_cons r0
  obtain ⟨rfl, rfl, rfl⟩ := trodAll_nil r1
  obtain rfl : args = #[v0, v1] := by cases args; simp_all
  obtain ⟨rfl, rfl⟩ := trodVars_none hV
  have k0 := h0
  have k1 := h1
  have lt0 : ∀ x ∈ p0, x.block < W.heap.size := by obtain ⟨m, hm⟩ := k0; exact DataW.trod_lt m _ _ _ hm
  have lt1 : ∀ x ∈ p1, x.block < W.heap.size := by obtain ⟨m, hm⟩ := k1; exact DataW.trod_lt m _ _ _ hm
  obtain ⟨ao, n, c, F, rfl, ra, ca, sa, na⟩ := tree_of (hval 0 24 v0 rfl rfl) h0
  obtain ⟨bo, m, d, G, rfl, rb, cb, _, nb⟩ := tree_of (hval 1 24 v1 rfl rfl) h1
  have hs : (n : Int) * 80 ≤ 140737488355328 := by
    obtain ⟨fuel, hf⟩ := h0
    rcases tree_datum (by simpa [Value.cells] using hf) with h | ⟨elems, spare, he, hl⟩
    · subst h; decide
    · dsimp only at he
      subst he
      have := sized_tree hsz (j := 0) rfl rfl
      omega
  clear hA0 hval0 hsz0 hsz
  refine (own_any ao bo n m c d F G W ra rb na nb ca cb hs sa).mono fun e W' ⟨he, bel⟩ => ?_
  subst he
  exact ⟨_, rfl, _, _, _, [], _, [], hW', trodAll_mk1 (shut_bool Try.underlying4 _), (trodAll_cons_mk (Below.trod Try.laidOut (by kernel_rfl) (of_decide_eq_true (by kernel_rfl)) k0 bel lt0) (trodAll_cons_mk (Below.trod Try.laidOut (by kernel_rfl) (of_decide_eq_true (by kernel_rfl)) k1 bel lt1) trodAll_mk0)), rfl, bel.frame _, fun h => by cases h⟩

theorem treeOwn_holds : Rows.TreeOwnSaid :=
  OpenClaim.holds_of_wide 8 Try.f8 rfl rfl rfl rfl rfl rfl rfl ⟨rfl, rfl, rfl, rfl, rfl⟩ rfl rfl rfl rfl rfl (by kernel_rfl) Try.func8 (by kernel_rfl)
    (of_decide_eq_true (by kernel_rfl)) (by unfold Func.isWrapper; first | (rw [if_pos (by decide +kernel)]; kernel_rfl) | (rw [if_neg (by decide +kernel)]; exact ⟨rfl, rfl⟩))
    (fun os started H enc _ => treeOwn_lifted os started H enc)
#print axioms treeOwn_holds
end Go.Proofs.Ytgedhjflminlbaa
