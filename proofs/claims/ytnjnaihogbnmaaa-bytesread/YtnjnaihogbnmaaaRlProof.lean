/- BytesRead: whatever bytes and whatever list of calls are handed in, the law's call returns true, without a panic, and its arguments read behind the call as before it. No condition. -/
import Derived.Test.YtnjnaihogbnmaaaRows
import Derived.Test.YtnjnaihogbnmaaaRl
import Derived.Test.YtnjnaihogbnmaaaSized
import Derived.Test.YtnjnaihogbnmaaaOpenA
namespace Go.Proofs.Ytnjnaihogbnmaaa
open Go.ChangeShapes Go.WideShapes Go.ChangeAt Go.RowKit Go.Joins

theorem Try.bytes47 : Try.prog.bytesOf 47 = 40 := by kernel_rfl
theorem sized_asks {H : Type} {ts : List TypeId} {ds : List (DataW H)} (h : (DataW.weightsEach Try.prog ts ds).all (· ≤ reachBytes) = true) {j : Nat} {elems spare : List (DataW H)} (ht : ts[j]? = some 41) (hd : ds[j]? = some (.slice elems spare)) :
    elems.length ≤ 140737488351232 := by
  have hm : (elems.length + spare.length) * Try.prog.bytesOf 47 ∈ (DataW.slice elems spare).weights Try.prog 41 := by
    simp [DataW.weights, Try.underlying41]
  have := List.all_eq_true.1 h _ (DataW.weights_mem_each ht hd _ hm)
  rw [Try.bytes47] at this
  have h2 : (elems.length + spare.length) * 40 ≤ reachBytes := by simpa using this
  unfold reachBytes at h2
  omega
set_option maxRecDepth 100000 in
theorem bytesRead_lifted (os : Os) (started : os.Started) (H : Type) (enc : TypeId × Value → H) :
    ReturnsInHanded {} Try.checked os 4 .any (Rows.bytesReadSpec.pre6 enc Try.prog Try.f4 Rows.bytesReadRow.domain false) (Rows.bytesReadSpec.post enc Try.prog Try.f4 false true false false) := by
  refine returnsInHanded_of_change_sized (C := Try.checked) Try.own started (by kernel_rfl) Try.func4
    (ChangeSpec.witness6 (enc := enc) (C := Try.checked) false ⟨#[], #[.slice none 0 0, .slice none 0 0], []⟩ 8 (by kernel_rfl) (by kernel_rfl) (by kernel_rfl) (by kernel_rfl)) ?_
  intro W base args ds gs before hval0 hW hcnd hsz0 _
  have hval : ∀ (j : Nat) t v, Try.f4.params[j]? = some t → args[j]? = some v → Value.okWide Try.prog W .any base t v := hval0
  have hsz : (DataW.weightsEach Try.prog (Try.f4.params.toList ++ Rows.bytesReadSpec.plain.varTypes Try.prog) (ds ++ gs)).all (· ≤ reachBytes) = true := hsz0
  have hW' := hW
  obtain ⟨p, q, hA0, hV, rfl, hfz, hnd⟩ := hW
  have hA : DataW.TrodAll enc Try.prog W 0 (fun _ => true) true Try.f4.params.toList args.toList ds p := hA0
  rw [Try.params4] at hA hval hsz
  obtain ⟨v0, vs0, d0, ds0, p0, q0, hargs, rfl, rfl, h0, r0⟩ := trodAll_cons hA
  obtain ⟨v1, vs1, d1, ds1, p1, q1, rfl, rfl, rfl, h1, r1⟩ := trodAll_cons r0
  obtain ⟨rfl, rfl, rfl⟩ := trodAll_nil r1
  obtain rfl : args = #[v0, v1] := by cases args; simp_all
  obtain ⟨rfl, rfl⟩ := trodVars_none hV
  have k0 := h0
  have lt0 : ∀ x ∈ p0, x.block < W.heap.size := by obtain ⟨m, hm⟩ := k0; exact DataW.trod_lt m _ _ _ hm
  have k1 := h1
  have lt1 : ∀ x ∈ p1, x.block < W.heap.size := by obtain ⟨m, hm⟩ := k1; exact DataW.trod_lt m _ _ _ hm
  obtain ⟨a1, l1, c1, rfl⟩ := okWide_slice Try.underlying41 (hval 1 41 v1 rfl rfl)
  obtain ⟨m1, hm1⟩ := h1
  obtain ⟨ao1, n1, cap1, fd, fz, fm, fN, fE, e1, hra, hn1⟩ := rda_of (v := .slice a1 l1 c1) (by simpa [Value.cells] using hm1)
  obtain ⟨rfl, rfl, rfl⟩ : a1 = ao1 ∧ l1 = n1 ∧ c1 = cap1 := by simpa using e1
  obtain ⟨a0, l0, c0, rfl⟩ := okWide_slice Try.underlying22 (hval 0 22 v0 rfl rfl)
  obtain ⟨m0, hm0⟩ := h0
  obtain ⟨ao, n, cap, f, e0, hr, hcap, hn⟩ := rd_of (v := .slice a0 l0 c0) (by simpa [Value.cells] using hm0)
  obtain ⟨rfl, rfl, rfl⟩ : a0 = ao ∧ l0 = n ∧ c0 = cap := by simpa using e0
  have hnil : (a0 = none ∧ l0 = 0 ∧ c0 = 0) ∨ ∃ a, a0 = some a := by
    rcases hn with h | ⟨_, _, _, _, h⟩
    · exact .inl h
    · exact .inr h
  have hm : l0 ≤ 140737488351232 := by
    rcases hn with ⟨_, rfl, _⟩ | ⟨elems, spare, he, rfl, _⟩
    · decide
    · simp only at he
      subst he
      exact sized_bytes hsz (j := 0) rfl rfl
  have hl1 : (l1 : Int) ≤ 1844674407370955161 := by
    rcases hn1 with rfl | ⟨elems, spare, he, rfl⟩
    · decide
    · simp only at he
      subst he
      have := sized_asks hsz (j := 1) rfl rfl
      omega
  clear hA0 hval0 hsz0 hsz
  refine (bytesRead_walk a0 l0 c0 f a1 l1 c1 fd fz fm fN fE W hr hm hcap hnil hra hl1).mono fun e W' ⟨he, bel⟩ => ?_
  subst he
  exact ⟨_, rfl, _, _, _, [], _, [], hW', trodAll_mk1 (shut_bool Try.underlying4 _), (trodAll_cons_mk (Below.trod Try.laidOut (by kernel_rfl) (of_decide_eq_true (by kernel_rfl)) k0 bel lt0) (trodAll_cons_mk (Below.trod Try.laidOut (by kernel_rfl) (of_decide_eq_true (by kernel_rfl)) k1 bel lt1) trodAll_mk0)), rfl, bel.frame _, fun h => by cases h⟩

theorem bytesRead_holds : Rows.BytesReadSaid :=
  OpenClaim.holds_of_wide 4 Try.f4 rfl rfl rfl rfl rfl rfl rfl ⟨rfl, rfl, rfl, rfl, rfl⟩ rfl rfl rfl rfl rfl (by kernel_rfl) Try.func4 (by kernel_rfl)
    (of_decide_eq_true (by kernel_rfl)) (by unfold Func.isWrapper; first | (rw [if_pos (by decide +kernel)]; kernel_rfl) | (rw [if_neg (by decide +kernel)]; exact ⟨rfl, rfl⟩))
    (fun os started H enc _ => bytesRead_lifted os started H enc)
#print axioms bytesRead_holds
end Go.Proofs.Ytnjnaihogbnmaaa
