/- BytesNone: whatever bytes and number are handed in, the law's call returns true, without a panic, and its arguments read behind the call as before it. No condition. -/
import Derived.Test.YtnjnaihogbnmaaaRows
import Derived.Test.YtnjnaihogbnmaaaNl
import Derived.Test.YtnjnaihogbnmaaaSized
namespace Go.Proofs.Ytnjnaihogbnmaaa
open Go.ChangeShapes Go.WideShapes Go.ChangeAt Go.RowKit Go.Joins

set_option maxRecDepth 100000 in
theorem bytesNone_lifted (os : Os) (started : os.Started) (H : Type) (enc : TypeId × Value → H) :
    ReturnsInHanded {} Try.checked os 8 .any (Rows.bytesNoneSpec.pre6 enc Try.prog Try.f8 Rows.bytesNoneRow.domain false) (Rows.bytesNoneSpec.post enc Try.prog Try.f8 false true false false) := by
  refine returnsInHanded_of_change_sized (C := Try.checked) Try.own started (by kernel_rfl) Try.func8
    (ChangeSpec.witness6 (enc := enc) (C := Try.checked) false ⟨#[], #[.slice none 0 0, .int .u64 0], []⟩ 8 (by kernel_rfl) (by kernel_rfl) (by kernel_rfl) (by kernel_rfl)) ?_
  intro W base args ds gs before hval0 hW hcnd hsz0 _
  have hval : ∀ (j : Nat) t v, Try.f8.params[j]? = some t → args[j]? = some v → Value.okWide Try.prog W .any base t v := hval0
  have hsz : (DataW.weightsEach Try.prog (Try.f8.params.toList ++ Rows.bytesNoneSpec.plain.varTypes Try.prog) (ds ++ gs)).all (· ≤ reachBytes) = true := hsz0
  have hW' := hW
  obtain ⟨p, q, hA0, hV, rfl, hfz, hnd⟩ := hW
  have hA : DataW.TrodAll enc Try.prog W 0 (fun _ => true) true Try.f8.params.toList args.toList ds p := hA0
  rw [Try.params8] at hA hval hsz
  obtain ⟨v0, vs0, d0, ds0, p0, q0, hargs, rfl, rfl, h0, r0⟩ := trodAll_cons hA
  obtain ⟨v1, vs1, d1, ds1, p1, q1, rfl, rfl, rfl, h1, r1⟩ := trodAll_cons r0
  obtain ⟨rfl, rfl, rfl⟩ := trodAll_nil r1
  obtain rfl : args = #[v0, v1] := by cases args; simp_all
  obtain ⟨rfl, rfl⟩ := trodVars_none hV
  have k0 := h0
  have lt0 : ∀ x ∈ p0, x.block < W.heap.size := by obtain ⟨m, hm⟩ := k0; exact DataW.trod_lt m _ _ _ hm
  obtain ⟨y, rfl, rfl, rfl, wy⟩ := open_int Try.underlying37 (hval 1 37 v1 rfl rfl) h1
  obtain ⟨a0, l0, c0, rfl⟩ := okWide_slice Try.underlying22 (hval 0 22 v0 rfl rfl)
  obtain ⟨m0, hm0⟩ := h0
  obtain ⟨ao, n, cap, f, e0, hr, _, hn⟩ := rd_of (v := .slice a0 l0 c0) (by simpa [Value.cells] using hm0)
  obtain ⟨rfl, rfl, rfl⟩ : a0 = ao ∧ l0 = n ∧ c0 = cap := by simpa using e0
  have hnil : (a0 = none ∧ l0 = 0 ∧ c0 = 0) ∨ ∃ a, a0 = some a := by
    rcases hn with h | ⟨_, _, _, _, h⟩
    · exact .inl h
    · exact .inr h
  have hm : l0 ≤ 140737488351232 := by
    rcases hn with ⟨_, rfl, _⟩ | ⟨elems, spare, he, rfl, _⟩
    · decide
    · simp only at he
      subst he
      exact sized_bytes hsz (j := 0) rfl rfl
  have hy : 0 ≤ y ∧ y < 18446744073709551616 := by
    simp [Lit.wf, IntKind.min, IntKind.max, IntKind.signed, IntKind.bits] at wy
    omega
  obtain ⟨y, rfl⟩ := Int.eq_ofNat_of_zero_le hy.1
  clear hA0 hval0 hsz0 hsz
  refine (bytesNone_walk a0 l0 c0 f y W hr hm (by omega) hnil).mono fun e W' ⟨he, bel⟩ => ?_
  subst he
  exact ⟨_, rfl, _, _, _, [], _, [], hW', trodAll_mk1 (shut_bool Try.underlying4 _), (trodAll_cons_mk (Below.trod Try.laidOut (by kernel_rfl) (of_decide_eq_true (by kernel_rfl)) k0 bel lt0) (trodAll_cons_mk (shut_int Try.underlying37 wy) trodAll_mk0)), rfl, bel.frame _, fun h => by cases h⟩

theorem bytesNone_holds : Rows.BytesNoneSaid :=
  OpenClaim.holds_of_wide 8 Try.f8 rfl rfl rfl rfl rfl rfl rfl ⟨rfl, rfl, rfl, rfl, rfl⟩ rfl rfl rfl rfl rfl (by kernel_rfl) Try.func8 (by kernel_rfl)
    (of_decide_eq_true (by kernel_rfl)) (by unfold Func.isWrapper; first | (rw [if_pos (by decide +kernel)]; kernel_rfl) | (rw [if_neg (by decide +kernel)]; exact ⟨rfl, rfl⟩))
    (fun os started H enc _ => bytesNone_lifted os started H enc)
#print axioms bytesNone_holds
end Go.Proofs.Ytnjnaihogbnmaaa
