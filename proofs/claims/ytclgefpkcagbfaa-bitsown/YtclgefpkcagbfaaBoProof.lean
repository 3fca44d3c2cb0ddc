/- BitsOwn: whatever two values of type Bits and whatever number are handed in, the law's call returns true, without a panic, and its arguments read behind the call as before it. No condition. -/
import Derived.Test.YtclgefpkcagbfaaRows
import Derived.Test.YtclgefpkcagbfaaBo
import Derived.Test.YtclgefpkcagbfaaOpen
import Derived.SizedLaws
namespace Go.Proofs.Ytclgefpkcagbfaa
open Go.ChangeShapes Go.WideShapes Go.ChangeAt Go.RowKit Go.Joins

theorem Try.bytes46 : Try.prog.bytesOf 46 = 8 := by kernel_rfl
theorem sized_bits {H : Type} {ts : List TypeId} {ds : List (DataW H)} (h : (DataW.weightsEach Try.prog ts ds).all (· ≤ reachBytes) = true) {j : Nat} {x : DataW H} {elems spare : List (DataW H)} (ht : ts[j]? = some 25) (hd : ds[j]? = some (.agg [x, .slice elems spare])) :
    elems.length * 8 ≤ 140737488351232 := by
  have hm : (elems.length + spare.length) * Try.prog.bytesOf 46 ∈ (DataW.agg [x, .slice elems spare]).weights Try.prog 25 := by
    simp [DataW.weights, Try.underlying25, DataW.weightsEach, Try.underlying23]
  have := List.all_eq_true.1 h _ (DataW.weights_mem_each ht hd _ hm)
  rw [Try.bytes46] at this
  have h2 : (elems.length + spare.length) * 8 ≤ reachBytes := by simpa using this
  unfold reachBytes at h2
  omega

/-- A value of type Bits that came in. -/
theorem bits_of {H : Type} {enc : TypeId × Value → H} {W : World} {b0 : Nat} {v : Value} {d : DataW H} {p : List MemPlace} (hv : Value.okWide Try.prog W .any b0 25 v) (h : DataW.Trod enc Try.prog W 0 (fun _ => true) true 25 v d p) :
    ∃ (m : Int) (ao : Option Addr) (l c : Nat) (f : Nat → Nat), v = .agg #[.int .i64 m, .slice ao l c] ∧ Rd W ao l f ∧ ((ao = none ∧ l = 0 ∧ c = 0) ∨ ∃ a, ao = some a) ∧ (-9223372036854775808 ≤ m ∧ m ≤ 9223372036854775807) ∧
      (l = 0 ∨ ∃ x elems spare, d = .agg [x, .slice elems spare] ∧ elems.length = l) := by
  obtain ⟨u0, u1, y0, y1, m, rfl, hd, hp, t0, t1⟩ := open_agg2 Try.underlying25 (by kernel_rfl) (by kernel_rfl) hv h
  obtain ⟨nn, e0, _, wn⟩ := DataW.trod_int Try.underlying3 t0
  simp at e0
  subst e0
  obtain ⟨ao, l, c, f, rfl, hr, hn⟩ := rd_of t1
  have hb : -9223372036854775808 ≤ nn ∧ nn ≤ 9223372036854775807 := by
    simp [Lit.wf, IntKind.min, IntKind.max, IntKind.signed, IntKind.bits] at wn
    omega
  refine ⟨nn, ao, l, c, f, rfl, hr, ?_, hb, ?_⟩
  · rcases hn with h | ⟨_, _, _, _, h⟩
    · exact .inl h
    · exact .inr h
  · rcases hn with ⟨_, h, _⟩ | ⟨elems, spare, he, hl, _⟩
    · exact .inl h
    · exact .inr ⟨y0.1, elems, spare, by rw [hd, he], hl⟩

set_option maxRecDepth 100000 in
theorem bitsOwn_lifted (os : Os) (started : os.Started) (H : Type) (enc : TypeId × Value → H) :
    ReturnsInHanded {} Try.checked os 6 .any (Rows.bitsOwnSpec.pre6 enc Try.prog Try.f6 Rows.bitsOwnRow.domain false) (Rows.bitsOwnSpec.post enc Try.prog Try.f6 false true false false) := by
  refine returnsInHanded_of_change_sized (C := Try.checked) Try.own started (by kernel_rfl) Try.func6
    (ChangeSpec.witness6 (enc := enc) (C := Try.checked) false ⟨#[], #[.agg #[.int .i64 0, .slice none 0 0], .agg #[.int .i64 0, .slice none 0 0], .int .i64 0], []⟩ 8 (by kernel_rfl) (by kernel_rfl) (by kernel_rfl) (by kernel_rfl)) ?_
  intro W base args ds gs before hval0 hW hcnd hsz0 _
  have hval : ∀ (j : Nat) t v, Try.f6.params[j]? = some t → args[j]? = some v → Value.okWide Try.prog W .any base t v := hval0
  have hsz : (DataW.weightsEach Try.prog (Try.f6.params.toList ++ Rows.bitsOwnSpec.plain.varTypes Try.prog) (ds ++ gs)).all (· ≤ reachBytes) = true := hsz0
  have hW' := hW
  obtain ⟨p, q, hA0, hV, rfl, hfz, hnd⟩ := hW
  have hA : DataW.TrodAll enc Try.prog W 0 (fun _ => true) true Try.f6.params.toList args.toList ds p := hA0
  rw [Try.params6] at hA hval hsz
  obtain ⟨v0, vs0, d0, ds0, p0, q0, hargs, rfl, rfl, h0, r0⟩ := trodAll_cons hA
  obtain ⟨v1, vs1, d1, ds1, p1, q1, rfl, rfl, rfl, h1, r1⟩ := trodAll_cons r0
  obtain ⟨v2, vs2, d2, ds2, p2, q2, rfl, rfl, rfl, h2, r2⟩ := trodAll_cons r1
  obtain ⟨rfl, rfl, rfl⟩ := trodAll_nil r2
  obtain rfl : args = #[v0, v1, v2] := by cases args; simp_all
  obtain ⟨rfl, rfl⟩ := trodVars_none hV
  have k0 := h0
  have k1 := h1
  have lt0 : ∀ x ∈ p0, x.block < W.heap.size := by obtain ⟨m, hm⟩ := k0; exact DataW.trod_lt m _ _ _ hm
  have lt1 : ∀ x ∈ p1, x.block < W.heap.size := by obtain ⟨m, hm⟩ := k1; exact DataW.trod_lt m _ _ _ hm
  obtain ⟨m1, a1, l1, c1, f1, rfl, hr1, hn1, _, hs1⟩ := bits_of (hval 0 25 v0 rfl rfl) h0
  obtain ⟨m2, a2, l2, c2, f2, rfl, hr2, hn2, _, hs2⟩ := bits_of (hval 1 25 v1 rfl rfl) h1
  obtain ⟨k, rfl, rfl, rfl, wk⟩ := open_int Try.underlying3 (hval 2 3 v2 rfl rfl) h2
  have hm1 : l1 * 8 ≤ 140737488351232 := by
    rcases hs1 with rfl | ⟨x, elems, spare, rfl, rfl⟩
    · decide
    · exact sized_bits hsz (j := 0) rfl rfl
  have hm2 : l2 * 8 ≤ 140737488351232 := by
    rcases hs2 with rfl | ⟨x, elems, spare, rfl, rfl⟩
    · decide
    · exact sized_bits hsz (j := 1) rfl rfl
  clear hA0 hval0 hsz0 hsz
  refine (bitsOwn_walk m1 m2 k a1 a2 l1 c1 l2 c2 f1 f2 W hr1 hr2 hm1 hm2 hn1 hn2).mono fun e W' ⟨he, bel⟩ => ?_
  subst he
  exact ⟨_, rfl, _, _, _, [], _, [], hW', trodAll_mk1 (shut_bool Try.underlying4 _), (trodAll_cons_mk (Below.trod Try.laidOut (by kernel_rfl) (of_decide_eq_true (by kernel_rfl)) k0 bel lt0) (trodAll_cons_mk (Below.trod Try.laidOut (by kernel_rfl) (of_decide_eq_true (by kernel_rfl)) k1 bel lt1) (trodAll_cons_mk (shut_int Try.underlying3 wk) trodAll_mk0))), rfl, bel.frame _, fun h => by cases h⟩

theorem bitsOwn_holds : Rows.BitsOwnSaid :=
  OpenClaim.holds_of_wide 6 Try.f6 rfl rfl rfl rfl rfl rfl rfl ⟨rfl, rfl, rfl, rfl, rfl⟩ rfl rfl rfl rfl rfl (by kernel_rfl) Try.func6 (by kernel_rfl)
    (of_decide_eq_true (by kernel_rfl)) (by unfold Func.isWrapper; first | (rw [if_pos (by decide +kernel)]; kernel_rfl) | (rw [if_neg (by decide +kernel)]; exact ⟨rfl, rfl⟩))
    (fun os started H enc _ => bitsOwn_lifted os started H enc)
#print axioms bitsOwn_holds
end Go.Proofs.Ytclgefpkcagbfaa
