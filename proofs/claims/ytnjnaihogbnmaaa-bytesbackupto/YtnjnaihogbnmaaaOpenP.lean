/- A value of the type Puts that came in; what the bound on its bulk gives. -/
import Derived.Test.YtnjnaihogbnmaaaOpen
import Derived.JoinedCond
namespace Go.Proofs.Ytnjnaihogbnmaaa
open Go.ChangeShapes Go.WideShapes Go.ChangeAt Go.RowKit Go.Joins

theorem bulk_one {H : Type} (d : DataW H) : 1 ≤ Rows.uptoBulk d := by
  cases d with
  | lit l => cases l <;> simp [Rows.uptoBulk]
  | nil => simp [Rows.uptoBulk]
  | ptr d => simp [Rows.uptoBulk]
  | slice elems spare => simp [Rows.uptoBulk]
  | agg parts => simp [Rows.uptoBulk]
  | iface t d => simp [Rows.uptoBulk]
  | map entries => simp [Rows.uptoBulk]
  | held h => simp [Rows.uptoBulk]
theorem bulk_length {H : Type} (l : List (DataW H)) : l.length ≤ Rows.uptoBulkAll l := by
  induction l with
  | nil => simp [Rows.uptoBulkAll]
  | cons x r ih => have := bulk_one x; simp only [Rows.uptoBulkAll, List.length_cons]; omega
/-- How long a slice is that is part of what came in. -/
theorem bulk_slice {H : Type} (elems spare : List (DataW H)) : elems.length ≤ Rows.uptoBulk (.slice elems spare) := by
  have h1 := bulk_length elems
  simp only [Rows.uptoBulk]
  omega
theorem bulk_of {H : Type} {y0 y1 y2 y3 y4 : DataW H} (hk : Rows.uptoSmall H [.agg [y0, y1, y2, y3, y4]] = true) : Rows.uptoBulk y0 ≤ 1048576 ∧ Rows.uptoBulk y2 ≤ 1048576 ∧ Rows.uptoBulk y3 ≤ 1048576 := by
  have h : Rows.uptoBulkAll [DataW.agg [y0, y1, y2, y3, y4]] ≤ 1048576 := of_decide_eq_true hk
  simp only [Rows.uptoBulkAll, Rows.uptoBulk] at h
  omega
theorem array6 {α : Type} {cs : Array α} (h : cs.size = 6) : ∃ c0 c1 c2 c3 c4 c5, cs = #[c0, c1, c2, c3, c4, c5] := by
  obtain ⟨l⟩ := cs
  match l, h with
  | [c0, c1, c2, c3, c4, c5], _ => exact ⟨c0, c1, c2, c3, c4, c5, rfl⟩
theorem list5 {α : Type} {l : List α} (h : l.length = 5) : ∃ c0 c1 c2 c3 c4, l = [c0, c1, c2, c3, c4] := by
  match l, h with
  | [c0, c1, c2, c3, c4], _ => exact ⟨c0, c1, c2, c3, c4, rfl⟩
theorem rdu_of {H : Type} {enc : TypeId × Value → H} {W : World} {n : Nat} {v : Value} {y : DataW H × List MemPlace} (h : DataW.trod enc Try.prog W 0 (fun _ => true) true n 23 [v] = some y) :
    ∃ ao len cap f, v = .slice ao len cap ∧ RdU W ao len f ∧ (len = 0 ∨ ∃ elems spare, y.1 = .slice elems spare ∧ elems.length = len) := by
  rcases open_ints Try.underlying23 Try.underlying37 (by kernel_rfl) h with ⟨hcs, _⟩ | ⟨x, l, c, zs, hcs, _, hl, hm, hz, hx, hcell, hwz⟩
  · simp at hcs
    exact ⟨none, 0, 0, fun _ => 0, hcs, ⟨fun i h => by omega, fun h => by omega⟩, .inl rfl⟩
  · simp only [if_true] at hz
    simp at hcs
    have hb : ∀ i, i < zs.length → 0 ≤ zs.getD i 0 ∧ zs.getD i 0 < 18446744073709551616 := by
      intro i hi
      have hmem : zs.getD i 0 ∈ zs := by rw [List.getD_eq_getElem?_getD, List.getElem?_eq_getElem hi]; exact List.getElem_mem hi
      have := hwz _ hmem
      generalize zs.getD i 0 = x0 at *
      simp [Lit.wf, IntKind.min, IntKind.max, IntKind.signed, IntKind.bits] at this
      omega
    refine ⟨some x, l, c, fun i => (zs.getD i 0).toNat, hcs, ⟨fun i hi => ?_, fun h0 => ?_⟩, .inr ⟨_, _, by rw [hx], ?_⟩⟩
    · have := hb i (by omega); omega
    · obtain ⟨b, off, spot⟩ := x
      have hc := hcell 0 (by omega)
      have hspot : spot = none := by simpa [Addr.add] using World.cell?_spot hc
      subst hspot
      have hbb : b < W.heap.size := by have := cell_lt hc; simpa [Addr.add] using this
      refine ⟨b, off, rfl, hbb, fun i hi => ?_⟩
      have hci := hcell i (by omega)
      have e : (((zs.getD i 0).toNat : Nat) : Int) = zs.getD i 0 := Int.toNat_of_nonneg (hb i (by omega)).1
      rw [e]
      by_cases hi0 : i = 0
      · subst hi0; simpa [Addr.add] using hci
      · simpa [Addr.add, hi0] using hci
    · simp [lits]; omega
theorem i64_of {n : Int} (h : (Lit.int .i64 n).wf = true) : -9223372036854775808 ≤ n ∧ n ≤ 9223372036854775807 := by
  simp [Lit.wf, IntKind.min, IntKind.max, IntKind.signed, IntKind.bits] at h
  omega
/-- What came in, as the walks take it. -/
theorem open_puts {H : Type} {enc : TypeId × Value → H} {W : World} {b0 : Nat} {v : Value} {d : DataW H} {p : List MemPlace} (hv : Value.okWide Try.prog W .any b0 27 v) (h : DataW.Trod enc Try.prog W 0 (fun _ => true) true 27 v d p) (hk : Rows.uptoSmall H [d] = true) :
    ∃ (a0 a2 a3 a5 : Option Addr) (l0 c0 l2 c2 l3 c3 l5 c5 : Nat) (z m : Int) (f0 f2 f3 f5 : Nat → Nat), v = .agg #[.slice a0 l0 c0, .int .i64 z, .slice a2 l2 c2, .slice a3 l3 c3, .int .i64 m, .slice a5 l5 c5] ∧
      Rd W a0 l0 f0 ∧ RdU W a2 l2 f2 ∧ Rd W a3 l3 f3 ∧ RdU W a5 l5 f5 ∧ l0 ≤ 1048576 ∧ l2 ≤ 1048576 ∧ l3 ≤ 1048576 ∧ l3 ≤ c3 ∧ (-9223372036854775808 ≤ z ∧ z ≤ 9223372036854775807) ∧ (-9223372036854775808 ≤ m ∧ m ≤ 9223372036854775807) ∧
      ((a0 = none ∧ l0 = 0 ∧ c0 = 0) ∨ ∃ a, a0 = some a) ∧ ((a3 = none ∧ l3 = 0 ∧ c3 = 0) ∨ ∃ a, a3 = some a) := by
  obtain ⟨cs, rfl, hsz⟩ := okWide_struct Try.underlying27 hv
  obtain ⟨v0, v1, v2, v3, v4, v5, rfl⟩ := array6 (hsz.trans (by kernel_rfl))
  obtain ⟨fuel, hf⟩ := h
  obtain ⟨xs, n, _, hx, _, hlen, hfs⟩ := DataW.trod_struct Try.underlying27 hf
  have k22 : Try.prog.cellsOf 22 = 1 := by kernel_rfl
  have k23 : Try.prog.cellsOf 23 = 1 := by kernel_rfl
  have k3 : Try.prog.cellsOf 3 = 1 := by kernel_rfl
  have k25 : Try.prog.cellsOf 25 = 2 := by kernel_rfl
  obtain ⟨y0, y1, y2, y3, y4, rfl⟩ := list5 hlen
  have e0 : DataW.trod enc Try.prog W 0 (fun _ => true) true n 22 [v0] = some y0 := by simpa [Value.cells, k22] using hfs 0 _ rfl
  have e1 : DataW.trod enc Try.prog W 0 (fun _ => true) true n 3 [v1] = some y1 := by simpa [Value.cells, k3] using hfs 1 _ rfl
  have e2 : DataW.trod enc Try.prog W 0 (fun _ => true) true n 23 [v2] = some y2 := by simpa [Value.cells, k23] using hfs 2 _ rfl
  have e3 : DataW.trod enc Try.prog W 0 (fun _ => true) true n 22 [v3] = some y3 := by simpa [Value.cells, k22] using hfs 3 _ rfl
  have e4 : DataW.trod enc Try.prog W 0 (fun _ => true) true n 25 [v4, v5] = some y4 := by simpa [Value.cells, k25] using hfs 4 _ rfl
  clear hfs hf hsz hv
  obtain ⟨u0, u1, q, _, _, g0, g1⟩ := trod_struct2 Try.underlying25 e4
  have g4 : DataW.trod enc Try.prog W 0 (fun _ => true) true q 3 [v4] = some u0 := by simpa [k3] using g0
  have g5 : DataW.trod enc Try.prog W 0 (fun _ => true) true q 23 [v5] = some u1 := by simpa [k23] using g1
  clear g0 g1 e4
  obtain ⟨z, h1, _, wz⟩ := DataW.trod_int Try.underlying3 e1
  obtain ⟨m, h4, _, wm⟩ := DataW.trod_int Try.underlying3 g4
  simp at h1 h4
  obtain ⟨a0, l0, c0, f0, rfl, r0, _, n0⟩ := rd_of e0
  obtain ⟨a2, l2, c2, f2, rfl, r2, n2⟩ := rdu_of e2
  obtain ⟨a3, l3, c3, f3, rfl, r3, kk3, n3⟩ := rd_of e3
  obtain ⟨a5, l5, c5, f5, rfl, r5, _⟩ := rdu_of g5
  subst h1 h4
  simp only [List.map_cons, List.map_nil, Prod.mk.injEq] at hx
  rw [hx.1] at hk
  obtain ⟨B0, B2, B3⟩ := bulk_of hk
  refine ⟨a0, a2, a3, a5, l0, c0, l2, c2, l3, c3, l5, c5, z, m, f0, f2, f3, f5, rfl, r0, r2, r3, r5, ?_, ?_, ?_, kk3, i64_of wz, i64_of wm, ?_, ?_⟩
  · rcases n0 with ⟨_, rfl, _⟩ | ⟨elems, spare, he, rfl, _⟩
    · decide
    · rw [he] at B0; have := bulk_slice elems spare; omega
  · rcases n2 with rfl | ⟨elems, spare, he, rfl⟩
    · decide
    · rw [he] at B2; have := bulk_slice elems spare; omega
  · rcases n3 with ⟨_, rfl, _⟩ | ⟨elems, spare, he, rfl, _⟩
    · decide
    · rw [he] at B3; have := bulk_slice elems spare; omega
  · rcases n0 with h | ⟨_, _, _, _, h⟩
    · exact .inl h
    · exact .inr h
  · rcases n3 with h | ⟨_, _, _, _, h⟩
    · exact .inl h
    · exact .inr h
end Go.Proofs.Ytnjnaihogbnmaaa
