/- Rings and bytes that came in. -/
import Derived.Test.YtehlmjjdegmnaaaDoorOpen
import Derived.Test.YtehlmjjdegmnaaaDoorMk
namespace Go.Proofs.YtehlmjjdegmnaaaDoor
open Go.ChangeShapes Go.WideShapes Go.ChangeAt Go.RowKit
theorem list4 {α : Type} {l : List α} (h : l.length = 4) : ∃ c0 c1 c2 c3, l = [c0, c1, c2, c3] := by
  match l, h with
  | [c0, c1, c2, c3], _ => exact ⟨c0, c1, c2, c3, rfl⟩
theorem list6 {α : Type} {l : List α} (h : l.length = 6) : ∃ c0 c1 c2 c3 c4 c5, l = [c0, c1, c2, c3, c4, c5] := by
  match l, h with
  | [c0, c1, c2, c3, c4, c5], _ => exact ⟨c0, c1, c2, c3, c4, c5, rfl⟩
theorem list3 {α : Type} {l : List α} (h : l.length = 3) : ∃ c0 c1 c2, l = [c0, c1, c2] := by
  match l, h with
  | [c0, c1, c2], _ => exact ⟨c0, c1, c2, rfl⟩
theorem u64_ofC {n : Int} (h : (Lit.int .u64 n).wf = true) : 0 ≤ n ∧ n ≤ 18446744073709551615 := by
  simp [Lit.wf, IntKind.min, IntKind.max, IntKind.signed, IntKind.bits] at h
  omega
theorem u8_ofC {n : Int} (h : (Lit.int .u8 n).wf = true) : 0 ≤ n ∧ n < 256 := by
  simp [Lit.wf, IntKind.min, IntKind.max, IntKind.signed, IntKind.bits] at h
  omega
/-- The four cells of a class. -/
theorem class_cells {H : Type} {enc : TypeId × Value → H} {W : World} {n : Nat} {cs : List Value} {y : DataW H × List MemPlace} (h : DataW.trod enc Tryd.prog W 0 (fun _ => true) true n 24 cs = some y) :
    ∃ a b c d : Nat, cs = [.int .u64 (a : Nat), .int .u64 (b : Nat), .int .u64 (c : Nat), .int .u64 (d : Nat)] ∧ ∃ P, C4 P a b c d := by
  obtain ⟨xs, q, _, hx, hl, hlen, hfs⟩ := DataW.trod_array Tryd.underlying24 h
  have k26 : Tryd.prog.cellsOf 24 = 4 := by kernel_rfl
  have k24 : Tryd.prog.cellsOf 22 = 1 := by kernel_rfl
  obtain ⟨v0, v1, v2, v3, rfl⟩ := list4 (hl.trans k26)
  obtain ⟨y0, y1, y2, y3, rfl⟩ := list4 hlen
  have e0 : DataW.trod enc Tryd.prog W 0 (fun _ => true) true q 22 [v0] = some y0 := by simpa [k24] using hfs 0 (by decide)
  have e1 : DataW.trod enc Tryd.prog W 0 (fun _ => true) true q 22 [v1] = some y1 := by simpa [k24] using hfs 1 (by decide)
  have e2 : DataW.trod enc Tryd.prog W 0 (fun _ => true) true q 22 [v2] = some y2 := by simpa [k24] using hfs 2 (by decide)
  have e3 : DataW.trod enc Tryd.prog W 0 (fun _ => true) true q 22 [v3] = some y3 := by simpa [k24] using hfs 3 (by decide)
  obtain ⟨a, h0, _, wa⟩ := DataW.trod_int Tryd.underlying22 e0
  obtain ⟨b, h1, _, wb⟩ := DataW.trod_int Tryd.underlying22 e1
  obtain ⟨c, h2, _, wc⟩ := DataW.trod_int Tryd.underlying22 e2
  obtain ⟨d, h3, _, wd⟩ := DataW.trod_int Tryd.underlying22 e3
  simp at h0 h1 h2 h3
  subst h0 h1 h2 h3
  have ha := u64_ofC wa
  have hb := u64_ofC wb
  have hc := u64_ofC wc
  have hd := u64_ofC wd
  obtain ⟨a, rfl⟩ := Int.eq_ofNat_of_zero_le ha.1
  obtain ⟨b, rfl⟩ := Int.eq_ofNat_of_zero_le hb.1
  obtain ⟨c, rfl⟩ := Int.eq_ofNat_of_zero_le hc.1
  obtain ⟨d, rfl⟩ := Int.eq_ofNat_of_zero_le hd.1
  exact ⟨a, b, c, d, rfl, c4_of (by omega) (by omega) (by omega) (by omega)⟩
set_option maxRecDepth 100000 in
/-- The cells of a ring. -/
theorem ring_cells {H : Type} {enc : TypeId × Value → H} {W : World} {n : Nat} {cs : List Value} {y : DataW H × List MemPlace} (h : DataW.trod enc Tryd.prog W 0 (fun _ => true) true n 26 cs = some y) :
    ∃ (a b c d : Nat) (lo hi : Int), cs = [.int .u64 (a : Nat), .int .u64 (b : Nat), .int .u64 (c : Nat), .int .u64 (d : Nat), .int .i64 lo, .int .i64 hi] ∧ ∃ P, C4 P a b c d := by
  obtain ⟨xs, q, _, hx, hl, hlen, hfs⟩ := DataW.trod_struct Tryd.underlying26 h
  have k26 : Tryd.prog.cellsOf 26 = 6 := by kernel_rfl
  have k3 : Tryd.prog.cellsOf 3 = 1 := by kernel_rfl
  have k24 : Tryd.prog.cellsOf 24 = 4 := by kernel_rfl
  obtain ⟨v0, v1, v2, v3, v4, v5, rfl⟩ := list6 (hl.trans k26)
  obtain ⟨y0, y1, y2, rfl⟩ := list3 hlen
  have e0 : DataW.trod enc Tryd.prog W 0 (fun _ => true) true q 24 [v0, v1, v2, v3] = some y0 := by simpa [k24] using hfs 0 _ rfl
  have e1 : DataW.trod enc Tryd.prog W 0 (fun _ => true) true q 3 [v4] = some y1 := by simpa [k3] using hfs 1 _ rfl
  have e2 : DataW.trod enc Tryd.prog W 0 (fun _ => true) true q 3 [v5] = some y2 := by simpa [k3] using hfs 2 _ rfl
  obtain ⟨a0, a1, a2, a3, h2, hP⟩ := class_cells e0
  obtain ⟨l, h4, _, _⟩ := DataW.trod_int Tryd.underlying3 e1
  obtain ⟨m, h5, _, _⟩ := DataW.trod_int Tryd.underlying3 e2
  simp at h2 h4 h5
  obtain ⟨rfl, rfl, rfl, rfl⟩ := h2
  subst h4 h5
  exact ⟨a0, a1, a2, a3, l, m, rfl, hP⟩
set_option maxRecDepth 100000 in
/-- A ring that came in. -/
theorem ring_of {H : Type} {enc : TypeId × Value → H} {W : World} {b0 : Nat} {v : Value} {dd : DataW H} {p : List MemPlace} (hv : Value.okWide Tryd.prog W .any b0 26 v) (h : DataW.Trod enc Tryd.prog W 0 (fun _ => true) true 26 v dd p) :
    ∃ (a b c d : Nat) (lo hi : Int), v = rgV a b c d lo hi ∧ ∃ P, C4 P a b c d := by
  obtain ⟨fuel, hf⟩ := h
  obtain ⟨a, b, c, d, lo, hi, hcs, hP⟩ := ring_cells hf
  refine ⟨a, b, c, d, lo, hi, ?_, hP⟩
  simp only [Value.okWide, Tryd.underlying26] at hv
  obtain ⟨cs, rfl, hsz, _⟩ := hv
  simp [Value.cells] at hcs
  unfold rgV
  rw [← hcs]
theorem rdB_of {H : Type} {enc : TypeId × Value → H} {W : World} {n : Nat} {v : Value} {y : DataW H × List MemPlace} (h : DataW.trod enc Tryd.prog W 0 (fun _ => true) true n 30 [v] = some y) :
    ∃ ao len cap f, v = .slice ao len cap ∧ RdB W ao len f ∧ len ≤ cap ∧ (len : Int) ≤ 9223372036854775807 ∧ ((ao = none ∧ len = 0 ∧ cap = 0) ∨ ∃ elems spare, y.1 = .slice elems spare ∧ elems.length = len ∧ ∃ a, ao = some a) := by
  rcases open_ints Tryd.underlying30 Tryd.underlying5 (by kernel_rfl) h with ⟨hcs, _⟩ | ⟨x, l, c, zs, hcs, hlc, hl, hm, hz, hx, hcell, hwz⟩
  · simp at hcs
    exact ⟨none, 0, 0, fun _ => 0, hcs, ⟨fun i hi => by omega, fun h => by omega⟩, Nat.le_refl _, by decide, .inl ⟨rfl, rfl, rfl⟩⟩
  · simp only [if_true] at hz
    simp at hcs
    have hb : ∀ i, i < zs.length → 0 ≤ zs.getD i 0 ∧ zs.getD i 0 < 256 := by
      intro i hi
      have hmem : zs.getD i 0 ∈ zs := by rw [List.getD_eq_getElem?_getD, List.getElem?_eq_getElem hi]; exact List.getElem_mem hi
      have := hwz _ hmem
      generalize zs.getD i 0 = x0 at *
      simp [Lit.wf, IntKind.min, IntKind.max, IntKind.signed, IntKind.bits] at this
      omega
    refine ⟨some x, l, c, fun i => (zs.getD i 0).toNat, hcs, ⟨fun i hi => ?_, fun h0 => ?_⟩, by omega, by unfold maxLen at hm; omega, .inr ⟨_, _, by rw [hx], ?_, _, rfl⟩⟩
    · have := hb i (by omega); omega
    · obtain ⟨b, off, spot⟩ := x
      have hc := hcell 0 (by omega)
      have hspot : spot = none := by simpa [Addr.add] using World.cell?_spot hc
      subst hspot
      have hbb : b < W.heap.size := by have := cell_lt hc; simpa [Addr.add] using this
      refine ⟨b, off, rfl, hbb, fun i hi => ?_⟩
      have hci := hcell i (by omega)
      have e : (((zs.getD i 0).toNat : Nat) : Int) = zs.getD i 0 := Int.toNat_of_nonneg (hb i (by omega)).1
      rw [e]
      by_cases hi0 : i = 0
      · subst hi0; simpa [Addr.add] using hci
      · simpa [Addr.add, hi0] using hci
    · simp [lits]; omega
end Go.Proofs.YtehlmjjdegmnaaaDoor
