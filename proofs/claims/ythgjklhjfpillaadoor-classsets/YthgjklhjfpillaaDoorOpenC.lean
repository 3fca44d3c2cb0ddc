/- Classes that came in. -/
import Derived.Test.YthgjklhjfpillaaDoorTabs
import Derived.Test.YthgjklhjfpillaaDoorJn
import Derived.Deep.Slices
namespace Go.Proofs.YthgjklhjfpillaaDoor
open Go.ChangeShapes Go.WideShapes Go.ChangeAt Go.RowKit Go.Joins Go.Deep

theorem list4 {α : Type} {l : List α} (h : l.length = 4) : ∃ c0 c1 c2 c3, l = [c0, c1, c2, c3] := by
  match l, h with
  | [c0, c1, c2, c3], _ => exact ⟨c0, c1, c2, c3, rfl⟩
theorem u64_ofC {n : Int} (h : (Lit.int .u64 n).wf = true) : 0 ≤ n ∧ n ≤ 18446744073709551615 := by
  simp [Lit.wf, IntKind.min, IntKind.max, IntKind.signed, IntKind.bits] at h
  omega
/-- The four cells of a class. -/
theorem class_cells {H : Type} {enc : TypeId × Value → H} {W : World} {n : Nat} {cs : List Value} {y : DataW H × List MemPlace} (h : DataW.trod enc Tryd.prog W 0 (fun _ => true) true n 26 cs = some y) :
    ∃ a b c d : Nat, cs = [.int .u64 (a : Nat), .int .u64 (b : Nat), .int .u64 (c : Nat), .int .u64 (d : Nat)] ∧ ∃ P, C4 P a b c d := by
  obtain ⟨xs, q, _, hx, hl, hlen, hfs⟩ := DataW.trod_array Tryd.underlying26 h
  have k26 : Tryd.prog.cellsOf 26 = 4 := by kernel_rfl
  have k24 : Tryd.prog.cellsOf 24 = 1 := by kernel_rfl
  obtain ⟨v0, v1, v2, v3, rfl⟩ := list4 (hl.trans k26)
  obtain ⟨y0, y1, y2, y3, rfl⟩ := list4 hlen
  have e0 : DataW.trod enc Tryd.prog W 0 (fun _ => true) true q 24 [v0] = some y0 := by simpa [k24] using hfs 0 (by decide)
  have e1 : DataW.trod enc Tryd.prog W 0 (fun _ => true) true q 24 [v1] = some y1 := by simpa [k24] using hfs 1 (by decide)
  have e2 : DataW.trod enc Tryd.prog W 0 (fun _ => true) true q 24 [v2] = some y2 := by simpa [k24] using hfs 2 (by decide)
  have e3 : DataW.trod enc Tryd.prog W 0 (fun _ => true) true q 24 [v3] = some y3 := by simpa [k24] using hfs 3 (by decide)
  obtain ⟨a, h0, _, wa⟩ := DataW.trod_int Tryd.underlying24 e0
  obtain ⟨b, h1, _, wb⟩ := DataW.trod_int Tryd.underlying24 e1
  obtain ⟨c, h2, _, wc⟩ := DataW.trod_int Tryd.underlying24 e2
  obtain ⟨d, h3, _, wd⟩ := DataW.trod_int Tryd.underlying24 e3
  simp at h0 h1 h2 h3
  subst h0 h1 h2 h3
  have ha := u64_ofC wa
  have hb := u64_ofC wb
  have hc := u64_ofC wc
  have hd := u64_ofC wd
  obtain ⟨a, rfl⟩ := Int.eq_ofNat_of_zero_le ha.1
  obtain ⟨b, rfl⟩ := Int.eq_ofNat_of_zero_le hb.1
  obtain ⟨c, rfl⟩ := Int.eq_ofNat_of_zero_le hc.1
  obtain ⟨d, rfl⟩ := Int.eq_ofNat_of_zero_le hd.1
  exact ⟨a, b, c, d, rfl, c4_of (by omega) (by omega) (by omega) (by omega)⟩
/-- A class that came in, by itself. -/
theorem class_of {H : Type} {enc : TypeId × Value → H} {W : World} {b0 : Nat} {v : Value} {dd : DataW H} {p : List MemPlace} (hv : Value.okWide Tryd.prog W .any b0 26 v) (h : DataW.Trod enc Tryd.prog W 0 (fun _ => true) true 26 v dd p) :
    ∃ a b c d : Nat, v = .agg #[.int .u64 (a : Nat), .int .u64 (b : Nat), .int .u64 (c : Nat), .int .u64 (d : Nat)] ∧ ∃ P, C4 P a b c d := by
  obtain ⟨fuel, hf⟩ := h
  obtain ⟨a, b, c, d, hcs, hP⟩ := class_cells hf
  refine ⟨a, b, c, d, ?_, hP⟩
  simp only [Value.okWide, Tryd.underlying26] at hv
  obtain ⟨cs, rfl, hsz, _⟩ := hv
  simp [Value.cells] at hcs
  rw [← hcs]
/-- A list of classes that came in. -/
theorem rdc_of {H : Type} {enc : TypeId × Value → H} {W : World} {n : Nat} {v : Value} {y : DataW H × List MemPlace} (h : DataW.trod enc Tryd.prog W 0 (fun _ => true) true n 37 [v] = some y) :
    ∃ ao len cap F, ∃ Ps : Nat → Nat → Bool, v = .slice ao len cap ∧ RdC W ao len F ∧ (∀ i, i < len → C4 (Ps i) (F i 0) (F i 1) (F i 2) (F i 3)) ∧ (len : Int) ≤ 9223372036854775807 := by
  have k26 : Tryd.prog.cellsOf 26 = 4 := by kernel_rfl
  rcases open_slice Tryd.underlying37 h with ⟨hcs, _⟩ | ⟨a, len, cap, m, q, D, Pl, hcs, _, hlc, hmax, hm, hx, hel⟩
  · simp at hcs
    exact ⟨none, 0, 0, fun _ _ => 0, fun _ _ => false, hcs, ⟨fun h => by omega⟩, fun i h => by omega, by decide⟩
  · simp at hcs
    subst hcs
    have hml : len ≤ m := by rw [hm]; split <;> omega
    have pick : ∀ k, ∃ p : (Nat × Nat × Nat × Nat) × (Nat → Bool), k < len → W.cells? 0 (a.add (k * 4)) 4 = some [.int .u64 (p.1.1 : Nat), .int .u64 (p.1.2.1 : Nat), .int .u64 (p.1.2.2.1 : Nat), .int .u64 (p.1.2.2.2 : Nat)] ∧ C4 p.2 p.1.1 p.1.2.1 p.1.2.2.1 p.1.2.2.2 := by
      intro k
      by_cases hk : k < len
      · obtain ⟨cs', hc1, hc2⟩ := hel k (by omega)
        rw [k26] at hc1
        obtain ⟨x, y, z, t, rfl, P, hP⟩ := class_cells hc2
        exact ⟨((x, y, z, t), P), fun _ => ⟨hc1, hP⟩⟩
      · exact ⟨((0, 0, 0, 0), fun _ => false), fun h => absurd h hk⟩
    obtain ⟨p, hp⟩ := Classical.axiomOfChoice pick
    refine ⟨some a, len, cap, fun i j => if j = 0 then (p i).1.1 else if j = 1 then (p i).1.2.1 else if j = 2 then (p i).1.2.2.1 else (p i).1.2.2.2, fun i => (p i).2, rfl, ⟨fun h0 => ?_⟩, fun i hi => (hp i hi).2, by unfold maxLen at hmax; omega⟩
    obtain ⟨b, off, spot⟩ := a
    have hc0 := (World.cells?_some (hp 0 h0).1).2.2 0 (by decide)
    have hc1 : W.cell? ⟨b, off, spot⟩ = some (.int .u64 ((p 0).1.1 : Nat)) := by simpa [Addr.add] using hc0
    have hspot : spot = none := by simpa using World.cell?_spot hc1
    subst hspot
    have hbb : b < W.heap.size := cell_lt hc1
    refine ⟨b, off, rfl, hbb, fun k hk j hj => ?_⟩
    have hcells := (World.cells?_some (hp k hk).1).2.2 j hj
    have hj4 : j = 0 ∨ j = 1 ∨ j = 2 ∨ j = 3 := by omega
    by_cases hk0 : k = 0
    · subst hk0
      rcases hj4 with rfl | rfl | rfl | rfl <;> simpa [Addr.add] using hcells
    · have hk4 : ¬ k * 4 = 0 := by omega
      rcases hj4 with rfl | rfl | rfl | rfl <;> simpa [Addr.add, hk4] using hcells
end Go.Proofs.YthgjklhjfpillaaDoor
