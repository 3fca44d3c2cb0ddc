/- Arguments that came in: nodes, trees. -/
import Derived.Test.YthbmfnibgjlkhaaDoorRows
import Derived.Test.YthbmfnibgjlkhaaDoorLg
import Derived.Lib.LaidTab
import Derived.LaidMore
import Derived.Stop.Joined
import Derived.SevenTiedAt
import Derived.ProofKit
import Derived.OpenShut
import Derived.Lib.SmallJoins
import Derived.Deep.Slices
namespace Go.Proofs.YthbmfnibgjlkhaaDoor
open Go.ChangeShapes Go.WideShapes Go.ChangeAt Go.RowKit Go.Joins Go.Deep K
set_option maxRecDepth 20000

theorem Tryd.own : ownKnob Tryd.prog.godebug = none := by kernel_rfl
theorem Tryd.laidOut : laidOutB Tryd.prog = true := by kernel_rfl
theorem cell_lt {w : World} {a : Addr} {v : Value} (h : w.cell? a = some v) : a.block < w.heap.size := by
  rcases Nat.lt_or_ge a.block w.heap.size with h' | h'
  · exact h'
  · simp [World.cell?, Array.getElem?_eq_none h'] at h
theorem list1 {α : Type} {l : List α} (h : l.length = 1) : ∃ c0, l = [c0] := by
  match l, h with
  | [c0], _ => exact ⟨c0, rfl⟩
theorem list4 {α : Type} {l : List α} (h : l.length = 4) : ∃ c0 c1 c2 c3, l = [c0, c1, c2, c3] := by
  match l, h with
  | [c0, c1, c2, c3], _ => exact ⟨c0, c1, c2, c3, rfl⟩
theorem list7 {α : Type} {l : List α} (h : l.length = 7) : ∃ c0 c1 c2 c3 c4 c5 c6, l = [c0, c1, c2, c3, c4, c5, c6] := by
  match l, h with
  | [c0, c1, c2, c3, c4, c5, c6], _ => exact ⟨c0, c1, c2, c3, c4, c5, c6, rfl⟩
theorem list10 {α : Type} {l : List α} (h : l.length = 10) : ∃ c0 c1 c2 c3 c4 c5 c6 c7 c8 c9, l = [c0, c1, c2, c3, c4, c5, c6, c7, c8, c9] := by
  match l, h with
  | [c0, c1, c2, c3, c4, c5, c6, c7, c8, c9], _ => exact ⟨c0, c1, c2, c3, c4, c5, c6, c7, c8, c9, rfl⟩
theorem u64_ofC {n : Int} (h : (Lit.int .u64 n).wf = true) : 0 ≤ n ∧ n < 18446744073709551616 := by
  simp [Lit.wf, IntKind.min, IntKind.max, IntKind.signed, IntKind.bits] at h
  omega
theorem class_cells {H : Type} {enc : TypeId × Value → H} {W : World} {n : Nat} {cs : List Value} {y : DataW H × List MemPlace} (h : DataW.trod enc Tryd.prog W 0 (fun _ => true) true n 24 cs = some y) :
    ∃ a b c d : Int, cs = [.int .u64 a, .int .u64 b, .int .u64 c, .int .u64 d] ∧ (0 ≤ a ∧ a < 18446744073709551616) ∧ (0 ≤ b ∧ b < 18446744073709551616) ∧ (0 ≤ c ∧ c < 18446744073709551616) ∧ (0 ≤ d ∧ d < 18446744073709551616) := by
  obtain ⟨xs, q, _, hx, hl, hlen, hfs⟩ := DataW.trod_array Tryd.underlying24 h
  have k27 : Tryd.prog.cellsOf 24 = 4 := by kernel_rfl
  have k25 : Tryd.prog.cellsOf 22 = 1 := by kernel_rfl
  obtain ⟨v0, v1, v2, v3, rfl⟩ := list4 (hl.trans k27)
  obtain ⟨y0, y1, y2, y3, rfl⟩ := list4 hlen
  have e0 : DataW.trod enc Tryd.prog W 0 (fun _ => true) true q 22 [v0] = some y0 := by simpa [k25] using hfs 0 (by decide)
  have e1 : DataW.trod enc Tryd.prog W 0 (fun _ => true) true q 22 [v1] = some y1 := by simpa [k25] using hfs 1 (by decide)
  have e2 : DataW.trod enc Tryd.prog W 0 (fun _ => true) true q 22 [v2] = some y2 := by simpa [k25] using hfs 2 (by decide)
  have e3 : DataW.trod enc Tryd.prog W 0 (fun _ => true) true q 22 [v3] = some y3 := by simpa [k25] using hfs 3 (by decide)
  obtain ⟨a, h0, _, w0⟩ := DataW.trod_int Tryd.underlying22 e0
  obtain ⟨b, h1, _, w1⟩ := DataW.trod_int Tryd.underlying22 e1
  obtain ⟨c, h2, _, w2⟩ := DataW.trod_int Tryd.underlying22 e2
  obtain ⟨d, h3, _, w3⟩ := DataW.trod_int Tryd.underlying22 e3
  simp at h0 h1 h2 h3
  subst h0 h1 h2 h3
  exact ⟨a, b, c, d, rfl, u64_ofC w0, u64_ofC w1, u64_ofC w2, u64_ofC w3⟩
theorem node_cells {H : Type} {enc : TypeId × Value → H} {W : World} {n : Nat} {cs : List Value} {y : DataW H × List MemPlace} (h : DataW.trod enc Tryd.prog W 0 (fun _ => true) true n 82 cs = some y) : ∃ x : Nd, cs = ndL x ∧ wfN x := by
  obtain ⟨xs, q, _, hx, hl, hlen, hfs⟩ := DataW.trod_struct Tryd.underlying82 h
  have k29 : Tryd.prog.cellsOf 82 = 10 := by kernel_rfl
  have k3 : Tryd.prog.cellsOf 3 = 1 := by kernel_rfl
  have k4 : Tryd.prog.cellsOf 4 = 1 := by kernel_rfl
  have k27 : Tryd.prog.cellsOf 24 = 4 := by kernel_rfl
  obtain ⟨v0, v1, v2, v3, v4, v5, v6, v7, v8, v9, rfl⟩ := list10 (hl.trans k29)
  obtain ⟨y0, y1, y2, y3, y4, y5, y6, rfl⟩ := list7 hlen
  have e0 : DataW.trod enc Tryd.prog W 0 (fun _ => true) true q 3 [v0] = some y0 := by simpa [k3] using hfs 0 _ rfl
  have e1 : DataW.trod enc Tryd.prog W 0 (fun _ => true) true q 24 [v1, v2, v3, v4] = some y1 := by simpa [k27] using hfs 1 _ rfl
  have e2 : DataW.trod enc Tryd.prog W 0 (fun _ => true) true q 3 [v5] = some y2 := by simpa [k3] using hfs 2 _ rfl
  have e3 : DataW.trod enc Tryd.prog W 0 (fun _ => true) true q 3 [v6] = some y3 := by simpa [k3] using hfs 3 _ rfl
  have e4 : DataW.trod enc Tryd.prog W 0 (fun _ => true) true q 3 [v7] = some y4 := by simpa [k3] using hfs 4 _ rfl
  have e5 : DataW.trod enc Tryd.prog W 0 (fun _ => true) true q 3 [v8] = some y5 := by simpa [k3] using hfs 5 _ rfl
  have e6 : DataW.trod enc Tryd.prog W 0 (fun _ => true) true q 4 [v9] = some y6 := by simpa [k4] using hfs 6 _ rfl
  obtain ⟨k, h0, _, _⟩ := DataW.trod_int Tryd.underlying3 e0
  obtain ⟨c0, c1, c2, c3, h1, hw⟩ := class_cells e1
  obtain ⟨a, h2, _, _⟩ := DataW.trod_int Tryd.underlying3 e2
  obtain ⟨b, h3, _, _⟩ := DataW.trod_int Tryd.underlying3 e3
  obtain ⟨l, h4, _, _⟩ := DataW.trod_int Tryd.underlying3 e4
  obtain ⟨m, h5, _, _⟩ := DataW.trod_int Tryd.underlying3 e5
  obtain ⟨z, h6, _⟩ := DataW.trod_bool Tryd.underlying4 e6
  simp at h0 h1 h2 h3 h4 h5 h6
  obtain ⟨rfl, rfl, rfl, rfl⟩ := h1
  subst h0 h2 h3 h4 h5 h6
  exact ⟨⟨k, c0, c1, c2, c3, a, b, l, m, z⟩, rfl, hw⟩
/-- A list of nodes that came in. -/
theorem rdn_of {H : Type} {enc : TypeId × Value → H} {W : World} {n : Nat} {v : Value} {y : DataW H × List MemPlace} (h : DataW.trod enc Tryd.prog W 0 (fun _ => true) true n 46 [v] = some y) :
    ∃ ao len cap F, v = .slice ao len cap ∧ RdN W ao len F ∧ len ≤ cap ∧ Shp ao len cap ∧ ∀ i, i < len → wfN (F i) := by
  have k29 : Tryd.prog.cellsOf 82 = 10 := by kernel_rfl
  rcases open_slice Tryd.underlying46 h with ⟨hcs, _⟩ | ⟨a, len, cap, m, q, D, Pl, hcs, _, hlc, _, hm, hx, hel⟩
  · simp at hcs
    exact ⟨none, 0, 0, fun _ => ⟨0, 0, 0, 0, 0, 0, 0, 0, 0, false⟩, hcs, fun h => by omega, Nat.le_refl _, .inl ⟨rfl, rfl, rfl⟩, fun i hi => by omega⟩
  · simp at hcs
    subst hcs
    have hml : len ≤ m := by rw [hm]; split <;> omega
    have pick : ∀ k, ∃ x : Nd, k < len → W.cells? 0 (a.add (k * 10)) 10 = some (ndL x) ∧ wfN x := by
      intro k
      by_cases hk : k < len
      · obtain ⟨cs', hc1, hc2⟩ := hel k (by omega)
        rw [k29] at hc1
        obtain ⟨x, rfl, hw⟩ := node_cells hc2
        exact ⟨x, fun _ => ⟨hc1, hw⟩⟩
      · exact ⟨⟨0, 0, 0, 0, 0, 0, 0, 0, 0, false⟩, fun h => absurd h hk⟩
    obtain ⟨F, hF⟩ := Classical.axiomOfChoice pick
    refine ⟨some a, len, cap, F, rfl, fun h0 => ?_, hlc, .inr ⟨a, rfl⟩, fun i hi => (hF i hi).2⟩
    obtain ⟨b, off, spot⟩ := a
    have hc0 := (World.cells?_some (hF 0 h0).1).2.2 0 (by decide)
    have hc1 : W.cell? ⟨b, off, spot⟩ = some (.int .i64 (F 0).k) := by simpa [Addr.add, ndL] using hc0
    have hspot : spot = none := by simpa using World.cell?_spot hc1
    subst hspot
    have hbb : b < W.heap.size := cell_lt hc1
    refine ⟨b, off, rfl, hbb, fun k hk => ?_⟩
    have hcells := (World.cells?_some (hF k hk).1).2.2
    have s0 := hcells 0 (by decide)
    have s1 := hcells 1 (by decide)
    have s2 := hcells 2 (by decide)
    have s3 := hcells 3 (by decide)
    have s4 := hcells 4 (by decide)
    have s5 := hcells 5 (by decide)
    have s6 := hcells 6 (by decide)
    have s7 := hcells 7 (by decide)
    have s8 := hcells 8 (by decide)
    have s9 := hcells 9 (by decide)
    by_cases hk0 : k = 0
    · subst hk0
      exact ⟨by simpa [Addr.add, ndL] using s0, by simpa [Addr.add, ndL] using s1, by simpa [Addr.add, ndL] using s2, by simpa [Addr.add, ndL] using s3, by simpa [Addr.add, ndL] using s4, by simpa [Addr.add, ndL] using s5, by simpa [Addr.add, ndL] using s6, by simpa [Addr.add, ndL] using s7, by simpa [Addr.add, ndL] using s8, by simpa [Addr.add, ndL] using s9⟩
    · have hk5 : ¬ k * 10 = 0 := by omega
      exact ⟨by simpa [Addr.add, hk5, ndL] using s0, by simpa [Addr.add, hk5, ndL] using s1, by simpa [Addr.add, hk5, ndL] using s2, by simpa [Addr.add, hk5, ndL] using s3, by simpa [Addr.add, hk5, ndL] using s4, by simpa [Addr.add, hk5, ndL] using s5, by simpa [Addr.add, hk5, ndL] using s6, by simpa [Addr.add, hk5, ndL] using s7, by simpa [Addr.add, hk5, ndL] using s8, by simpa [Addr.add, hk5, ndL] using s9⟩
theorem len_of {H : Type} {enc : TypeId × Value → H} {W : World} {n : Nat} {ao : Option Addr} {len cap : Nat} {y : DataW H × List MemPlace} (h : DataW.trod enc Tryd.prog W 0 (fun _ => true) true n 46 [.slice ao len cap] = some y) : (len : Int) ≤ 9223372036854775807 := by
  rcases open_slice Tryd.underlying46 h with ⟨hcs, _⟩ | ⟨a, l, c, m, q, D, Pl, hcs, _, hlc, hmx, _⟩
  · simp at hcs
    omega
  · simp at hcs
    unfold maxLen at hmx
    omega
/-- A tree that came in: its cell. -/
theorem tree_cells {H : Type} {enc : TypeId × Value → H} {W : World} {n : Nat} {cs : List Value} {y : DataW H × List MemPlace} (h : DataW.trod enc Tryd.prog W 0 (fun _ => true) true n 48 cs = some y) :
    ∃ ao len cap F, cs = [.slice ao len cap] ∧ RdN W ao len F ∧ len ≤ cap ∧ Shp ao len cap ∧ (len : Int) ≤ 9223372036854775807 ∧ ∀ i, i < len → wfN (F i) := by
  obtain ⟨xs, q, _, hx, hl, hlen, hfs⟩ := DataW.trod_struct Tryd.underlying48 h
  have k24 : Tryd.prog.cellsOf 48 = 1 := by kernel_rfl
  have k22 : Tryd.prog.cellsOf 46 = 1 := by kernel_rfl
  obtain ⟨v0, rfl⟩ := list1 (hl.trans k24)
  obtain ⟨y0, rfl⟩ := list1 hlen
  have e0 : DataW.trod enc Tryd.prog W 0 (fun _ => true) true q 46 [v0] = some y0 := by simpa [k22] using hfs 0 _ rfl
  obtain ⟨ao, len, cap, F, rfl, hr, hc, hs, hw⟩ := rdn_of e0
  exact ⟨ao, len, cap, F, rfl, hr, hc, hs, len_of e0, hw⟩

theorem tree_of {H : Type} {enc : TypeId × Value → H} {W : World} {b0 : Nat} {v : Value} {dd : DataW H} {p : List MemPlace} (hv : Value.okWide Tryd.prog W .any b0 48 v) (h : DataW.Trod enc Tryd.prog W 0 (fun _ => true) true 48 v dd p) :
    ∃ ao len cap F, v = .agg #[.slice ao len cap] ∧ RdN W ao len F ∧ len ≤ cap ∧ Shp ao len cap ∧ (len : Int) ≤ 9223372036854775807 ∧ ∀ i, i < len → wfN (F i) := by
  obtain ⟨fuel, hf⟩ := h
  obtain ⟨ao, len, cap, F, hcs, r⟩ := tree_cells hf
  refine ⟨ao, len, cap, F, ?_, r⟩
  simp only [Value.okWide, Tryd.underlying48] at hv
  obtain ⟨cs, rfl, hsz, _⟩ := hv
  simp [Value.cells] at hcs
  congr 1
  exact Array.toList_inj.1 hcs
theorem rd_of {H : Type} {enc : TypeId × Value → H} {W : World} {n : Nat} {v : Value} {y : DataW H × List MemPlace} (h : DataW.trod enc Tryd.prog W 0 (fun _ => true) true n 35 [v] = some y) :
    ∃ ao len cap f, v = .slice ao len cap ∧ Rd W ao len f ∧ len ≤ cap := by
  rcases open_ints Tryd.underlying35 Tryd.underlying5 (by kernel_rfl) h with ⟨hcs, _⟩ | ⟨x, l, c, zs, hcs, hlc, hl, hm, hz, hx, hcell, hwz⟩
  · simp at hcs
    exact ⟨none, 0, 0, fun _ => 0, hcs, ⟨fun i hi => by omega, fun h => by omega⟩, Nat.le_refl _⟩
  · simp only [if_true] at hz
    simp at hcs
    have hb : ∀ i, i < zs.length → 0 ≤ zs.getD i 0 ∧ zs.getD i 0 < 256 := by
      intro i hi
      have hmem : zs.getD i 0 ∈ zs := by rw [List.getD_eq_getElem?_getD, List.getElem?_eq_getElem hi]; exact List.getElem_mem hi
      have := hwz _ hmem
      generalize zs.getD i 0 = x0 at *
      simp [Lit.wf, IntKind.min, IntKind.max, IntKind.signed, IntKind.bits] at this
      omega
    refine ⟨some x, l, c, fun i => (zs.getD i 0).toNat, hcs, ⟨fun i hi => ?_, fun h0 => ?_⟩, by omega⟩
    · have := hb i (by omega); show (zs.getD i 0).toNat < 256; omega
    · obtain ⟨b, off, spot⟩ := x
      have hc := hcell 0 (by omega)
      have hspot : spot = none := by simpa [Addr.add] using World.cell?_spot hc
      subst hspot
      have hbb : b < W.heap.size := by have := cell_lt hc; simpa [Addr.add] using this
      refine ⟨b, off, rfl, hbb, fun i hi => ?_⟩
      have hci := hcell i (by omega)
      have e : (((zs.getD i 0).toNat : Nat) : Int) = zs.getD i 0 := Int.toNat_of_nonneg (hb i (by omega)).1
      rw [e]
      by_cases hi0 : i = 0
      · subst hi0; simpa [Addr.add] using hci
      · simpa [Addr.add, hi0] using hci
/-- A text that came in. -/
theorem text_of {H : Type} {enc : TypeId × Value → H} {W : World} {b0 : Nat} {v : Value} {dd : DataW H} {p : List MemPlace} (hv : Value.okWide Tryd.prog W .any b0 35 v) (h : DataW.Trod enc Tryd.prog W 0 (fun _ => true) true 35 v dd p) :
    ∃ ao len cap f, v = .slice ao len cap ∧ Rd W ao len f ∧ len ≤ cap := by
  obtain ⟨a0, l0, c0, rfl⟩ := okWide_slice Tryd.underlying35 hv
  obtain ⟨fuel, hf⟩ := h
  exact rd_of (v := .slice a0 l0 c0) (by simpa [Value.cells] using hf)
def lds : List (String × DataW Unit) := [("math/bits.deBruijn64tab", Rows.laid_math_bits_deBruijn64tab)]
theorem gTab : Tryd.prog.globalNamed "math/bits.deBruijn64tab" = some 0 := by kernel_rfl
theorem tTab : (Tryd.prog.globals[0]?).map (·.type) = some 123 := by kernel_rfl
theorem door_met (os : Os) (args : Array Value) : laidMetH Tryd.prog lds ((World.doorLaid Tryd.prog 400 os).forCall (fun _ _ => 0) ⟨#[], args, []⟩).memory :=
  laidMetH_of_parts3 (fuel := 8) (laidMet_of_run' 8 (by kernel_rfl) (by kernel_rfl)) (by kernel_rfl) (by kernel_rfl)
theorem tab_of_laid {W : World} (h : laidMetH Tryd.prog lds W) : Tab W := by
  rw [MakeChecks.laidMetH_plain _ _ _ (by kernel_rfl)] at h
  have hT : Lib.TabIs Tryd.prog W "math/bits.deBruijn64tab" .u8 debr := Lib.tabIs_of_head gTab tTab Tryd.underlying123 Tryd.underlying5 (by kernel_rfl) (by kernel_rfl) h
  have hc : ∀ i, i < 64 → W.cell? ⟨0, i, none⟩ = some (.int .u8 (debr.getD i 0)) := fun i hi => hT.cell gTab i hi
  exact ⟨by have := cell_lt (hc 0 (by decide)); exact this, hc⟩
/-- A letter that came in: its cells. -/
theorem letter_cells {H : Type} {enc : TypeId × Value → H} {W : World} {n : Nat} {cs : List Value} {y : DataW H × List MemPlace} (h : DataW.trod enc Tryd.prog W 0 (fun _ => true) true n 26 cs = some y) : ∃ x : Nat × Bool, cs = [.int .u8 (x.1 : Nat), .bool x.2] ∧ x.1 < 256 := by
  obtain ⟨xs, q, _, hx, hl, hlen, hfs⟩ := DataW.trod_struct Tryd.underlying26 h
  have k26 : Tryd.prog.cellsOf 26 = 2 := by kernel_rfl
  have k5 : Tryd.prog.cellsOf 5 = 1 := by kernel_rfl
  have k4 : Tryd.prog.cellsOf 4 = 1 := by kernel_rfl
  obtain ⟨v0, v1, rfl⟩ : ∃ v0 v1, cs = [v0, v1] := by
    match cs, hl.trans k26 with
    | [c0, c1], _ => exact ⟨c0, c1, rfl⟩
  obtain ⟨y0, y1, rfl⟩ : ∃ v0 v1, xs = [v0, v1] := by
    match xs, hlen with
    | [c0, c1], _ => exact ⟨c0, c1, rfl⟩
  have e0 : DataW.trod enc Tryd.prog W 0 (fun _ => true) true q 5 [v0] = some y0 := by simpa [k5] using hfs 0 _ rfl
  have e1 : DataW.trod enc Tryd.prog W 0 (fun _ => true) true q 4 [v1] = some y1 := by simpa [k4] using hfs 1 _ rfl
  obtain ⟨b, h0, _, wb⟩ := DataW.trod_int Tryd.underlying5 e0
  obtain ⟨f, h1, _⟩ := DataW.trod_bool Tryd.underlying4 e1
  simp at h0 h1
  subst h0 h1
  have hb : 0 ≤ b ∧ b < 256 := by
    simp [Lit.wf, IntKind.min, IntKind.max, IntKind.signed, IntKind.bits] at wb
    omega
  obtain ⟨b, rfl⟩ := Int.eq_ofNat_of_zero_le hb.1
  exact ⟨(b, f), rfl, by have := hb.2; dsimp only; omega⟩
/-- A letter that came in. -/
theorem letter_of {H : Type} {enc : TypeId × Value → H} {W : World} {b0 : Nat} {v : Value} {dd : DataW H} {p : List MemPlace} (hv : Value.okWide Tryd.prog W .any b0 26 v) (h : DataW.Trod enc Tryd.prog W 0 (fun _ => true) true 26 v dd p) : ∃ x : Nat × Bool, v = .agg #[.int .u8 (x.1 : Nat), .bool x.2] ∧ x.1 < 256 := by
  obtain ⟨fuel, hf⟩ := h
  obtain ⟨x, hcs, hx⟩ := letter_cells hf
  refine ⟨x, ?_, hx⟩
  simp only [Value.okWide, Tryd.underlying26] at hv
  obtain ⟨cs, rfl, hsz, _⟩ := hv
  simp [Value.cells] at hcs
  congr 1
  exact Array.toList_inj.1 hcs
/-- A class that came in. -/
theorem class_of {H : Type} {enc : TypeId × Value → H} {W : World} {b0 : Nat} {v : Value} {dd : DataW H} {p : List MemPlace} (hv : Value.okWide Tryd.prog W .any b0 24 v) (h : DataW.Trod enc Tryd.prog W 0 (fun _ => true) true 24 v dd p) : ∃ (a b c d : Nat), v = .agg #[.int .u64 (a : Nat), .int .u64 (b : Nat), .int .u64 (c : Nat), .int .u64 (d : Nat)] ∧ ∃ P, C4 P a b c d := by
  obtain ⟨fuel, hf⟩ := h
  obtain ⟨a, b, c, d, hcs, ha, hb, hc, hd⟩ := class_cells hf
  obtain ⟨a, rfl⟩ := Int.eq_ofNat_of_zero_le ha.1
  obtain ⟨b, rfl⟩ := Int.eq_ofNat_of_zero_le hb.1
  obtain ⟨c, rfl⟩ := Int.eq_ofNat_of_zero_le hc.1
  obtain ⟨d, rfl⟩ := Int.eq_ofNat_of_zero_le hd.1
  refine ⟨a, b, c, d, ?_, clsP ⟨0, a, b, c, d, 0, 0, 0, 0, false⟩, c4_cls (q := ⟨0, a, b, c, d, 0, 0, 0, 0, false⟩) ⟨ha, hb, hc, hd⟩⟩
  simp only [Value.okWide, Tryd.underlying24] at hv
  obtain ⟨cs, rfl, hsz, _⟩ := hv
  simp [Value.cells] at hcs
  congr 1
  exact Array.toList_inj.1 hcs
end Go.Proofs.YthbmfnibgjlkhaaDoor
