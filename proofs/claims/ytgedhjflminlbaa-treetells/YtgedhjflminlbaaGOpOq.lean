/- Arguments that came in: nodes, trees. Arguments that came in: trees and Pairs, with the bounds of their lengths. -/
import Derived.Test.YtgedhjflminlbaaRows
import Derived.Test.YtgedhjflminlbaaNl
import Derived.ProofKit
import Derived.OpenShut
import Derived.Lib.SmallJoins
import Derived.Deep.Slices
namespace Go.Proofs.Ytgedhjflminlbaa
open Go.ChangeShapes Go.WideShapes Go.ChangeAt Go.RowKit Go.Joins Go.Deep

theorem Try.own : ownKnob Try.prog.godebug = none := by kernel_rfl
theorem Try.laidOut : laidOutB Try.prog = true := by kernel_rfl
theorem cell_lt {w : World} {a : Addr} {v : Value} (h : w.cell? a = some v) : a.block < w.heap.size := by
  rcases Nat.lt_or_ge a.block w.heap.size with h' | h'
  · exact h'
  · simp [World.cell?, Array.getElem?_eq_none h'] at h
theorem list1 {α : Type} {l : List α} (h : l.length = 1) : ∃ c0, l = [c0] := by
  match l, h with
  | [c0], _ => exact ⟨c0, rfl⟩
theorem list4 {α : Type} {l : List α} (h : l.length = 4) : ∃ c0 c1 c2 c3, l = [c0, c1, c2, c3] := by
  match l, h with
  | [c0, c1, c2, c3], _ => exact ⟨c0, c1, c2, c3, rfl⟩
theorem list7 {α : Type} {l : List α} (h : l.length = 7) : ∃ c0 c1 c2 c3 c4 c5 c6, l = [c0, c1, c2, c3, c4, c5, c6] := by
  match l, h with
  | [c0, c1, c2, c3, c4, c5, c6], _ => exact ⟨c0, c1, c2, c3, c4, c5, c6, rfl⟩
theorem list10 {α : Type} {l : List α} (h : l.length = 10) : ∃ c0 c1 c2 c3 c4 c5 c6 c7 c8 c9, l = [c0, c1, c2, c3, c4, c5, c6, c7, c8, c9] := by
  match l, h with
  | [c0, c1, c2, c3, c4, c5, c6, c7, c8, c9], _ => exact ⟨c0, c1, c2, c3, c4, c5, c6, c7, c8, c9, rfl⟩
theorem class_cells {H : Type} {enc : TypeId × Value → H} {W : World} {n : Nat} {cs : List Value} {y : DataW H × List MemPlace} (h : DataW.trod enc Try.prog W 0 (fun _ => true) true n 27 cs = some y) :
    ∃ a b c d : Int, cs = [.int .u64 a, .int .u64 b, .int .u64 c, .int .u64 d] := by
  obtain ⟨xs, q, _, hx, hl, hlen, hfs⟩ := DataW.trod_array Try.underlying27 h
  have k27 : Try.prog.cellsOf 27 = 4 := by kernel_rfl
  have k25 : Try.prog.cellsOf 25 = 1 := by kernel_rfl
  obtain ⟨v0, v1, v2, v3, rfl⟩ := list4 (hl.trans k27)
  obtain ⟨y0, y1, y2, y3, rfl⟩ := list4 hlen
  have e0 : DataW.trod enc Try.prog W 0 (fun _ => true) true q 25 [v0] = some y0 := by simpa [k25] using hfs 0 (by decide)
  have e1 : DataW.trod enc Try.prog W 0 (fun _ => true) true q 25 [v1] = some y1 := by simpa [k25] using hfs 1 (by decide)
  have e2 : DataW.trod enc Try.prog W 0 (fun _ => true) true q 25 [v2] = some y2 := by simpa [k25] using hfs 2 (by decide)
  have e3 : DataW.trod enc Try.prog W 0 (fun _ => true) true q 25 [v3] = some y3 := by simpa [k25] using hfs 3 (by decide)
  obtain ⟨a, h0, _, _⟩ := DataW.trod_int Try.underlying25 e0
  obtain ⟨b, h1, _, _⟩ := DataW.trod_int Try.underlying25 e1
  obtain ⟨c, h2, _, _⟩ := DataW.trod_int Try.underlying25 e2
  obtain ⟨d, h3, _, _⟩ := DataW.trod_int Try.underlying25 e3
  simp at h0 h1 h2 h3
  subst h0 h1 h2 h3
  exact ⟨a, b, c, d, rfl⟩
theorem node_cells {H : Type} {enc : TypeId × Value → H} {W : World} {n : Nat} {cs : List Value} {y : DataW H × List MemPlace} (h : DataW.trod enc Try.prog W 0 (fun _ => true) true n 29 cs = some y) : ∃ x : Nd, cs = ndL x := by
  obtain ⟨xs, q, _, hx, hl, hlen, hfs⟩ := DataW.trod_struct Try.underlying29 h
  have k29 : Try.prog.cellsOf 29 = 10 := by kernel_rfl
  have k3 : Try.prog.cellsOf 3 = 1 := by kernel_rfl
  have k4 : Try.prog.cellsOf 4 = 1 := by kernel_rfl
  have k27 : Try.prog.cellsOf 27 = 4 := by kernel_rfl
  obtain ⟨v0, v1, v2, v3, v4, v5, v6, v7, v8, v9, rfl⟩ := list10 (hl.trans k29)
  obtain ⟨y0, y1, y2, y3, y4, y5, y6, rfl⟩ := list7 hlen
  have e0 : DataW.trod enc Try.prog W 0 (fun _ => true) true q 3 [v0] = some y0 := by simpa [k3] using hfs 0 _ rfl
  have e1 : DataW.trod enc Try.prog W 0 (fun _ => true) true q 27 [v1, v2, v3, v4] = some y1 := by simpa [k27] using hfs 1 _ rfl
  have e2 : DataW.trod enc Try.prog W 0 (fun _ => true) true q 3 [v5] = some y2 := by simpa [k3] using hfs 2 _ rfl
  have e3 : DataW.trod enc Try.prog W 0 (fun _ => true) true q 3 [v6] = some y3 := by simpa [k3] using hfs 3 _ rfl
  have e4 : DataW.trod enc Try.prog W 0 (fun _ => true) true q 3 [v7] = some y4 := by simpa [k3] using hfs 4 _ rfl
  have e5 : DataW.trod enc Try.prog W 0 (fun _ => true) true q 3 [v8] = some y5 := by simpa [k3] using hfs 5 _ rfl
  have e6 : DataW.trod enc Try.prog W 0 (fun _ => true) true q 4 [v9] = some y6 := by simpa [k4] using hfs 6 _ rfl
  obtain ⟨k, h0, _, _⟩ := DataW.trod_int Try.underlying3 e0
  obtain ⟨c0, c1, c2, c3, h1⟩ := class_cells e1
  obtain ⟨a, h2, _, _⟩ := DataW.trod_int Try.underlying3 e2
  obtain ⟨b, h3, _, _⟩ := DataW.trod_int Try.underlying3 e3
  obtain ⟨l, h4, _, _⟩ := DataW.trod_int Try.underlying3 e4
  obtain ⟨m, h5, _, _⟩ := DataW.trod_int Try.underlying3 e5
  obtain ⟨z, h6, _⟩ := DataW.trod_bool Try.underlying4 e6
  simp at h0 h1 h2 h3 h4 h5 h6
  obtain ⟨rfl, rfl, rfl, rfl⟩ := h1
  subst h0 h2 h3 h4 h5 h6
  exact ⟨⟨k, c0, c1, c2, c3, a, b, l, m, z⟩, rfl⟩
set_option maxRecDepth 20000 in
/-- A list of nodes that came in. -/
theorem rdn_of {H : Type} {enc : TypeId × Value → H} {W : World} {n : Nat} {v : Value} {y : DataW H × List MemPlace} (h : DataW.trod enc Try.prog W 0 (fun _ => true) true n 22 [v] = some y) :
    ∃ ao len cap F, v = .slice ao len cap ∧ RdN W ao len F ∧ len ≤ cap ∧ Shp ao len cap := by
  have k29 : Try.prog.cellsOf 29 = 10 := by kernel_rfl
  rcases open_slice Try.underlying22 h with ⟨hcs, _⟩ | ⟨a, len, cap, m, q, D, Pl, hcs, _, hlc, _, hm, hx, hel⟩
  · simp at hcs
    exact ⟨none, 0, 0, fun _ => ⟨0, 0, 0, 0, 0, 0, 0, 0, 0, false⟩, hcs, fun h => by omega, Nat.le_refl _, .inl ⟨rfl, rfl, rfl⟩⟩
  · simp at hcs
    subst hcs
    have hml : len ≤ m := by rw [hm]; split <;> omega
    have pick : ∀ k, ∃ x : Nd, k < len → W.cells? 0 (a.add (k * 10)) 10 = some (ndL x) := by
      intro k
      by_cases hk : k < len
      · obtain ⟨cs', hc1, hc2⟩ := hel k (by omega)
        rw [k29] at hc1
        obtain ⟨x, rfl⟩ := node_cells hc2
        exact ⟨x, fun _ => hc1⟩
      · exact ⟨⟨0, 0, 0, 0, 0, 0, 0, 0, 0, false⟩, fun h => absurd h hk⟩
    obtain ⟨F, hF⟩ := Classical.axiomOfChoice pick
    refine ⟨some a, len, cap, F, rfl, fun h0 => ?_, hlc, .inr ⟨a, rfl⟩⟩
    obtain ⟨b, off, spot⟩ := a
    have hc0 := (World.cells?_some (hF 0 h0)).2.2 0 (by decide)
    have hc1 : W.cell? ⟨b, off, spot⟩ = some (.int .i64 (F 0).k) := by simpa [Addr.add, ndL] using hc0
    have hspot : spot = none := by simpa using World.cell?_spot hc1
    subst hspot
    have hbb : b < W.heap.size := cell_lt hc1
    refine ⟨b, off, rfl, hbb, fun k hk => ?_⟩
    have hcells := (World.cells?_some (hF k hk)).2.2
    have s0 := hcells 0 (by decide)
    have s1 := hcells 1 (by decide)
    have s2 := hcells 2 (by decide)
    have s3 := hcells 3 (by decide)
    have s4 := hcells 4 (by decide)
    have s5 := hcells 5 (by decide)
    have s6 := hcells 6 (by decide)
    have s7 := hcells 7 (by decide)
    have s8 := hcells 8 (by decide)
    have s9 := hcells 9 (by decide)
    by_cases hk0 : k = 0
    · subst hk0
      exact ⟨by simpa [Addr.add, ndL] using s0, by simpa [Addr.add, ndL] using s1, by simpa [Addr.add, ndL] using s2, by simpa [Addr.add, ndL] using s3, by simpa [Addr.add, ndL] using s4, by simpa [Addr.add, ndL] using s5, by simpa [Addr.add, ndL] using s6, by simpa [Addr.add, ndL] using s7, by simpa [Addr.add, ndL] using s8, by simpa [Addr.add, ndL] using s9⟩
    · have hk5 : ¬ k * 10 = 0 := by omega
      exact ⟨by simpa [Addr.add, hk5, ndL] using s0, by simpa [Addr.add, hk5, ndL] using s1, by simpa [Addr.add, hk5, ndL] using s2, by simpa [Addr.add, hk5, ndL] using s3, by simpa [Addr.add, hk5, ndL] using s4, by simpa [Addr.add, hk5, ndL] using s5, by simpa [Addr.add, hk5, ndL] using s6, by simpa [Addr.add, hk5, ndL] using s7, by simpa [Addr.add, hk5, ndL] using s8, by simpa [Addr.add, hk5, ndL] using s9⟩
/-- A tree that came in: its cell. -/
theorem tree_cells {H : Type} {enc : TypeId × Value → H} {W : World} {n : Nat} {cs : List Value} {y : DataW H × List MemPlace} (h : DataW.trod enc Try.prog W 0 (fun _ => true) true n 24 cs = some y) :
    ∃ ao len cap F, cs = [.slice ao len cap] ∧ RdN W ao len F ∧ len ≤ cap ∧ Shp ao len cap := by
  obtain ⟨xs, q, _, hx, hl, hlen, hfs⟩ := DataW.trod_struct Try.underlying24 h
  have k24 : Try.prog.cellsOf 24 = 1 := by kernel_rfl
  have k22 : Try.prog.cellsOf 22 = 1 := by kernel_rfl
  obtain ⟨v0, rfl⟩ := list1 (hl.trans k24)
  obtain ⟨y0, rfl⟩ := list1 hlen
  have e0 : DataW.trod enc Try.prog W 0 (fun _ => true) true q 22 [v0] = some y0 := by simpa [k22] using hfs 0 _ rfl
  obtain ⟨ao, len, cap, F, rfl, hr, hc, hs⟩ := rdn_of e0
  exact ⟨ao, len, cap, F, rfl, hr, hc, hs⟩
end Go.Proofs.Ytgedhjflminlbaa
namespace Go.Proofs.Ytgedhjflminlbaa
open Go.ChangeShapes Go.WideShapes Go.ChangeAt Go.RowKit Go.Joins Go.Deep
theorem len_of {H : Type} {enc : TypeId × Value → H} {W : World} {n : Nat} {ao : Option Addr} {len cap : Nat} {y : DataW H × List MemPlace} (h : DataW.trod enc Try.prog W 0 (fun _ => true) true n 22 [.slice ao len cap] = some y) : (len : Int) ≤ 9223372036854775807 := by
  rcases open_slice Try.underlying22 h with ⟨hcs, _⟩ | ⟨a, l, c, m, q, D, Pl, hcs, _, hlc, hmx, _⟩
  · simp at hcs
    omega
  · simp at hcs
    unfold maxLen at hmx
    omega
/-- A tree that came in: its cell, its length. -/
theorem tree_cells' {H : Type} {enc : TypeId × Value → H} {W : World} {n : Nat} {cs : List Value} {y : DataW H × List MemPlace} (h : DataW.trod enc Try.prog W 0 (fun _ => true) true n 24 cs = some y) :
    ∃ ao len cap F, cs = [.slice ao len cap] ∧ RdN W ao len F ∧ len ≤ cap ∧ Shp ao len cap ∧ (len : Int) ≤ 9223372036854775807 := by
  obtain ⟨xs, q, _, hx, hl, hlen, hfs⟩ := DataW.trod_struct Try.underlying24 h
  have k24 : Try.prog.cellsOf 24 = 1 := by kernel_rfl
  have k22 : Try.prog.cellsOf 22 = 1 := by kernel_rfl
  obtain ⟨v0, rfl⟩ := list1 (hl.trans k24)
  obtain ⟨y0, rfl⟩ := list1 hlen
  have e0 : DataW.trod enc Try.prog W 0 (fun _ => true) true q 22 [v0] = some y0 := by simpa [k22] using hfs 0 _ rfl
  obtain ⟨ao, len, cap, F, rfl, hr, hc, hs⟩ := rdn_of e0
  exact ⟨ao, len, cap, F, rfl, hr, hc, hs, len_of e0⟩
theorem list16 {α : Type} {l : List α} (h : l.length = 16) : ∃ c0 c1 c2 c3 c4 c5 c6 c7 c8 c9 c10 c11 c12 c13 c14 c15, l = [c0, c1, c2, c3, c4, c5, c6, c7, c8, c9, c10, c11, c12, c13, c14, c15] := by
  match l, h with
  | [c0, c1, c2, c3, c4, c5, c6, c7, c8, c9, c10, c11, c12, c13, c14, c15], _ => exact ⟨c0, c1, c2, c3, c4, c5, c6, c7, c8, c9, c10, c11, c12, c13, c14, c15, rfl⟩
def pairL (a : Option Addr) (n c : Nat) (b : Option Addr) (m d : Nat) (q : Nd) (k l t : Int) (z : Bool) : List Value := [.slice a n c, .slice b m d, .int .i64 q.k, .int .u64 q.c0, .int .u64 q.c1, .int .u64 q.c2, .int .u64 q.c3, .int .i64 q.a, .int .i64 q.b, .int .i64 q.l, .int .i64 q.m, .bool q.z, .int .i64 k, .int .i64 l, .int .i64 t, .bool z]
/-- A Pair. -/
def pairV (a : Option Addr) (n c : Nat) (b : Option Addr) (m d : Nat) (q : Nd) (k l t : Int) (z : Bool) : Value := .agg (pairL a n c b m d q k l t z).toArray
set_option maxRecDepth 20000 in
theorem pair_cells {H : Type} {enc : TypeId × Value → H} {W : World} {n : Nat} {cs : List Value} {y : DataW H × List MemPlace} (h : DataW.trod enc Try.prog W 0 (fun _ => true) true n 31 cs = some y) :
    ∃ ao len cap F bo m d G q k l t z, cs = pairL ao len cap bo m d q k l t z ∧ RdN W ao len F ∧ len ≤ cap ∧ (len : Int) ≤ 9223372036854775807 ∧ RdN W bo m G ∧ m ≤ d ∧ (m : Int) ≤ 9223372036854775807 := by
  obtain ⟨xs, q, _, hx, hl, hlen, hfs⟩ := DataW.trod_struct Try.underlying31 h
  have k31 : Try.prog.cellsOf 31 = 16 := by kernel_rfl
  have k3 : Try.prog.cellsOf 3 = 1 := by kernel_rfl
  have k4 : Try.prog.cellsOf 4 = 1 := by kernel_rfl
  have k24 : Try.prog.cellsOf 24 = 1 := by kernel_rfl
  have k29 : Try.prog.cellsOf 29 = 10 := by kernel_rfl
  obtain ⟨v0, v1, v2, v3, v4, v5, v6, v7, v8, v9, v10, v11, v12, v13, v14, v15, rfl⟩ := list16 (hl.trans k31)
  obtain ⟨y0, y1, y2, y3, y4, y5, y6, rfl⟩ := list7 hlen
  have e0 : DataW.trod enc Try.prog W 0 (fun _ => true) true q 24 [v0] = some y0 := by simpa [k24] using hfs 0 _ rfl
  have e1 : DataW.trod enc Try.prog W 0 (fun _ => true) true q 24 [v1] = some y1 := by simpa [k24] using hfs 1 _ rfl
  have e2 : DataW.trod enc Try.prog W 0 (fun _ => true) true q 29 [v2, v3, v4, v5, v6, v7, v8, v9, v10, v11] = some y2 := by simpa [k29] using hfs 2 _ rfl
  have e3 : DataW.trod enc Try.prog W 0 (fun _ => true) true q 3 [v12] = some y3 := by simpa [k3] using hfs 3 _ rfl
  have e4 : DataW.trod enc Try.prog W 0 (fun _ => true) true q 3 [v13] = some y4 := by simpa [k3] using hfs 4 _ rfl
  have e5 : DataW.trod enc Try.prog W 0 (fun _ => true) true q 3 [v14] = some y5 := by simpa [k3] using hfs 5 _ rfl
  have e6 : DataW.trod enc Try.prog W 0 (fun _ => true) true q 4 [v15] = some y6 := by simpa [k4] using hfs 6 _ rfl
  obtain ⟨ao, len, cap, F, h0, r0, c0, _, n0⟩ := tree_cells' e0
  obtain ⟨bo, m, d, G, h1, r1, c1, _, n1⟩ := tree_cells' e1
  obtain ⟨nd, h2⟩ := node_cells e2
  obtain ⟨k, h3, _, _⟩ := DataW.trod_int Try.underlying3 e3
  obtain ⟨l, h4, _, _⟩ := DataW.trod_int Try.underlying3 e4
  obtain ⟨t, h5, _, _⟩ := DataW.trod_int Try.underlying3 e5
  obtain ⟨z, h6, _⟩ := DataW.trod_bool Try.underlying4 e6
  refine ⟨ao, len, cap, F, bo, m, d, G, nd, k, l, t, z, ?_, r0, c0, n0, r1, c1, n1⟩
  simp [ndL] at h0 h1 h2 h3 h4 h5 h6
  obtain ⟨rfl, rfl, rfl, rfl, rfl, rfl, rfl, rfl, rfl, rfl⟩ := h2
  subst h0 h1 h3 h4 h5 h6
  rfl
theorem pair_of {H : Type} {enc : TypeId × Value → H} {W : World} {b0 : Nat} {v : Value} {dd : DataW H} {p : List MemPlace} (hv : Value.okWide Try.prog W .any b0 31 v) (h : DataW.Trod enc Try.prog W 0 (fun _ => true) true 31 v dd p) :
    ∃ ao len cap F bo m d G q k l t z, v = pairV ao len cap bo m d q k l t z ∧ RdN W ao len F ∧ len ≤ cap ∧ (len : Int) ≤ 9223372036854775807 ∧ RdN W bo m G ∧ m ≤ d ∧ (m : Int) ≤ 9223372036854775807 := by
  obtain ⟨fuel, hf⟩ := h
  obtain ⟨ao, len, cap, F, bo, m, d, G, q, k, l, t, z, hcs, r⟩ := pair_cells hf
  refine ⟨ao, len, cap, F, bo, m, d, G, q, k, l, t, z, ?_, r⟩
  simp only [Value.okWide, Try.underlying31] at hv
  obtain ⟨cs, rfl, hsz, _⟩ := hv
  simp [Value.cells] at hcs
  unfold pairV
  rw [← hcs]
/-- A tree that came in. -/
theorem tree_of {H : Type} {enc : TypeId × Value → H} {W : World} {b0 : Nat} {v : Value} {dd : DataW H} {p : List MemPlace} (hv : Value.okWide Try.prog W .any b0 24 v) (h : DataW.Trod enc Try.prog W 0 (fun _ => true) true 24 v dd p) :
    ∃ ao len cap F, v = .agg #[.slice ao len cap] ∧ RdN W ao len F ∧ len ≤ cap ∧ Shp ao len cap ∧ (len : Int) ≤ 9223372036854775807 := by
  obtain ⟨fuel, hf⟩ := h
  obtain ⟨ao, len, cap, F, hcs, r⟩ := tree_cells' hf
  refine ⟨ao, len, cap, F, ?_, r⟩
  simp only [Value.okWide, Try.underlying24] at hv
  obtain ⟨cs, rfl, hsz, _⟩ := hv
  simp [Value.cells] at hcs
  congr 1
  exact Array.toList_inj.1 hcs
end Go.Proofs.Ytgedhjflminlbaa
