/- Trees that came in; Of of any tree. -/
import Derived.Test.YtobgmgpclcfkcaaRows
import Derived.Test.YtobgmgpclcfkcaaTq
import Derived.Test.YtobgmgpclcfkcaaOp
import Derived.Deep.Slices
namespace Go.Proofs.Ytobgmgpclcfkcaa
open Go.ChangeShapes Go.WideShapes Go.ChangeAt Go.RowKit Go.Joins Go.Deep
theorem list7 {α : Type} {l : List α} (h : l.length = 7) : ∃ c0 c1 c2 c3 c4 c5 c6, l = [c0, c1, c2, c3, c4, c5, c6] := by
  match l, h with
  | [c0, c1, c2, c3, c4, c5, c6], _ => exact ⟨c0, c1, c2, c3, c4, c5, c6, rfl⟩
theorem list10 {α : Type} {l : List α} (h : l.length = 10) : ∃ c0 c1 c2 c3 c4 c5 c6 c7 c8 c9, l = [c0, c1, c2, c3, c4, c5, c6, c7, c8, c9] := by
  match l, h with
  | [c0, c1, c2, c3, c4, c5, c6, c7, c8, c9], _ => exact ⟨c0, c1, c2, c3, c4, c5, c6, c7, c8, c9, rfl⟩
theorem list1q {α : Type} {l : List α} (h : l.length = 1) : ∃ c0, l = [c0] := by
  match l, h with
  | [c0], _ => exact ⟨c0, rfl⟩
/-- A node whose class is of words. -/
def NatN (x : T.Nd) : Prop := ∃ a b c d : Nat, x.c0 = (a : Nat) ∧ x.c1 = (b : Nat) ∧ x.c2 = (c : Nat) ∧ x.c3 = (d : Nat)
theorem node_cells {H : Type} {enc : TypeId × Value → H} {W : World} {n : Nat} {cs : List Value} {y : DataW H × List MemPlace} (h : DataW.trod enc Try.prog W 0 (fun _ => true) true n 70 cs = some y) : ∃ x : T.Nd, cs = T.ndL x ∧ NatN x := by
  obtain ⟨xs, q, _, hx, hl, hlen, hfs⟩ := DataW.trod_struct Try.underlying70 h
  have k29 : Try.prog.cellsOf 70 = 10 := by kernel_rfl
  have k3 : Try.prog.cellsOf 3 = 1 := by kernel_rfl
  have k4 : Try.prog.cellsOf 4 = 1 := by kernel_rfl
  have k27 : Try.prog.cellsOf 24 = 4 := by kernel_rfl
  obtain ⟨v0, v1, v2, v3, v4, v5, v6, v7, v8, v9, rfl⟩ := list10 (hl.trans k29)
  obtain ⟨y0, y1, y2, y3, y4, y5, y6, rfl⟩ := list7 hlen
  have e0 : DataW.trod enc Try.prog W 0 (fun _ => true) true q 3 [v0] = some y0 := by simpa [k3] using hfs 0 _ rfl
  have e1 : DataW.trod enc Try.prog W 0 (fun _ => true) true q 24 [v1, v2, v3, v4] = some y1 := by simpa [k27] using hfs 1 _ rfl
  have e2 : DataW.trod enc Try.prog W 0 (fun _ => true) true q 3 [v5] = some y2 := by simpa [k3] using hfs 2 _ rfl
  have e3 : DataW.trod enc Try.prog W 0 (fun _ => true) true q 3 [v6] = some y3 := by simpa [k3] using hfs 3 _ rfl
  have e4 : DataW.trod enc Try.prog W 0 (fun _ => true) true q 3 [v7] = some y4 := by simpa [k3] using hfs 4 _ rfl
  have e5 : DataW.trod enc Try.prog W 0 (fun _ => true) true q 3 [v8] = some y5 := by simpa [k3] using hfs 5 _ rfl
  have e6 : DataW.trod enc Try.prog W 0 (fun _ => true) true q 4 [v9] = some y6 := by simpa [k4] using hfs 6 _ rfl
  obtain ⟨k, h0, _, _⟩ := DataW.trod_int Try.underlying3 e0
  obtain ⟨c0, c1, c2, c3, h1, _⟩ := class_cells e1
  obtain ⟨a, h2, _, _⟩ := DataW.trod_int Try.underlying3 e2
  obtain ⟨b, h3, _, _⟩ := DataW.trod_int Try.underlying3 e3
  obtain ⟨l, h4, _, _⟩ := DataW.trod_int Try.underlying3 e4
  obtain ⟨m, h5, _, _⟩ := DataW.trod_int Try.underlying3 e5
  obtain ⟨z, h6, _⟩ := DataW.trod_bool Try.underlying4 e6
  simp at h0 h1 h2 h3 h4 h5 h6
  obtain ⟨rfl, rfl, rfl, rfl⟩ := h1
  subst h0 h2 h3 h4 h5 h6
  exact ⟨⟨k, c0, c1, c2, c3, a, b, l, m, z⟩, rfl, c0, c1, c2, c3, rfl, rfl, rfl, rfl⟩
set_option maxRecDepth 20000 in
/-- A list of nodes that came in. -/
theorem rdn_of {H : Type} {enc : TypeId × Value → H} {W : World} {n : Nat} {v : Value} {y : DataW H × List MemPlace} (h : DataW.trod enc Try.prog W 0 (fun _ => true) true n 45 [v] = some y) :
    ∃ ao len cap F, v = .slice ao len cap ∧ T.RdN W ao len F ∧ ∀ i, NatN (F i) := by
  have k29 : Try.prog.cellsOf 70 = 10 := by kernel_rfl
  have hz : NatN ⟨0, 0, 0, 0, 0, 0, 0, 0, 0, false⟩ := ⟨0, 0, 0, 0, rfl, rfl, rfl, rfl⟩
  rcases open_slice Try.underlying45 h with ⟨hcs, _⟩ | ⟨a, len, cap, m, q, D, Pl, hcs, _, hlc, _, hm, hx, hel⟩
  · simp at hcs
    exact ⟨none, 0, 0, fun _ => ⟨0, 0, 0, 0, 0, 0, 0, 0, 0, false⟩, hcs, fun h => by omega, fun _ => hz⟩
  · simp at hcs
    subst hcs
    have hml : len ≤ m := by rw [hm]; split <;> omega
    have pick : ∀ k, ∃ x : T.Nd, NatN x ∧ (k < len → W.cells? 0 (a.add (k * 10)) 10 = some (T.ndL x)) := by
      intro k
      by_cases hk : k < len
      · obtain ⟨cs', hc1, hc2⟩ := hel k (by omega)
        rw [k29] at hc1
        obtain ⟨x, rfl, hn⟩ := node_cells hc2
        exact ⟨x, hn, fun _ => hc1⟩
      · exact ⟨⟨0, 0, 0, 0, 0, 0, 0, 0, 0, false⟩, hz, fun h => absurd h hk⟩
    obtain ⟨F, hF'⟩ := Classical.axiomOfChoice pick
    have hF := fun k => (hF' k).2
    refine ⟨some a, len, cap, F, rfl, fun h0 => ?_, fun i => (hF' i).1⟩
    obtain ⟨b, off, spot⟩ := a
    have hc0 := (World.cells?_some (hF 0 h0)).2.2 0 (by decide)
    have hc1 : W.cell? ⟨b, off, spot⟩ = some (.int .i64 (F 0).k) := by simpa [Addr.add, T.ndL] using hc0
    have hspot : spot = none := by simpa using World.cell?_spot hc1
    subst hspot
    have hbb : b < W.heap.size := cell_lt hc1
    refine ⟨b, off, rfl, hbb, fun k hk => ?_⟩
    have hcells := (World.cells?_some (hF k hk)).2.2
    have s0 := hcells 0 (by decide)
    have s1 := hcells 1 (by decide)
    have s2 := hcells 2 (by decide)
    have s3 := hcells 3 (by decide)
    have s4 := hcells 4 (by decide)
    have s5 := hcells 5 (by decide)
    have s6 := hcells 6 (by decide)
    have s7 := hcells 7 (by decide)
    have s8 := hcells 8 (by decide)
    have s9 := hcells 9 (by decide)
    by_cases hk0 : k = 0
    · subst hk0
      exact ⟨by simpa [Addr.add, T.ndL] using s0, by simpa [Addr.add, T.ndL] using s1, by simpa [Addr.add, T.ndL] using s2, by simpa [Addr.add, T.ndL] using s3, by simpa [Addr.add, T.ndL] using s4, by simpa [Addr.add, T.ndL] using s5, by simpa [Addr.add, T.ndL] using s6, by simpa [Addr.add, T.ndL] using s7, by simpa [Addr.add, T.ndL] using s8, by simpa [Addr.add, T.ndL] using s9⟩
    · have hk5 : ¬ k * 10 = 0 := by omega
      exact ⟨by simpa [Addr.add, hk5, T.ndL] using s0, by simpa [Addr.add, hk5, T.ndL] using s1, by simpa [Addr.add, hk5, T.ndL] using s2, by simpa [Addr.add, hk5, T.ndL] using s3, by simpa [Addr.add, hk5, T.ndL] using s4, by simpa [Addr.add, hk5, T.ndL] using s5, by simpa [Addr.add, hk5, T.ndL] using s6, by simpa [Addr.add, hk5, T.ndL] using s7, by simpa [Addr.add, hk5, T.ndL] using s8, by simpa [Addr.add, hk5, T.ndL] using s9⟩
/-- A tree that came in. -/
theorem tree_of {H : Type} {enc : TypeId × Value → H} {W : World} {b0 : Nat} {v : Value} {dd : DataW H} {p : List MemPlace} (hv : Value.okWide Try.prog W .any b0 47 v) (h : DataW.Trod enc Try.prog W 0 (fun _ => true) true 47 v dd p) :
    ∃ ao len cap F, v = .agg #[.slice ao len cap] ∧ T.RdN W ao len F ∧ ∀ i, NatN (F i) := by
  obtain ⟨fuel, hf⟩ := h
  simp only [Value.okWide, Try.underlying47] at hv
  obtain ⟨cs, rfl, hsz, _⟩ := hv
  obtain ⟨xs, q, _, hx, hl, hlen, hfs⟩ := DataW.trod_struct Try.underlying47 hf
  have k24 : Try.prog.cellsOf 47 = 1 := by kernel_rfl
  have k22 : Try.prog.cellsOf 45 = 1 := by kernel_rfl
  obtain ⟨v0, hv0⟩ := list1q (hl.trans k24)
  obtain ⟨y0, rfl⟩ := list1q hlen
  rw [hv0] at hfs
  have e0 : DataW.trod enc Try.prog W 0 (fun _ => true) true q 45 [v0] = some y0 := by simpa [k22] using hfs 0 _ rfl
  obtain ⟨ao, len, cap, F, rfl, hr, hn⟩ := rdn_of e0
  refine ⟨ao, len, cap, F, ?_, hr, hn⟩
  simp [Value.cells] at hv0
  rw [← hv0]
/-- Of of any tree. -/
theorem of_any (n : Nat) (F : Nat → T.Nd) (hw : NatN (F 0)) : ∃ (a b c d : Nat) (lo : Int) (yes : Bool), ∀ W xo xc, T.RdN W xo n F → (Calls Try.prog 26 #[.agg #[.slice xo n xc]] W fun e w' => e = .returned (.tuple #[tdV a b c d lo, .bool yes]) ∧ Below W.heap.size W w') ∧ (Calls Try.prog 27 #[.agg #[.slice xo n xc]] W fun e w' => e = .returned (.tuple #[tdV a b c d lo, .bool yes]) ∧ Below W.heap.size W w') := by
  by_cases hn : n = 2
  · subst hn
    obtain ⟨x, hx⟩ : ∃ x, F 0 = x := ⟨_, rfl⟩
    obtain ⟨y, hy⟩ : ∃ y, F 1 = y := ⟨_, rfl⟩
    rw [hx] at hw
    obtain ⟨x0, x1, x2, x3, x4, x5, x6, x7, x8, x9⟩ := x
    obtain ⟨y0, y1, y2, y3, y4, y5, y6, y7, y8, y9⟩ := y
    obtain ⟨a, b, c, d, rfl, rfl, rfl, rfl⟩ := hw
    generalize hR : isTd x0 a b c d x5 x6 x7 x8 x9 y0 y1 y2 y3 y4 y5 y6 y7 y8 y9 = R
    cases R with
    | false =>
      refine ⟨0, 0, 0, 0, 0, false, fun W xo xc h => ?_⟩
      obtain ⟨bb, off, rfl, h2⟩ := Nd2.of h hx hy
      have q1 := of_two W bb off xc _ _ _ _ _ _ _ _ _ _ _ _ _ _ _ _ _ _ _ _ h2
      have q2 := rof_two W bb off xc _ _ _ _ _ _ _ _ _ _ _ _ _ _ _ _ _ _ _ _ h2
      rw [hR] at q1 q2
      exact ⟨q1, q2⟩
    | true =>
      refine ⟨a, b, c, d, y7, true, fun W xo xc h => ?_⟩
      obtain ⟨bb, off, rfl, h2⟩ := Nd2.of h hx hy
      have q1 := of_two W bb off xc _ _ _ _ _ _ _ _ _ _ _ _ _ _ _ _ _ _ _ _ h2
      have q2 := rof_two W bb off xc _ _ _ _ _ _ _ _ _ _ _ _ _ _ _ _ _ _ _ _ h2
      rw [hR] at q1 q2
      exact ⟨q1, q2⟩
  · exact ⟨0, 0, 0, 0, 0, false, fun W xo xc _ => ⟨of_no xo n xc W hn, rof_no xo n xc W hn⟩⟩
/-- Tree of any tide, of the program and of the reference. -/
theorem tree_both (a b c d : Nat) (lo : Int) (k : Bool) (n : Nat) (hk : okT a b c d lo = k) (hn : n = if k = true then 2 else 0) : ∀ W, (Calls Try.prog 24 #[tdV a b c d lo] W fun e w' => ∃ ao cap, e = .returned (.tuple #[.agg #[.slice ao n cap], .bool k]) ∧ T.RdN w' ao n (T.nodes (tdT a b c d lo)) ∧ Below W.heap.size W w') ∧ (Calls Try.prog 25 #[tdV a b c d lo] W fun e w' => ∃ ao cap, e = .returned (.tuple #[.agg #[.slice ao n cap], .bool k]) ∧ T.RdN w' ao n (T.nodes (tdT a b c d lo)) ∧ Below W.heap.size W w') := by
  intro W
  cases k with
  | false =>
    obtain rfl : n = 0 := by simpa using hn
    exact ⟨(tree_no W hk).mono fun e w' ⟨h1, h2⟩ => ⟨none, 0, h1, fun h => absurd h (by omega), h2⟩, (rtree_no W hk).mono fun e w' ⟨h1, h2⟩ => ⟨none, 0, h1, fun h => absurd h (by omega), h2⟩⟩
  | true =>
    obtain rfl : n = 2 := by simpa using hn
    exact ⟨(tree_yes W hk).mono fun e w' ⟨ao, cap, h1, h2, h3⟩ => ⟨ao, cap, h1, T.OwN.rd h2, h3⟩, (rtree_yes W hk).mono fun e w' ⟨ao, cap, h1, h2, h3⟩ => ⟨ao, cap, h1, T.OwN.rd h2, h3⟩⟩
theorem eqN_refl (F : Nat → T.Nd) (h : ∀ i, (F i).eq (F i) = true) : ∀ n, T.eqN F F n = true
  | 0 => rfl
  | n + 1 => by rw [T.eqN, eqN_refl F h n, h n]; rfl
theorem nd_refl (x : T.Nd) : x.eq x = true := by simp [T.Nd.eq]
/-- Of, of a tide's tree. -/
theorem of_tree {a b c d : Nat} {lo : Int} (h : okT a b c d lo = true) : ∀ W xo xc, T.RdN W xo 2 (T.nodes (tdT a b c d lo)) → Calls Try.prog 26 #[.agg #[.slice xo 2 xc]] W fun e w' => e = .returned (.tuple #[tdV a b c d lo, .bool true]) ∧ Below W.heap.size W w' := by
  intro W xo xc hr
  obtain ⟨bb, off, rfl, h2⟩ := Nd2.of (x0 := 2) (a := a) (b := b) (c := c) (d := d) (x5 := 0) (x6 := 0) (x7 := 0) (x8 := 0) (x9 := false) (y0 := 5) (y1 := 0) (y2 := 0) (y3 := 0) (y4 := 0) (y5 := 0) (y6 := 0) (y7 := lo) (y8 := -1) (y9 := false) hr (nodes_td0 a b c d lo) (nodes_td1 a b c d lo)
  have q1 := of_two W bb off xc _ _ _ _ _ _ _ _ _ _ _ _ _ _ _ _ _ _ _ _ h2
  rw [show isTd 2 a b c d 0 0 0 0 false 5 0 0 0 0 0 0 lo (-1) false = true from by unfold isTd; rw [h]; simp [ndX, ndY, tdN, T.Nd.eq]] at q1
  exact q1
end Go.Proofs.Ytobgmgpclcfkcaa
