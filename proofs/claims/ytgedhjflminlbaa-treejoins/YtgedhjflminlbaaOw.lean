/- Trees in blocks of their own, and what a write into one leaves of the others. -/
import Derived.Test.YtgedhjflminlbaaMr
namespace Go.Proofs.Ytgedhjflminlbaa
open Go.RowKit
theorem own_block {W : World} {B : Nat} {ao : Option Addr} {n cap : Nat} {F : Nat → Nd} (h : OwN W B ao n cap F) {g : Nat} (hg : (Value.slice ao n cap).ownBlock = some g) : B ≤ g ∧ g < W.heap.size ∧ ao = some ⟨g, 0, none⟩ := by
  rcases h.2 with ⟨h', _⟩ | ⟨g', cap', cur, e, hB, hc, _⟩
  · rw [h'] at hg; simp [Value.ownBlock] at hg
  · rw [e] at hg
    have e2 : g' = g := by simpa [Value.ownBlock] using hg
    subst e2
    exact ⟨hB, (Array.getElem?_eq_some_iff.1 hc).1, by simpa using (show Value.slice ao n cap = Value.slice (some ⟨g', 0, none⟩) n cap' from e) |> fun h => by injection h⟩
theorem own_flip {W : World} {B g n cap : Nat} {F : Nat → Nd} (h : OwN W B (some ⟨g, 0, none⟩) n cap F) {j : Nat} (hj : j < n) (x : Int) : OwN (W.setCell ⟨g, j * 10, none⟩ (.int .i64 x)) B (some ⟨g, 0, none⟩) n cap (updN F j { F j with k := x }) ∧ W.cell? ⟨g, j * 10, none⟩ = some (.int .i64 (F j).k) ∧ W.frozen? ⟨g, j * 10, none⟩ = false := by
  rcases h.2 with ⟨h', _⟩ | ⟨g', cap', cur, e, hB, hc, hle, hmx, hsz, ht⟩
  · cases h'
  · obtain ⟨rfl, rfl⟩ : g = g' ∧ cap = cap' := by
      injection e with e1 e2 e3
      injection e1 with e1
      injection e1 with e1
      exact ⟨e1, e3⟩
    have hcl : Cl W g 29 cur.toList := by unfold Cl; simpa using hc
    have hlen : j * 10 < cur.toList.length := by simp; omega
    have h0 : (ndsL F n)[j * 10]? = some (.int .i64 (F j).k) := by
      have := ndsL_get F n j 0 hj (by decide)
      simpa [ndL] using this
    have hcell : cur.toList[j * 10]? = some (.int .i64 (F j).k) := by
      rw [← ht, List.getElem?_take_of_lt (by omega)] at h0
      exact h0
    refine ⟨⟨ndsL_len _ n, .inr ⟨g, cap, (cur.toList.set (j * 10) (.int .i64 x)).toArray, rfl, hB, ?_, hle, hmx, by simpa using hsz, ?_⟩⟩, hcl.cell _ hcell, hcl.frozen _⟩
    · exact hcl.set (j * 10) (.int .i64 x)
    · have := ndsL_set F n j 0 (.int .i64 x) { F j with k := x } hj (by decide) (by simp [ndL])
      rw [Nat.add_zero] at this
      rw [← this, ← ht]
      simp [List.take_set]
theorem own_other {W : World} {B : Nat} {ao : Option Addr} {n cap : Nat} {F : Nat → Nd} (h : OwN W B ao n cap F) {g : Nat} (hg : ∀ g', (Value.slice ao n cap).ownBlock = some g' → g' ≠ g) (i : Nat) (v : Value) : OwN (W.setCell ⟨g, i, none⟩ v) B ao n cap F := by
  refine ⟨h.1, ?_⟩
  rcases h.2 with h' | ⟨g', cap', cur, e, hB, hc, r⟩
  · exact .inl h'
  · refine .inr ⟨g', cap', cur, e, hB, ?_, r⟩
    rw [set_heap _ _ _ _ (hg g' (by rw [e]; simp [Value.ownBlock]))]
    exact hc
theorem own_below {W W' : World} {B : Nat} {ao : Option Addr} {n cap : Nat} {F : Nat → Nd} (h : OwN W B ao n cap F) (hb : Below W.heap.size W W') : OwN W' B ao n cap F := ownsRow_below h hb
/-- A list of trees, each in a block of its own. -/
structure Sv (LB B : Nat) (L : List Value) (W : World) : Prop where
  list : Cl W LB 24 L
  own : ∀ v ∈ L, ∃ ao n cap F, v = .slice ao n cap ∧ OwN W B ao n cap F ∧ (n : Int) ≤ 9223372036854775806
  rise : L.Pairwise fun v u => ∀ g g', v.ownBlock = some g → u.ownBlock = some g' → g < g'
  lt : ∀ v ∈ L, ∀ g, v.ownBlock = some g → g < LB
theorem Sv.below {LB B : Nat} {L : List Value} {W W' : World} (h : Sv LB B L W) (hb : Below W.heap.size W W') : Sv LB B L W' :=
  ⟨h.list.below hb, fun v hv => let ⟨ao, n, cap, F, e, ho, hn⟩ := h.own v hv; ⟨ao, n, cap, F, e, own_below ho hb, hn⟩, h.rise, h.lt⟩
theorem Sv.flip {LB B : Nat} {L : List Value} {W : World} (h : Sv LB B L W) {k g n cap : Nat} (hk : L[k]? = some (.slice (some ⟨g, 0, none⟩) n cap)) {j : Nat} (hj : j < n) (x : Int) : Sv LB B L (W.setCell ⟨g, j * 10, none⟩ (.int .i64 x)) := by
  have hmem : Value.slice (some ⟨g, 0, none⟩) n cap ∈ L := List.mem_of_getElem? hk
  have hgb : (Value.slice (some ⟨g, 0, none⟩) n cap).ownBlock = some g := by simp [Value.ownBlock]
  have hlt := h.lt _ hmem g hgb
  refine ⟨h.list.other (by omega) _ _, fun v hv => ?_, h.rise, h.lt⟩
  obtain ⟨ao, n', cap', F, rfl, ho, hn⟩ := h.own v hv
  by_cases e : (Value.slice ao n' cap').ownBlock = some g
  · obtain ⟨i, hi⟩ := List.getElem?_of_mem hv
    have hil := (List.getElem?_eq_some_iff.1 hi)
    have hkl := (List.getElem?_eq_some_iff.1 hk)
    have hik : i = k := by
      have hp := List.pairwise_iff_getElem.1 h.rise
      rcases Nat.lt_trichotomy i k with hlt' | heq | hlt'
      · have := hp i k hil.1 hkl.1 hlt' g g (by rw [hil.2]; exact e) (by rw [hkl.2]; exact hgb)
        omega
      · exact heq
      · have := hp k i hkl.1 hil.1 hlt' g g (by rw [hkl.2]; exact hgb) (by rw [hil.2]; exact e)
        omega
    subst hik
    rw [hk] at hi
    have hi' := Option.some.inj hi
    injection hi' with e1 e2 e3
    subst e1 e2 e3
    exact ⟨_, _, _, _, rfl, (own_flip ho hj x).1, hn⟩
  · exact ⟨_, _, _, F, rfl, own_other ho (fun g' hg' => by rintro rfl; exact e hg') _ _, hn⟩
end Go.Proofs.Ytgedhjflminlbaa
