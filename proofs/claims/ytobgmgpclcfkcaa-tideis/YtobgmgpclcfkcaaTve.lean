/- Ported: Tve. -/
import Derived.Test.YtobgmgpclcfkcaaTvb
import Derived.Test.YtobgmgpclcfkcaaTvc
namespace Go.Proofs.Ytobgmgpclcfkcaa.T
open Go.RowKit
/-- The trees that are made of the nodes below k. -/
structure Mad (MB : Nat) (x : Tre) (k : Nat) (W : World) (M : Nat → Value) : Prop where
  list : Cl W MB 47 (vals M x.size)
  made : ∀ p u, p < k → x.subs[p]? = some u → ∃ g cap, M p = .slice (some ⟨g, 0, none⟩) u.size cap ∧ MB < g ∧ RdN W (some ⟨g, 0, none⟩) u.size (nodes (mir u)) ∧ u.size ≤ cap
theorem Mad.below {MB k : Nat} {x : Tre} {W W' : World} {M : Nat → Value} (h : Mad MB x k W M) (hb : Below W.heap.size W W') : Mad MB x k W' M :=
  ⟨h.list.below hb, fun p u hp hu => let ⟨g, cap, e, hg, hr, hc⟩ := h.made p u hp hu; ⟨g, cap, e, hg, hr.below hb, hc⟩⟩
theorem RdN.apart {w : World} {g n b i : Nat} {F : Nat → Nd} (h : RdN w (some ⟨g, 0, none⟩) n F) (hne : g ≠ b) (v : Value) : RdN (w.setCell ⟨b, i, none⟩ v) (some ⟨g, 0, none⟩) n F := by
  intro hn
  obtain ⟨bb, off, e, hb, hc⟩ := h hn
  obtain ⟨rfl, rfl⟩ : g = bb ∧ 0 = off := by simpa using e
  refine ⟨g, 0, rfl, by simpa using hb, fun k hk => ?_⟩
  have q : ∀ j, (w.setCell ⟨b, i, none⟩ v).cell? ⟨g, j, none⟩ = w.cell? ⟨g, j, none⟩ := fun j => by simp only [World.cell?, set_heap w ⟨b, i, none⟩ v g hne]
  rw [q, q, q, q, q, q, q, q, q, q]
  exact hc k hk
theorem Mad.put {MB k : Nat} {x u : Tre} {W : World} {M : Nat → Value} (h : Mad MB x k W M) (hu : x.subs[k]? = some u) {ao : Option Addr} {cap B : Nat} (ho : OwN W B ao u.size cap (nodes (mir u))) (hB : MB < B) : ∃ M', Mad MB x (k + 1) (W.setCell ⟨MB, k, none⟩ (.slice ao u.size cap)) M' := by
  obtain ⟨g, rfl, hgl, hgB, _⟩ := ho.cells u.size_pos
  refine ⟨updV M k (.slice (some ⟨g, 0, none⟩) u.size cap), by have := h.list.set k (.slice (some ⟨g, 0, none⟩) u.size cap); rwa [vals_set] at this, fun p v hp hv => ?_⟩
  by_cases e : p = k
  · subst e
    rw [hu] at hv
    obtain rfl := Option.some.inj hv
    exact ⟨g, cap, by simp [updV], by omega, ho.rd.apart (by omega) _, ownsRow_cap ho⟩
  · obtain ⟨g', cap', e', hg', hr', hc'⟩ := h.made p v (by omega) hv
    exact ⟨g', cap', by simp [updV, e, e'], hg', hr'.apart (by omega) _, hc'⟩
theorem BRows.get {W : World} {B tb N : Nat} {T : Tab} (h : BRows W B tb N N T) {i : Nat} (hi : i < N) : ∃ b, W.cell? ⟨tb, i, none⟩ = some (.slice (some ⟨b, 0, none⟩) N N) ∧ tb < W.heap.size ∧ b < W.heap.size ∧ ∀ j, j < N → W.cell? ⟨b, j, none⟩ = some (.bool (spB T i j)) := by
  obtain ⟨M, h1, h2⟩ := h
  obtain ⟨b, _, h4, h5⟩ := h2 i hi
  exact ⟨b, by rw [h1.cell i (vals_get M hi), h4], h1.lt, h5.lt, fun j hj => h5.cell j (bools_get _ hj)⟩
end Go.Proofs.Ytobgmgpclcfkcaa.T
