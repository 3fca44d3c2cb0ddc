/- Trees whose classes are words: plain facts; what a tree's own nodes mean. -/
import Derived.Test.YtiiecppkabdkgabDoorMt
namespace Go.Proofs.YtiiecppkabdkgabDoor
def wfT : Tre → Prop
  | .leaf q => wfN q
  | .two _ x y => wfT x ∧ wfT y
  | .rep x _ _ _ => wfT x
theorem wfN_zero {k a b l m : Int} {z : Bool} : wfN ⟨k, 0, 0, 0, 0, a, b, l, m, z⟩ := by
  unfold wfN
  dsimp only
  omega
theorem wfT_subs : ∀ t : Tre, (∀ q, Tre.leaf q ∈ t.subs → wfN q) → wfT t
  | .leaf q, h => h q (by simp [Tre.subs])
  | .two k x y, h => ⟨wfT_subs x fun q hq => h q (by simp [Tre.subs, hq]), wfT_subs y fun q hq => h q (by simp [Tre.subs, hq])⟩
  | .rep x l m z, h => wfT_subs x fun q hq => h q (by simp [Tre.subs, hq])
theorem wfT_of {F : Nat → Nd} {n : Nat} {t : Tre} (h : treeOf F n = some t) (hF : ∀ i, i < n → wfN (F i)) : wfT t := by
  obtain ⟨hn, ho, _, hN⟩ := treeOf_some h
  refine wfT_subs t fun q hq => ?_
  obtain ⟨p, hp, e⟩ := List.mem_iff_getElem.1 hq
  have hp' := hp
  rw [Tre.subs_length] at hp'
  have hg : t.subs[p]? = some (.leaf q) := by rw [List.getElem?_eq_getElem hp, e]
  have := hN p (by omega)
  rw [nodes_get hg] at this
  have h2 := hF p (by omega)
  rw [this] at h2
  exact h2
theorem wfT_mem : ∀ t : Tre, wfT t → ∀ u ∈ t.subs, wfT u
  | .leaf q, h, u, hu => by simp [Tre.subs] at hu; subst hu; exact h
  | .two k x y, h, u, hu => by
    simp [Tre.subs] at hu
    rcases hu with hu | hu | rfl
    · exact wfT_mem x h.1 u hu
    · exact wfT_mem y h.2 u hu
    · exact h
  | .rep x l m z, h, u, hu => by
    simp [Tre.subs] at hu
    rcases hu with hu | rfl
    · exact wfT_mem x h u hu
    · exact h
theorem wfT_nd {u : Tre} (h : wfT u) (p : Int) : wfN (u.nd p) := by
  cases u with
  | leaf q => exact h
  | two k x y => exact wfN_zero
  | rep x l m z => exact wfN_zero
theorem wfT_nodes {t : Tre} (h : wfT t) (p : Nat) : wfN (nodes t p) := by
  unfold nodes
  cases hp : t.subs[p]? with
  | none => exact wfT_nd h p
  | some u => exact wfT_nd (wfT_mem t h u (List.mem_of_getElem? hp)) p
theorem wfT_mir : ∀ t : Tre, wfT t → wfT (mir t)
  | .leaf q, h => by
    obtain ⟨k, c0, c1, c2, c3, a, b, l, m, z⟩ := q
    simp only [mir, swp]
    split
    · exact h
    · split
      · exact h
      · exact h
  | .two k x y, h => by
    simp only [mir]
    split
    · exact ⟨wfT_mir y h.2, wfT_mir x h.1⟩
    · exact ⟨wfT_mir x h.1, wfT_mir y h.2⟩
  | .rep x l m z, h => wfT_mir x h
/-- What nodes mean that Check takes. -/
theorem mTab_ok {f : Nat → Nat} {n : Nat} {mu : Bool} {F : Nat → Nd} {k : Nat} (h : chkE F k = 0) : ∃ t, treeOf F k = some t ∧ anc t (true, true) = true ∧ mTab f n mu F k = mean f n mu t ∧ snd F k = t ∧ t.ok = true ∧ t.size = k ∧ k ≤ 2048 := by
  unfold chkE at h
  split at h
  · omega
  · rename_i t ht
    have ha : anc t (true, true) = true := by
      cases hc : anc t (true, true) with
      | true => rfl
      | false => rw [hc] at h; simp at h
    obtain ⟨h1, h2, h3, _⟩ := treeOf_some ht
    refine ⟨t, ht, ha, ?_, by unfold snd; rw [ht]; rfl, h2, h1.symm, h3⟩
    unfold mTab; rw [ht]; dsimp only; rw [if_pos ha]
theorem mTab_nodes {f : Nat → Nat} {n : Nat} {mu : Bool} {t : Tre} {k : Nat} (hk : k = t.size) (ho : t.ok = true) (hs : t.size ≤ 2048) (ha : anc t (true, true) = true) : mTab f n mu (nodes t) k = mean f n mu t := by
  unfold mTab
  rw [treeOf_nodes t (nodes t) hk ho hs (fun _ _ => rfl)]
  dsimp only
  rw [if_pos ha]
end Go.Proofs.YtiiecppkabdkgabDoor
