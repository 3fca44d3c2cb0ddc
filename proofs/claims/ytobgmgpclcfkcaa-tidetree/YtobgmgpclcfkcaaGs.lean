/- A region that draws its order: what an operation may do to the blocks, where what is stored is known. -/
import Derived.Test.YtobgmgpclcfkcaaGr
namespace Go.Proofs.Ytobgmgpclcfkcaa
open Go Go.RowKit
/-- Blocks of a type of chg may change into what ok says, those of a type of frz may be marked. -/
structure Gy (chg frz : TypeId → Bool) (ok : TypeId → Array Value → Prop) (w w' : World) : Prop where
  froz : ∀ (k : Nat) (cs : Array Value) (t : TypeId) (fz : Nat × Nat), w.heap[k]? = some (.cells cs t fz) → chg t = false → ∃ fz', (frz t = false → fz' = fz) ∧ w'.heap[k]? = some (.cells cs t fz')
  chgd : ∀ (k : Nat) (cs : Array Value) (t : TypeId) (fz : Nat × Nat), w.heap[k]? = some (.cells cs t fz) → frz t = false → ∃ cs' : Array Value, cs'.size = cs.size ∧ (cs' = cs ∨ ok t cs') ∧ w'.heap[k]? = some (.cells cs' t fz)
section
variable {chg frz : TypeId → Bool} {ok : TypeId → Array Value → Prop}
theorem Gy.of_same {w w' : World} (h : ∀ k, k < w.heap.size → w'.heap[k]? = w.heap[k]?) : Gy chg frz ok w w' := by
  have hl : ∀ {k o}, w.heap[k]? = some o → w'.heap[k]? = some o := fun {k o} hk => by rw [h k (Array.getElem?_eq_some_iff.1 hk).1]; exact hk
  exact ⟨fun k cs t fz hk _ => ⟨fz, fun _ => rfl, hl hk⟩, fun k cs t fz hk _ => ⟨cs, rfl, .inl rfl, hl hk⟩⟩
theorem Gy.of_below {w w' : World} (h : Below w.heap.size w w') : Gy chg frz ok w w' := Gy.of_same h.block
theorem Gy.refl (w : World) : Gy chg frz ok w w := Gy.of_same fun _ _ => rfl
theorem Gy.set {w : World} {b i : Nat} {t : TypeId} {cs : Array Value} {fz : Nat × Nat} {v : Value} (h : w.heap[b]? = some (.cells cs t fz)) (hc : chg t = true) (hok : ok t (cs.setIfInBounds i v)) : Gy chg frz ok w (w.setCell ⟨b, i, none⟩ v) := by
  have hk : ∀ k, k ≠ b → (w.setCell ⟨b, i, none⟩ v).heap[k]? = w.heap[k]? := fun k hk => Below.heap_setCell _ _ _ _ hk
  have hb : (w.setCell ⟨b, i, none⟩ v).heap[b]? = some (.cells (cs.setIfInBounds i v) t fz) := by
    unfold World.setCell
    simp only [Array.getElem?_modify, if_true, h, Option.map_some]
    rfl
  refine ⟨fun k cs' t' fz' hh h1 => ?_, fun k cs' t' fz' hh h1 => ?_⟩
  · by_cases e : k = b
    · subst e; rw [h] at hh; cases hh; rw [hc] at h1; cases h1
    · exact ⟨fz', fun _ => rfl, by rw [hk k e]; exact hh⟩
  · by_cases e : k = b
    · subst e; rw [h] at hh; cases hh; exact ⟨_, by simp, .inr hok, hb⟩
    · exact ⟨cs', rfl, .inl rfl, by rw [hk k e]; exact hh⟩
theorem Gy.mark {w w' : World} {b : Nat} {t : TypeId} {cs : Array Value} {fz fz' : Nat × Nat} (h : w.heap[b]? = some (.cells cs t fz)) (h' : w'.heap[b]? = some (.cells cs t fz')) (hk : ∀ k, k ≠ b → w'.heap[k]? = w.heap[k]?) (hf : frz t = true) : Gy chg frz ok w w' := by
  refine ⟨fun k cs' t' f hh _ => ?_, fun k cs' t' f hh h1 => ?_⟩
  · by_cases e : k = b
    · subst e; rw [h] at hh; cases hh; exact ⟨fz', fun h => absurd (hf.symm.trans h) (by decide), h'⟩
    · exact ⟨f, fun _ => rfl, by rw [hk k e]; exact hh⟩
  · by_cases e : k = b
    · subst e; rw [h] at hh; cases hh; rw [hf] at h1; cases h1
    · exact ⟨cs', rfl, .inl rfl, by rw [hk k e]; exact hh⟩
theorem Bk.keepy {B : Nat} {w w' : World} {b : Nat} {t : TypeId} {cs : Array Value} (h : Bk B w b t cs) (g : Gy chg frz ok w w') (hc : chg t = false) : Bk B w' b t cs := by
  obtain ⟨hb, fz, hh⟩ := h
  obtain ⟨fz', _, h'⟩ := g.froz b cs t fz hh hc
  exact ⟨hb, fz', h'⟩
theorem ownsRow_gy {W W' : World} {base e size k : Nat} {v : Value} {xs : List Value} (h : W.ownsRow base e size v k xs) (g : Gy chg frz ok W W') (hc : chg e = false) (hf : frz e = false) : W'.ownsRow base e size v k xs :=
  ⟨h.1, h.2.imp id fun ⟨b, cap, cur, hv, hg, hh, r⟩ => ⟨b, cap, cur, hv, hg, by obtain ⟨fz', h1, h2⟩ := g.froz b cur e (0, 0) hh hc; rw [h1 hf] at h2; exact h2, r⟩⟩
theorem Bo.keepy {B : Nat} {w w' : World} {b : Nat} {t : TypeId} {n : Nat} (h : Bo B w b t n) (g : Gy chg frz ok w w') (hf : frz t = false) : Bo B w' b t n := by
  obtain ⟨hb, cs, hs, hh⟩ := h
  obtain ⟨cs', h1, _, h2⟩ := g.chgd b cs t (0, 0) hh hf
  exact ⟨hb, cs', h1.trans hs, h2⟩
/-- A box that holds what was stored. -/
def Bs (ok : TypeId → Array Value → Prop) (B : Nat) (w : World) (b : Nat) (t : TypeId) : Prop := B ≤ b ∧ ∃ cs : Array Value, ok t cs ∧ w.heap[b]? = some (.cells cs t (0, 0))
theorem Bs.keepy {B : Nat} {w w' : World} {b : Nat} {t : TypeId} (h : Bs ok B w b t) (g : Gy chg frz ok w w') (hf : frz t = false) : Bs ok B w' b t := by
  obtain ⟨hb, cs, hs, hh⟩ := h
  obtain ⟨cs', _, h1, h2⟩ := g.chgd b cs t (0, 0) hh hf
  rcases h1 with rfl | h1
  · exact ⟨hb, cs', hs, h2⟩
  · exact ⟨hb, cs', h1, h2⟩
end
end Go.Proofs.Ytobgmgpclcfkcaa
