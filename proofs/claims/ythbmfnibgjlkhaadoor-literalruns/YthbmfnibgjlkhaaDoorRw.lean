/- The reference's runs in memory. -/
import Derived.Test.YthbmfnibgjlkhaaDoorRn
namespace Go.Proofs.YthbmfnibgjlkhaaDoor
open Go.RowKit K
/-- The cells of n runs. -/
def rcF (fr : Nat → Nat) (M : Nat → Value) : Nat → List Value
  | 0 => []
  | n + 1 => rcF fr M n ++ [.int .i64 (fr n : Nat), M n]
theorem rcF_len (fr : Nat → Nat) (M : Nat → Value) : ∀ n, (rcF fr M n).length = n * 2
  | 0 => rfl
  | n + 1 => by rw [rcF, List.length_append, rcF_len fr M n]; simp; omega
theorem rcF_congr {fr fr' : Nat → Nat} {M M' : Nat → Value} : ∀ n, (∀ k, k < n → fr k = fr' k ∧ M k = M' k) → rcF fr M n = rcF fr' M' n
  | 0, _ => rfl
  | n + 1, h => by
    rw [rcF, rcF, rcF_congr n fun k hk => h k (by omega), (h n (by omega)).1, (h n (by omega)).2]
theorem rcF_get (fr : Nat → Nat) (M : Nat → Value) : ∀ n k, k < n → (rcF fr M n)[k * 2]? = some (.int .i64 (fr k : Nat)) ∧ (rcF fr M n)[k * 2 + 1]? = some (M k)
  | n + 1, k, h => by
    have hl := rcF_len fr M n
    rw [rcF]
    by_cases hk : k = n
    · subst hk
      rw [List.getElem?_append_right (by omega), List.getElem?_append_right (by omega), hl]
      simp
    · rw [List.getElem?_append_left (by omega), List.getElem?_append_left (by omega)]
      exact rcF_get fr M n k (by omega)
theorem rcF_set (fr : Nat → Nat) (M : Nat → Value) (v : Value) : ∀ n k, k < n → (rcF fr M n).set (k * 2 + 1) v = rcF fr (updV M k v) n
  | n + 1, k, h => by
    have hl := rcF_len fr M n
    rw [rcF, rcF]
    by_cases hk : k = n
    · subst hk
      rw [List.set_append_right _ _ (by omega), hl, rcF_congr k (fr' := fr) (M' := updV M k v) fun j hj => ⟨rfl, by simp [updV, show ¬ j = k by omega]⟩]
      simp [updV]
    · rw [List.set_append_left _ _ (by omega), rcF_set fr M v n k (by omega)]
      simp [updV, show ¬ n = k by omega]
theorem row_put {W : World} {B e s n g cap j : Nat} {xs : List Value} (h : W.ownsRow B e s (.slice (some ⟨g, 0, none⟩) n cap) n xs) (v : Value) : (W.setCell ⟨g, j, none⟩ v).ownsRow B e s (.slice (some ⟨g, 0, none⟩) n cap) n (xs.set j v) := by
  refine ⟨by rw [List.length_set]; exact h.1, .inr ?_⟩
  rcases h.2 with ⟨h', _⟩ | ⟨g', cap', cur, e', hB, hc, h1, h2, h3, h4⟩
  · cases h'
  · obtain ⟨rfl, rfl⟩ : g = g' ∧ cap = cap' := by simpa using e'
    refine ⟨g, cap, cur.setIfInBounds j v, rfl, hB, ?_, h1, h2, by simpa using h3, ?_⟩
    · have := heap_setCell_same W g j cur e v hc
      simpa using this
    · rw [← h4, Array.toList_setIfInBounds, List.take_set]
/-- Runs in memory: a row of them, their letters in rows of their own. -/
structure RW (lo : Nat) (all : List (Nat × List (Nat × Bool))) (W : World) (v : Value) (M : Nat → Value) : Prop where
  row : W.ownsRow lo 55 2 v all.length (rcF (fun k => (all.getD k (0, [])).1) M all.length)
  els : ∀ k r, all[k]? = some r → W.ownsRow lo 26 2 (M k) r.2.length (lcs r.2)
  dif : ∀ k j g, k < j → j < all.length → (M k).ownBlock = some g → (M j).ownBlock ≠ some g
theorem RW.below {lo : Nat} {all : List (Nat × List (Nat × Bool))} {W W' : World} {v : Value} {M : Nat → Value} (h : RW lo all W v M) (hb : Below W.heap.size W W') : RW lo all W' v M :=
  ⟨ownsRow_below h.row hb, fun k r hr => ownsRow_below (h.els k r hr) hb, h.dif⟩
theorem type_ne {W : World} {B B' e e' s s' n n' g : Nat} {v v' : Value} {xs xs' : List Value} (h : W.ownsRow B e s v n xs) (h' : W.ownsRow B' e' s' v' n' xs') (hne : e ≠ e') (hg : v.ownBlock = some g) : v'.ownBlock ≠ some g := by
  intro hg'
  rcases h.2 with ⟨q, _⟩ | ⟨b, cap, cur, q, _, hc, _⟩
  · rw [q] at hg; cases hg
  rcases h'.2 with ⟨q', _⟩ | ⟨b', cap', cur', q', _, hc', _⟩
  · rw [q'] at hg'; cases hg'
  rw [q] at hg
  rw [q'] at hg'
  have e1 : b = g := by simpa [Value.ownBlock] using hg
  have e2 : b' = g := by simpa [Value.ownBlock] using hg'
  subst e1
  subst e2
  rw [hc] at hc'
  injection hc' with hc'
  injection hc' with _ hc' _
  exact hne hc'
/-- A run without letters is put. -/
theorem RW.push {lo : Nat} {all : List (Nat × List (Nat × Bool))} {A A2 w2 : World} {v v' : Value} {M : Nat → Value} {i : Nat} (h : RW lo all A v M) (hA : Below A.heap.size A A2) (g1 : w2.ownsRow lo 55 2 v' (all.length + 1) (rcF (fun k => (all.getD k (0, [])).1) M all.length ++ [.int .i64 (i : Nat), .slice none 0 0])) (g2 : A2.grownBy w2 v.ownBlock) : RW lo (all ++ [(i, [])]) w2 v' (updV M all.length (.slice none 0 0)) := by
  refine ⟨?_, fun k r hr => ?_, fun k j g hkj hj hg => ?_⟩
  · have e : rcF (fun k => ((all ++ [(i, [])]).getD k (0, [])).1) (updV M all.length (.slice none 0 0)) (all.length + 1) = rcF (fun k => (all.getD k (0, [])).1) M all.length ++ [.int .i64 (i : Nat), .slice none 0 0] := by
      rw [rcF, rcF_congr all.length (fr' := fun k => (all.getD k (0, [])).1) (M' := M) fun k hk => ⟨by simp [List.getD_eq_getElem?_getD, List.getElem?_append_left hk], by simp [updV, show ¬ k = all.length by omega]⟩]
      simp [updV, List.getD_eq_getElem?_getD]
    rw [List.length_append, List.length_singleton, e]
    exact g1
  · by_cases hk : k = all.length
    · subst hk
      rw [List.getElem?_append_right (Nat.le_refl _)] at hr
      simp at hr
      subst hr
      simp only [updV, if_true]
      exact World.ownsRow_nil _ _ _ _
    · have hk2 : k < all.length := by
        have := (List.getElem?_eq_some_iff.1 hr).1
        simp at this
        omega
      rw [List.getElem?_append_left hk2] at hr
      have hm : updV M all.length (.slice none 0 0) k = M k := by simp [updV, hk]
      rw [hm]
      have hel := h.els k r hr
      refine row_at hel fun g hg => ?_
      have hlt := ownsRow_lt hel g hg
      exact (g2.block g (Nat.lt_of_lt_of_le hlt hA.size) (fun e => type_ne hel h.row (by decide) hg e.symm)).trans (hA.block g hlt)
  · have hm : updV M all.length (.slice none 0 0) k = M k := by simp [updV, show ¬ k = all.length by simp at hj; omega]
    rw [hm] at hg
    by_cases hj2 : j = all.length
    · subst hj2
      simp [updV, Value.ownBlock]
    · have : updV M all.length (.slice none 0 0) j = M j := by simp [updV, hj2]
      rw [this]
      exact h.dif k j g hkj (by simp at hj; omega) hg
/-- A letter is put to the last run. -/
theorem RW.grow {lo : Nat} {r : List (Nat × List (Nat × Bool))} {f : Nat} {ls : List (Nat × Bool)} {x : Nat × Bool} {A A2 w2 : World} {go gc g9 c9 : Nat} {M : Nat → Value} (h : RW lo (r ++ [(f, ls)]) A (.slice (some ⟨go, 0, none⟩) (r.length + 1) gc) M) (hA : Below A.heap.size A A2) (g1 : w2.ownsRow lo 26 2 (.slice (some ⟨g9, 0, none⟩) (ls.length + 1) c9) (ls.length + 1) (lcs ls ++ [.int .u8 (x.1 : Nat), .bool x.2])) (g2 : A2.grownBy w2 (M r.length).ownBlock) (g3 : (M r.length).ownBlock = some g9 ∨ g9 = A2.heap.size) :
    RW lo (r ++ [(f, ls ++ [x])]) (w2.setCell ⟨go, r.length * 2 + 1, none⟩ (.slice (some ⟨g9, 0, none⟩) (ls.length + 1) c9)) (.slice (some ⟨go, 0, none⟩) (r.length + 1) gc) (updV M r.length (.slice (some ⟨g9, 0, none⟩) (ls.length + 1) c9)) ∧ w2.heap[go]? = A.heap[go]? := by
  have hlen : (r ++ [(f, ls)]).length = r.length + 1 := by simp
  have hlen' : (r ++ [(f, ls ++ [x])]).length = r.length + 1 := by simp
  have hrow := h.row
  rw [hlen] at hrow
  have hlast := h.els r.length (f, ls) (by simp)
  have hgo : (Value.slice (some ⟨go, 0, none⟩) (r.length + 1) gc).ownBlock = some go := by simp [Value.ownBlock]
  have hgol := ownsRow_lt hrow go hgo
  have hgo2 : w2.heap[go]? = A.heap[go]? := (g2.block go (Nat.lt_of_lt_of_le hgol hA.size) (fun e => type_ne hrow hlast (by decide) hgo e.symm)).trans (hA.block go hgol)
  have hrow2 := row_at hrow (W' := w2) fun g hg => by
    rw [hgo] at hg
    obtain rfl := Option.some.inj hg
    exact hgo2
  have h9 : (Value.slice (some ⟨g9, 0, none⟩) (ls.length + 1) c9).ownBlock = some g9 := by simp [Value.ownBlock]
  have hne9 : g9 ≠ go := fun e => type_ne hrow2 g1 (by decide) hgo (by rw [h9, e])
  refine ⟨⟨?_, fun k q hq => ?_, fun k j g hkj hj hg => ?_⟩, hgo2⟩
  · rw [hlen']
    have e := rcF_set (fun k => ((r ++ [(f, ls)]).getD k (0, [])).1) M (.slice (some ⟨g9, 0, none⟩) (ls.length + 1) c9) (r.length + 1) r.length (by omega)
    have e2 : rcF (fun k => ((r ++ [(f, ls ++ [x])]).getD k (0, [])).1) (updV M r.length (.slice (some ⟨g9, 0, none⟩) (ls.length + 1) c9)) (r.length + 1) = rcF (fun k => ((r ++ [(f, ls)]).getD k (0, [])).1) (updV M r.length (.slice (some ⟨g9, 0, none⟩) (ls.length + 1) c9)) (r.length + 1) := rcF_congr _ fun k hk => ⟨by
      by_cases hk2 : k < r.length
      · simp [List.getD_eq_getElem?_getD, List.getElem?_append_left hk2]
      · obtain rfl : k = r.length := by omega
        simp [List.getD_eq_getElem?_getD], rfl⟩
    rw [e2, ← e]
    exact row_put hrow2 _
  · by_cases hk : k = r.length
    · subst hk
      have : q = (f, ls ++ [x]) := by simpa using hq.symm
      subst this
      simp only [updV, if_true]
      rw [lcs_snoc, List.length_append, List.length_singleton]
      exact row_at g1 fun g hg => by
        rw [h9] at hg
        obtain rfl := Option.some.inj hg
        exact set_heap _ _ _ _ hne9
    · have hk2 : k < r.length := by
        have := (List.getElem?_eq_some_iff.1 hq).1
        rw [hlen'] at this
        omega
      rw [List.getElem?_append_left hk2] at hq
      have hel := h.els k q (by rw [List.getElem?_append_left hk2]; exact hq)
      have hm : updV M r.length (.slice (some ⟨g9, 0, none⟩) (ls.length + 1) c9) k = M k := by simp [updV, hk]
      rw [hm]
      refine row_at hel fun g hg => ?_
      have hlt := ownsRow_lt hel g hg
      have hgne : g ≠ go := fun e => type_ne hel hrow (by decide) hg (by rw [hgo, e])
      refine (set_heap _ _ _ _ hgne).trans ((g2.block g (Nat.lt_of_lt_of_le hlt hA.size) (fun e => h.dif k r.length g hk2 (by rw [hlen]; omega) hg e.symm)).trans (hA.block g hlt))
  · rw [hlen'] at hj
    have hm : updV M r.length (.slice (some ⟨g9, 0, none⟩) (ls.length + 1) c9) k = M k := by simp [updV, show ¬ k = r.length by omega]
    rw [hm] at hg
    by_cases hj2 : j = r.length
    · subst hj2
      simp only [updV, if_true]
      rw [h9]
      intro e
      have e := Option.some.inj e
      have hel := h.els k (r[k]'hkj) (by rw [List.getElem?_append_left hkj]; exact List.getElem?_eq_getElem hkj)
      have hlt := ownsRow_lt hel g hg
      rcases g3 with q | q
      · exact h.dif k r.length g hkj (by rw [hlen]; omega) hg (by rw [q, e])
      · have := hA.size
        omega
    · have : updV M r.length (.slice (some ⟨g9, 0, none⟩) (ls.length + 1) c9) j = M j := by simp [updV, hj2]
      rw [this]
      exact h.dif k j g hkj (by rw [hlen]; omega) hg
end Go.Proofs.YthbmfnibgjlkhaaDoor
