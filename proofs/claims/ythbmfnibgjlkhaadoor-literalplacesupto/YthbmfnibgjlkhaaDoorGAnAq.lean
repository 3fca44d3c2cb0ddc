/- Anchors of trees: plain facts. Ways as they stand in a round: plain facts. -/
import Derived.Test.YthbmfnibgjlkhaaDoorTm
namespace Go.Proofs.YthbmfnibgjlkhaaDoor
def hdA (k : Int) (h : Bool × Bool) : Bool × Bool := if k = 4 then h else (h.1, false)
def hdB (k : Int) (h : Bool × Bool) : Bool × Bool := if k = 4 then h else (false, h.2)
/-- Which anchors may stand at a place. -/
def wy : Tre → Bool × Bool → Nat → Bool × Bool
  | .leaf _, h, _ => h
  | .two k x y, h, p => if p < x.size then wy x (hdA k h) p else if p < x.size + y.size then wy y (hdB k h) (p - x.size) else h
  | .rep x _ _ _, h, p => if p < x.size then wy x (false, false) p else h
/-- Where the node stands that a node is a part of. -/
def pr : Tre → Nat → Nat
  | .leaf _, _ => 1
  | .two _ x y, p => if p + 1 < x.size then pr x p else if p + 1 = x.size then x.size + y.size else if p + 1 < x.size + y.size then x.size + pr y (p - x.size) else if p + 1 = x.size + y.size then x.size + y.size else x.size + y.size + 1
  | .rep x _ _ _, p => if p + 1 < x.size then pr x p else if p + 1 = x.size then x.size else x.size + 1
def okA : Tre → Bool × Bool → Bool
  | .leaf n, h => if n.k = 6 then h.1 else if n.k = 7 then h.2 else true
  | _, _ => true
def anc : Tre → Bool × Bool → Bool
  | .leaf n, h => if n.k = 6 then h.1 else if n.k = 7 then h.2 else true
  | .two k x y, h => anc x (hdA k h) && anc y (hdB k h)
  | .rep x _ _ _, _ => anc x (false, false)
theorem wy_root : ∀ (t : Tre) (h : Bool × Bool), wy t h (t.size - 1) = h
  | .leaf _, h => rfl
  | .two k x y, h => by
    simp only [wy, Tre.size, Nat.add_sub_cancel]
    rw [if_neg (by omega), if_neg (by omega)]
  | .rep x _ _ _, h => by
    simp only [wy, Tre.size, Nat.add_sub_cancel]
    rw [if_neg (by omega)]
theorem pr_root : ∀ (t : Tre), pr t (t.size - 1) = t.size
  | .leaf _ => rfl
  | .two k x y => by
    have := x.size_pos
    have := y.size_pos
    simp only [pr, Tre.size, Nat.add_sub_cancel]
    rw [if_neg (by omega), if_neg (by omega), if_neg (by omega), if_neg (by omega)]
  | .rep x _ _ _ => by
    have := x.size_pos
    simp only [pr, Tre.size, Nat.add_sub_cancel]
    rw [if_neg (by omega), if_neg (by omega)]
theorem anc_iff : ∀ (t : Tre) (h : Bool × Bool), anc t h = true ↔ ∀ p u, t.subs[p]? = some u → okA u (wy t h p) = true
  | .leaf n, h => by
    constructor
    · intro ha p u hu
      have hp := (List.getElem?_eq_some_iff.1 hu).1
      simp [Tre.subs] at hp
      subst hp
      simp [Tre.subs] at hu
      subst hu
      exact ha
    · intro ha
      exact ha 0 (.leaf n) rfl
  | .two k x y, h => by
    have lx := Tre.subs_length x
    have ly := Tre.subs_length y
    have ix := anc_iff x (hdA k h)
    have iy := anc_iff y (hdB k h)
    simp only [anc, Bool.and_eq_true]
    rw [ix, iy]
    constructor
    · rintro ⟨h1, h2⟩ p u hu
      have hp := (List.getElem?_eq_some_iff.1 hu).1
      rw [Tre.subs_length] at hp
      simp only [Tre.size] at hp
      unfold wy
      by_cases c1 : p < x.size
      · rw [if_pos c1]
        exact h1 p u (by rw [Tre.subs, List.append_assoc, List.getElem?_append_left (by omega)] at hu; exact hu)
      · rw [if_neg c1]
        by_cases c2 : p < x.size + y.size
        · rw [if_pos c2]
          exact h2 _ u (by rw [Tre.subs, List.append_assoc, List.getElem?_append_right (by omega), List.getElem?_append_left (by omega), lx] at hu; exact hu)
        · have : p = x.size + y.size := by omega
          subst this
          have := Tre.subs_last (.two k x y)
          simp only [Tre.size, Nat.add_sub_cancel] at this
          rw [this] at hu
          obtain rfl := Option.some.inj hu
          rfl
    · intro h0
      refine ⟨fun p u hu => ?_, fun p u hu => ?_⟩
      · have hp := (List.getElem?_eq_some_iff.1 hu).1
        have := h0 p u (by rw [Tre.subs, List.append_assoc, List.getElem?_append_left (by omega)]; exact hu)
        unfold wy at this
        rw [if_pos (by omega)] at this
        exact this
      · have hp := (List.getElem?_eq_some_iff.1 hu).1
        have := h0 (x.size + p) u (by rw [Tre.subs, List.append_assoc, List.getElem?_append_right (by omega), List.getElem?_append_left (by omega), lx, Nat.add_sub_cancel_left]; exact hu)
        unfold wy at this
        rw [if_neg (by omega), if_pos (by omega), Nat.add_sub_cancel_left] at this
        exact this
  | .rep x l m z, h => by
    have lx := Tre.subs_length x
    have ix := anc_iff x (false, false)
    simp only [anc]
    rw [ix]
    constructor
    · intro h1 p u hu
      have hp := (List.getElem?_eq_some_iff.1 hu).1
      rw [Tre.subs_length] at hp
      simp only [Tre.size] at hp
      unfold wy
      by_cases c1 : p < x.size
      · rw [if_pos c1]
        exact h1 p u (by rw [Tre.subs, List.getElem?_append_left (by omega)] at hu; exact hu)
      · have : p = x.size := by omega
        subst this
        have := Tre.subs_last (.rep x l m z)
        simp only [Tre.size, Nat.add_sub_cancel] at this
        rw [this] at hu
        obtain rfl := Option.some.inj hu
        rfl
    · intro h0 p u hu
      have hp := (List.getElem?_eq_some_iff.1 hu).1
      have := h0 p u (by rw [Tre.subs, List.getElem?_append_left (by omega)]; exact hu)
      unfold wy at this
      rw [if_pos (by omega)] at this
      exact this
/-- The ways of the parts of a node. -/
theorem wy_parts : ∀ (t : Tre) (h : Bool × Bool) (p : Nat) (u : Tre), t.subs[p]? = some u → ∀ i, i < u.size → wy t h (p + 1 - u.size + i) = wy u (wy t h p) i
  | .leaf n, h, p, u, hu, i, hi => by
    have hp := (List.getElem?_eq_some_iff.1 hu).1
    simp [Tre.subs] at hp
    subst hp
    simp [Tre.subs] at hu
    subst hu
    rfl
  | .two k x y, h, p, u, hu, i, hi => by
    have lx := Tre.subs_length x
    have ly := Tre.subs_length y
    have hp := (List.getElem?_eq_some_iff.1 hu).1
    rw [Tre.subs_length] at hp
    have hp' : p < x.size + y.size + 1 := hp
    by_cases c1 : p < x.size
    · have hx : x.subs[p]? = some u := by rw [Tre.subs, List.append_assoc, List.getElem?_append_left (by omega)] at hu; exact hu
      have hs := (subs_sub x p u hx).1
      have := wy_parts x (hdA k h) p u hx i hi
      have e1 : wy (.two k x y) h (p + 1 - u.size + i) = wy x (hdA k h) (p + 1 - u.size + i) := by
        simp only [wy]
        rw [if_pos (by omega)]
      have e2 : wy (.two k x y) h p = wy x (hdA k h) p := by
        simp only [wy]
        rw [if_pos c1]
      rw [e1, e2]; exact this
    · by_cases c2 : p < x.size + y.size
      · have hy : y.subs[p - x.size]? = some u := by rw [Tre.subs, List.append_assoc, List.getElem?_append_right (by omega), List.getElem?_append_left (by omega), lx] at hu; exact hu
        have hs := (subs_sub y _ u hy).1
        have := wy_parts y (hdB k h) _ u hy i hi
        have e1 : wy (.two k x y) h (p + 1 - u.size + i) = wy y (hdB k h) (p - x.size + 1 - u.size + i) := by
          simp only [wy]
          rw [if_neg (by omega), if_pos (by omega)]
          congr 1; omega
        have e2 : wy (.two k x y) h p = wy y (hdB k h) (p - x.size) := by
          simp only [wy]
          rw [if_neg c1, if_pos c2]
        rw [e1, e2]; exact this
      · have : p = x.size + y.size := by omega
        subst this
        have e := Tre.subs_last (.two k x y)
        simp only [Tre.size, Nat.add_sub_cancel] at e
        rw [e] at hu
        obtain rfl := Option.some.inj hu
        have e2 : wy (.two k x y) h (x.size + y.size) = h := by
          have := wy_root (.two k x y) h
          simpa [Tre.size] using this
        rw [e2]
        congr 1; simp [Tre.size]
  | .rep x l m z, h, p, u, hu, i, hi => by
    have lx := Tre.subs_length x
    have hp := (List.getElem?_eq_some_iff.1 hu).1
    rw [Tre.subs_length] at hp
    have hp' : p < x.size + 1 := hp
    by_cases c1 : p < x.size
    · have hx : x.subs[p]? = some u := by rw [Tre.subs, List.getElem?_append_left (by omega)] at hu; exact hu
      have hs := (subs_sub x p u hx).1
      have := wy_parts x (false, false) p u hx i hi
      have e1 : wy (.rep x l m z) h (p + 1 - u.size + i) = wy x (false, false) (p + 1 - u.size + i) := by
        simp only [wy]
        rw [if_pos (by omega)]
      have e2 : wy (.rep x l m z) h p = wy x (false, false) p := by
        simp only [wy]
        rw [if_pos c1]
      rw [e1, e2]; exact this
    · have : p = x.size := by omega
      subst this
      have e := Tre.subs_last (.rep x l m z)
      simp only [Tre.size, Nat.add_sub_cancel] at e
      rw [e] at hu
      obtain rfl := Option.some.inj hu
      have e2 : wy (.rep x l m z) h x.size = h := by
        have := wy_root (.rep x l m z) h
        simpa [Tre.size] using this
      rw [e2]
      congr 1; simp [Tre.size]
theorem wy_two {t : Tre} {h : Bool × Bool} {p : Nat} {k : Int} {x y : Tre} (hu : t.subs[p]? = some (.two k x y)) : wy t h (p - 1) = hdB k (wy t h p) ∧ wy t h (p - 1 - y.size) = hdA k (wy t h p) := by
  have sx := x.size_pos
  have sy := y.size_pos
  obtain ⟨h1, _, _⟩ := subs_two hu
  constructor
  · have := wy_parts t h p _ hu (x.size + y.size - 1) (by simp only [Tre.size]; omega)
    rw [show p + 1 - (Tre.two k x y).size + (x.size + y.size - 1) = p - 1 by simp only [Tre.size]; omega] at this
    rw [this]
    simp only [wy]
    rw [if_neg (by omega), if_pos (by omega), show x.size + y.size - 1 - x.size = y.size - 1 by omega, wy_root]
  · have := wy_parts t h p _ hu (x.size - 1) (by simp only [Tre.size]; omega)
    rw [show p + 1 - (Tre.two k x y).size + (x.size - 1) = p - 1 - y.size by simp only [Tre.size]; omega] at this
    rw [this]
    simp only [wy]
    rw [if_pos (by omega), wy_root]
theorem wy_rep {t : Tre} {h : Bool × Bool} {p : Nat} {l m : Int} {z : Bool} {x : Tre} (hu : t.subs[p]? = some (.rep x l m z)) : wy t h (p - 1) = (false, false) := by
  have sx := x.size_pos
  obtain ⟨h1, _⟩ := subs_rep hu
  have := wy_parts t h p _ hu (x.size - 1) (by simp only [Tre.size]; omega)
  rw [show p + 1 - (Tre.rep x l m z).size + (x.size - 1) = p - 1 by simp only [Tre.size]; omega] at this
  rw [this]
  simp only [wy]
  rw [if_pos (by omega), wy_root]
theorem pr_gt : ∀ (t : Tre) (q : Nat), q < t.size → q < pr t q
  | .leaf _, q, h => by simp [Tre.size] at h; simp [pr, h]
  | .two k x y, q, h => by
    simp only [Tre.size] at h
    unfold pr
    split
    · exact pr_gt x q (by omega)
    · split
      · omega
      · split
        · have := pr_gt y (q - x.size) (by omega); omega
        · split <;> omega
  | .rep x l m z, q, h => by
    simp only [Tre.size] at h
    unfold pr
    split
    · exact pr_gt x q (by omega)
    · split <;> omega
theorem pr_le : ∀ (t : Tre) (q : Nat), q + 1 < t.size → pr t q < t.size
  | .leaf _, q, h => by simp [Tre.size] at h
  | .two k x y, q, h => by
    simp only [Tre.size] at *
    unfold pr
    split
    · have := pr_le x q (by omega); omega
    · split
      · omega
      · split
        · have := pr_le y (q - x.size) (by omega); omega
        · split <;> omega
  | .rep x l m z, q, h => by
    simp only [Tre.size] at *
    unfold pr
    split
    · have := pr_le x q (by omega); omega
    · split <;> omega
/-- Whose part a node is. -/
theorem pr_is : ∀ (t : Tre) (q : Nat), q + 1 < t.size → (∃ k x y, t.subs[pr t q]? = some (.two k x y) ∧ (q = pr t q - 1 ∨ q = pr t q - 1 - y.size)) ∨ ∃ x l m z, t.subs[pr t q]? = some (.rep x l m z) ∧ q = pr t q - 1
  | .leaf _, q, h => by simp [Tre.size] at h
  | .two k x y, q, h => by
    have lx := Tre.subs_length x
    have ly := Tre.subs_length y
    have sx := x.size_pos
    have sy := y.size_pos
    have e := Tre.subs_last (.two k x y)
    simp only [Tre.size, Nat.add_sub_cancel] at e h
    by_cases c1 : q + 1 < x.size
    · have e1 : pr (.two k x y) q = pr x q := by simp only [pr]; rw [if_pos c1]
      have hl := pr_le x q c1
      rw [e1, Tre.subs, List.append_assoc, List.getElem?_append_left (by omega)]
      exact pr_is x q c1
    · by_cases c2 : q + 1 = x.size
      · have e1 : pr (.two k x y) q = x.size + y.size := by simp only [pr]; rw [if_neg c1, if_pos c2]
        rw [e1]
        exact .inl ⟨k, x, y, e, .inr (by omega)⟩
      · by_cases c3 : q + 1 < x.size + y.size
        · have e1 : pr (.two k x y) q = x.size + pr y (q - x.size) := by simp only [pr]; rw [if_neg c1, if_neg c2, if_pos c3]
          have hl := pr_le y (q - x.size) (by omega)
          have hg := pr_gt y (q - x.size) (by omega)
          rw [e1, Tre.subs, List.append_assoc, List.getElem?_append_right (by omega), lx, Nat.add_sub_cancel_left, List.getElem?_append_left (by omega)]
          rcases pr_is y (q - x.size) (by omega) with ⟨k', x', y', h1, h2⟩ | ⟨x', l', m', z', h1, h2⟩
          · have := (subs_two h1).1
            have := x'.size_pos
            exact .inl ⟨k', x', y', h1, by omega⟩
          · exact .inr ⟨x', l', m', z', h1, by omega⟩
        · have e1 : pr (.two k x y) q = x.size + y.size := by simp only [pr]; rw [if_neg c1, if_neg c2, if_neg c3, if_pos (by omega)]
          rw [e1]
          exact .inl ⟨k, x, y, e, .inl (by omega)⟩
  | .rep x l m z, q, h => by
    have lx := Tre.subs_length x
    have sx := x.size_pos
    have e := Tre.subs_last (.rep x l m z)
    simp only [Tre.size, Nat.add_sub_cancel] at e h
    by_cases c1 : q + 1 < x.size
    · have e1 : pr (.rep x l m z) q = pr x q := by simp only [pr]; rw [if_pos c1]
      have hl := pr_le x q c1
      rw [e1, Tre.subs, List.getElem?_append_left (by omega)]
      exact pr_is x q c1
    · have e1 : pr (.rep x l m z) q = x.size := by simp only [pr]; rw [if_neg c1, if_pos (by omega)]
      rw [e1]
      exact .inr ⟨x, l, m, z, e, by omega⟩
end Go.Proofs.YthbmfnibgjlkhaaDoor
namespace Go.Proofs.YthbmfnibgjlkhaaDoor
/-- The ways behind which all nodes from k + 1 on were met. -/
def stW (t : Tre) (k : Nat) (q : Nat) : Bool × Bool := if pr t q > k then wy t (true, true) q else (false, false)
theorem stW_start (t : Tre) (q : Nat) (hq : q < t.size) : stW t (t.size - 1) q = if q = t.size - 1 then (true, true) else (false, false) := by
  unfold stW
  by_cases h : q = t.size - 1
  · subst h
    rw [pr_root, wy_root, if_pos (by omega), if_pos rfl]
  · have := pr_le t q (by omega)
    rw [if_neg (by omega), if_neg h]
theorem stW_self (t : Tre) (k : Nat) (hk : k < t.size) : stW t k k = wy t (true, true) k := by
  unfold stW
  rw [if_pos (pr_gt t k hk)]
theorem stW_leaf {t : Tre} {k : Nat} {n : Nd} (h : t.subs[k]? = some (.leaf n)) (hk : 0 < k) (q : Nat) (hq : q < t.size) : stW t k q = stW t (k - 1) q := by
  have hkl := (List.getElem?_eq_some_iff.1 h).1
  rw [Tre.subs_length] at hkl
  unfold stW
  by_cases e : pr t q = k
  · exfalso
    have hq1 : q + 1 < t.size := by
      rcases Nat.lt_or_ge (q + 1) t.size with h' | h'
      · exact h'
      · have : q = t.size - 1 := by omega
        subst this
        rw [pr_root] at e; omega
    rcases pr_is t q hq1 with ⟨_, _, _, h1, _⟩ | ⟨_, _, _, _, h1, _⟩ <;> rw [e, h] at h1 <;> cases h1
  · by_cases e2 : pr t q > k
    · rw [if_pos e2, if_pos (by omega)]
    · rw [if_neg e2, if_neg (by omega)]
theorem stW_rep {t : Tre} {k : Nat} {x : Tre} {l m : Int} {z : Bool} (h : t.subs[k]? = some (.rep x l m z)) (hk : 0 < k) (q : Nat) (hq : q < t.size) : stW t k q = stW t (k - 1) q := by
  have hkl := (List.getElem?_eq_some_iff.1 h).1
  rw [Tre.subs_length] at hkl
  unfold stW
  by_cases e : pr t q = k
  · have hq1 : q + 1 < t.size := by
      rcases Nat.lt_or_ge (q + 1) t.size with h' | h'
      · exact h'
      · have : q = t.size - 1 := by omega
        subst this
        rw [pr_root] at e; omega
    rw [if_neg (by omega), if_pos (by omega)]
    rcases pr_is t q hq1 with ⟨_, _, _, h1, _⟩ | ⟨_, _, _, _, h1, h2⟩
    · rw [e, h] at h1; cases h1
    · rw [e] at h2
      rw [h2, wy_rep h]
  · by_cases e2 : pr t q > k
    · rw [if_pos e2, if_pos (by omega)]
    · rw [if_neg e2, if_neg (by omega)]
theorem pr_child : ∀ (t : Tre) (p : Nat) (k : Int) (x y : Tre), t.subs[p]? = some (.two k x y) → pr t (p - 1) = p ∧ pr t (p - 1 - y.size) = p
  | .leaf _, p, k, x, y, h => by
    have hp := (List.getElem?_eq_some_iff.1 h).1
    simp [Tre.subs] at hp
    subst hp
    simp [Tre.subs] at h
  | .two k' x' y', p, k, x, y, h => by
    have lx := Tre.subs_length x'
    have ly := Tre.subs_length y'
    have sx := x.size_pos
    have sy := y.size_pos
    have sx' := x'.size_pos
    have sy' := y'.size_pos
    have hp := (List.getElem?_eq_some_iff.1 h).1
    rw [Tre.subs_length] at hp
    have hp' : p < x'.size + y'.size + 1 := hp
    by_cases c1 : p < x'.size
    · have hx : x'.subs[p]? = some (.two k x y) := by rw [Tre.subs, List.append_assoc, List.getElem?_append_left (by omega)] at h; exact h
      have hs := (subs_two hx).1
      obtain ⟨i1, i2⟩ := pr_child x' p k x y hx
      simp only [pr]
      rw [if_pos (by omega), if_pos (by omega)]
      exact ⟨i1, i2⟩
    · by_cases c2 : p < x'.size + y'.size
      · have hy : y'.subs[p - x'.size]? = some (.two k x y) := by rw [Tre.subs, List.append_assoc, List.getElem?_append_right (by omega), List.getElem?_append_left (by omega), lx] at h; exact h
        have hs := (subs_two hy).1
        obtain ⟨i1, i2⟩ := pr_child y' _ k x y hy
        simp only [pr]
        rw [if_neg (by omega), if_neg (by omega), if_pos (by omega), if_neg (by omega), if_neg (by omega), if_pos (by omega)]
        rw [show p - 1 - x'.size = p - x'.size - 1 by omega, show p - 1 - y.size - x'.size = p - x'.size - 1 - y.size by omega, i1, i2]
        omega
      · have : p = x'.size + y'.size := by omega
        subst this
        have e := Tre.subs_last (.two k' x' y')
        simp only [Tre.size, Nat.add_sub_cancel] at e
        rw [e] at h
        obtain ⟨rfl, rfl, rfl⟩ : k' = k ∧ x' = x ∧ y' = y := by simpa using h
        simp only [pr]
        rw [if_neg (by omega), if_neg (by omega), if_neg (by omega), if_pos (by omega), if_neg (by omega), if_pos (by omega)]
        exact ⟨rfl, rfl⟩
  | .rep x' l m z, p, k, x, y, h => by
    have lx := Tre.subs_length x'
    have sx := x.size_pos
    have sy := y.size_pos
    have hp := (List.getElem?_eq_some_iff.1 h).1
    rw [Tre.subs_length] at hp
    have hp' : p < x'.size + 1 := hp
    by_cases c1 : p < x'.size
    · have hx : x'.subs[p]? = some (.two k x y) := by rw [Tre.subs, List.getElem?_append_left (by omega)] at h; exact h
      have hs := (subs_two hx).1
      obtain ⟨i1, i2⟩ := pr_child x' p k x y hx
      simp only [pr]
      rw [if_pos (by omega), if_pos (by omega)]
      exact ⟨i1, i2⟩
    · have : p = x'.size := by omega
      subst this
      have e := Tre.subs_last (.rep x' l m z)
      simp only [Tre.size, Nat.add_sub_cancel] at e
      rw [e] at h
      cases h
theorem pr_two {t : Tre} {p : Nat} {k : Int} {x y : Tre} (h : t.subs[p]? = some (.two k x y)) : ∀ q, q < t.size → (pr t q = p ↔ q = p - 1 ∨ q = p - 1 - y.size) := by
  intro q hq
  have hkl := (List.getElem?_eq_some_iff.1 h).1
  rw [Tre.subs_length] at hkl
  obtain ⟨i1, i2⟩ := pr_child t p k x y h
  constructor
  · intro e
    have hq1 : q + 1 < t.size := by
      rcases Nat.lt_or_ge (q + 1) t.size with h' | h'
      · exact h'
      · have : q = t.size - 1 := by omega
        subst this
        rw [pr_root] at e; omega
    rcases pr_is t q hq1 with ⟨k', x', y', h1, h2⟩ | ⟨_, _, _, _, h1, _⟩
    · rw [e, h] at h1
      obtain ⟨rfl, rfl, rfl⟩ : k = k' ∧ x = x' ∧ y = y' := by simpa using h1
      rw [e] at h2
      exact h2
    · rw [e, h] at h1; cases h1
  · rintro (rfl | rfl)
    · exact i1
    · exact i2
theorem stW_two {t : Tre} {p : Nat} {k : Int} {x y : Tre} (h : t.subs[p]? = some (.two k x y)) (q : Nat) (hq : q < t.size) : stW t (p - 1) q = if q = p - 1 then hdB k (wy t (true, true) p) else if q = p - 1 - y.size then hdA k (wy t (true, true) p) else stW t p q := by
  have hkl := (List.getElem?_eq_some_iff.1 h).1
  rw [Tre.subs_length] at hkl
  have sx := x.size_pos
  have sy := y.size_pos
  obtain ⟨h1, _, _⟩ := subs_two h
  obtain ⟨w1, w2⟩ := wy_two (h := (true, true)) h
  have hp := pr_two h q hq
  unfold stW
  by_cases e1 : q = p - 1
  · have : pr t q = p := hp.2 (.inl e1)
    rw [if_pos (by omega), if_pos e1, e1, w1]
  · rw [if_neg e1]
    by_cases e2 : q = p - 1 - y.size
    · have : pr t q = p := hp.2 (.inr e2)
      rw [if_pos (by omega), if_pos e2, e2, w2]
    · rw [if_neg e2]
      have : pr t q ≠ p := fun e => by rcases hp.1 e with h | h <;> contradiction
      by_cases e3 : pr t q > p
      · rw [if_pos e3, if_pos (by omega)]
      · rw [if_neg e3, if_neg (by omega)]
/-- Before they are met, the ways of the parts are not set. -/
theorem stW_unset {t : Tre} {p : Nat} {k : Int} {x y : Tre} (h : t.subs[p]? = some (.two k x y)) : stW t p (p - 1) = (false, false) ∧ stW t p (p - 1 - y.size) = (false, false) := by
  have hkl := (List.getElem?_eq_some_iff.1 h).1
  rw [Tre.subs_length] at hkl
  have e1 := (pr_two h (p - 1) (by omega)).2 (.inl rfl)
  have e2 := (pr_two h (p - 1 - y.size) (by omega)).2 (.inr rfl)
  unfold stW
  rw [e1, e2, if_neg (by omega), if_neg (by omega)]
  exact ⟨rfl, rfl⟩
end Go.Proofs.YthbmfnibgjlkhaaDoor
