/- Anchors of trees: plain facts. Ways as they stand in a round: plain facts. Trees turned round: plain facts. What stands within Mirror's loop: plain facts. -/
import Derived.Test.YtiiecppkabdkgabDoorTm
import Derived.Test.YtiiecppkabdkgabDoorGTailScWaWoWmWwMwMe
import Derived.Test.YtiiecppkabdkgabDoorGMvEmGrJoRp
namespace Go.Proofs.YtiiecppkabdkgabDoor
def hdA (k : Int) (h : Bool × Bool) : Bool × Bool := if k = 4 then h else (h.1, false)
def hdB (k : Int) (h : Bool × Bool) : Bool × Bool := if k = 4 then h else (false, h.2)
/-- Which anchors may stand at a place. -/
def wy : Tre → Bool × Bool → Nat → Bool × Bool
  | .leaf _, h, _ => h
  | .two k x y, h, p => if p < x.size then wy x (hdA k h) p else if p < x.size + y.size then wy y (hdB k h) (p - x.size) else h
  | .rep x _ _ _, h, p => if p < x.size then wy x (false, false) p else h
/-- Where the node stands that a node is a part of. -/
def pr : Tre → Nat → Nat
  | .leaf _, _ => 1
  | .two _ x y, p => if p + 1 < x.size then pr x p else if p + 1 = x.size then x.size + y.size else if p + 1 < x.size + y.size then x.size + pr y (p - x.size) else if p + 1 = x.size + y.size then x.size + y.size else x.size + y.size + 1
  | .rep x _ _ _, p => if p + 1 < x.size then pr x p else if p + 1 = x.size then x.size else x.size + 1
def okA : Tre → Bool × Bool → Bool
  | .leaf n, h => if n.k = 6 then h.1 else if n.k = 7 then h.2 else true
  | _, _ => true
def anc : Tre → Bool × Bool → Bool
  | .leaf n, h => if n.k = 6 then h.1 else if n.k = 7 then h.2 else true
  | .two k x y, h => anc x (hdA k h) && anc y (hdB k h)
  | .rep x _ _ _, _ => anc x (false, false)
theorem wy_root : ∀ (t : Tre) (h : Bool × Bool), wy t h (t.size - 1) = h
  | .leaf _, h => rfl
  | .two k x y, h => by
    simp only [wy, Tre.size, Nat.add_sub_cancel]
    rw [if_neg (by omega), if_neg (by omega)]
  | .rep x _ _ _, h => by
    simp only [wy, Tre.size, Nat.add_sub_cancel]
    rw [if_neg (by omega)]
theorem pr_root : ∀ (t : Tre), pr t (t.size - 1) = t.size
  | .leaf _ => rfl
  | .two k x y => by
    have := x.size_pos
    have := y.size_pos
    simp only [pr, Tre.size, Nat.add_sub_cancel]
    rw [if_neg (by omega), if_neg (by omega), if_neg (by omega), if_neg (by omega)]
  | .rep x _ _ _ => by
    have := x.size_pos
    simp only [pr, Tre.size, Nat.add_sub_cancel]
    rw [if_neg (by omega), if_neg (by omega)]
theorem anc_iff : ∀ (t : Tre) (h : Bool × Bool), anc t h = true ↔ ∀ p u, t.subs[p]? = some u → okA u (wy t h p) = true
  | .leaf n, h => by
    constructor
    · intro ha p u hu
      have hp := (List.getElem?_eq_some_iff.1 hu).1
      simp [Tre.subs] at hp
      subst hp
      simp [Tre.subs] at hu
      subst hu
      exact ha
    · intro ha
      exact ha 0 (.leaf n) rfl
  | .two k x y, h => by
    have lx := Tre.subs_length x
    have ly := Tre.subs_length y
    have ix := anc_iff x (hdA k h)
    have iy := anc_iff y (hdB k h)
    simp only [anc, Bool.and_eq_true]
    rw [ix, iy]
    constructor
    · rintro ⟨h1, h2⟩ p u hu
      have hp := (List.getElem?_eq_some_iff.1 hu).1
      rw [Tre.subs_length] at hp
      simp only [Tre.size] at hp
      unfold wy
      by_cases c1 : p < x.size
      · rw [if_pos c1]
        exact h1 p u (by rw [Tre.subs, List.append_assoc, List.getElem?_append_left (by omega)] at hu; exact hu)
      · rw [if_neg c1]
        by_cases c2 : p < x.size + y.size
        · rw [if_pos c2]
          exact h2 _ u (by rw [Tre.subs, List.append_assoc, List.getElem?_append_right (by omega), List.getElem?_append_left (by omega), lx] at hu; exact hu)
        · have : p = x.size + y.size := by omega
          subst this
          have := Tre.subs_last (.two k x y)
          simp only [Tre.size, Nat.add_sub_cancel] at this
          rw [this] at hu
          obtain rfl := Option.some.inj hu
          rfl
    · intro h0
      refine ⟨fun p u hu => ?_, fun p u hu => ?_⟩
      · have hp := (List.getElem?_eq_some_iff.1 hu).1
        have := h0 p u (by rw [Tre.subs, List.append_assoc, List.getElem?_append_left (by omega)]; exact hu)
        unfold wy at this
        rw [if_pos (by omega)] at this
        exact this
      · have hp := (List.getElem?_eq_some_iff.1 hu).1
        have := h0 (x.size + p) u (by rw [Tre.subs, List.append_assoc, List.getElem?_append_right (by omega), List.getElem?_append_left (by omega), lx, Nat.add_sub_cancel_left]; exact hu)
        unfold wy at this
        rw [if_neg (by omega), if_pos (by omega), Nat.add_sub_cancel_left] at this
        exact this
  | .rep x l m z, h => by
    have lx := Tre.subs_length x
    have ix := anc_iff x (false, false)
    simp only [anc]
    rw [ix]
    constructor
    · intro h1 p u hu
      have hp := (List.getElem?_eq_some_iff.1 hu).1
      rw [Tre.subs_length] at hp
      simp only [Tre.size] at hp
      unfold wy
      by_cases c1 : p < x.size
      · rw [if_pos c1]
        exact h1 p u (by rw [Tre.subs, List.getElem?_append_left (by omega)] at hu; exact hu)
      · have : p = x.size := by omega
        subst this
        have := Tre.subs_last (.rep x l m z)
        simp only [Tre.size, Nat.add_sub_cancel] at this
        rw [this] at hu
        obtain rfl := Option.some.inj hu
        rfl
    · intro h0 p u hu
      have hp := (List.getElem?_eq_some_iff.1 hu).1
      have := h0 p u (by rw [Tre.subs, List.getElem?_append_left (by omega)]; exact hu)
      unfold wy at this
      rw [if_pos (by omega)] at this
      exact this
/-- The ways of the parts of a node. -/
theorem wy_parts : ∀ (t : Tre) (h : Bool × Bool) (p : Nat) (u : Tre), t.subs[p]? = some u → ∀ i, i < u.size → wy t h (p + 1 - u.size + i) = wy u (wy t h p) i
  | .leaf n, h, p, u, hu, i, hi => by
    have hp := (List.getElem?_eq_some_iff.1 hu).1
    simp [Tre.subs] at hp
    subst hp
    simp [Tre.subs] at hu
    subst hu
    rfl
  | .two k x y, h, p, u, hu, i, hi => by
    have lx := Tre.subs_length x
    have ly := Tre.subs_length y
    have hp := (List.getElem?_eq_some_iff.1 hu).1
    rw [Tre.subs_length] at hp
    have hp' : p < x.size + y.size + 1 := hp
    by_cases c1 : p < x.size
    · have hx : x.subs[p]? = some u := by rw [Tre.subs, List.append_assoc, List.getElem?_append_left (by omega)] at hu; exact hu
      have hs := (subs_sub x p u hx).1
      have := wy_parts x (hdA k h) p u hx i hi
      have e1 : wy (.two k x y) h (p + 1 - u.size + i) = wy x (hdA k h) (p + 1 - u.size + i) := by
        simp only [wy]
        rw [if_pos (by omega)]
      have e2 : wy (.two k x y) h p = wy x (hdA k h) p := by
        simp only [wy]
        rw [if_pos c1]
      rw [e1, e2]; exact this
    · by_cases c2 : p < x.size + y.size
      · have hy : y.subs[p - x.size]? = some u := by rw [Tre.subs, List.append_assoc, List.getElem?_append_right (by omega), List.getElem?_append_left (by omega), lx] at hu; exact hu
        have hs := (subs_sub y _ u hy).1
        have := wy_parts y (hdB k h) _ u hy i hi
        have e1 : wy (.two k x y) h (p + 1 - u.size + i) = wy y (hdB k h) (p - x.size + 1 - u.size + i) := by
          simp only [wy]
          rw [if_neg (by omega), if_pos (by omega)]
          congr 1; omega
        have e2 : wy (.two k x y) h p = wy y (hdB k h) (p - x.size) := by
          simp only [wy]
          rw [if_neg c1, if_pos c2]
        rw [e1, e2]; exact this
      · have : p = x.size + y.size := by omega
        subst this
        have e := Tre.subs_last (.two k x y)
        simp only [Tre.size, Nat.add_sub_cancel] at e
        rw [e] at hu
        obtain rfl := Option.some.inj hu
        have e2 : wy (.two k x y) h (x.size + y.size) = h := by
          have := wy_root (.two k x y) h
          simpa [Tre.size] using this
        rw [e2]
        congr 1; simp [Tre.size]
  | .rep x l m z, h, p, u, hu, i, hi => by
    have lx := Tre.subs_length x
    have hp := (List.getElem?_eq_some_iff.1 hu).1
    rw [Tre.subs_length] at hp
    have hp' : p < x.size + 1 := hp
    by_cases c1 : p < x.size
    · have hx : x.subs[p]? = some u := by rw [Tre.subs, List.getElem?_append_left (by omega)] at hu; exact hu
      have hs := (subs_sub x p u hx).1
      have := wy_parts x (false, false) p u hx i hi
      have e1 : wy (.rep x l m z) h (p + 1 - u.size + i) = wy x (false, false) (p + 1 - u.size + i) := by
        simp only [wy]
        rw [if_pos (by omega)]
      have e2 : wy (.rep x l m z) h p = wy x (false, false) p := by
        simp only [wy]
        rw [if_pos c1]
      rw [e1, e2]; exact this
    · have : p = x.size := by omega
      subst this
      have e := Tre.subs_last (.rep x l m z)
      simp only [Tre.size, Nat.add_sub_cancel] at e
      rw [e] at hu
      obtain rfl := Option.some.inj hu
      have e2 : wy (.rep x l m z) h x.size = h := by
        have := wy_root (.rep x l m z) h
        simpa [Tre.size] using this
      rw [e2]
      congr 1; simp [Tre.size]
theorem wy_two {t : Tre} {h : Bool × Bool} {p : Nat} {k : Int} {x y : Tre} (hu : t.subs[p]? = some (.two k x y)) : wy t h (p - 1) = hdB k (wy t h p) ∧ wy t h (p - 1 - y.size) = hdA k (wy t h p) := by
  have sx := x.size_pos
  have sy := y.size_pos
  obtain ⟨h1, _, _⟩ := subs_two hu
  constructor
  · have := wy_parts t h p _ hu (x.size + y.size - 1) (by simp only [Tre.size]; omega)
    rw [show p + 1 - (Tre.two k x y).size + (x.size + y.size - 1) = p - 1 by simp only [Tre.size]; omega] at this
    rw [this]
    simp only [wy]
    rw [if_neg (by omega), if_pos (by omega), show x.size + y.size - 1 - x.size = y.size - 1 by omega, wy_root]
  · have := wy_parts t h p _ hu (x.size - 1) (by simp only [Tre.size]; omega)
    rw [show p + 1 - (Tre.two k x y).size + (x.size - 1) = p - 1 - y.size by simp only [Tre.size]; omega] at this
    rw [this]
    simp only [wy]
    rw [if_pos (by omega), wy_root]
theorem wy_rep {t : Tre} {h : Bool × Bool} {p : Nat} {l m : Int} {z : Bool} {x : Tre} (hu : t.subs[p]? = some (.rep x l m z)) : wy t h (p - 1) = (false, false) := by
  have sx := x.size_pos
  obtain ⟨h1, _⟩ := subs_rep hu
  have := wy_parts t h p _ hu (x.size - 1) (by simp only [Tre.size]; omega)
  rw [show p + 1 - (Tre.rep x l m z).size + (x.size - 1) = p - 1 by simp only [Tre.size]; omega] at this
  rw [this]
  simp only [wy]
  rw [if_pos (by omega), wy_root]
theorem pr_gt : ∀ (t : Tre) (q : Nat), q < t.size → q < pr t q
  | .leaf _, q, h => by simp [Tre.size] at h; simp [pr, h]
  | .two k x y, q, h => by
    simp only [Tre.size] at h
    unfold pr
    split
    · exact pr_gt x q (by omega)
    · split
      · omega
      · split
        · have := pr_gt y (q - x.size) (by omega); omega
        · split <;> omega
  | .rep x l m z, q, h => by
    simp only [Tre.size] at h
    unfold pr
    split
    · exact pr_gt x q (by omega)
    · split <;> omega
theorem pr_le : ∀ (t : Tre) (q : Nat), q + 1 < t.size → pr t q < t.size
  | .leaf _, q, h => by simp [Tre.size] at h
  | .two k x y, q, h => by
    simp only [Tre.size] at *
    unfold pr
    split
    · have := pr_le x q (by omega); omega
    · split
      · omega
      · split
        · have := pr_le y (q - x.size) (by omega); omega
        · split <;> omega
  | .rep x l m z, q, h => by
    simp only [Tre.size] at *
    unfold pr
    split
    · have := pr_le x q (by omega); omega
    · split <;> omega
/-- Whose part a node is. -/
theorem pr_is : ∀ (t : Tre) (q : Nat), q + 1 < t.size → (∃ k x y, t.subs[pr t q]? = some (.two k x y) ∧ (q = pr t q - 1 ∨ q = pr t q - 1 - y.size)) ∨ ∃ x l m z, t.subs[pr t q]? = some (.rep x l m z) ∧ q = pr t q - 1
  | .leaf _, q, h => by simp [Tre.size] at h
  | .two k x y, q, h => by
    have lx := Tre.subs_length x
    have ly := Tre.subs_length y
    have sx := x.size_pos
    have sy := y.size_pos
    have e := Tre.subs_last (.two k x y)
    simp only [Tre.size, Nat.add_sub_cancel] at e h
    by_cases c1 : q + 1 < x.size
    · have e1 : pr (.two k x y) q = pr x q := by simp only [pr]; rw [if_pos c1]
      have hl := pr_le x q c1
      rw [e1, Tre.subs, List.append_assoc, List.getElem?_append_left (by omega)]
      exact pr_is x q c1
    · by_cases c2 : q + 1 = x.size
      · have e1 : pr (.two k x y) q = x.size + y.size := by simp only [pr]; rw [if_neg c1, if_pos c2]
        rw [e1]
        exact .inl ⟨k, x, y, e, .inr (by omega)⟩
      · by_cases c3 : q + 1 < x.size + y.size
        · have e1 : pr (.two k x y) q = x.size + pr y (q - x.size) := by simp only [pr]; rw [if_neg c1, if_neg c2, if_pos c3]
          have hl := pr_le y (q - x.size) (by omega)
          have hg := pr_gt y (q - x.size) (by omega)
          rw [e1, Tre.subs, List.append_assoc, List.getElem?_append_right (by omega), lx, Nat.add_sub_cancel_left, List.getElem?_append_left (by omega)]
          rcases pr_is y (q - x.size) (by omega) with ⟨k', x', y', h1, h2⟩ | ⟨x', l', m', z', h1, h2⟩
          · have := (subs_two h1).1
            have := x'.size_pos
            exact .inl ⟨k', x', y', h1, by omega⟩
          · exact .inr ⟨x', l', m', z', h1, by omega⟩
        · have e1 : pr (.two k x y) q = x.size + y.size := by simp only [pr]; rw [if_neg c1, if_neg c2, if_neg c3, if_pos (by omega)]
          rw [e1]
          exact .inl ⟨k, x, y, e, .inl (by omega)⟩
  | .rep x l m z, q, h => by
    have lx := Tre.subs_length x
    have sx := x.size_pos
    have e := Tre.subs_last (.rep x l m z)
    simp only [Tre.size, Nat.add_sub_cancel] at e h
    by_cases c1 : q + 1 < x.size
    · have e1 : pr (.rep x l m z) q = pr x q := by simp only [pr]; rw [if_pos c1]
      have hl := pr_le x q c1
      rw [e1, Tre.subs, List.getElem?_append_left (by omega)]
      exact pr_is x q c1
    · have e1 : pr (.rep x l m z) q = x.size := by simp only [pr]; rw [if_neg c1, if_pos (by omega)]
      rw [e1]
      exact .inr ⟨x, l, m, z, e, by omega⟩
end Go.Proofs.YtiiecppkabdkgabDoor
namespace Go.Proofs.YtiiecppkabdkgabDoor
/-- The ways behind which all nodes from k + 1 on were met. -/
def stW (t : Tre) (k : Nat) (q : Nat) : Bool × Bool := if pr t q > k then wy t (true, true) q else (false, false)
theorem stW_start (t : Tre) (q : Nat) (hq : q < t.size) : stW t (t.size - 1) q = if q = t.size - 1 then (true, true) else (false, false) := by
  unfold stW
  by_cases h : q = t.size - 1
  · subst h
    rw [pr_root, wy_root, if_pos (by omega), if_pos rfl]
  · have := pr_le t q (by omega)
    rw [if_neg (by omega), if_neg h]
theorem stW_self (t : Tre) (k : Nat) (hk : k < t.size) : stW t k k = wy t (true, true) k := by
  unfold stW
  rw [if_pos (pr_gt t k hk)]
theorem stW_leaf {t : Tre} {k : Nat} {n : Nd} (h : t.subs[k]? = some (.leaf n)) (hk : 0 < k) (q : Nat) (hq : q < t.size) : stW t k q = stW t (k - 1) q := by
  have hkl := (List.getElem?_eq_some_iff.1 h).1
  rw [Tre.subs_length] at hkl
  unfold stW
  by_cases e : pr t q = k
  · exfalso
    have hq1 : q + 1 < t.size := by
      rcases Nat.lt_or_ge (q + 1) t.size with h' | h'
      · exact h'
      · have : q = t.size - 1 := by omega
        subst this
        rw [pr_root] at e; omega
    rcases pr_is t q hq1 with ⟨_, _, _, h1, _⟩ | ⟨_, _, _, _, h1, _⟩ <;> rw [e, h] at h1 <;> cases h1
  · by_cases e2 : pr t q > k
    · rw [if_pos e2, if_pos (by omega)]
    · rw [if_neg e2, if_neg (by omega)]
theorem stW_rep {t : Tre} {k : Nat} {x : Tre} {l m : Int} {z : Bool} (h : t.subs[k]? = some (.rep x l m z)) (hk : 0 < k) (q : Nat) (hq : q < t.size) : stW t k q = stW t (k - 1) q := by
  have hkl := (List.getElem?_eq_some_iff.1 h).1
  rw [Tre.subs_length] at hkl
  unfold stW
  by_cases e : pr t q = k
  · have hq1 : q + 1 < t.size := by
      rcases Nat.lt_or_ge (q + 1) t.size with h' | h'
      · exact h'
      · have : q = t.size - 1 := by omega
        subst this
        rw [pr_root] at e; omega
    rw [if_neg (by omega), if_pos (by omega)]
    rcases pr_is t q hq1 with ⟨_, _, _, h1, _⟩ | ⟨_, _, _, _, h1, h2⟩
    · rw [e, h] at h1; cases h1
    · rw [e] at h2
      rw [h2, wy_rep h]
  · by_cases e2 : pr t q > k
    · rw [if_pos e2, if_pos (by omega)]
    · rw [if_neg e2, if_neg (by omega)]
theorem pr_child : ∀ (t : Tre) (p : Nat) (k : Int) (x y : Tre), t.subs[p]? = some (.two k x y) → pr t (p - 1) = p ∧ pr t (p - 1 - y.size) = p
  | .leaf _, p, k, x, y, h => by
    have hp := (List.getElem?_eq_some_iff.1 h).1
    simp [Tre.subs] at hp
    subst hp
    simp [Tre.subs] at h
  | .two k' x' y', p, k, x, y, h => by
    have lx := Tre.subs_length x'
    have ly := Tre.subs_length y'
    have sx := x.size_pos
    have sy := y.size_pos
    have sx' := x'.size_pos
    have sy' := y'.size_pos
    have hp := (List.getElem?_eq_some_iff.1 h).1
    rw [Tre.subs_length] at hp
    have hp' : p < x'.size + y'.size + 1 := hp
    by_cases c1 : p < x'.size
    · have hx : x'.subs[p]? = some (.two k x y) := by rw [Tre.subs, List.append_assoc, List.getElem?_append_left (by omega)] at h; exact h
      have hs := (subs_two hx).1
      obtain ⟨i1, i2⟩ := pr_child x' p k x y hx
      simp only [pr]
      rw [if_pos (by omega), if_pos (by omega)]
      exact ⟨i1, i2⟩
    · by_cases c2 : p < x'.size + y'.size
      · have hy : y'.subs[p - x'.size]? = some (.two k x y) := by rw [Tre.subs, List.append_assoc, List.getElem?_append_right (by omega), List.getElem?_append_left (by omega), lx] at h; exact h
        have hs := (subs_two hy).1
        obtain ⟨i1, i2⟩ := pr_child y' _ k x y hy
        simp only [pr]
        rw [if_neg (by omega), if_neg (by omega), if_pos (by omega), if_neg (by omega), if_neg (by omega), if_pos (by omega)]
        rw [show p - 1 - x'.size = p - x'.size - 1 by omega, show p - 1 - y.size - x'.size = p - x'.size - 1 - y.size by omega, i1, i2]
        omega
      · have : p = x'.size + y'.size := by omega
        subst this
        have e := Tre.subs_last (.two k' x' y')
        simp only [Tre.size, Nat.add_sub_cancel] at e
        rw [e] at h
        obtain ⟨rfl, rfl, rfl⟩ : k' = k ∧ x' = x ∧ y' = y := by simpa using h
        simp only [pr]
        rw [if_neg (by omega), if_neg (by omega), if_neg (by omega), if_pos (by omega), if_neg (by omega), if_pos (by omega)]
        exact ⟨rfl, rfl⟩
  | .rep x' l m z, p, k, x, y, h => by
    have lx := Tre.subs_length x'
    have sx := x.size_pos
    have sy := y.size_pos
    have hp := (List.getElem?_eq_some_iff.1 h).1
    rw [Tre.subs_length] at hp
    have hp' : p < x'.size + 1 := hp
    by_cases c1 : p < x'.size
    · have hx : x'.subs[p]? = some (.two k x y) := by rw [Tre.subs, List.getElem?_append_left (by omega)] at h; exact h
      have hs := (subs_two hx).1
      obtain ⟨i1, i2⟩ := pr_child x' p k x y hx
      simp only [pr]
      rw [if_pos (by omega), if_pos (by omega)]
      exact ⟨i1, i2⟩
    · have : p = x'.size := by omega
      subst this
      have e := Tre.subs_last (.rep x' l m z)
      simp only [Tre.size, Nat.add_sub_cancel] at e
      rw [e] at h
      cases h
theorem pr_two {t : Tre} {p : Nat} {k : Int} {x y : Tre} (h : t.subs[p]? = some (.two k x y)) : ∀ q, q < t.size → (pr t q = p ↔ q = p - 1 ∨ q = p - 1 - y.size) := by
  intro q hq
  have hkl := (List.getElem?_eq_some_iff.1 h).1
  rw [Tre.subs_length] at hkl
  obtain ⟨i1, i2⟩ := pr_child t p k x y h
  constructor
  · intro e
    have hq1 : q + 1 < t.size := by
      rcases Nat.lt_or_ge (q + 1) t.size with h' | h'
      · exact h'
      · have : q = t.size - 1 := by omega
        subst this
        rw [pr_root] at e; omega
    rcases pr_is t q hq1 with ⟨k', x', y', h1, h2⟩ | ⟨_, _, _, _, h1, _⟩
    · rw [e, h] at h1
      obtain ⟨rfl, rfl, rfl⟩ : k = k' ∧ x = x' ∧ y = y' := by simpa using h1
      rw [e] at h2
      exact h2
    · rw [e, h] at h1; cases h1
  · rintro (rfl | rfl)
    · exact i1
    · exact i2
theorem stW_two {t : Tre} {p : Nat} {k : Int} {x y : Tre} (h : t.subs[p]? = some (.two k x y)) (q : Nat) (hq : q < t.size) : stW t (p - 1) q = if q = p - 1 then hdB k (wy t (true, true) p) else if q = p - 1 - y.size then hdA k (wy t (true, true) p) else stW t p q := by
  have hkl := (List.getElem?_eq_some_iff.1 h).1
  rw [Tre.subs_length] at hkl
  have sx := x.size_pos
  have sy := y.size_pos
  obtain ⟨h1, _, _⟩ := subs_two h
  obtain ⟨w1, w2⟩ := wy_two (h := (true, true)) h
  have hp := pr_two h q hq
  unfold stW
  by_cases e1 : q = p - 1
  · have : pr t q = p := hp.2 (.inl e1)
    rw [if_pos (by omega), if_pos e1, e1, w1]
  · rw [if_neg e1]
    by_cases e2 : q = p - 1 - y.size
    · have : pr t q = p := hp.2 (.inr e2)
      rw [if_pos (by omega), if_pos e2, e2, w2]
    · rw [if_neg e2]
      have : pr t q ≠ p := fun e => by rcases hp.1 e with h | h <;> contradiction
      by_cases e3 : pr t q > p
      · rw [if_pos e3, if_pos (by omega)]
      · rw [if_neg e3, if_neg (by omega)]
/-- Before they are met, the ways of the parts are not set. -/
theorem stW_unset {t : Tre} {p : Nat} {k : Int} {x y : Tre} (h : t.subs[p]? = some (.two k x y)) : stW t p (p - 1) = (false, false) ∧ stW t p (p - 1 - y.size) = (false, false) := by
  have hkl := (List.getElem?_eq_some_iff.1 h).1
  rw [Tre.subs_length] at hkl
  have e1 := (pr_two h (p - 1) (by omega)).2 (.inl rfl)
  have e2 := (pr_two h (p - 1 - y.size) (by omega)).2 (.inr rfl)
  unfold stW
  rw [e1, e2, if_neg (by omega), if_neg (by omega)]
  exact ⟨rfl, rfl⟩
end Go.Proofs.YtiiecppkabdkgabDoor
namespace Go.Proofs.YtiiecppkabdkgabDoor
def swp (n : Nd) : Nd := if n.k = 6 then { n with k := 7 } else if n.k = 7 then { n with k := 6 } else n
/-- A tree turned round. -/
def mir : Tre → Tre
  | .leaf n => .leaf (swp n)
  | .two k x y => if k = 3 then .two k (mir y) (mir x) else .two k (mir x) (mir y)
  | .rep x l m z => .rep (mir x) l m z
theorem mir_size : ∀ t : Tre, (mir t).size = t.size
  | .leaf n => rfl
  | .two k x y => by
    have hx := mir_size x
    have hy := mir_size y
    unfold mir
    split
    · simp only [Tre.size, hx, hy]; omega
    · simp only [Tre.size, hx, hy]
  | .rep x l m z => by
    have hx := mir_size x
    simp only [mir, Tre.size, hx]
theorem swp_swp {n : Nd} : swp (swp n) = n := by
  obtain ⟨k, c0, c1, c2, c3, a, b, l, m, z⟩ := n
  unfold swp
  by_cases h6 : k = 6
  · subst h6; simp
  · by_cases h7 : k = 7
    · subst h7; simp
    · simp [h6, h7]
theorem mir_mir : ∀ t : Tre, mir (mir t) = t
  | .leaf n => by simp only [mir, swp_swp]
  | .two k x y => by
    have hx := mir_mir x
    have hy := mir_mir y
    by_cases h : k = 3
    · simp only [mir, h, if_true, hx, hy]
    · simp only [mir, h, if_false, hx, hy]
  | .rep x l m z => by simp only [mir, mir_mir x]
theorem lf_swp {n : Nd} (h : Tre.lf n = true) : Tre.lf (swp n) = true := by
  obtain ⟨k, c0, c1, c2, c3, a, b, l, m, z⟩ := n
  unfold swp
  by_cases h6 : k = 6
  · subst h6
    simp [Tre.lf, Nd.eq] at h ⊢
    exact h
  · by_cases h7 : k = 7
    · subst h7
      simp [Tre.lf, Nd.eq] at h ⊢
      exact h
    · simp only [h6, h7, if_false]; exact h
theorem mir_ok : ∀ t : Tre, t.ok = true → (mir t).ok = true
  | .leaf n, h => lf_swp h
  | .two k x y, h => by
    simp only [Tre.ok, Bool.and_eq_true] at h
    have hx := mir_ok x h.1.2
    have hy := mir_ok y h.2
    unfold mir
    split
    · simp only [Tre.ok, Bool.and_eq_true]; exact ⟨⟨h.1.1, hy⟩, hx⟩
    · simp only [Tre.ok, Bool.and_eq_true]; exact ⟨⟨h.1.1, hx⟩, hy⟩
  | .rep x l m z, h => by
    simp only [Tre.ok, Bool.and_eq_true] at h
    simp only [mir, Tre.ok, Bool.and_eq_true]
    exact ⟨h.1, mir_ok x h.2⟩
/-- Where the subtree of a node begins when it is turned. -/
def bg : Tre → Nat → Nat → Nat
  | .leaf _, o, _ => o
  | .two k x y, o, p => if k = 3 then (if p < x.size then bg x (o + y.size) p else if p < x.size + y.size then bg y o (p - x.size) else o) else (if p < x.size then bg x o p else if p < x.size + y.size then bg y (o + x.size) (p - x.size) else o)
  | .rep x _ _ _, o, p => if p < x.size then bg x o p else o
theorem bg_root : ∀ (t : Tre) (o : Nat), bg t o (t.size - 1) = o
  | .leaf _, o => rfl
  | .two k x y, o => by
    by_cases hk : k = 3
    · simp only [bg, Tre.size, Nat.add_sub_cancel, if_pos hk, if_neg (show ¬ x.size + y.size < x.size by omega), if_neg (show ¬ x.size + y.size < x.size + y.size by omega)]
    · simp only [bg, Tre.size, Nat.add_sub_cancel, if_neg hk, if_neg (show ¬ x.size + y.size < x.size by omega), if_neg (show ¬ x.size + y.size < x.size + y.size by omega)]
  | .rep x _ _ _, o => by
    simp only [bg, Tre.size, Nat.add_sub_cancel]
    rw [if_neg (by omega)]
theorem two_subs {k : Int} {x y : Tre} {p : Nat} {u : Tre} (h : (Tre.two k x y).subs[p]? = some u) : (p < x.size ∧ x.subs[p]? = some u) ∨ (x.size ≤ p ∧ p < x.size + y.size ∧ y.subs[p - x.size]? = some u) ∨ (p = x.size + y.size ∧ u = .two k x y) := by
  have lx := Tre.subs_length x
  have ly := Tre.subs_length y
  have hp := (List.getElem?_eq_some_iff.1 h).1
  rw [Tre.subs_length] at hp
  have hp' : p < x.size + y.size + 1 := hp
  rw [Tre.subs, List.append_assoc] at h
  by_cases c1 : p < x.size
  · rw [List.getElem?_append_left (by omega)] at h
    exact .inl ⟨c1, h⟩
  · rw [List.getElem?_append_right (by omega), lx] at h
    by_cases c2 : p < x.size + y.size
    · rw [List.getElem?_append_left (by omega)] at h
      exact .inr (.inl ⟨by omega, c2, h⟩)
    · rw [List.getElem?_append_right (by omega), ly, show p - x.size - y.size = 0 by omega] at h
      exact .inr (.inr ⟨by omega, by simpa using h.symm⟩)
theorem rep_subs {x : Tre} {l m : Int} {z : Bool} {p : Nat} {u : Tre} (h : (Tre.rep x l m z).subs[p]? = some u) : (p < x.size ∧ x.subs[p]? = some u) ∨ (p = x.size ∧ u = .rep x l m z) := by
  have lx := Tre.subs_length x
  have hp := (List.getElem?_eq_some_iff.1 h).1
  rw [Tre.subs_length] at hp
  have hp' : p < x.size + 1 := hp
  rw [Tre.subs] at h
  by_cases c1 : p < x.size
  · rw [List.getElem?_append_left (by omega)] at h
    exact .inl ⟨c1, h⟩
  · rw [List.getElem?_append_right (by omega), lx, show p - x.size = 0 by omega] at h
    exact .inr ⟨by omega, by simpa using h.symm⟩
theorem leaf_subs {n : Nd} {p : Nat} {u : Tre} (h : (Tre.leaf n).subs[p]? = some u) : p = 0 ∧ u = .leaf n := by
  have hp := (List.getElem?_eq_some_iff.1 h).1
  simp [Tre.subs] at hp
  subst hp
  simp [Tre.subs] at h
  exact ⟨rfl, h.symm⟩
theorem subs_two_l {k : Int} {x y : Tre} {i : Nat} (h : i < x.size) : (Tre.two k x y).subs[i]? = x.subs[i]? := by
  rw [Tre.subs, List.append_assoc, List.getElem?_append_left (by rw [Tre.subs_length]; exact h)]
theorem subs_two_r {k : Int} {x y : Tre} {i : Nat} (h : i < y.size) : (Tre.two k x y).subs[x.size + i]? = y.subs[i]? := by
  have lx := Tre.subs_length x
  have ly := Tre.subs_length y
  rw [Tre.subs, List.append_assoc, List.getElem?_append_right (by omega), List.getElem?_append_left (by omega), lx, Nat.add_sub_cancel_left]
theorem subs_rep_l {x : Tre} {l m : Int} {z : Bool} {i : Nat} (h : i < x.size) : (Tre.rep x l m z).subs[i]? = x.subs[i]? := by
  rw [Tre.subs, List.getElem?_append_left (by rw [Tre.subs_length]; exact h)]
/-- Where it lies, it is the subtree turned. -/
theorem bg_at : ∀ (t : Tre) (o p : Nat) (u : Tre), t.subs[p]? = some u → o ≤ bg t o p ∧ bg t o p + u.size ≤ o + t.size ∧ (mir t).subs[bg t o p - o + u.size - 1]? = some (mir u)
  | .leaf n, o, p, u, h => by
    obtain ⟨rfl, rfl⟩ := leaf_subs h
    simp [bg, Tre.size, mir, Tre.subs]
  | .two k x y, o, p, u, h => by
    have sx := mir_size x
    have sy := mir_size y
    have pu := u.size_pos
    by_cases hk : k = 3
    · have hm : mir (.two k x y) = .two k (mir y) (mir x) := by simp [mir, hk]
      rcases two_subs h with ⟨h1, h2⟩ | ⟨h0, h1, h2⟩ | ⟨rfl, rfl⟩
      · obtain ⟨a1, a2, a3⟩ := bg_at x (o + y.size) p u h2
        simp only [bg, hk, if_true, if_pos h1, Tre.size]
        refine ⟨by omega, by omega, ?_⟩
        rw [← hk, hm, ← a3, show bg x (o + y.size) p - o + u.size - 1 = (mir y).size + (bg x (o + y.size) p - (o + y.size) + u.size - 1) by omega]
        exact subs_two_r (by omega)
      · obtain ⟨a1, a2, a3⟩ := bg_at y o (p - x.size) u h2
        simp only [bg, hk, if_true, if_neg (show ¬ p < x.size by omega), if_pos h1, Tre.size]
        refine ⟨by omega, by omega, ?_⟩
        rw [← hk, hm, ← a3]
        exact subs_two_l (by omega)
      · simp only [bg, hk, if_true, if_neg (show ¬ x.size + y.size < x.size by omega), if_neg (show ¬ x.size + y.size < x.size + y.size by omega), Tre.size]
        refine ⟨by omega, by omega, ?_⟩
        have := Tre.subs_last (mir (.two k x y))
        rw [mir_size] at this
        rw [← hk, show o - o + (x.size + y.size + 1) - 1 = (Tre.two k x y).size - 1 by simp only [Tre.size]; omega]
        exact this
    · have hm : mir (.two k x y) = .two k (mir x) (mir y) := by simp [mir, hk]
      rcases two_subs h with ⟨h1, h2⟩ | ⟨h0, h1, h2⟩ | ⟨rfl, rfl⟩
      · obtain ⟨a1, a2, a3⟩ := bg_at x o p u h2
        simp only [bg, if_neg hk, if_pos h1, Tre.size]
        refine ⟨by omega, by omega, ?_⟩
        rw [hm, ← a3]
        exact subs_two_l (by omega)
      · obtain ⟨a1, a2, a3⟩ := bg_at y (o + x.size) (p - x.size) u h2
        simp only [bg, if_neg hk, if_neg (show ¬ p < x.size by omega), if_pos h1, Tre.size]
        refine ⟨by omega, by omega, ?_⟩
        rw [hm, ← a3, show bg y (o + x.size) (p - x.size) - o + u.size - 1 = (mir x).size + (bg y (o + x.size) (p - x.size) - (o + x.size) + u.size - 1) by omega]
        exact subs_two_r (by omega)
      · simp only [bg, if_neg hk, if_neg (show ¬ x.size + y.size < x.size by omega), if_neg (show ¬ x.size + y.size < x.size + y.size by omega), Tre.size]
        refine ⟨by omega, by omega, ?_⟩
        have := Tre.subs_last (mir (.two k x y))
        rw [mir_size] at this
        rw [show o - o + (x.size + y.size + 1) - 1 = (Tre.two k x y).size - 1 by simp only [Tre.size]; omega]
        exact this
  | .rep x l m z, o, p, u, h => by
    have sx := mir_size x
    have pu := u.size_pos
    rcases rep_subs h with ⟨h1, h2⟩ | ⟨rfl, rfl⟩
    · obtain ⟨a1, a2, a3⟩ := bg_at x o p u h2
      simp only [bg, if_pos h1, Tre.size]
      refine ⟨by omega, by omega, ?_⟩
      rw [mir, ← a3]
      exact subs_rep_l (by omega)
    · simp only [bg, if_neg (show ¬ x.size < x.size by omega), Tre.size]
      refine ⟨by omega, by omega, ?_⟩
      have := Tre.subs_last (mir (.rep x l m z))
      rw [mir_size] at this
      rw [show o - o + (x.size + 1) - 1 = (Tre.rep x l m z).size - 1 by simp only [Tre.size]; omega]
      exact this
/-- Where the parts of two begin. -/
theorem bg_two : ∀ (t : Tre) (o p : Nat) (k : Int) (x y : Tre), t.subs[p]? = some (.two k x y) → (k = 3 → bg t o (p - 1) = bg t o p ∧ bg t o (p - 1 - y.size) = bg t o p + y.size) ∧ (k ≠ 3 → bg t o (p - 1 - y.size) = bg t o p ∧ bg t o (p - 1) = bg t o p + x.size)
  | .leaf n, o, p, k, x, y, h => by
    obtain ⟨_, h⟩ := leaf_subs h
    cases h
  | .two k' x' y', o, p, k, x, y, h => by
    have hq := subs_two h
    have px := x.size_pos
    have py := y.size_pos
    have px' := x'.size_pos
    have py' := y'.size_pos
    rcases two_subs h with ⟨h1, h2⟩ | ⟨h0, h1, h2⟩ | ⟨rfl, e⟩
    · have hs := (subs_two h2).1
      by_cases hk : k' = 3
      · simp only [bg, if_pos hk, if_pos h1, if_pos (show p - 1 < x'.size by omega), if_pos (show p - 1 - y.size < x'.size by omega)]
        exact bg_two x' (o + y'.size) p k x y h2
      · simp only [bg, if_neg hk, if_pos h1, if_pos (show p - 1 < x'.size by omega), if_pos (show p - 1 - y.size < x'.size by omega)]
        exact bg_two x' o p k x y h2
    · have hs := (subs_two h2).1
      have e1 : p - 1 - x'.size = p - x'.size - 1 := by omega
      have e2 : p - 1 - y.size - x'.size = p - x'.size - 1 - y.size := by omega
      by_cases hk : k' = 3
      · simp only [bg, if_pos hk, if_neg (show ¬ p < x'.size by omega), if_pos h1, if_neg (show ¬ p - 1 < x'.size by omega), if_pos (show p - 1 < x'.size + y'.size by omega), if_neg (show ¬ p - 1 - y.size < x'.size by omega), if_pos (show p - 1 - y.size < x'.size + y'.size by omega), e1, e2]
        exact bg_two y' o (p - x'.size) k x y h2
      · simp only [bg, if_neg hk, if_neg (show ¬ p < x'.size by omega), if_pos h1, if_neg (show ¬ p - 1 < x'.size by omega), if_pos (show p - 1 < x'.size + y'.size by omega), if_neg (show ¬ p - 1 - y.size < x'.size by omega), if_pos (show p - 1 - y.size < x'.size + y'.size by omega), e1, e2]
        exact bg_two y' (o + x'.size) (p - x'.size) k x y h2
    · obtain ⟨rfl, rfl, rfl⟩ : k = k' ∧ x = x' ∧ y = y' := by simpa using e
      have rx := bg_root x
      have ry := bg_root y
      have e1 : x.size + y.size - 1 - x.size = y.size - 1 := by omega
      have e2 : x.size + y.size - 1 - y.size = x.size - 1 := by omega
      refine ⟨fun hk => ?_, fun hk => ?_⟩
      · simp only [bg, if_pos hk, if_neg (show ¬ x.size + y.size < x.size by omega), if_neg (show ¬ x.size + y.size < x.size + y.size by omega), if_neg (show ¬ x.size + y.size - 1 < x.size by omega), if_pos (show x.size + y.size - 1 < x.size + y.size by omega), e1, e2, if_pos (show x.size - 1 < x.size by omega), rx, ry]
        exact ⟨trivial, trivial⟩
      · simp only [bg, if_neg hk, if_neg (show ¬ x.size + y.size < x.size by omega), if_neg (show ¬ x.size + y.size < x.size + y.size by omega), if_neg (show ¬ x.size + y.size - 1 < x.size by omega), if_pos (show x.size + y.size - 1 < x.size + y.size by omega), e1, e2, if_pos (show x.size - 1 < x.size by omega), rx, ry]
        exact ⟨trivial, trivial⟩
  | .rep x' l m z, o, p, k, x, y, h => by
    have hq := subs_two h
    have px := x.size_pos
    rcases rep_subs h with ⟨h1, h2⟩ | ⟨rfl, e⟩
    · simp only [bg, if_pos h1, if_pos (show p - 1 < x'.size by omega), if_pos (show p - 1 - y.size < x'.size by omega)]
      exact bg_two x' o p k x y h2
    · cases e
theorem bg_rep : ∀ (t : Tre) (o p : Nat) (x : Tre) (l m : Int) (z : Bool), t.subs[p]? = some (.rep x l m z) → bg t o (p - 1) = bg t o p
  | .leaf n, o, p, x, l, m, z, h => by
    obtain ⟨_, h⟩ := leaf_subs h
    cases h
  | .two k' x' y', o, p, x, l, m, z, h => by
    have hq := subs_rep h
    have px := x.size_pos
    have px' := x'.size_pos
    rcases two_subs h with ⟨h1, h2⟩ | ⟨h0, h1, h2⟩ | ⟨rfl, e⟩
    · by_cases hk : k' = 3
      · simp only [bg, if_pos hk, if_pos h1, if_pos (show p - 1 < x'.size by omega)]
        exact bg_rep x' (o + y'.size) p x l m z h2
      · simp only [bg, if_neg hk, if_pos h1, if_pos (show p - 1 < x'.size by omega)]
        exact bg_rep x' o p x l m z h2
    · have hs := (subs_rep h2).1
      have e1 : p - 1 - x'.size = p - x'.size - 1 := by omega
      by_cases hk : k' = 3
      · simp only [bg, if_pos hk, if_neg (show ¬ p < x'.size by omega), if_pos h1, if_neg (show ¬ p - 1 < x'.size by omega), if_pos (show p - 1 < x'.size + y'.size by omega), e1]
        exact bg_rep y' o (p - x'.size) x l m z h2
      · simp only [bg, if_neg hk, if_neg (show ¬ p < x'.size by omega), if_pos h1, if_neg (show ¬ p - 1 < x'.size by omega), if_pos (show p - 1 < x'.size + y'.size by omega), e1]
        exact bg_rep y' (o + x'.size) (p - x'.size) x l m z h2
    · cases e
  | .rep x' l' m' z', o, p, x, l, m, z, h => by
    have hq := subs_rep h
    have px := x.size_pos
    rcases rep_subs h with ⟨h1, h2⟩ | ⟨rfl, e⟩
    · simp only [bg, if_pos h1, if_pos (show p - 1 < x'.size by omega)]
      exact bg_rep x' o p x l m z h2
    · obtain ⟨rfl, rfl, rfl, rfl⟩ : x = x' ∧ l = l' ∧ m = m' ∧ z = z' := by simpa using e
      simp only [bg, if_neg (show ¬ x.size < x.size by omega), if_pos (show x.size - 1 < x.size by omega)]
      exact bg_root x o
/-- Each place of the turned tree is some node's. -/
theorem bg_all : ∀ (t : Tre) (o i : Nat), i < t.size → ∃ p u, t.subs[p]? = some u ∧ bg t o p + u.size = o + i + 1
  | .leaf n, o, i, h => ⟨0, .leaf n, rfl, by simp [Tre.size] at h; simp [bg, Tre.size, h]⟩
  | .two k x y, o, i, h => by
    simp only [Tre.size] at h
    have last : (Tre.two k x y).subs[x.size + y.size]? = some (.two k x y) := Tre.subs_last (.two k x y)
    by_cases hk : k = 3
    · by_cases h1 : i < y.size
      · obtain ⟨p, u, hp, e⟩ := bg_all y o i h1
        have hl := (List.getElem?_eq_some_iff.1 hp).1
        rw [Tre.subs_length] at hl
        refine ⟨x.size + p, u, (subs_two_r hl).trans hp, ?_⟩
        simp only [bg, if_pos hk, if_neg (show ¬ x.size + p < x.size by omega), if_pos (show x.size + p < x.size + y.size by omega), Nat.add_sub_cancel_left]
        exact e
      · by_cases h2 : i < x.size + y.size
        · obtain ⟨p, u, hp, e⟩ := bg_all x (o + y.size) (i - y.size) (by omega)
          have hl := (List.getElem?_eq_some_iff.1 hp).1
          rw [Tre.subs_length] at hl
          refine ⟨p, u, (subs_two_l hl).trans hp, ?_⟩
          simp only [bg, if_pos hk, if_pos hl]
          omega
        · refine ⟨_, _, last, ?_⟩
          simp only [bg, if_pos hk, if_neg (show ¬ x.size + y.size < x.size by omega), if_neg (show ¬ x.size + y.size < x.size + y.size by omega), Tre.size]
          omega
    · by_cases h1 : i < x.size
      · obtain ⟨p, u, hp, e⟩ := bg_all x o i h1
        have hl := (List.getElem?_eq_some_iff.1 hp).1
        rw [Tre.subs_length] at hl
        refine ⟨p, u, (subs_two_l hl).trans hp, ?_⟩
        simp only [bg, if_neg hk, if_pos hl]
        exact e
      · by_cases h2 : i < x.size + y.size
        · obtain ⟨p, u, hp, e⟩ := bg_all y (o + x.size) (i - x.size) (by omega)
          have hl := (List.getElem?_eq_some_iff.1 hp).1
          rw [Tre.subs_length] at hl
          refine ⟨x.size + p, u, (subs_two_r hl).trans hp, ?_⟩
          simp only [bg, if_neg hk, if_neg (show ¬ x.size + p < x.size by omega), if_pos (show x.size + p < x.size + y.size by omega), Nat.add_sub_cancel_left]
          omega
        · refine ⟨_, _, last, ?_⟩
          simp only [bg, if_neg hk, if_neg (show ¬ x.size + y.size < x.size by omega), if_neg (show ¬ x.size + y.size < x.size + y.size by omega), Tre.size]
          omega
  | .rep x l m z, o, i, h => by
    simp only [Tre.size] at h
    have last : (Tre.rep x l m z).subs[x.size]? = some (.rep x l m z) := Tre.subs_last (.rep x l m z)
    by_cases h1 : i < x.size
    · obtain ⟨p, u, hp, e⟩ := bg_all x o i h1
      have hl := (List.getElem?_eq_some_iff.1 hp).1
      rw [Tre.subs_length] at hl
      refine ⟨p, u, (subs_rep_l hl).trans hp, ?_⟩
      simp only [bg, if_pos hl]
      exact e
    · refine ⟨_, _, last, ?_⟩
      simp only [bg, if_neg (show ¬ x.size < x.size by omega), Tre.size]
      omega
/-- Turned round, anchors stand as they stood. -/
theorem anc_mir : ∀ (t : Tre) (h d : Bool), t.ok = true → anc (mir t) (h, d) = anc t (d, h)
  | .leaf n, h, d, _ => by
    obtain ⟨k, c0, c1, c2, c3, a, b, l, m, z⟩ := n
    simp only [mir, anc, swp]
    by_cases h6 : k = 6
    · subst h6; simp
    · by_cases h7 : k = 7
      · subst h7; simp
      · simp [h6, h7]
  | .two k x y, h, d, ho => by
    simp only [Tre.ok, Bool.and_eq_true, Bool.or_eq_true, beq_iff_eq] at ho
    have hx := fun h d => anc_mir x h d ho.1.2
    have hy := fun h d => anc_mir y h d ho.2
    rcases ho.1.1 with rfl | rfl
    · simp only [mir, anc, hdA, hdB, if_true]
      simp [hx, hy, Bool.and_comm]
    · simp only [mir, anc, hdA, hdB]
      simp [hx, hy, anc, hdA, hdB]
  | .rep x l m z, h, d, ho => by
    simp only [Tre.ok, Bool.and_eq_true] at ho
    simp only [mir, anc]
    exact anc_mir x false false ho.2
theorem pl_comm (a b : Int) : pl a b = pl b a := by
  unfold pl
  split <;> split <;> omega
theorem gr_comm (a b : Int) : gr a b = gr b a := by
  unfold gr
  split <;> split <;> omega
theorem wt_mir : ∀ t : Tre, wt (mir t) = wt t
  | .leaf n => by
    obtain ⟨k, c0, c1, c2, c3, a, b, l, m, z⟩ := n
    simp only [mir, wt, swp]
    by_cases h6 : k = 6
    · subst h6; simp
    · by_cases h7 : k = 7
      · subst h7; simp
      · simp [h6, h7]
  | .two k x y => by
    by_cases hk : k = 3
    · simp only [mir, if_pos hk, wt, wt_mir x, wt_mir y]; exact pl_comm _ _
    · simp only [mir, if_neg hk, wt, wt_mir x, wt_mir y]
  | .rep x l m z => by simp only [mir, wt, wt_mir x]
theorem wl_mir : ∀ t : Tre, wl (mir t) = wl t
  | .leaf n => by
    obtain ⟨k, c0, c1, c2, c3, a, b, l, m, z⟩ := n
    simp only [mir, wl, swp]
    by_cases h6 : k = 6
    · subst h6; simp
    · by_cases h7 : k = 7
      · subst h7; simp
      · simp [h6, h7]
  | .two k x y => by
    by_cases hk : k = 3
    · simp only [mir, if_pos hk, wl, wl_mir x, wl_mir y]; exact pl_comm _ _
    · simp only [mir, if_neg hk, wl, wl_mir x, wl_mir y]
  | .rep x l m z => by simp only [mir, wl, wl_mir x]
theorem wg_mir : ∀ t : Tre, wg (mir t) = wg t
  | .leaf n => by
    obtain ⟨k, c0, c1, c2, c3, a, b, l, m, z⟩ := n
    simp only [mir, wg, swp]
    by_cases h6 : k = 6
    · subst h6; simp
    · by_cases h7 : k = 7
      · subst h7; simp
      · simp [h6, h7]
  | .two k x y => by
    by_cases hk : k = 3
    · simp only [mir, if_pos hk, wg, wg_mir x, wg_mir y]; exact pl_comm _ _
    · simp only [mir, if_neg hk, wg, wg_mir x, wg_mir y]
  | .rep x l m z => by simp only [mir, wg, wg_mir x]
end Go.Proofs.YtiiecppkabdkgabDoor
namespace Go.Proofs.YtiiecppkabdkgabDoor
theorem pr_rep_child : ∀ (t : Tre) (p : Nat) (x : Tre) (l m : Int) (z : Bool), t.subs[p]? = some (.rep x l m z) → pr t (p - 1) = p
  | .leaf _, p, x, l, m, z, h => by
    obtain ⟨_, h⟩ := leaf_subs h
    cases h
  | .two k' x' y', p, x, l, m, z, h => by
    have hq := subs_rep h
    have px := x.size_pos
    have px' := x'.size_pos
    rcases two_subs h with ⟨h1, h2⟩ | ⟨h0, h1, h2⟩ | ⟨rfl, e⟩
    · have i1 := pr_rep_child x' p x l m z h2
      simp only [pr]
      rw [if_pos (by omega)]
      exact i1
    · have hs := (subs_rep h2).1
      have i1 := pr_rep_child y' _ x l m z h2
      simp only [pr]
      rw [if_neg (by omega), if_neg (by omega), if_pos (by omega), show p - 1 - x'.size = p - x'.size - 1 by omega, i1]
      omega
    · cases e
  | .rep x' l' m' z', p, x, l, m, z, h => by
    have hq := subs_rep h
    have px := x.size_pos
    rcases rep_subs h with ⟨h1, h2⟩ | ⟨rfl, e⟩
    · have i1 := pr_rep_child x' p x l m z h2
      simp only [pr]
      rw [if_pos (by omega)]
      exact i1
    · obtain ⟨rfl, rfl, rfl, rfl⟩ : x = x' ∧ l = l' ∧ m = m' ∧ z = z' := by simpa using e
      simp only [pr]
      rw [if_neg (by omega), if_pos (by omega)]
/-- Behind i nodes, from the root on. -/
def Inv (t : Tre) (i : Nat) (T : Nat → Nd) (g : Nat → Int) : Prop :=
  (∀ q, q < t.size → t.size ≤ pr t q + i → g q = bg t 0 q) ∧ ∀ p u, t.size ≤ p + i → t.subs[p]? = some u → T (bg t 0 p + u.size - 1) = nodes (mir t) (bg t 0 p + u.size - 1)
theorem Inv.start (t : Tre) (T : Nat → Nd) : Inv t 0 T (fun _ => 0) := by
  refine ⟨fun q hq h => ?_, fun p u h hu => ?_⟩
  · have hr : q = t.size - 1 := by
      rcases Nat.lt_or_ge q (t.size - 1) with h' | h'
      · have := pr_le t q (by omega); omega
      · omega
    subst hr
    rw [bg_root]; rfl
  · have := (List.getElem?_eq_some_iff.1 hu).1
    rw [Tre.subs_length] at this
    omega
theorem Inv.done {t : Tre} {T : Nat → Nd} {g : Nat → Int} (h : Inv t t.size T g) : ∀ j, j < t.size → T j = nodes (mir t) j := by
  intro j hj
  obtain ⟨p, u, hp, e⟩ := bg_all t 0 j hj
  have := h.2 p u (by omega) hp
  rwa [show bg t 0 p + u.size - 1 = j by omega] at this
/-- The node that is told next. -/
structure Nxt (t : Tre) (i p : Nat) (u : Tre) : Prop where
  hi : i < t.size
  hp : p = t.size - 1 - i
  hu : t.subs[p]? = some u
theorem Nxt.lt {t : Tre} {i p : Nat} {u : Tre} (h : Nxt t i p u) : p < t.size ∧ p + i + 1 = t.size := by
  have := h.hi; have := h.hp; omega
theorem Nxt.at_ {t : Tre} {i p : Nat} {u : Tre} {T : Nat → Nd} {g : Nat → Int} (h : Nxt t i p u) (hI : Inv t i T g) : g p = bg t 0 p := by
  obtain ⟨h1, h2⟩ := h.lt
  exact hI.1 p h1 (by have := pr_gt t p h1; omega)
theorem Nxt.place {t : Tre} {i p : Nat} {u : Tre} (h : Nxt t i p u) : bg t 0 p + u.size - 1 < t.size ∧ u.size ≤ p + 1 ∧ nodes (mir t) (bg t 0 p + u.size - 1) = (mir u).nd ((bg t 0 p + u.size - 1 : Nat) : Int) := by
  obtain ⟨_, a2, a3⟩ := bg_at t 0 p u h.hu
  have := u.size_pos
  refine ⟨by omega, (subs_sub t p u h.hu).1, ?_⟩
  rw [Nat.sub_zero] at a3
  exact nodes_get a3
theorem Nxt.step {t : Tre} {i p : Nat} {u : Tre} {T : Nat → Nd} {g g' : Nat → Int} {x : Nd} (h : Nxt t i p u) (hI : Inv t i T g) (hx : x = (mir u).nd ((bg t 0 p + u.size - 1 : Nat) : Int)) (h1 : ∀ q, q < t.size → pr t q = p → g' q = bg t 0 q) (h2 : ∀ q, q < t.size → pr t q > p → g' q = g q) : Inv t (i + 1) (updN T (bg t 0 p + u.size - 1) x) g' := by
  obtain ⟨_, l2⟩ := h.lt
  refine ⟨fun q hq hp => ?_, fun p' u' hp' hu' => ?_⟩
  · by_cases e : pr t q = p
    · exact h1 q hq e
    · rw [h2 q hq (by omega)]
      exact hI.1 q hq (by omega)
  · unfold updN
    split
    · rename_i e
      rw [e, hx, h.place.2.2]
    · rename_i e
      by_cases e2 : p' = p
      · subst e2
        rw [h.hu] at hu'
        obtain rfl := Option.some.inj hu'
        exact absurd rfl e
      · exact hI.2 p' u' (by omega) hu'
theorem Nxt.leaf {t : Tre} {i p : Nat} {n : Nd} {T : Nat → Nd} {g : Nat → Int} (h : Nxt t i p (.leaf n)) (hI : Inv t i T g) : Inv t (i + 1) (updN T (bg t 0 p + (Tre.leaf n).size - 1) (swp n)) g := by
  refine h.step hI rfl (fun q hq e => ?_) (fun _ _ _ => rfl)
  exfalso
  obtain ⟨l1, _⟩ := h.lt
  have hq1 : q + 1 < t.size := by
    rcases Nat.lt_or_ge (q + 1) t.size with h' | h'
    · exact h'
    · have : q = t.size - 1 := by omega
      subst this
      rw [pr_root] at e; omega
  rcases pr_is t q hq1 with ⟨_, _, _, h1, _⟩ | ⟨_, _, _, _, h1, _⟩ <;> rw [e, h.hu] at h1 <;> cases h1
theorem Nxt.rep {t : Tre} {i p : Nat} {x : Tre} {l m : Int} {z : Bool} {T : Nat → Nd} {g : Nat → Int} (h : Nxt t i p (.rep x l m z)) (hI : Inv t i T g) :
    Inv t (i + 1) (updN T (bg t 0 p + (Tre.rep x l m z).size - 1) ⟨5, 0, 0, 0, 0, ((bg t 0 p + (Tre.rep x l m z).size - 1 : Nat) : Int) - 1, 0, l, m, z⟩) (updI g (p - 1) (g p)) := by
  have ha := h.at_ hI
  obtain ⟨l1, _⟩ := h.lt
  have hs := (subs_rep h.hu).1
  have px := x.size_pos
  have hone : ∀ q, q < t.size → pr t q = p → q = p - 1 := fun q hq e => by
    have hq1 : q + 1 < t.size := by
      rcases Nat.lt_or_ge (q + 1) t.size with h' | h'
      · exact h'
      · have : q = t.size - 1 := by omega
        subst this
        rw [pr_root] at e; omega
    rcases pr_is t q hq1 with ⟨_, _, _, h1, _⟩ | ⟨_, _, _, _, h1, h2⟩
    · rw [e, h.hu] at h1; cases h1
    · rw [e] at h2; exact h2
  have hpr := pr_rep_child t p x l m z h.hu
  refine h.step hI rfl (fun q hq e => ?_) (fun q hq e => ?_)
  · rw [hone q hq e, updI, if_pos rfl, ha, bg_rep t 0 p x l m z h.hu]
  · have : q ≠ p - 1 := by rintro rfl; omega
    simp [updI, this]
theorem Nxt.two {t : Tre} {i p : Nat} {k : Int} {x y : Tre} {T : Nat → Nd} {g : Nat → Int} (h : Nxt t i p (.two k x y)) (hI : Inv t i T g) (fi se : Nat) (sv : Int) (hk : (k = 3 ∧ fi = p - 1 ∧ se = p - 1 - y.size ∧ sv = g p + y.size) ∨ (k = 4 ∧ fi = p - 1 - y.size ∧ se = p - 1 ∧ sv = g p + x.size)) :
    Inv t (i + 1) (updN T (bg t 0 p + (Tre.two k x y).size - 1) ⟨k, 0, 0, 0, 0, sv - 1, ((bg t 0 p + (Tre.two k x y).size - 1 : Nat) : Int) - 1, 0, 0, false⟩) (updI (updI g fi (g p)) se sv) := by
  have ha := h.at_ hI
  obtain ⟨l1, _⟩ := h.lt
  have hs := (subs_two h.hu).1
  have px := x.size_pos
  have py := y.size_pos
  have hb := bg_two t 0 p k x y h.hu
  have hpr := pr_two h.hu
  obtain ⟨c1, c2⟩ := pr_child t p k x y h.hu
  have mx := mir_size x
  have my := mir_size y
  refine h.step hI ?_ (fun q hq e => ?_) (fun q hq e => ?_)
  · rcases hk with ⟨rfl, rfl, rfl, rfl⟩ | ⟨rfl, rfl, rfl, rfl⟩
    · simp only [mir, if_true, Tre.nd, Tre.size, mx, ha]
      congr 1
      omega
    · simp only [mir, Tre.nd, Tre.size, ha]
      rw [if_neg (by decide)]
      simp only [my]
      congr 1
      omega
  · have hq2 := (hpr q hq).1 e
    rcases hk with ⟨rfl, rfl, rfl, rfl⟩ | ⟨rfl, rfl, rfl, rfl⟩
    · obtain ⟨b1, b2⟩ := hb.1 rfl
      rcases hq2 with rfl | rfl
      · rw [updI, if_neg (by omega), updI, if_pos rfl, ha, b1]
      · rw [updI, if_pos rfl, ha, b2]; simp
    · obtain ⟨b1, b2⟩ := hb.2 (by decide)
      rcases hq2 with rfl | rfl
      · rw [updI, if_pos rfl, ha, b2]; simp
      · rw [updI, if_neg (by omega), updI, if_pos rfl, ha, b1]
  · have n1 : q ≠ p - 1 := by rintro rfl; omega
    have n2 : q ≠ p - 1 - y.size := by rintro rfl; omega
    rcases hk with ⟨_, rfl, rfl, _⟩ | ⟨_, rfl, rfl, _⟩ <;> simp [updI, n1, n2]
end Go.Proofs.YtiiecppkabdkgabDoor
