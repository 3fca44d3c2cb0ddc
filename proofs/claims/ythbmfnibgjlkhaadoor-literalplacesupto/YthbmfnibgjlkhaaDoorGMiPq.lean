/- Trees turned round: plain facts. The parts of a tree: plain facts. -/
import Derived.Test.YthbmfnibgjlkhaaDoorGAnAq
import Derived.Test.YthbmfnibgjlkhaaDoorGWaWoWm
namespace Go.Proofs.YthbmfnibgjlkhaaDoor
def swp (n : Nd) : Nd := if n.k = 6 then { n with k := 7 } else if n.k = 7 then { n with k := 6 } else n
/-- A tree turned round. -/
def mir : Tre → Tre
  | .leaf n => .leaf (swp n)
  | .two k x y => if k = 3 then .two k (mir y) (mir x) else .two k (mir x) (mir y)
  | .rep x l m z => .rep (mir x) l m z
theorem mir_size : ∀ t : Tre, (mir t).size = t.size
  | .leaf n => rfl
  | .two k x y => by
    have hx := mir_size x
    have hy := mir_size y
    unfold mir
    split
    · simp only [Tre.size, hx, hy]; omega
    · simp only [Tre.size, hx, hy]
  | .rep x l m z => by
    have hx := mir_size x
    simp only [mir, Tre.size, hx]
theorem swp_swp {n : Nd} : swp (swp n) = n := by
  obtain ⟨k, c0, c1, c2, c3, a, b, l, m, z⟩ := n
  unfold swp
  by_cases h6 : k = 6
  · subst h6; simp
  · by_cases h7 : k = 7
    · subst h7; simp
    · simp [h6, h7]
theorem mir_mir : ∀ t : Tre, mir (mir t) = t
  | .leaf n => by simp only [mir, swp_swp]
  | .two k x y => by
    have hx := mir_mir x
    have hy := mir_mir y
    by_cases h : k = 3
    · simp only [mir, h, if_true, hx, hy]
    · simp only [mir, h, if_false, hx, hy]
  | .rep x l m z => by simp only [mir, mir_mir x]
theorem lf_swp {n : Nd} (h : Tre.lf n = true) : Tre.lf (swp n) = true := by
  obtain ⟨k, c0, c1, c2, c3, a, b, l, m, z⟩ := n
  unfold swp
  by_cases h6 : k = 6
  · subst h6
    simp [Tre.lf, Nd.eq] at h ⊢
    exact h
  · by_cases h7 : k = 7
    · subst h7
      simp [Tre.lf, Nd.eq] at h ⊢
      exact h
    · simp only [h6, h7, if_false]; exact h
theorem mir_ok : ∀ t : Tre, t.ok = true → (mir t).ok = true
  | .leaf n, h => lf_swp h
  | .two k x y, h => by
    simp only [Tre.ok, Bool.and_eq_true] at h
    have hx := mir_ok x h.1.2
    have hy := mir_ok y h.2
    unfold mir
    split
    · simp only [Tre.ok, Bool.and_eq_true]; exact ⟨⟨h.1.1, hy⟩, hx⟩
    · simp only [Tre.ok, Bool.and_eq_true]; exact ⟨⟨h.1.1, hx⟩, hy⟩
  | .rep x l m z, h => by
    simp only [Tre.ok, Bool.and_eq_true] at h
    simp only [mir, Tre.ok, Bool.and_eq_true]
    exact ⟨h.1, mir_ok x h.2⟩
/-- Where the subtree of a node begins when it is turned. -/
def bg : Tre → Nat → Nat → Nat
  | .leaf _, o, _ => o
  | .two k x y, o, p => if k = 3 then (if p < x.size then bg x (o + y.size) p else if p < x.size + y.size then bg y o (p - x.size) else o) else (if p < x.size then bg x o p else if p < x.size + y.size then bg y (o + x.size) (p - x.size) else o)
  | .rep x _ _ _, o, p => if p < x.size then bg x o p else o
theorem bg_root : ∀ (t : Tre) (o : Nat), bg t o (t.size - 1) = o
  | .leaf _, o => rfl
  | .two k x y, o => by
    by_cases hk : k = 3
    · simp only [bg, Tre.size, Nat.add_sub_cancel, if_pos hk, if_neg (show ¬ x.size + y.size < x.size by omega), if_neg (show ¬ x.size + y.size < x.size + y.size by omega)]
    · simp only [bg, Tre.size, Nat.add_sub_cancel, if_neg hk, if_neg (show ¬ x.size + y.size < x.size by omega), if_neg (show ¬ x.size + y.size < x.size + y.size by omega)]
  | .rep x _ _ _, o => by
    simp only [bg, Tre.size, Nat.add_sub_cancel]
    rw [if_neg (by omega)]
theorem two_subs {k : Int} {x y : Tre} {p : Nat} {u : Tre} (h : (Tre.two k x y).subs[p]? = some u) : (p < x.size ∧ x.subs[p]? = some u) ∨ (x.size ≤ p ∧ p < x.size + y.size ∧ y.subs[p - x.size]? = some u) ∨ (p = x.size + y.size ∧ u = .two k x y) := by
  have lx := Tre.subs_length x
  have ly := Tre.subs_length y
  have hp := (List.getElem?_eq_some_iff.1 h).1
  rw [Tre.subs_length] at hp
  have hp' : p < x.size + y.size + 1 := hp
  rw [Tre.subs, List.append_assoc] at h
  by_cases c1 : p < x.size
  · rw [List.getElem?_append_left (by omega)] at h
    exact .inl ⟨c1, h⟩
  · rw [List.getElem?_append_right (by omega), lx] at h
    by_cases c2 : p < x.size + y.size
    · rw [List.getElem?_append_left (by omega)] at h
      exact .inr (.inl ⟨by omega, c2, h⟩)
    · rw [List.getElem?_append_right (by omega), ly, show p - x.size - y.size = 0 by omega] at h
      exact .inr (.inr ⟨by omega, by simpa using h.symm⟩)
theorem rep_subs {x : Tre} {l m : Int} {z : Bool} {p : Nat} {u : Tre} (h : (Tre.rep x l m z).subs[p]? = some u) : (p < x.size ∧ x.subs[p]? = some u) ∨ (p = x.size ∧ u = .rep x l m z) := by
  have lx := Tre.subs_length x
  have hp := (List.getElem?_eq_some_iff.1 h).1
  rw [Tre.subs_length] at hp
  have hp' : p < x.size + 1 := hp
  rw [Tre.subs] at h
  by_cases c1 : p < x.size
  · rw [List.getElem?_append_left (by omega)] at h
    exact .inl ⟨c1, h⟩
  · rw [List.getElem?_append_right (by omega), lx, show p - x.size = 0 by omega] at h
    exact .inr ⟨by omega, by simpa using h.symm⟩
theorem leaf_subs {n : Nd} {p : Nat} {u : Tre} (h : (Tre.leaf n).subs[p]? = some u) : p = 0 ∧ u = .leaf n := by
  have hp := (List.getElem?_eq_some_iff.1 h).1
  simp [Tre.subs] at hp
  subst hp
  simp [Tre.subs] at h
  exact ⟨rfl, h.symm⟩
theorem subs_two_l {k : Int} {x y : Tre} {i : Nat} (h : i < x.size) : (Tre.two k x y).subs[i]? = x.subs[i]? := by
  rw [Tre.subs, List.append_assoc, List.getElem?_append_left (by rw [Tre.subs_length]; exact h)]
theorem subs_two_r {k : Int} {x y : Tre} {i : Nat} (h : i < y.size) : (Tre.two k x y).subs[x.size + i]? = y.subs[i]? := by
  have lx := Tre.subs_length x
  have ly := Tre.subs_length y
  rw [Tre.subs, List.append_assoc, List.getElem?_append_right (by omega), List.getElem?_append_left (by omega), lx, Nat.add_sub_cancel_left]
theorem subs_rep_l {x : Tre} {l m : Int} {z : Bool} {i : Nat} (h : i < x.size) : (Tre.rep x l m z).subs[i]? = x.subs[i]? := by
  rw [Tre.subs, List.getElem?_append_left (by rw [Tre.subs_length]; exact h)]
/-- Where it lies, it is the subtree turned. -/
theorem bg_at : ∀ (t : Tre) (o p : Nat) (u : Tre), t.subs[p]? = some u → o ≤ bg t o p ∧ bg t o p + u.size ≤ o + t.size ∧ (mir t).subs[bg t o p - o + u.size - 1]? = some (mir u)
  | .leaf n, o, p, u, h => by
    obtain ⟨rfl, rfl⟩ := leaf_subs h
    simp [bg, Tre.size, mir, Tre.subs]
  | .two k x y, o, p, u, h => by
    have sx := mir_size x
    have sy := mir_size y
    have pu := u.size_pos
    by_cases hk : k = 3
    · have hm : mir (.two k x y) = .two k (mir y) (mir x) := by simp [mir, hk]
      rcases two_subs h with ⟨h1, h2⟩ | ⟨h0, h1, h2⟩ | ⟨rfl, rfl⟩
      · obtain ⟨a1, a2, a3⟩ := bg_at x (o + y.size) p u h2
        simp only [bg, hk, if_true, if_pos h1, Tre.size]
        refine ⟨by omega, by omega, ?_⟩
        rw [← hk, hm, ← a3, show bg x (o + y.size) p - o + u.size - 1 = (mir y).size + (bg x (o + y.size) p - (o + y.size) + u.size - 1) by omega]
        exact subs_two_r (by omega)
      · obtain ⟨a1, a2, a3⟩ := bg_at y o (p - x.size) u h2
        simp only [bg, hk, if_true, if_neg (show ¬ p < x.size by omega), if_pos h1, Tre.size]
        refine ⟨by omega, by omega, ?_⟩
        rw [← hk, hm, ← a3]
        exact subs_two_l (by omega)
      · simp only [bg, hk, if_true, if_neg (show ¬ x.size + y.size < x.size by omega), if_neg (show ¬ x.size + y.size < x.size + y.size by omega), Tre.size]
        refine ⟨by omega, by omega, ?_⟩
        have := Tre.subs_last (mir (.two k x y))
        rw [mir_size] at this
        rw [← hk, show o - o + (x.size + y.size + 1) - 1 = (Tre.two k x y).size - 1 by simp only [Tre.size]; omega]
        exact this
    · have hm : mir (.two k x y) = .two k (mir x) (mir y) := by simp [mir, hk]
      rcases two_subs h with ⟨h1, h2⟩ | ⟨h0, h1, h2⟩ | ⟨rfl, rfl⟩
      · obtain ⟨a1, a2, a3⟩ := bg_at x o p u h2
        simp only [bg, if_neg hk, if_pos h1, Tre.size]
        refine ⟨by omega, by omega, ?_⟩
        rw [hm, ← a3]
        exact subs_two_l (by omega)
      · obtain ⟨a1, a2, a3⟩ := bg_at y (o + x.size) (p - x.size) u h2
        simp only [bg, if_neg hk, if_neg (show ¬ p < x.size by omega), if_pos h1, Tre.size]
        refine ⟨by omega, by omega, ?_⟩
        rw [hm, ← a3, show bg y (o + x.size) (p - x.size) - o + u.size - 1 = (mir x).size + (bg y (o + x.size) (p - x.size) - (o + x.size) + u.size - 1) by omega]
        exact subs_two_r (by omega)
      · simp only [bg, if_neg hk, if_neg (show ¬ x.size + y.size < x.size by omega), if_neg (show ¬ x.size + y.size < x.size + y.size by omega), Tre.size]
        refine ⟨by omega, by omega, ?_⟩
        have := Tre.subs_last (mir (.two k x y))
        rw [mir_size] at this
        rw [show o - o + (x.size + y.size + 1) - 1 = (Tre.two k x y).size - 1 by simp only [Tre.size]; omega]
        exact this
  | .rep x l m z, o, p, u, h => by
    have sx := mir_size x
    have pu := u.size_pos
    rcases rep_subs h with ⟨h1, h2⟩ | ⟨rfl, rfl⟩
    · obtain ⟨a1, a2, a3⟩ := bg_at x o p u h2
      simp only [bg, if_pos h1, Tre.size]
      refine ⟨by omega, by omega, ?_⟩
      rw [mir, ← a3]
      exact subs_rep_l (by omega)
    · simp only [bg, if_neg (show ¬ x.size < x.size by omega), Tre.size]
      refine ⟨by omega, by omega, ?_⟩
      have := Tre.subs_last (mir (.rep x l m z))
      rw [mir_size] at this
      rw [show o - o + (x.size + 1) - 1 = (Tre.rep x l m z).size - 1 by simp only [Tre.size]; omega]
      exact this
/-- Where the parts of two begin. -/
theorem bg_two : ∀ (t : Tre) (o p : Nat) (k : Int) (x y : Tre), t.subs[p]? = some (.two k x y) → (k = 3 → bg t o (p - 1) = bg t o p ∧ bg t o (p - 1 - y.size) = bg t o p + y.size) ∧ (k ≠ 3 → bg t o (p - 1 - y.size) = bg t o p ∧ bg t o (p - 1) = bg t o p + x.size)
  | .leaf n, o, p, k, x, y, h => by
    obtain ⟨_, h⟩ := leaf_subs h
    cases h
  | .two k' x' y', o, p, k, x, y, h => by
    have hq := subs_two h
    have px := x.size_pos
    have py := y.size_pos
    have px' := x'.size_pos
    have py' := y'.size_pos
    rcases two_subs h with ⟨h1, h2⟩ | ⟨h0, h1, h2⟩ | ⟨rfl, e⟩
    · have hs := (subs_two h2).1
      by_cases hk : k' = 3
      · simp only [bg, if_pos hk, if_pos h1, if_pos (show p - 1 < x'.size by omega), if_pos (show p - 1 - y.size < x'.size by omega)]
        exact bg_two x' (o + y'.size) p k x y h2
      · simp only [bg, if_neg hk, if_pos h1, if_pos (show p - 1 < x'.size by omega), if_pos (show p - 1 - y.size < x'.size by omega)]
        exact bg_two x' o p k x y h2
    · have hs := (subs_two h2).1
      have e1 : p - 1 - x'.size = p - x'.size - 1 := by omega
      have e2 : p - 1 - y.size - x'.size = p - x'.size - 1 - y.size := by omega
      by_cases hk : k' = 3
      · simp only [bg, if_pos hk, if_neg (show ¬ p < x'.size by omega), if_pos h1, if_neg (show ¬ p - 1 < x'.size by omega), if_pos (show p - 1 < x'.size + y'.size by omega), if_neg (show ¬ p - 1 - y.size < x'.size by omega), if_pos (show p - 1 - y.size < x'.size + y'.size by omega), e1, e2]
        exact bg_two y' o (p - x'.size) k x y h2
      · simp only [bg, if_neg hk, if_neg (show ¬ p < x'.size by omega), if_pos h1, if_neg (show ¬ p - 1 < x'.size by omega), if_pos (show p - 1 < x'.size + y'.size by omega), if_neg (show ¬ p - 1 - y.size < x'.size by omega), if_pos (show p - 1 - y.size < x'.size + y'.size by omega), e1, e2]
        exact bg_two y' (o + x'.size) (p - x'.size) k x y h2
    · obtain ⟨rfl, rfl, rfl⟩ : k = k' ∧ x = x' ∧ y = y' := by simpa using e
      have rx := bg_root x
      have ry := bg_root y
      have e1 : x.size + y.size - 1 - x.size = y.size - 1 := by omega
      have e2 : x.size + y.size - 1 - y.size = x.size - 1 := by omega
      refine ⟨fun hk => ?_, fun hk => ?_⟩
      · simp only [bg, if_pos hk, if_neg (show ¬ x.size + y.size < x.size by omega), if_neg (show ¬ x.size + y.size < x.size + y.size by omega), if_neg (show ¬ x.size + y.size - 1 < x.size by omega), if_pos (show x.size + y.size - 1 < x.size + y.size by omega), e1, e2, if_pos (show x.size - 1 < x.size by omega), rx, ry]
        exact ⟨trivial, trivial⟩
      · simp only [bg, if_neg hk, if_neg (show ¬ x.size + y.size < x.size by omega), if_neg (show ¬ x.size + y.size < x.size + y.size by omega), if_neg (show ¬ x.size + y.size - 1 < x.size by omega), if_pos (show x.size + y.size - 1 < x.size + y.size by omega), e1, e2, if_pos (show x.size - 1 < x.size by omega), rx, ry]
        exact ⟨trivial, trivial⟩
  | .rep x' l m z, o, p, k, x, y, h => by
    have hq := subs_two h
    have px := x.size_pos
    rcases rep_subs h with ⟨h1, h2⟩ | ⟨rfl, e⟩
    · simp only [bg, if_pos h1, if_pos (show p - 1 < x'.size by omega), if_pos (show p - 1 - y.size < x'.size by omega)]
      exact bg_two x' o p k x y h2
    · cases e
theorem bg_rep : ∀ (t : Tre) (o p : Nat) (x : Tre) (l m : Int) (z : Bool), t.subs[p]? = some (.rep x l m z) → bg t o (p - 1) = bg t o p
  | .leaf n, o, p, x, l, m, z, h => by
    obtain ⟨_, h⟩ := leaf_subs h
    cases h
  | .two k' x' y', o, p, x, l, m, z, h => by
    have hq := subs_rep h
    have px := x.size_pos
    have px' := x'.size_pos
    rcases two_subs h with ⟨h1, h2⟩ | ⟨h0, h1, h2⟩ | ⟨rfl, e⟩
    · by_cases hk : k' = 3
      · simp only [bg, if_pos hk, if_pos h1, if_pos (show p - 1 < x'.size by omega)]
        exact bg_rep x' (o + y'.size) p x l m z h2
      · simp only [bg, if_neg hk, if_pos h1, if_pos (show p - 1 < x'.size by omega)]
        exact bg_rep x' o p x l m z h2
    · have hs := (subs_rep h2).1
      have e1 : p - 1 - x'.size = p - x'.size - 1 := by omega
      by_cases hk : k' = 3
      · simp only [bg, if_pos hk, if_neg (show ¬ p < x'.size by omega), if_pos h1, if_neg (show ¬ p - 1 < x'.size by omega), if_pos (show p - 1 < x'.size + y'.size by omega), e1]
        exact bg_rep y' o (p - x'.size) x l m z h2
      · simp only [bg, if_neg hk, if_neg (show ¬ p < x'.size by omega), if_pos h1, if_neg (show ¬ p - 1 < x'.size by omega), if_pos (show p - 1 < x'.size + y'.size by omega), e1]
        exact bg_rep y' (o + x'.size) (p - x'.size) x l m z h2
    · cases e
  | .rep x' l' m' z', o, p, x, l, m, z, h => by
    have hq := subs_rep h
    have px := x.size_pos
    rcases rep_subs h with ⟨h1, h2⟩ | ⟨rfl, e⟩
    · simp only [bg, if_pos h1, if_pos (show p - 1 < x'.size by omega)]
      exact bg_rep x' o p x l m z h2
    · obtain ⟨rfl, rfl, rfl, rfl⟩ : x = x' ∧ l = l' ∧ m = m' ∧ z = z' := by simpa using e
      simp only [bg, if_neg (show ¬ x.size < x.size by omega), if_pos (show x.size - 1 < x.size by omega)]
      exact bg_root x o
/-- Each place of the turned tree is some node's. -/
theorem bg_all : ∀ (t : Tre) (o i : Nat), i < t.size → ∃ p u, t.subs[p]? = some u ∧ bg t o p + u.size = o + i + 1
  | .leaf n, o, i, h => ⟨0, .leaf n, rfl, by simp [Tre.size] at h; simp [bg, Tre.size, h]⟩
  | .two k x y, o, i, h => by
    simp only [Tre.size] at h
    have last : (Tre.two k x y).subs[x.size + y.size]? = some (.two k x y) := Tre.subs_last (.two k x y)
    by_cases hk : k = 3
    · by_cases h1 : i < y.size
      · obtain ⟨p, u, hp, e⟩ := bg_all y o i h1
        have hl := (List.getElem?_eq_some_iff.1 hp).1
        rw [Tre.subs_length] at hl
        refine ⟨x.size + p, u, (subs_two_r hl).trans hp, ?_⟩
        simp only [bg, if_pos hk, if_neg (show ¬ x.size + p < x.size by omega), if_pos (show x.size + p < x.size + y.size by omega), Nat.add_sub_cancel_left]
        exact e
      · by_cases h2 : i < x.size + y.size
        · obtain ⟨p, u, hp, e⟩ := bg_all x (o + y.size) (i - y.size) (by omega)
          have hl := (List.getElem?_eq_some_iff.1 hp).1
          rw [Tre.subs_length] at hl
          refine ⟨p, u, (subs_two_l hl).trans hp, ?_⟩
          simp only [bg, if_pos hk, if_pos hl]
          omega
        · refine ⟨_, _, last, ?_⟩
          simp only [bg, if_pos hk, if_neg (show ¬ x.size + y.size < x.size by omega), if_neg (show ¬ x.size + y.size < x.size + y.size by omega), Tre.size]
          omega
    · by_cases h1 : i < x.size
      · obtain ⟨p, u, hp, e⟩ := bg_all x o i h1
        have hl := (List.getElem?_eq_some_iff.1 hp).1
        rw [Tre.subs_length] at hl
        refine ⟨p, u, (subs_two_l hl).trans hp, ?_⟩
        simp only [bg, if_neg hk, if_pos hl]
        exact e
      · by_cases h2 : i < x.size + y.size
        · obtain ⟨p, u, hp, e⟩ := bg_all y (o + x.size) (i - x.size) (by omega)
          have hl := (List.getElem?_eq_some_iff.1 hp).1
          rw [Tre.subs_length] at hl
          refine ⟨x.size + p, u, (subs_two_r hl).trans hp, ?_⟩
          simp only [bg, if_neg hk, if_neg (show ¬ x.size + p < x.size by omega), if_pos (show x.size + p < x.size + y.size by omega), Nat.add_sub_cancel_left]
          omega
        · refine ⟨_, _, last, ?_⟩
          simp only [bg, if_neg hk, if_neg (show ¬ x.size + y.size < x.size by omega), if_neg (show ¬ x.size + y.size < x.size + y.size by omega), Tre.size]
          omega
  | .rep x l m z, o, i, h => by
    simp only [Tre.size] at h
    have last : (Tre.rep x l m z).subs[x.size]? = some (.rep x l m z) := Tre.subs_last (.rep x l m z)
    by_cases h1 : i < x.size
    · obtain ⟨p, u, hp, e⟩ := bg_all x o i h1
      have hl := (List.getElem?_eq_some_iff.1 hp).1
      rw [Tre.subs_length] at hl
      refine ⟨p, u, (subs_rep_l hl).trans hp, ?_⟩
      simp only [bg, if_pos hl]
      exact e
    · refine ⟨_, _, last, ?_⟩
      simp only [bg, if_neg (show ¬ x.size < x.size by omega), Tre.size]
      omega
/-- Turned round, anchors stand as they stood. -/
theorem anc_mir : ∀ (t : Tre) (h d : Bool), t.ok = true → anc (mir t) (h, d) = anc t (d, h)
  | .leaf n, h, d, _ => by
    obtain ⟨k, c0, c1, c2, c3, a, b, l, m, z⟩ := n
    simp only [mir, anc, swp]
    by_cases h6 : k = 6
    · subst h6; simp
    · by_cases h7 : k = 7
      · subst h7; simp
      · simp [h6, h7]
  | .two k x y, h, d, ho => by
    simp only [Tre.ok, Bool.and_eq_true, Bool.or_eq_true, beq_iff_eq] at ho
    have hx := fun h d => anc_mir x h d ho.1.2
    have hy := fun h d => anc_mir y h d ho.2
    rcases ho.1.1 with rfl | rfl
    · simp only [mir, anc, hdA, hdB, if_true]
      simp [hx, hy, Bool.and_comm]
    · simp only [mir, anc, hdA, hdB]
      simp [hx, hy, anc, hdA, hdB]
  | .rep x l m z, h, d, ho => by
    simp only [Tre.ok, Bool.and_eq_true] at ho
    simp only [mir, anc]
    exact anc_mir x false false ho.2
theorem pl_comm (a b : Int) : pl a b = pl b a := by
  unfold pl
  split <;> split <;> omega
theorem gr_comm (a b : Int) : gr a b = gr b a := by
  unfold gr
  split <;> split <;> omega
theorem wt_mir : ∀ t : Tre, wt (mir t) = wt t
  | .leaf n => by
    obtain ⟨k, c0, c1, c2, c3, a, b, l, m, z⟩ := n
    simp only [mir, wt, swp]
    by_cases h6 : k = 6
    · subst h6; simp
    · by_cases h7 : k = 7
      · subst h7; simp
      · simp [h6, h7]
  | .two k x y => by
    by_cases hk : k = 3
    · simp only [mir, if_pos hk, wt, wt_mir x, wt_mir y]; exact pl_comm _ _
    · simp only [mir, if_neg hk, wt, wt_mir x, wt_mir y]
  | .rep x l m z => by simp only [mir, wt, wt_mir x]
theorem wl_mir : ∀ t : Tre, wl (mir t) = wl t
  | .leaf n => by
    obtain ⟨k, c0, c1, c2, c3, a, b, l, m, z⟩ := n
    simp only [mir, wl, swp]
    by_cases h6 : k = 6
    · subst h6; simp
    · by_cases h7 : k = 7
      · subst h7; simp
      · simp [h6, h7]
  | .two k x y => by
    by_cases hk : k = 3
    · simp only [mir, if_pos hk, wl, wl_mir x, wl_mir y]; exact pl_comm _ _
    · simp only [mir, if_neg hk, wl, wl_mir x, wl_mir y]
  | .rep x l m z => by simp only [mir, wl, wl_mir x]
theorem wg_mir : ∀ t : Tre, wg (mir t) = wg t
  | .leaf n => by
    obtain ⟨k, c0, c1, c2, c3, a, b, l, m, z⟩ := n
    simp only [mir, wg, swp]
    by_cases h6 : k = 6
    · subst h6; simp
    · by_cases h7 : k = 7
      · subst h7; simp
      · simp [h6, h7]
  | .two k x y => by
    by_cases hk : k = 3
    · simp only [mir, if_pos hk, wg, wg_mir x, wg_mir y]; exact pl_comm _ _
    · simp only [mir, if_neg hk, wg, wg_mir x, wg_mir y]
  | .rep x l m z => by simp only [mir, wg, wg_mir x]
end Go.Proofs.YthbmfnibgjlkhaaDoor
namespace Go.Proofs.YthbmfnibgjlkhaaDoor
/-- Where the parts stand. -/
def pp (c : Int) : Tre → Nat → List Nat
  | .leaf _, p => [p]
  | .two k x y, p => if k = c then pp c x (p - 1 - y.size) ++ pp c y (p - 1) else [p]
  | .rep _ _ _ _, p => [p]
/-- The parts. -/
def pt (c : Int) : Tre → List Tre
  | .leaf n => [.leaf n]
  | .two k x y => if k = c then pt c x ++ pt c y else [.two k x y]
  | .rep x l m z => [.rep x l m z]
theorem pp_len (c : Int) : ∀ (u : Tre) (p : Nat), (pp c u p).length = (pt c u).length
  | .leaf _, p => rfl
  | .two k x y, p => by
    unfold pp pt
    split
    · rw [List.length_append, List.length_append, pp_len c x, pp_len c y]
    · rfl
  | .rep _ _ _ _, p => rfl
theorem pt_pos (c : Int) : ∀ u : Tre, 0 < (pt c u).length
  | .leaf _ => by simp [pt]
  | .two k x y => by
    unfold pt
    split
    · rw [List.length_append]; have := pt_pos c x; omega
    · simp
  | .rep _ _ _ _ => by simp [pt]
theorem pp_at (c : Int) (t : Tre) : ∀ (u : Tre) (p : Nat), t.subs[p]? = some u → ∀ (i q : Nat), (pp c u p)[i]? = some q → ∃ v, (pt c u)[i]? = some v ∧ t.subs[q]? = some v
  | .leaf n, p, hu, i, q, h => by
    simp only [pp] at h
    obtain ⟨rfl, rfl⟩ : i = 0 ∧ q = p := by
      have := (List.getElem?_eq_some_iff.1 h).1
      simp at this
      subst this
      simp at h
      exact ⟨rfl, h.symm⟩
    exact ⟨_, rfl, hu⟩
  | .two k x y, p, hu, i, q, h => by
    unfold pp at h
    unfold pt
    split at h
    · rename_i hk
      rw [if_pos hk]
      obtain ⟨h1, h2, h3⟩ := subs_two hu
      by_cases hi : i < (pp c x (p - 1 - y.size)).length
      · rw [List.getElem?_append_left hi] at h
        obtain ⟨v, e1, e2⟩ := pp_at c t x _ h3 i q h
        refine ⟨v, ?_, e2⟩
        rw [List.getElem?_append_left (by rw [← pp_len c x (p - 1 - y.size)]; exact hi)]
        exact e1
      · rw [List.getElem?_append_right (by omega)] at h
        obtain ⟨v, e1, e2⟩ := pp_at c t y _ h2 _ q h
        refine ⟨v, ?_, e2⟩
        rw [List.getElem?_append_right (by rw [← pp_len c x (p - 1 - y.size)]; omega), ← pp_len c x (p - 1 - y.size)]
        exact e1
    · rename_i hk
      rw [if_neg hk]
      obtain ⟨rfl, rfl⟩ : i = 0 ∧ q = p := by
        have := (List.getElem?_eq_some_iff.1 h).1
        simp at this
        subst this
        simp at h
        exact ⟨rfl, h.symm⟩
      exact ⟨_, rfl, hu⟩
  | .rep x l m z, p, hu, i, q, h => by
    simp only [pp] at h
    obtain ⟨rfl, rfl⟩ : i = 0 ∧ q = p := by
      have := (List.getElem?_eq_some_iff.1 h).1
      simp at this
      subst this
      simp at h
      exact ⟨rfl, h.symm⟩
    exact ⟨_, rfl, hu⟩
/-- The tree at a place. -/
def tA (t : Tre) (q : Nat) : Tre := (t.subs[q]?).getD t
theorem tA_at {t : Tre} {q : Nat} {u : Tre} (h : t.subs[q]? = some u) : tA t q = u := by simp [tA, h]
/-- What is still to come of a stack, its top last. -/
def remS (c : Int) (t : Tre) : List Nat → List Nat
  | [] => []
  | q :: r => remS c t r ++ pp c (tA t q) q
def wgt (t : Tre) : List Nat → Nat
  | [] => 0
  | q :: r => (tA t q).size + wgt t r
theorem remS_app (c : Int) (t : Tre) : ∀ (st : List Nat) (q : Nat), remS c t (st ++ [q]) = pp c (tA t q) q ++ remS c t st
  | [], q => by simp [remS]
  | a :: r, q => by simp [remS, remS_app c t r q]
theorem wgt_app (t : Tre) : ∀ (st : List Nat) (q : Nat), wgt t (st ++ [q]) = wgt t st + (tA t q).size
  | [], q => by simp [wgt]
  | a :: r, q => by simp [wgt, wgt_app t r q]; omega
theorem wgt_len (t : Tre) : ∀ st : List Nat, st.length ≤ wgt t st
  | [] => Nat.le_refl _
  | a :: r => by have := wgt_len t r; have := (tA t a).size_pos; simp [wgt]; omega
/-- Two nodes are laid for one that joins. -/
theorem remS_two {c : Int} {t : Tre} {q : Nat} {x y : Tre} (h : t.subs[q]? = some (.two c x y)) (st : List Nat) : remS c t (st ++ [q - 1] ++ [q - 1 - y.size]) = remS c t (st ++ [q]) ∧ wgt t (st ++ [q - 1] ++ [q - 1 - y.size]) + 1 = wgt t (st ++ [q]) := by
  obtain ⟨h1, h2, h3⟩ := subs_two h
  rw [remS_app, remS_app, remS_app, wgt_app, wgt_app, wgt_app, tA_at h, tA_at h2, tA_at h3]
  constructor
  · simp [pp]
  · simp only [Tre.size]; omega
theorem pp_one {c : Int} {u : Tre} {q : Nat} (h : ∀ x y, u ≠ .two c x y) : pp c u q = [q] := by
  cases u with
  | leaf n => rfl
  | rep x l m z => rfl
  | two k x y =>
    unfold pp
    rw [if_neg (by rintro rfl; exact h x y rfl)]
end Go.Proofs.YthbmfnibgjlkhaaDoor
