/- The parts of a tree: plain facts. -/
import Derived.Test.YtgedhjflminlbaaMi
namespace Go.Proofs.Ytgedhjflminlbaa
/-- Where the parts stand. -/
def pp (c : Int) : Tre → Nat → List Nat
  | .leaf _, p => [p]
  | .two k x y, p => if k = c then pp c x (p - 1 - y.size) ++ pp c y (p - 1) else [p]
  | .rep _ _ _ _, p => [p]
/-- The parts. -/
def pt (c : Int) : Tre → List Tre
  | .leaf n => [.leaf n]
  | .two k x y => if k = c then pt c x ++ pt c y else [.two k x y]
  | .rep x l m z => [.rep x l m z]
theorem pp_len (c : Int) : ∀ (u : Tre) (p : Nat), (pp c u p).length = (pt c u).length
  | .leaf _, p => rfl
  | .two k x y, p => by
    unfold pp pt
    split
    · rw [List.length_append, List.length_append, pp_len c x, pp_len c y]
    · rfl
  | .rep _ _ _ _, p => rfl
theorem pt_pos (c : Int) : ∀ u : Tre, 0 < (pt c u).length
  | .leaf _ => by simp [pt]
  | .two k x y => by
    unfold pt
    split
    · rw [List.length_append]; have := pt_pos c x; omega
    · simp
  | .rep _ _ _ _ => by simp [pt]
theorem pp_at (c : Int) (t : Tre) : ∀ (u : Tre) (p : Nat), t.subs[p]? = some u → ∀ (i q : Nat), (pp c u p)[i]? = some q → ∃ v, (pt c u)[i]? = some v ∧ t.subs[q]? = some v
  | .leaf n, p, hu, i, q, h => by
    simp only [pp] at h
    obtain ⟨rfl, rfl⟩ : i = 0 ∧ q = p := by
      have := (List.getElem?_eq_some_iff.1 h).1
      simp at this
      subst this
      simp at h
      exact ⟨rfl, h.symm⟩
    exact ⟨_, rfl, hu⟩
  | .two k x y, p, hu, i, q, h => by
    unfold pp at h
    unfold pt
    split at h
    · rename_i hk
      rw [if_pos hk]
      obtain ⟨h1, h2, h3⟩ := subs_two hu
      by_cases hi : i < (pp c x (p - 1 - y.size)).length
      · rw [List.getElem?_append_left hi] at h
        obtain ⟨v, e1, e2⟩ := pp_at c t x _ h3 i q h
        refine ⟨v, ?_, e2⟩
        rw [List.getElem?_append_left (by rw [← pp_len c x (p - 1 - y.size)]; exact hi)]
        exact e1
      · rw [List.getElem?_append_right (by omega)] at h
        obtain ⟨v, e1, e2⟩ := pp_at c t y _ h2 _ q h
        refine ⟨v, ?_, e2⟩
        rw [List.getElem?_append_right (by rw [← pp_len c x (p - 1 - y.size)]; omega), ← pp_len c x (p - 1 - y.size)]
        exact e1
    · rename_i hk
      rw [if_neg hk]
      obtain ⟨rfl, rfl⟩ : i = 0 ∧ q = p := by
        have := (List.getElem?_eq_some_iff.1 h).1
        simp at this
        subst this
        simp at h
        exact ⟨rfl, h.symm⟩
      exact ⟨_, rfl, hu⟩
  | .rep x l m z, p, hu, i, q, h => by
    simp only [pp] at h
    obtain ⟨rfl, rfl⟩ : i = 0 ∧ q = p := by
      have := (List.getElem?_eq_some_iff.1 h).1
      simp at this
      subst this
      simp at h
      exact ⟨rfl, h.symm⟩
    exact ⟨_, rfl, hu⟩
/-- The tree at a place. -/
def tA (t : Tre) (q : Nat) : Tre := (t.subs[q]?).getD t
theorem tA_at {t : Tre} {q : Nat} {u : Tre} (h : t.subs[q]? = some u) : tA t q = u := by simp [tA, h]
/-- What is still to come of a stack, its top last. -/
def remS (c : Int) (t : Tre) : List Nat → List Nat
  | [] => []
  | q :: r => remS c t r ++ pp c (tA t q) q
def wgt (t : Tre) : List Nat → Nat
  | [] => 0
  | q :: r => (tA t q).size + wgt t r
theorem remS_app (c : Int) (t : Tre) : ∀ (st : List Nat) (q : Nat), remS c t (st ++ [q]) = pp c (tA t q) q ++ remS c t st
  | [], q => by simp [remS]
  | a :: r, q => by simp [remS, remS_app c t r q]
theorem wgt_app (t : Tre) : ∀ (st : List Nat) (q : Nat), wgt t (st ++ [q]) = wgt t st + (tA t q).size
  | [], q => by simp [wgt]
  | a :: r, q => by simp [wgt, wgt_app t r q]; omega
theorem wgt_len (t : Tre) : ∀ st : List Nat, st.length ≤ wgt t st
  | [] => Nat.le_refl _
  | a :: r => by have := wgt_len t r; have := (tA t a).size_pos; simp [wgt]; omega
/-- Two nodes are laid for one that joins. -/
theorem remS_two {c : Int} {t : Tre} {q : Nat} {x y : Tre} (h : t.subs[q]? = some (.two c x y)) (st : List Nat) : remS c t (st ++ [q - 1] ++ [q - 1 - y.size]) = remS c t (st ++ [q]) ∧ wgt t (st ++ [q - 1] ++ [q - 1 - y.size]) + 1 = wgt t (st ++ [q]) := by
  obtain ⟨h1, h2, h3⟩ := subs_two h
  rw [remS_app, remS_app, remS_app, wgt_app, wgt_app, wgt_app, tA_at h, tA_at h2, tA_at h3]
  constructor
  · simp [pp]
  · simp only [Tre.size]; omega
theorem pp_one {c : Int} {u : Tre} {q : Nat} (h : ∀ x y, u ≠ .two c x y) : pp c u q = [q] := by
  cases u with
  | leaf n => rfl
  | rep x l m z => rfl
  | two k x y =>
    unfold pp
    rw [if_neg (by rintro rfl; exact h x y rfl)]
end Go.Proofs.Ytgedhjflminlbaa
