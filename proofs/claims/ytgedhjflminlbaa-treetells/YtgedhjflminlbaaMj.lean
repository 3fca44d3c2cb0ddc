/- What stands within Mirror's loop: plain facts. -/
import Derived.Test.YtgedhjflminlbaaMi
import Derived.Test.YtgedhjflminlbaaMv
namespace Go.Proofs.Ytgedhjflminlbaa
theorem pr_rep_child : ∀ (t : Tre) (p : Nat) (x : Tre) (l m : Int) (z : Bool), t.subs[p]? = some (.rep x l m z) → pr t (p - 1) = p
  | .leaf _, p, x, l, m, z, h => by
    obtain ⟨_, h⟩ := leaf_subs h
    cases h
  | .two k' x' y', p, x, l, m, z, h => by
    have hq := subs_rep h
    have px := x.size_pos
    have px' := x'.size_pos
    rcases two_subs h with ⟨h1, h2⟩ | ⟨h0, h1, h2⟩ | ⟨rfl, e⟩
    · have i1 := pr_rep_child x' p x l m z h2
      simp only [pr]
      rw [if_pos (by omega)]
      exact i1
    · have hs := (subs_rep h2).1
      have i1 := pr_rep_child y' _ x l m z h2
      simp only [pr]
      rw [if_neg (by omega), if_neg (by omega), if_pos (by omega), show p - 1 - x'.size = p - x'.size - 1 by omega, i1]
      omega
    · cases e
  | .rep x' l' m' z', p, x, l, m, z, h => by
    have hq := subs_rep h
    have px := x.size_pos
    rcases rep_subs h with ⟨h1, h2⟩ | ⟨rfl, e⟩
    · have i1 := pr_rep_child x' p x l m z h2
      simp only [pr]
      rw [if_pos (by omega)]
      exact i1
    · obtain ⟨rfl, rfl, rfl, rfl⟩ : x = x' ∧ l = l' ∧ m = m' ∧ z = z' := by simpa using e
      simp only [pr]
      rw [if_neg (by omega), if_pos (by omega)]
/-- Behind i nodes, from the root on. -/
def Inv (t : Tre) (i : Nat) (T : Nat → Nd) (g : Nat → Int) : Prop :=
  (∀ q, q < t.size → t.size ≤ pr t q + i → g q = bg t 0 q) ∧ ∀ p u, t.size ≤ p + i → t.subs[p]? = some u → T (bg t 0 p + u.size - 1) = nodes (mir t) (bg t 0 p + u.size - 1)
theorem Inv.start (t : Tre) (T : Nat → Nd) : Inv t 0 T (fun _ => 0) := by
  refine ⟨fun q hq h => ?_, fun p u h hu => ?_⟩
  · have hr : q = t.size - 1 := by
      rcases Nat.lt_or_ge q (t.size - 1) with h' | h'
      · have := pr_le t q (by omega); omega
      · omega
    subst hr
    rw [bg_root]; rfl
  · have := (List.getElem?_eq_some_iff.1 hu).1
    rw [Tre.subs_length] at this
    omega
theorem Inv.done {t : Tre} {T : Nat → Nd} {g : Nat → Int} (h : Inv t t.size T g) : ∀ j, j < t.size → T j = nodes (mir t) j := by
  intro j hj
  obtain ⟨p, u, hp, e⟩ := bg_all t 0 j hj
  have := h.2 p u (by omega) hp
  rwa [show bg t 0 p + u.size - 1 = j by omega] at this
/-- The node that is told next. -/
structure Nxt (t : Tre) (i p : Nat) (u : Tre) : Prop where
  hi : i < t.size
  hp : p = t.size - 1 - i
  hu : t.subs[p]? = some u
theorem Nxt.lt {t : Tre} {i p : Nat} {u : Tre} (h : Nxt t i p u) : p < t.size ∧ p + i + 1 = t.size := by
  have := h.hi; have := h.hp; omega
theorem Nxt.at_ {t : Tre} {i p : Nat} {u : Tre} {T : Nat → Nd} {g : Nat → Int} (h : Nxt t i p u) (hI : Inv t i T g) : g p = bg t 0 p := by
  obtain ⟨h1, h2⟩ := h.lt
  exact hI.1 p h1 (by have := pr_gt t p h1; omega)
theorem Nxt.place {t : Tre} {i p : Nat} {u : Tre} (h : Nxt t i p u) : bg t 0 p + u.size - 1 < t.size ∧ u.size ≤ p + 1 ∧ nodes (mir t) (bg t 0 p + u.size - 1) = (mir u).nd ((bg t 0 p + u.size - 1 : Nat) : Int) := by
  obtain ⟨_, a2, a3⟩ := bg_at t 0 p u h.hu
  have := u.size_pos
  refine ⟨by omega, (subs_sub t p u h.hu).1, ?_⟩
  rw [Nat.sub_zero] at a3
  exact nodes_get a3
theorem Nxt.step {t : Tre} {i p : Nat} {u : Tre} {T : Nat → Nd} {g g' : Nat → Int} {x : Nd} (h : Nxt t i p u) (hI : Inv t i T g) (hx : x = (mir u).nd ((bg t 0 p + u.size - 1 : Nat) : Int)) (h1 : ∀ q, q < t.size → pr t q = p → g' q = bg t 0 q) (h2 : ∀ q, q < t.size → pr t q > p → g' q = g q) : Inv t (i + 1) (updN T (bg t 0 p + u.size - 1) x) g' := by
  obtain ⟨_, l2⟩ := h.lt
  refine ⟨fun q hq hp => ?_, fun p' u' hp' hu' => ?_⟩
  · by_cases e : pr t q = p
    · exact h1 q hq e
    · rw [h2 q hq (by omega)]
      exact hI.1 q hq (by omega)
  · unfold updN
    split
    · rename_i e
      rw [e, hx, h.place.2.2]
    · rename_i e
      by_cases e2 : p' = p
      · subst e2
        rw [h.hu] at hu'
        obtain rfl := Option.some.inj hu'
        exact absurd rfl e
      · exact hI.2 p' u' (by omega) hu'
theorem Nxt.leaf {t : Tre} {i p : Nat} {n : Nd} {T : Nat → Nd} {g : Nat → Int} (h : Nxt t i p (.leaf n)) (hI : Inv t i T g) : Inv t (i + 1) (updN T (bg t 0 p + (Tre.leaf n).size - 1) (swp n)) g := by
  refine h.step hI rfl (fun q hq e => ?_) (fun _ _ _ => rfl)
  exfalso
  obtain ⟨l1, _⟩ := h.lt
  have hq1 : q + 1 < t.size := by
    rcases Nat.lt_or_ge (q + 1) t.size with h' | h'
    · exact h'
    · have : q = t.size - 1 := by omega
      subst this
      rw [pr_root] at e; omega
  rcases pr_is t q hq1 with ⟨_, _, _, h1, _⟩ | ⟨_, _, _, _, h1, _⟩ <;> rw [e, h.hu] at h1 <;> cases h1
theorem Nxt.rep {t : Tre} {i p : Nat} {x : Tre} {l m : Int} {z : Bool} {T : Nat → Nd} {g : Nat → Int} (h : Nxt t i p (.rep x l m z)) (hI : Inv t i T g) :
    Inv t (i + 1) (updN T (bg t 0 p + (Tre.rep x l m z).size - 1) ⟨5, 0, 0, 0, 0, ((bg t 0 p + (Tre.rep x l m z).size - 1 : Nat) : Int) - 1, 0, l, m, z⟩) (updI g (p - 1) (g p)) := by
  have ha := h.at_ hI
  obtain ⟨l1, _⟩ := h.lt
  have hs := (subs_rep h.hu).1
  have px := x.size_pos
  have hone : ∀ q, q < t.size → pr t q = p → q = p - 1 := fun q hq e => by
    have hq1 : q + 1 < t.size := by
      rcases Nat.lt_or_ge (q + 1) t.size with h' | h'
      · exact h'
      · have : q = t.size - 1 := by omega
        subst this
        rw [pr_root] at e; omega
    rcases pr_is t q hq1 with ⟨_, _, _, h1, _⟩ | ⟨_, _, _, _, h1, h2⟩
    · rw [e, h.hu] at h1; cases h1
    · rw [e] at h2; exact h2
  have hpr := pr_rep_child t p x l m z h.hu
  refine h.step hI rfl (fun q hq e => ?_) (fun q hq e => ?_)
  · rw [hone q hq e, updI, if_pos rfl, ha, bg_rep t 0 p x l m z h.hu]
  · have : q ≠ p - 1 := by rintro rfl; omega
    simp [updI, this]
theorem Nxt.two {t : Tre} {i p : Nat} {k : Int} {x y : Tre} {T : Nat → Nd} {g : Nat → Int} (h : Nxt t i p (.two k x y)) (hI : Inv t i T g) (fi se : Nat) (sv : Int) (hk : (k = 3 ∧ fi = p - 1 ∧ se = p - 1 - y.size ∧ sv = g p + y.size) ∨ (k = 4 ∧ fi = p - 1 - y.size ∧ se = p - 1 ∧ sv = g p + x.size)) :
    Inv t (i + 1) (updN T (bg t 0 p + (Tre.two k x y).size - 1) ⟨k, 0, 0, 0, 0, sv - 1, ((bg t 0 p + (Tre.two k x y).size - 1 : Nat) : Int) - 1, 0, 0, false⟩) (updI (updI g fi (g p)) se sv) := by
  have ha := h.at_ hI
  obtain ⟨l1, _⟩ := h.lt
  have hs := (subs_two h.hu).1
  have px := x.size_pos
  have py := y.size_pos
  have hb := bg_two t 0 p k x y h.hu
  have hpr := pr_two h.hu
  obtain ⟨c1, c2⟩ := pr_child t p k x y h.hu
  have mx := mir_size x
  have my := mir_size y
  refine h.step hI ?_ (fun q hq e => ?_) (fun q hq e => ?_)
  · rcases hk with ⟨rfl, rfl, rfl, rfl⟩ | ⟨rfl, rfl, rfl, rfl⟩
    · simp only [mir, if_true, Tre.nd, Tre.size, mx, ha]
      congr 1
      omega
    · simp only [mir, Tre.nd, Tre.size, ha]
      rw [if_neg (by decide)]
      simp only [my]
      congr 1
      omega
  · have hq2 := (hpr q hq).1 e
    rcases hk with ⟨rfl, rfl, rfl, rfl⟩ | ⟨rfl, rfl, rfl, rfl⟩
    · obtain ⟨b1, b2⟩ := hb.1 rfl
      rcases hq2 with rfl | rfl
      · rw [updI, if_neg (by omega), updI, if_pos rfl, ha, b1]
      · rw [updI, if_pos rfl, ha, b2]; simp
    · obtain ⟨b1, b2⟩ := hb.2 (by decide)
      rcases hq2 with rfl | rfl
      · rw [updI, if_pos rfl, ha, b2]; simp
      · rw [updI, if_neg (by omega), updI, if_pos rfl, ha, b1]
  · have n1 : q ≠ p - 1 := by rintro rfl; omega
    have n2 : q ≠ p - 1 - y.size := by rintro rfl; omega
    rcases hk with ⟨_, rfl, rfl, _⟩ | ⟨_, rfl, rfl, _⟩ <;> simp [updI, n1, n2]
end Go.Proofs.Ytgedhjflminlbaa
