/- Ported: TtI. -/
import Derived.Test.YtobgmgpclcfkcaaTtH
namespace Go.Proofs.Ytobgmgpclcfkcaa.T
open Go.RowKit
/-- How great a subtree is. -/
def szF (t : Tre) (p : Nat) : Int := ((t.subs[p]?).getD t).size
/-- What Sizes answers. -/
def RetSz (w : World) (F : Nat → Nd) (n : Nat) (e : Ending) (w' : World) : Prop :=
  (∃ v, e = .returned (.tuple #[v, .bool (treeOf F n).isSome]) ∧ ∀ t, treeOf F n = some t → ∃ ao cap, v = .slice ao n cap ∧ w'.ownsRow w.heap.size 3 1 (.slice ao n cap) n (ints (szF t) n)) ∧ Below w.heap.size w w'
theorem step_bare {ts ts' : List Tre} {p : Nat} {n : Nd} (h : stepT ts p n = some ts') (hp : sizeF ts = p) (ho : ∀ t ∈ ts, t.ok = true) : n.eq (bareN n) = true := by
  obtain ⟨_, ho', u, r, rfl, _, hnd⟩ := stepT_inv h hp ho
  have hok := ho' u (by simp)
  rw [Nd.eq_iff]
  cases u with
  | leaf m =>
    simp only [Tre.nd] at hnd
    subst hnd
    have hk := lf_kind hok
    have := bare_lf (n := n) (by omega) (by omega)
    rw [← Nd.eq_iff, this]
    exact hok
  | two k x y =>
    simp [Tre.ok] at hok
    rw [hnd]
    rcases hok.1.1 with rfl | rfl <;> simp [Tre.nd, bareN]
  | rep x l m z =>
    rw [hnd]
    simp [Tre.nd, bareN]
theorem step_leaf' {ts : List Tre} {p : Nat} {n : Nd} (hk : 1 ≤ n.k ∧ n.k ≤ 7) (h3 : n.k ≠ 3 ∧ n.k ≠ 4 ∧ n.k ≠ 5) (hb : n.eq (bareN n) = true) : stepT ts p n = some (.leaf n :: ts) := by
  rw [stepT_lf ts p n h3, if_pos]
  rw [← bare_lf hk h3]; exact hb
theorem step_rep' {ts : List Tre} {p : Nat} {n : Nd} (hk : n.k = 5) (hb : n.eq (bareN n) = true) : stepT ts p n = match ts with
    | x :: r => if Tre.mayR n.l n.m = true ∧ n.a = (p : Int) - 1 then some (.rep x n.l n.m n.z :: r) else none
    | [] => none := by
  have e : n = ⟨5, 0, 0, 0, 0, n.a, 0, n.l, n.m, n.z⟩ := by
    have := Nd.eq_iff.1 hb
    unfold bareN at this
    rw [if_neg (by omega), if_neg (by omega), if_pos hk] at this
    exact this
  unfold stepT
  rw [if_neg (by omega), if_pos hk]
  cases ts with
  | nil => rfl
  | cons x r =>
    have q : n.eq ((Tre.rep x n.l n.m n.z).nd p) = decide (n.a = (p : Int) - 1) := by
      rw [Bool.eq_iff_iff, Nd.eq_iff]
      simp only [Tre.nd, decide_eq_true_eq]
      constructor
      · intro h; rw [h]
      · intro h; rw [← h]; exact e
    simp only [q, Bool.and_eq_true, decide_eq_true_eq]
theorem step_two' {ts : List Tre} {p : Nat} {n : Nd} (hk : n.k = 3 ∨ n.k = 4) (hb : n.eq (bareN n) = true) : stepT ts p n = match ts with
    | y :: x :: r => if n.a = (p : Int) - 1 - y.size ∧ n.b = (p : Int) - 1 then some (.two n.k x y :: r) else none
    | _ => none := by
  have e : n = ⟨n.k, 0, 0, 0, 0, n.a, n.b, 0, 0, false⟩ := by
    have := Nd.eq_iff.1 hb
    unfold bareN at this
    rw [if_neg (by omega), if_pos hk] at this
    exact this
  unfold stepT
  rw [if_pos hk]
  match ts with
  | [] => rfl
  | [_] => rfl
  | y :: x :: r =>
    have q : n.eq ((Tre.two n.k x y).nd p) = decide (n.a = (p : Int) - 1 - y.size ∧ n.b = (p : Int) - 1) := by
      rw [Bool.eq_iff_iff, Nd.eq_iff]
      simp only [Tre.nd, decide_eq_true_eq]
      constructor
      · intro h; rw [h]; exact ⟨rfl, rfl⟩
      · rintro ⟨h1, h2⟩; rw [← h1, ← h2]; exact e
    simp only [q, decide_eq_true_eq]
end Go.Proofs.Ytobgmgpclcfkcaa.T
