/- The reference's bare: the walk. The reference's Sizes: what its step comes to. -/
import Derived.Test.YthbmfnibgjlkhaaDoorGSpSaNl
import Derived.Test.YthbmfnibgjlkhaaDoorMe
import Derived.Test.YthbmfnibgjlkhaaDoorGMvEmGrJoRpJk
namespace Go.Proofs.YthbmfnibgjlkhaaDoor
open Go.RowKit
def bareN (n : Nd) : Nd := if n.k = 2 then ⟨2, n.c0, n.c1, n.c2, n.c3, 0, 0, 0, 0, false⟩ else if n.k = 3 ∨ n.k = 4 then ⟨n.k, 0, 0, 0, 0, n.a, n.b, 0, 0, false⟩ else if n.k = 5 then ⟨5, 0, 0, 0, 0, n.a, 0, n.l, n.m, n.z⟩ else ⟨n.k, 0, 0, 0, 0, 0, 0, 0, 0, false⟩
theorem below3 (w : World) (o o' o'' : Obj) : Below w.heap.size w (((w.alloc o).alloc o').alloc o'') := (below2 w o o').alloc (by simp; omega) _
set_option maxRecDepth 10000 in
set_option maxHeartbeats 1000000 in
theorem bare_any (n : Nd) (w : World) : Calls Tryd.prog 100 #[ndV n] w fun e w' => e = .returned (ndV (bareN n)) ∧ Below w.heap.size w w' := by
  obtain ⟨k, c0, c1, c2, c3, a, b, l, m, z⟩ := n
  by_cases h2 : k = 2
  · subst h2
    have e : bareN ⟨2, c0, c1, c2, c3, a, b, l, m, z⟩ = ⟨2, c0, c1, c2, c3, 0, 0, 0, 0, false⟩ := by simp [bareN]
    rw [e]
    unfold ndV
    dsimp only
    go_enter Tryd.func100, Tryd.ntmps100
    go_wp2
    exact bodyPost_ret (by simp [results, Tryd.results100, go_sem]) rfl ⟨rfl, below3 _ _ _ _⟩
  by_cases h3 : k = 3
  · subst h3
    have e : bareN ⟨3, c0, c1, c2, c3, a, b, l, m, z⟩ = ⟨3, 0, 0, 0, 0, a, b, 0, 0, false⟩ := by simp [bareN]
    rw [e]
    unfold ndV
    dsimp only
    go_enter Tryd.func100, Tryd.ntmps100
    go_wp2
    exact bodyPost_ret (by simp [results, Tryd.results100, go_sem]) rfl ⟨rfl, below3 _ _ _ _⟩
  by_cases h4 : k = 4
  · subst h4
    have e : bareN ⟨4, c0, c1, c2, c3, a, b, l, m, z⟩ = ⟨4, 0, 0, 0, 0, a, b, 0, 0, false⟩ := by simp [bareN]
    rw [e]
    unfold ndV
    dsimp only
    go_enter Tryd.func100, Tryd.ntmps100
    go_wp2
    exact bodyPost_ret (by simp [results, Tryd.results100, go_sem]) rfl ⟨rfl, below3 _ _ _ _⟩
  by_cases h5 : k = 5
  · subst h5
    have e : bareN ⟨5, c0, c1, c2, c3, a, b, l, m, z⟩ = ⟨5, 0, 0, 0, 0, a, 0, l, m, z⟩ := by simp [bareN]
    rw [e]
    unfold ndV
    dsimp only
    go_enter Tryd.func100, Tryd.ntmps100
    go_wp2
    exact bodyPost_ret (by simp [results, Tryd.results100, go_sem]) rfl ⟨rfl, below3 _ _ _ _⟩
  have e : bareN ⟨k, c0, c1, c2, c3, a, b, l, m, z⟩ = ⟨k, 0, 0, 0, 0, 0, 0, 0, 0, false⟩ := by simp [bareN, h2, h3, h4, h5]
  rw [e]
  unfold ndV
  dsimp only
  have e2 : (k == 2) = false := by simpa using h2
  have e3 : (k == 3) = false := by simpa using h3
  have e4 : (k == 4) = false := by simpa using h4
  have e5 : (k == 5) = false := by simpa using h5
  clear h2 h3 h4 h5
  go_enter Tryd.func100, Tryd.ntmps100
  go_wp2
  exact bodyPost_ret (by simp [results, Tryd.results100, go_sem]) rfl ⟨rfl, below3 _ _ _ _⟩
/-- A node is its kind's own, by the reference's test, just as the scan has it. -/
theorem bare_lf {n : Nd} (h : 1 ≤ n.k ∧ n.k ≤ 7) (h3 : n.k ≠ 3 ∧ n.k ≠ 4 ∧ n.k ≠ 5) : n.eq (bareN n) = Tre.lf n := by
  unfold bareN
  by_cases h2 : n.k = 2
  · rw [if_pos h2, lf_2 h2]
  · rw [if_neg h2, if_neg (by omega), if_neg h3.2.2, lf_1 (by omega)]
end Go.Proofs.YthbmfnibgjlkhaaDoor
namespace Go.Proofs.YthbmfnibgjlkhaaDoor
open Go.RowKit
/-- How great a subtree is. -/
def szF (t : Tre) (p : Nat) : Int := ((t.subs[p]?).getD t).size
/-- What Sizes answers. -/
def RetSz (w : World) (F : Nat → Nd) (n : Nat) (e : Ending) (w' : World) : Prop :=
  (∃ v, e = .returned (.tuple #[v, .bool (treeOf F n).isSome]) ∧ ∀ t, treeOf F n = some t → ∃ ao cap, v = .slice ao n cap ∧ w'.ownsRow w.heap.size 3 1 (.slice ao n cap) n (ints (szF t) n)) ∧ Below w.heap.size w w'
theorem step_bare {ts ts' : List Tre} {p : Nat} {n : Nd} (h : stepT ts p n = some ts') (hp : sizeF ts = p) (ho : ∀ t ∈ ts, t.ok = true) : n.eq (bareN n) = true := by
  obtain ⟨_, ho', u, r, rfl, _, hnd⟩ := stepT_inv h hp ho
  have hok := ho' u (by simp)
  rw [Nd.eq_iff]
  cases u with
  | leaf m =>
    simp only [Tre.nd] at hnd
    subst hnd
    have hk := lf_kind hok
    have := bare_lf (n := n) (by omega) (by omega)
    rw [← Nd.eq_iff, this]
    exact hok
  | two k x y =>
    simp [Tre.ok] at hok
    rw [hnd]
    rcases hok.1.1 with rfl | rfl <;> simp [Tre.nd, bareN]
  | rep x l m z =>
    rw [hnd]
    simp [Tre.nd, bareN]
theorem step_leaf' {ts : List Tre} {p : Nat} {n : Nd} (hk : 1 ≤ n.k ∧ n.k ≤ 7) (h3 : n.k ≠ 3 ∧ n.k ≠ 4 ∧ n.k ≠ 5) (hb : n.eq (bareN n) = true) : stepT ts p n = some (.leaf n :: ts) := by
  rw [stepT_lf ts p n h3, if_pos]
  rw [← bare_lf hk h3]; exact hb
theorem step_rep' {ts : List Tre} {p : Nat} {n : Nd} (hk : n.k = 5) (hb : n.eq (bareN n) = true) : stepT ts p n = match ts with
    | x :: r => if Tre.mayR n.l n.m = true ∧ n.a = (p : Int) - 1 then some (.rep x n.l n.m n.z :: r) else none
    | [] => none := by
  have e : n = ⟨5, 0, 0, 0, 0, n.a, 0, n.l, n.m, n.z⟩ := by
    have := Nd.eq_iff.1 hb
    unfold bareN at this
    rw [if_neg (by omega), if_neg (by omega), if_pos hk] at this
    exact this
  unfold stepT
  rw [if_neg (by omega), if_pos hk]
  cases ts with
  | nil => rfl
  | cons x r =>
    have q : n.eq ((Tre.rep x n.l n.m n.z).nd p) = decide (n.a = (p : Int) - 1) := by
      rw [Bool.eq_iff_iff, Nd.eq_iff]
      simp only [Tre.nd, decide_eq_true_eq]
      constructor
      · intro h; rw [h]
      · intro h; rw [← h]; exact e
    simp only [q, Bool.and_eq_true, decide_eq_true_eq]
theorem step_two' {ts : List Tre} {p : Nat} {n : Nd} (hk : n.k = 3 ∨ n.k = 4) (hb : n.eq (bareN n) = true) : stepT ts p n = match ts with
    | y :: x :: r => if n.a = (p : Int) - 1 - y.size ∧ n.b = (p : Int) - 1 then some (.two n.k x y :: r) else none
    | _ => none := by
  have e : n = ⟨n.k, 0, 0, 0, 0, n.a, n.b, 0, 0, false⟩ := by
    have := Nd.eq_iff.1 hb
    unfold bareN at this
    rw [if_neg (by omega), if_pos hk] at this
    exact this
  unfold stepT
  rw [if_pos hk]
  match ts with
  | [] => rfl
  | [_] => rfl
  | y :: x :: r =>
    have q : n.eq ((Tre.two n.k x y).nd p) = decide (n.a = (p : Int) - 1 - y.size ∧ n.b = (p : Int) - 1) := by
      rw [Bool.eq_iff_iff, Nd.eq_iff]
      simp only [Tre.nd, decide_eq_true_eq]
      constructor
      · intro h; rw [h]; exact ⟨rfl, rfl⟩
      · rintro ⟨h1, h2⟩; rw [← h1, ← h2]; exact e
    simp only [q, decide_eq_true_eq]
end Go.Proofs.YthbmfnibgjlkhaaDoor
