/- The reference's bare: the walk. -/
import Derived.Test.YtgedhjflminlbaaSp
namespace Go.Proofs.Ytgedhjflminlbaa
open Go.RowKit
def bareN (n : Nd) : Nd := if n.k = 2 then ⟨2, n.c0, n.c1, n.c2, n.c3, 0, 0, 0, 0, false⟩ else if n.k = 3 ∨ n.k = 4 then ⟨n.k, 0, 0, 0, 0, n.a, n.b, 0, 0, false⟩ else if n.k = 5 then ⟨5, 0, 0, 0, 0, n.a, 0, n.l, n.m, n.z⟩ else ⟨n.k, 0, 0, 0, 0, 0, 0, 0, 0, false⟩
theorem below3 (w : World) (o o' o'' : Obj) : Below w.heap.size w (((w.alloc o).alloc o').alloc o'') := (below2 w o o').alloc (by simp; omega) _
set_option maxRecDepth 10000 in
set_option maxHeartbeats 1000000 in
theorem bare_any (n : Nd) (w : World) : Calls Try.prog 61 #[ndV n] w fun e w' => e = .returned (ndV (bareN n)) ∧ Below w.heap.size w w' := by
  obtain ⟨k, c0, c1, c2, c3, a, b, l, m, z⟩ := n
  by_cases h2 : k = 2
  · subst h2
    have e : bareN ⟨2, c0, c1, c2, c3, a, b, l, m, z⟩ = ⟨2, c0, c1, c2, c3, 0, 0, 0, 0, false⟩ := by simp [bareN]
    rw [e]
    unfold ndV
    dsimp only
    go_enter Try.func61, Try.ntmps61
    go_wp2
    exact bodyPost_ret (by simp [results, Try.results61, go_sem]) rfl ⟨rfl, below3 _ _ _ _⟩
  by_cases h3 : k = 3
  · subst h3
    have e : bareN ⟨3, c0, c1, c2, c3, a, b, l, m, z⟩ = ⟨3, 0, 0, 0, 0, a, b, 0, 0, false⟩ := by simp [bareN]
    rw [e]
    unfold ndV
    dsimp only
    go_enter Try.func61, Try.ntmps61
    go_wp2
    exact bodyPost_ret (by simp [results, Try.results61, go_sem]) rfl ⟨rfl, below3 _ _ _ _⟩
  by_cases h4 : k = 4
  · subst h4
    have e : bareN ⟨4, c0, c1, c2, c3, a, b, l, m, z⟩ = ⟨4, 0, 0, 0, 0, a, b, 0, 0, false⟩ := by simp [bareN]
    rw [e]
    unfold ndV
    dsimp only
    go_enter Try.func61, Try.ntmps61
    go_wp2
    exact bodyPost_ret (by simp [results, Try.results61, go_sem]) rfl ⟨rfl, below3 _ _ _ _⟩
  by_cases h5 : k = 5
  · subst h5
    have e : bareN ⟨5, c0, c1, c2, c3, a, b, l, m, z⟩ = ⟨5, 0, 0, 0, 0, a, 0, l, m, z⟩ := by simp [bareN]
    rw [e]
    unfold ndV
    dsimp only
    go_enter Try.func61, Try.ntmps61
    go_wp2
    exact bodyPost_ret (by simp [results, Try.results61, go_sem]) rfl ⟨rfl, below3 _ _ _ _⟩
  have e : bareN ⟨k, c0, c1, c2, c3, a, b, l, m, z⟩ = ⟨k, 0, 0, 0, 0, 0, 0, 0, 0, false⟩ := by simp [bareN, h2, h3, h4, h5]
  rw [e]
  unfold ndV
  dsimp only
  have e2 : (k == 2) = false := by simpa using h2
  have e3 : (k == 3) = false := by simpa using h3
  have e4 : (k == 4) = false := by simpa using h4
  have e5 : (k == 5) = false := by simpa using h5
  clear h2 h3 h4 h5
  go_enter Try.func61, Try.ntmps61
  go_wp2
  exact bodyPost_ret (by simp [results, Try.results61, go_sem]) rfl ⟨rfl, below3 _ _ _ _⟩
/-- A node is its kind's own, by the reference's test, just as the scan has it. -/
theorem bare_lf {n : Nd} (h : 1 ≤ n.k ∧ n.k ≤ 7) (h3 : n.k ≠ 3 ∧ n.k ≠ 4 ∧ n.k ≠ 5) : n.eq (bareN n) = Tre.lf n := by
  unfold bareN
  by_cases h2 : n.k = 2
  · rw [if_pos h2, lf_2 h2]
  · rw [if_neg h2, if_neg (by omega), if_neg h3.2.2, lf_1 (by omega)]
end Go.Proofs.Ytgedhjflminlbaa
