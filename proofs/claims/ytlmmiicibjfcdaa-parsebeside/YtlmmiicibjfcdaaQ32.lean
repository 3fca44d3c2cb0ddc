/- The reference of token: count: the walk. The reference of token: count as a whole. -/
import Derived.Test.YtlmmiicibjfcdaaQ31
namespace Go.Proofs.Ytlmmiicibjfcdaa.X
open Go.RowKit
/-- A token and a place; nothing old has turned. -/
def RetP (w : World) (t : Value) (en : Int) (e : Ending) (w' : World) : Prop := e = .returned (.tuple #[t, .int .i64 en]) ∧ Below w.heap.size w w'
/-- What the reference's count says: a repeat and the place behind it, or nothing and 0. -/
def rcntR (z : Nat → Nat) (n fr : Nat) : Value × Int := if (cntV z n fr).2.2.2 = 0 then (tokV 7 0 0 0 0 0 false (cntV z n fr).1 (cntV z n fr).2.1 false 0, ((cntV z n fr).2.2.1 : Nat)) else (tokV 0 0 0 0 0 0 false 0 0 false 0, 0)
theorem numOk_dig {z : Nat → Nat} {n k : Nat} (h : numOk z n k = true) : k < n ∧ digP (z k) = true := by
  unfold numOk at h
  simp only [Bool.and_eq_true, decide_eq_true_eq] at h
  have h1 := h.1.1
  unfold numR at h1
  cases hd : n - k with
  | zero => rw [hd, numG] at h1; exact absurd h1 (Nat.lt_irrefl _)
  | succ f =>
    rw [hd, numG] at h1
    split at h1
    · rename_i hc
      simp only [Bool.and_eq_true, decide_eq_true_eq] at hc
      exact hc.1
    · exact absurd h1 (Nat.lt_irrefl _)
set_option maxRecDepth 10000 in
set_option maxHeartbeats 1000000 in
theorem rc_no (bb off n cap fr : Nat) (w : World) (hn : (n : Int) ≤ 1024) (hf : fr < n) (N1 : Hid (∀ W, Below w.heap.size w W → Calls Try.prog 123 #[.slice (some ⟨bb, off, none⟩) n cap, .int .i64 ((fr : Int) + 1)] W fun e w' => e = .returned (.tuple #[.int .i64 0, .int .i64 0]) ∧ w' = W)) : Calls Try.prog 113 #[.slice (some ⟨bb, off, none⟩) n cap, .int .i64 (fr : Nat)] w (RetP w (tokV 0 0 0 0 0 0 false 0 0 false 0) 0) := by
  go_enter Try.func113, Try.ntmps113
  go_wp2_with fail
  refine (N1.out _ (bel1 _ _)).mono ?_
  rintro e w1 ⟨rfl, rfl⟩
  go_wp2
  exact bodyPost_ret (v := .tuple #[tokV 0 0 0 0 0 0 false 0 0 false 0, .int .i64 0]) (by simp [results, Try.results113, go_sem, tokV]) rfl ⟨rfl, bel1 _ _⟩
set_option maxRecDepth 10000 in
set_option maxHeartbeats 1000000 in
theorem rc_end (bb off n cap fr : Nat) (w : World) (hn : (n : Int) ≤ 1024) (hf : fr < n) (v k : Nat) (hk0 : 0 < k) (hkn : ¬ k < n) (N1 : Hid (∀ W, Below w.heap.size w W → Calls Try.prog 123 #[.slice (some ⟨bb, off, none⟩) n cap, .int .i64 ((fr : Int) + 1)] W fun e w' => e = .returned (.tuple #[.int .i64 (v : Nat), .int .i64 (k : Nat)]) ∧ w' = W)) : Calls Try.prog 113 #[.slice (some ⟨bb, off, none⟩) n cap, .int .i64 (fr : Nat)] w (RetP w (tokV 0 0 0 0 0 0 false 0 0 false 0) 0) := by
  have h1 : ((k : Int) == 0) = false := by rw [beq_eq_false_iff_ne]; omega
  have h2 : ¬ ((k : Int) < (n : Int)) := by omega
  have h3 : (k : Int) ≥ (n : Int) := by omega
  go_enter Try.func113, Try.ntmps113
  go_wp2_with fail
  refine (N1.out _ (bel1 _ _)).mono ?_
  rintro e w1 ⟨rfl, rfl⟩
  go_wp2
  exact bodyPost_ret (v := .tuple #[tokV 0 0 0 0 0 0 false 0 0 false 0, .int .i64 0]) (by simp [results, Try.results113, go_sem, tokV]) rfl ⟨rfl, bel1 _ _⟩
set_option maxRecDepth 10000 in
set_option maxHeartbeats 1000000 in
theorem rc_plain (bb off n cap fr : Nat) (z : Nat → Nat) (w : World) (hr : Rd w (some ⟨bb, off, none⟩) n z) (hn : (n : Int) ≤ 1024) (hf : fr < n) (v k : Nat) (hv : v ≤ 1000) (hk0 : 0 < k) (hkn : k < n) (h125 : z k = 125) (N1 : Hid (∀ W, Below w.heap.size w W → Calls Try.prog 123 #[.slice (some ⟨bb, off, none⟩) n cap, .int .i64 ((fr : Int) + 1)] W fun e w' => e = .returned (.tuple #[.int .i64 (v : Nat), .int .i64 (k : Nat)]) ∧ w' = W)) : Calls Try.prog 113 #[.slice (some ⟨bb, off, none⟩) n cap, .int .i64 (fr : Nat)] w (RetP w (tokV 7 0 0 0 0 0 false (v : Nat) (v : Nat) false 0) ((k : Int) + 1)) := by
  have h1 : ((k : Int) == 0) = false := by rw [beq_eq_false_iff_ne]; omega
  have c0 : ∀ o, (w.alloc o).cell? ⟨bb, off + k, none⟩ = some (.int .u8 (z k : Nat)) := fun o => by
    obtain ⟨b', o', e, hlt, hc⟩ := hr.at_ (by omega)
    cases e
    rw [(bel1 w o).cell (p := ⟨bb, off + k, none⟩) hlt]; exact hc k (by omega)
  have l0 : ((k : Nat) : Int) < (n : Int) := by omega
  have e44 : (((z k : Nat) : Int) == 44) = false := by rw [beq_eq_false_iff_ne]; omega
  have e125 : (((z k : Nat) : Int) != 125) = false := by simp; omega
  have h3 : ¬ ((k : Int) ≥ (n : Int)) := by omega
  have h4 : (v : Int) ≥ 0 := by omega
  have h5 : ¬ ((v : Int) < (v : Int)) := by omega
  clear hr h125
  generalize z k = q at *
  go_enter Try.func113, Try.ntmps113
  go_wp2_with fail
  refine (N1.out _ (bel1 _ _)).mono ?_
  rintro e w1 ⟨rfl, rfl⟩
  go_wp2
  exact bodyPost_ret (v := .tuple #[tokV 7 0 0 0 0 0 false (v : Nat) (v : Nat) false 0, .int .i64 ((k : Int) + 1)]) (by simp [results, Try.results113, go_sem, tokV]) rfl ⟨rfl, bel1 _ _⟩
set_option maxRecDepth 10000 in
set_option maxHeartbeats 1000000 in
theorem rc_else (bb off n cap fr : Nat) (z : Nat → Nat) (w : World) (hr : Rd w (some ⟨bb, off, none⟩) n z) (hn : (n : Int) ≤ 1024) (hf : fr < n) (v k : Nat) (hv : v ≤ 1000) (hk0 : 0 < k) (hkn : k < n) (h44 : z k ≠ 44) (h125 : z k ≠ 125) (N1 : Hid (∀ W, Below w.heap.size w W → Calls Try.prog 123 #[.slice (some ⟨bb, off, none⟩) n cap, .int .i64 ((fr : Int) + 1)] W fun e w' => e = .returned (.tuple #[.int .i64 (v : Nat), .int .i64 (k : Nat)]) ∧ w' = W)) : Calls Try.prog 113 #[.slice (some ⟨bb, off, none⟩) n cap, .int .i64 (fr : Nat)] w (RetP w (tokV 0 0 0 0 0 0 false 0 0 false 0) 0) := by
  have h1 : ((k : Int) == 0) = false := by rw [beq_eq_false_iff_ne]; omega
  have c0 : ∀ o, (w.alloc o).cell? ⟨bb, off + k, none⟩ = some (.int .u8 (z k : Nat)) := fun o => by
    obtain ⟨b', o', e, hlt, hc⟩ := hr.at_ (by omega)
    cases e
    rw [(bel1 w o).cell (p := ⟨bb, off + k, none⟩) hlt]; exact hc k (by omega)
  have l0 : ((k : Nat) : Int) < (n : Int) := by omega
  have e44 : (((z k : Nat) : Int) == 44) = false := by rw [beq_eq_false_iff_ne]; omega
  have e125 : (((z k : Nat) : Int) != 125) = true := by simp; omega
  have h3 : ¬ ((k : Int) ≥ (n : Int)) := by omega
  have h4 : (v : Int) ≥ 0 := by omega
  have h5 : ¬ ((v : Int) < (v : Int)) := by omega
  clear hr h44 h125
  generalize z k = q at *
  go_enter Try.func113, Try.ntmps113
  go_wp2_with fail
  refine (N1.out _ (bel1 _ _)).mono ?_
  rintro e w1 ⟨rfl, rfl⟩
  go_wp2
  exact bodyPost_ret (v := .tuple #[tokV 0 0 0 0 0 0 false 0 0 false 0, .int .i64 0]) (by simp [results, Try.results113, go_sem, tokV]) rfl ⟨rfl, bel1 _ _⟩
set_option maxRecDepth 10000 in
set_option maxHeartbeats 1000000 in
theorem rc_open (bb off n cap fr : Nat) (z : Nat → Nat) (w : World) (hr : Rd w (some ⟨bb, off, none⟩) n z) (hn : (n : Int) ≤ 1024) (hf : fr < n) (v k : Nat) (hk0 : 0 < k) (hkn : k < n) (h44 : z k = 44) (hk1 : k + 1 < n) (h125 : z (k + 1) = 125) (N1 : Hid (∀ W, Below w.heap.size w W → Calls Try.prog 123 #[.slice (some ⟨bb, off, none⟩) n cap, .int .i64 ((fr : Int) + 1)] W fun e w' => e = .returned (.tuple #[.int .i64 (v : Nat), .int .i64 (k : Nat)]) ∧ w' = W)) (N2 : Hid (∀ W, Below w.heap.size w W → Calls Try.prog 123 #[.slice (some ⟨bb, off, none⟩) n cap, .int .i64 ((k : Int) + 1)] W fun e w' => e = .returned (.tuple #[.int .i64 0, .int .i64 0]) ∧ w' = W)) : Calls Try.prog 113 #[.slice (some ⟨bb, off, none⟩) n cap, .int .i64 (fr : Nat)] w (RetP w (tokV 7 0 0 0 0 0 false (v : Nat) (-1) false 0) ((k : Int) + 1 + 1)) := by
  have h1 : ((k : Int) == 0) = false := by rw [beq_eq_false_iff_ne]; omega
  have c0 : ∀ o, (w.alloc o).cell? ⟨bb, off + k, none⟩ = some (.int .u8 (z k : Nat)) := fun o => by
    obtain ⟨b', o', e, hlt, hc⟩ := hr.at_ (by omega)
    cases e
    rw [(bel1 w o).cell (p := ⟨bb, off + k, none⟩) hlt]; exact hc k (by omega)
  have l0 : ((k : Nat) : Int) < (n : Int) := by omega
  have c1 : ∀ o, (w.alloc o).cell? ⟨bb, off + (k + 1), none⟩ = some (.int .u8 (z (k + 1) : Nat)) := fun o => by
    obtain ⟨b', o', e, hlt, hc⟩ := hr.at_ (by omega)
    cases e
    rw [(bel1 w o).cell (p := ⟨bb, off + (k + 1), none⟩) hlt]; exact hc (k + 1) (by omega)
  have l1 : (((k + 1) : Nat) : Int) < (n : Int) := by omega
  have l2 : (k : Int) + 1 < (n : Int) := by omega
  have e125 : (((z (k + 1) : Nat) : Int) != 125) = false := by simp; omega
  have h3 : ¬ ((k : Int) + 1 ≥ (n : Int)) := by omega
  clear l1
  have e44 : (((z k : Nat) : Int) == 44) = true := by simp; omega
  have h6 : (k : Int) ≤ 1024 := by omega
  clear hr h44 h125
  generalize z k = q at *
  generalize z (k + 1) = q2 at *
  go_enter Try.func113, Try.ntmps113
  go_wp2_with fail
  refine (N1.out _ (bel1 _ _)).mono ?_
  rintro e w1 ⟨rfl, rfl⟩
  go_wp2_with fail
  refine (N2.out _ (bel1 _ _)).mono ?_
  rintro e w1 ⟨rfl, rfl⟩
  go_wp2
  exact bodyPost_ret (v := .tuple #[tokV 7 0 0 0 0 0 false (v : Nat) (-1) false 0, .int .i64 ((k : Int) + 1 + 1)]) (by simp [results, Try.results113, go_sem, tokV]) rfl ⟨rfl, bel1 _ _⟩
set_option maxRecDepth 10000 in
set_option maxHeartbeats 1000000 in
theorem rc_open_no (bb off n cap fr : Nat) (z : Nat → Nat) (w : World) (hr : Rd w (some ⟨bb, off, none⟩) n z) (hn : (n : Int) ≤ 1024) (hf : fr < n) (v k : Nat) (hk0 : 0 < k) (hkn : k < n) (h44 : z k = 44) (hk1 : k + 1 < n) (h125 : z (k + 1) ≠ 125) (N1 : Hid (∀ W, Below w.heap.size w W → Calls Try.prog 123 #[.slice (some ⟨bb, off, none⟩) n cap, .int .i64 ((fr : Int) + 1)] W fun e w' => e = .returned (.tuple #[.int .i64 (v : Nat), .int .i64 (k : Nat)]) ∧ w' = W)) (N2 : Hid (∀ W, Below w.heap.size w W → Calls Try.prog 123 #[.slice (some ⟨bb, off, none⟩) n cap, .int .i64 ((k : Int) + 1)] W fun e w' => e = .returned (.tuple #[.int .i64 0, .int .i64 0]) ∧ w' = W)) : Calls Try.prog 113 #[.slice (some ⟨bb, off, none⟩) n cap, .int .i64 (fr : Nat)] w (RetP w (tokV 0 0 0 0 0 0 false 0 0 false 0) 0) := by
  have h1 : ((k : Int) == 0) = false := by rw [beq_eq_false_iff_ne]; omega
  have c0 : ∀ o, (w.alloc o).cell? ⟨bb, off + k, none⟩ = some (.int .u8 (z k : Nat)) := fun o => by
    obtain ⟨b', o', e, hlt, hc⟩ := hr.at_ (by omega)
    cases e
    rw [(bel1 w o).cell (p := ⟨bb, off + k, none⟩) hlt]; exact hc k (by omega)
  have l0 : ((k : Nat) : Int) < (n : Int) := by omega
  have c1 : ∀ o, (w.alloc o).cell? ⟨bb, off + (k + 1), none⟩ = some (.int .u8 (z (k + 1) : Nat)) := fun o => by
    obtain ⟨b', o', e, hlt, hc⟩ := hr.at_ (by omega)
    cases e
    rw [(bel1 w o).cell (p := ⟨bb, off + (k + 1), none⟩) hlt]; exact hc (k + 1) (by omega)
  have l1 : (((k + 1) : Nat) : Int) < (n : Int) := by omega
  have l2 : (k : Int) + 1 < (n : Int) := by omega
  have e125 : (((z (k + 1) : Nat) : Int) != 125) = true := by simp; omega
  have h3 : ¬ ((k : Int) + 1 ≥ (n : Int)) := by omega
  clear l1
  have e44 : (((z k : Nat) : Int) == 44) = true := by simp; omega
  have h6 : (k : Int) ≤ 1024 := by omega
  clear hr h44 h125
  generalize z k = q at *
  generalize z (k + 1) = q2 at *
  go_enter Try.func113, Try.ntmps113
  go_wp2_with fail
  refine (N1.out _ (bel1 _ _)).mono ?_
  rintro e w1 ⟨rfl, rfl⟩
  go_wp2_with fail
  refine (N2.out _ (bel1 _ _)).mono ?_
  rintro e w1 ⟨rfl, rfl⟩
  go_wp2
  exact bodyPost_ret (v := .tuple #[tokV 0 0 0 0 0 0 false 0 0 false 0, .int .i64 0]) (by simp [results, Try.results113, go_sem, tokV]) rfl ⟨rfl, bel1 _ _⟩
set_option maxRecDepth 10000 in
set_option maxHeartbeats 1000000 in
theorem rc_open_end (bb off n cap fr : Nat) (z : Nat → Nat) (w : World) (hr : Rd w (some ⟨bb, off, none⟩) n z) (hn : (n : Int) ≤ 1024) (hf : fr < n) (v k : Nat) (hk0 : 0 < k) (hkn : k < n) (h44 : z k = 44) (hk1 : ¬ k + 1 < n) (N1 : Hid (∀ W, Below w.heap.size w W → Calls Try.prog 123 #[.slice (some ⟨bb, off, none⟩) n cap, .int .i64 ((fr : Int) + 1)] W fun e w' => e = .returned (.tuple #[.int .i64 (v : Nat), .int .i64 (k : Nat)]) ∧ w' = W)) (N2 : Hid (∀ W, Below w.heap.size w W → Calls Try.prog 123 #[.slice (some ⟨bb, off, none⟩) n cap, .int .i64 ((k : Int) + 1)] W fun e w' => e = .returned (.tuple #[.int .i64 0, .int .i64 0]) ∧ w' = W)) : Calls Try.prog 113 #[.slice (some ⟨bb, off, none⟩) n cap, .int .i64 (fr : Nat)] w (RetP w (tokV 0 0 0 0 0 0 false 0 0 false 0) 0) := by
  have h1 : ((k : Int) == 0) = false := by rw [beq_eq_false_iff_ne]; omega
  have c0 : ∀ o, (w.alloc o).cell? ⟨bb, off + k, none⟩ = some (.int .u8 (z k : Nat)) := fun o => by
    obtain ⟨b', o', e, hlt, hc⟩ := hr.at_ (by omega)
    cases e
    rw [(bel1 w o).cell (p := ⟨bb, off + k, none⟩) hlt]; exact hc k (by omega)
  have l0 : ((k : Nat) : Int) < (n : Int) := by omega
  have h3 : (k : Int) + 1 ≥ (n : Int) := by omega
  have e44 : (((z k : Nat) : Int) == 44) = true := by simp; omega
  have h6 : (k : Int) ≤ 1024 := by omega
  clear hr h44
  generalize z k = q at *
  go_enter Try.func113, Try.ntmps113
  go_wp2_with fail
  refine (N1.out _ (bel1 _ _)).mono ?_
  rintro e w1 ⟨rfl, rfl⟩
  go_wp2_with fail
  refine (N2.out _ (bel1 _ _)).mono ?_
  rintro e w1 ⟨rfl, rfl⟩
  go_wp2
  exact bodyPost_ret (v := .tuple #[tokV 0 0 0 0 0 0 false 0 0 false 0, .int .i64 0]) (by simp [results, Try.results113, go_sem, tokV]) rfl ⟨rfl, bel1 _ _⟩
set_option maxRecDepth 10000 in
set_option maxHeartbeats 1000000 in
theorem rc_two (bb off n cap fr : Nat) (z : Nat → Nat) (w : World) (hr : Rd w (some ⟨bb, off, none⟩) n z) (hn : (n : Int) ≤ 1024) (hf : fr < n) (v k x y : Nat) (hk0 : 0 < k) (hkn : k < n) (h44 : z k = 44) (hy0 : 0 < y) (hy : y < n) (h125 : z y = 125) (hvx : v ≤ x) (N1 : Hid (∀ W, Below w.heap.size w W → Calls Try.prog 123 #[.slice (some ⟨bb, off, none⟩) n cap, .int .i64 ((fr : Int) + 1)] W fun e w' => e = .returned (.tuple #[.int .i64 (v : Nat), .int .i64 (k : Nat)]) ∧ w' = W)) (N2 : Hid (∀ W, Below w.heap.size w W → Calls Try.prog 123 #[.slice (some ⟨bb, off, none⟩) n cap, .int .i64 ((k : Int) + 1)] W fun e w' => e = .returned (.tuple #[.int .i64 (x : Nat), .int .i64 (y : Nat)]) ∧ w' = W)) : Calls Try.prog 113 #[.slice (some ⟨bb, off, none⟩) n cap, .int .i64 (fr : Nat)] w (RetP w (tokV 7 0 0 0 0 0 false (v : Nat) (x : Nat) false 0) ((y : Int) + 1)) := by
  have h1 : ((k : Int) == 0) = false := by rw [beq_eq_false_iff_ne]; omega
  have c0 : ∀ o, (w.alloc o).cell? ⟨bb, off + k, none⟩ = some (.int .u8 (z k : Nat)) := fun o => by
    obtain ⟨b', o', e, hlt, hc⟩ := hr.at_ (by omega)
    cases e
    rw [(bel1 w o).cell (p := ⟨bb, off + k, none⟩) hlt]; exact hc k (by omega)
  have l0 : ((k : Nat) : Int) < (n : Int) := by omega
  have c1 : ∀ o, (w.alloc o).cell? ⟨bb, off + y, none⟩ = some (.int .u8 (z y : Nat)) := fun o => by
    obtain ⟨b', o', e, hlt, hc⟩ := hr.at_ (by omega)
    cases e
    rw [(bel1 w o).cell (p := ⟨bb, off + y, none⟩) hlt]; exact hc y (by omega)
  have l1 : ((y : Nat) : Int) < (n : Int) := by omega
  have e125 : (((z y : Nat) : Int) != 125) = false := by simp; omega
  have h3 : ¬ ((y : Int) ≥ (n : Int)) := by omega
  have h4 : (x : Int) ≥ 0 := by omega
  have h5 : ¬ ((x : Int) < (v : Int)) := by omega
  have e44 : (((z k : Nat) : Int) == 44) = true := by simp; omega
  have h6 : (k : Int) ≤ 1024 := by omega
  have h7 : (y : Int) > 0 := by omega
  clear hr h44 h125
  generalize z k = q at *
  generalize z y = q2 at *
  go_enter Try.func113, Try.ntmps113
  go_wp2_with fail
  refine (N1.out _ (bel1 _ _)).mono ?_
  rintro e w1 ⟨rfl, rfl⟩
  go_wp2_with fail
  refine (N2.out _ (bel1 _ _)).mono ?_
  rintro e w1 ⟨rfl, rfl⟩
  go_wp2
  exact bodyPost_ret (v := .tuple #[tokV 7 0 0 0 0 0 false (v : Nat) (x : Nat) false 0, .int .i64 ((y : Int) + 1)]) (by simp [results, Try.results113, go_sem, tokV]) rfl ⟨rfl, bel1 _ _⟩
set_option maxRecDepth 10000 in
set_option maxHeartbeats 1000000 in
theorem rc_two_less (bb off n cap fr : Nat) (z : Nat → Nat) (w : World) (hr : Rd w (some ⟨bb, off, none⟩) n z) (hn : (n : Int) ≤ 1024) (hf : fr < n) (v k x y : Nat) (hk0 : 0 < k) (hkn : k < n) (h44 : z k = 44) (hy0 : 0 < y) (hy : y < n) (h125 : z y = 125) (hvx : x < v) (N1 : Hid (∀ W, Below w.heap.size w W → Calls Try.prog 123 #[.slice (some ⟨bb, off, none⟩) n cap, .int .i64 ((fr : Int) + 1)] W fun e w' => e = .returned (.tuple #[.int .i64 (v : Nat), .int .i64 (k : Nat)]) ∧ w' = W)) (N2 : Hid (∀ W, Below w.heap.size w W → Calls Try.prog 123 #[.slice (some ⟨bb, off, none⟩) n cap, .int .i64 ((k : Int) + 1)] W fun e w' => e = .returned (.tuple #[.int .i64 (x : Nat), .int .i64 (y : Nat)]) ∧ w' = W)) : Calls Try.prog 113 #[.slice (some ⟨bb, off, none⟩) n cap, .int .i64 (fr : Nat)] w (RetP w (tokV 0 0 0 0 0 0 false 0 0 false 0) 0) := by
  have h1 : ((k : Int) == 0) = false := by rw [beq_eq_false_iff_ne]; omega
  have c0 : ∀ o, (w.alloc o).cell? ⟨bb, off + k, none⟩ = some (.int .u8 (z k : Nat)) := fun o => by
    obtain ⟨b', o', e, hlt, hc⟩ := hr.at_ (by omega)
    cases e
    rw [(bel1 w o).cell (p := ⟨bb, off + k, none⟩) hlt]; exact hc k (by omega)
  have l0 : ((k : Nat) : Int) < (n : Int) := by omega
  have c1 : ∀ o, (w.alloc o).cell? ⟨bb, off + y, none⟩ = some (.int .u8 (z y : Nat)) := fun o => by
    obtain ⟨b', o', e, hlt, hc⟩ := hr.at_ (by omega)
    cases e
    rw [(bel1 w o).cell (p := ⟨bb, off + y, none⟩) hlt]; exact hc y (by omega)
  have l1 : ((y : Nat) : Int) < (n : Int) := by omega
  have e125 : (((z y : Nat) : Int) != 125) = false := by simp; omega
  have h3 : ¬ ((y : Int) ≥ (n : Int)) := by omega
  have h4 : (x : Int) ≥ 0 := by omega
  have h5 : (x : Int) < (v : Int) := by omega
  have e44 : (((z k : Nat) : Int) == 44) = true := by simp; omega
  have h6 : (k : Int) ≤ 1024 := by omega
  have h7 : (y : Int) > 0 := by omega
  clear hr h44 h125
  generalize z k = q at *
  generalize z y = q2 at *
  go_enter Try.func113, Try.ntmps113
  go_wp2_with fail
  refine (N1.out _ (bel1 _ _)).mono ?_
  rintro e w1 ⟨rfl, rfl⟩
  go_wp2_with fail
  refine (N2.out _ (bel1 _ _)).mono ?_
  rintro e w1 ⟨rfl, rfl⟩
  go_wp2
  exact bodyPost_ret (v := .tuple #[tokV 0 0 0 0 0 0 false 0 0 false 0, .int .i64 0]) (by simp [results, Try.results113, go_sem, tokV]) rfl ⟨rfl, bel1 _ _⟩
set_option maxRecDepth 10000 in
set_option maxHeartbeats 1000000 in
theorem rc_two_no (bb off n cap fr : Nat) (z : Nat → Nat) (w : World) (hr : Rd w (some ⟨bb, off, none⟩) n z) (hn : (n : Int) ≤ 1024) (hf : fr < n) (v k x y : Nat) (hk0 : 0 < k) (hkn : k < n) (h44 : z k = 44) (hy0 : 0 < y) (hy : y < n) (h125 : z y ≠ 125) (N1 : Hid (∀ W, Below w.heap.size w W → Calls Try.prog 123 #[.slice (some ⟨bb, off, none⟩) n cap, .int .i64 ((fr : Int) + 1)] W fun e w' => e = .returned (.tuple #[.int .i64 (v : Nat), .int .i64 (k : Nat)]) ∧ w' = W)) (N2 : Hid (∀ W, Below w.heap.size w W → Calls Try.prog 123 #[.slice (some ⟨bb, off, none⟩) n cap, .int .i64 ((k : Int) + 1)] W fun e w' => e = .returned (.tuple #[.int .i64 (x : Nat), .int .i64 (y : Nat)]) ∧ w' = W)) : Calls Try.prog 113 #[.slice (some ⟨bb, off, none⟩) n cap, .int .i64 (fr : Nat)] w (RetP w (tokV 0 0 0 0 0 0 false 0 0 false 0) 0) := by
  have h1 : ((k : Int) == 0) = false := by rw [beq_eq_false_iff_ne]; omega
  have c0 : ∀ o, (w.alloc o).cell? ⟨bb, off + k, none⟩ = some (.int .u8 (z k : Nat)) := fun o => by
    obtain ⟨b', o', e, hlt, hc⟩ := hr.at_ (by omega)
    cases e
    rw [(bel1 w o).cell (p := ⟨bb, off + k, none⟩) hlt]; exact hc k (by omega)
  have l0 : ((k : Nat) : Int) < (n : Int) := by omega
  have c1 : ∀ o, (w.alloc o).cell? ⟨bb, off + y, none⟩ = some (.int .u8 (z y : Nat)) := fun o => by
    obtain ⟨b', o', e, hlt, hc⟩ := hr.at_ (by omega)
    cases e
    rw [(bel1 w o).cell (p := ⟨bb, off + y, none⟩) hlt]; exact hc y (by omega)
  have l1 : ((y : Nat) : Int) < (n : Int) := by omega
  have e125 : (((z y : Nat) : Int) != 125) = true := by simp; omega
  have h3 : ¬ ((y : Int) ≥ (n : Int)) := by omega
  have h4 : (x : Int) ≥ 0 := by omega
  have e44 : (((z k : Nat) : Int) == 44) = true := by simp; omega
  have h6 : (k : Int) ≤ 1024 := by omega
  have h7 : (y : Int) > 0 := by omega
  clear hr h44 h125
  generalize z k = q at *
  generalize z y = q2 at *
  go_enter Try.func113, Try.ntmps113
  go_wp2_with fail
  refine (N1.out _ (bel1 _ _)).mono ?_
  rintro e w1 ⟨rfl, rfl⟩
  go_wp2_with fail
  refine (N2.out _ (bel1 _ _)).mono ?_
  rintro e w1 ⟨rfl, rfl⟩
  go_wp2
  exact bodyPost_ret (v := .tuple #[tokV 0 0 0 0 0 0 false 0 0 false 0, .int .i64 0]) (by simp [results, Try.results113, go_sem, tokV]) rfl ⟨rfl, bel1 _ _⟩
set_option maxRecDepth 10000 in
set_option maxHeartbeats 1000000 in
theorem rc_two_end (bb off n cap fr : Nat) (z : Nat → Nat) (w : World) (hr : Rd w (some ⟨bb, off, none⟩) n z) (hn : (n : Int) ≤ 1024) (hf : fr < n) (v k x y : Nat) (hk0 : 0 < k) (hkn : k < n) (h44 : z k = 44) (hy0 : 0 < y) (hy : ¬ y < n) (N1 : Hid (∀ W, Below w.heap.size w W → Calls Try.prog 123 #[.slice (some ⟨bb, off, none⟩) n cap, .int .i64 ((fr : Int) + 1)] W fun e w' => e = .returned (.tuple #[.int .i64 (v : Nat), .int .i64 (k : Nat)]) ∧ w' = W)) (N2 : Hid (∀ W, Below w.heap.size w W → Calls Try.prog 123 #[.slice (some ⟨bb, off, none⟩) n cap, .int .i64 ((k : Int) + 1)] W fun e w' => e = .returned (.tuple #[.int .i64 (x : Nat), .int .i64 (y : Nat)]) ∧ w' = W)) : Calls Try.prog 113 #[.slice (some ⟨bb, off, none⟩) n cap, .int .i64 (fr : Nat)] w (RetP w (tokV 0 0 0 0 0 0 false 0 0 false 0) 0) := by
  have h1 : ((k : Int) == 0) = false := by rw [beq_eq_false_iff_ne]; omega
  have c0 : ∀ o, (w.alloc o).cell? ⟨bb, off + k, none⟩ = some (.int .u8 (z k : Nat)) := fun o => by
    obtain ⟨b', o', e, hlt, hc⟩ := hr.at_ (by omega)
    cases e
    rw [(bel1 w o).cell (p := ⟨bb, off + k, none⟩) hlt]; exact hc k (by omega)
  have l0 : ((k : Nat) : Int) < (n : Int) := by omega
  have h3 : (y : Int) ≥ (n : Int) := by omega
  have e44 : (((z k : Nat) : Int) == 44) = true := by simp; omega
  have h6 : (k : Int) ≤ 1024 := by omega
  have h7 : (y : Int) > 0 := by omega
  clear hr h44
  generalize z k = q at *
  go_enter Try.func113, Try.ntmps113
  go_wp2_with fail
  refine (N1.out _ (bel1 _ _)).mono ?_
  rintro e w1 ⟨rfl, rfl⟩
  go_wp2_with fail
  refine (N2.out _ (bel1 _ _)).mono ?_
  rintro e w1 ⟨rfl, rfl⟩
  go_wp2
  exact bodyPost_ret (v := .tuple #[tokV 0 0 0 0 0 0 false 0 0 false 0, .int .i64 0]) (by simp [results, Try.results113, go_sem, tokV]) rfl ⟨rfl, bel1 _ _⟩
end Go.Proofs.Ytlmmiicibjfcdaa.X
namespace Go.Proofs.Ytlmmiicibjfcdaa.X
open Go.RowKit
theorem hasP_eq {z : Nat → Nat} {n k b : Nat} (h : k < n) (e : z k = b) : hasP z n k b = true := by unfold hasP; simp [h, e]
theorem hasP_ne {z : Nat → Nat} {n k b : Nat} (e : z k ≠ b) : hasP z n k b = false := by unfold hasP; simp [e]
theorem hasP_out {z : Nat → Nat} {n k b : Nat} (h : ¬ k < n) : hasP z n k b = false := by unfold hasP; simp [h]
theorem nm_no {z : Nat → Nat} {n k : Nat} (h : numOk z n k = false) : nmA z n k = 0 ∧ nmB z n k = 0 := by unfold nmA nmB; rw [h]; exact ⟨rfl, rfl⟩
theorem nm_yes {z : Nat → Nat} {n k : Nat} (h : numOk z n k = true) : nmA z n k = (numR z n k).1 ∧ nmB z n k = (numR z n k).2 := by unfold nmA nmB; rw [h]; exact ⟨rfl, rfl⟩
theorem rcount_any (ao : Option Addr) (n cap fr : Nat) (z : Nat → Nat) (w : World) (hr : Rd w ao n z) (hn : (n : Int) ≤ 1024) (hf : fr < n) : Calls Try.prog 113 #[.slice ao n cap, .int .i64 (fr : Nat)] w (RetP w (rcntR z n fr).1 (rcntR z n fr).2) := by
  obtain ⟨bb, off, rfl, _, _⟩ := hr.at_ (by omega)
  have N1 := fun W (hb : Below w.heap.size w W) => rnumber_any (some ⟨bb, off, none⟩) n cap (fr + 1) z W (hr.below hb) hn (by omega)
  cases h1 : numOk z n (fr + 1) with
  | false =>
    simp only [(nm_no h1).1, (nm_no h1).2] at N1
    have e : rcntR z n fr = (tokV 0 0 0 0 0 0 false 0 0 false 0, 0) := by unfold rcntR cntV; rw [if_pos h1]; rfl
    rw [e]
    exact rc_no bb off n cap fr w hn hf N1
  | true =>
    simp only [(nm_yes h1).1, (nm_yes h1).2] at N1
    have hle := numR_le z n (fr + 1) (by omega)
    have hok : fr + 1 < (numR z n (fr + 1)).2 ∧ (numR z n (fr + 1)).1 ≤ 1000 := by
      have := h1
      unfold numOk at this
      simp only [Bool.and_eq_true, decide_eq_true_eq] at this
      exact this.1
    have N2 := fun (hk : (numR z n (fr + 1)).2 < n) W (hb : Below w.heap.size w W) => rnumber_any (some ⟨bb, off, none⟩) n cap ((numR z n (fr + 1)).2 + 1) z W (hr.below hb) hn (by omega)
    have ec : ∀ x, cntV z n fr = x → rcntR z n fr = if x.2.2.2 = 0 then (tokV 7 0 0 0 0 0 false x.1 x.2.1 false 0, ((x.2.2.1 : Nat) : Int)) else (tokV 0 0 0 0 0 0 false 0 0 false 0, 0) := fun x hx => by unfold rcntR; rw [hx]
    unfold cntV at ec
    rw [if_neg (by rw [h1]; decide)] at ec
    generalize (numR z n (fr + 1)).1 = v at *
    generalize (numR z n (fr + 1)).2 = k at *
    by_cases hkn : k < n
    · by_cases h44 : z k = 44
      · rw [if_neg (by rw [hasP_ne (by omega)]; decide), if_neg (by rw [hasP_eq hkn h44]; decide)] at ec
        have N2' := N2 hkn
        cases h2 : numOk z n (k + 1) with
        | false =>
          simp only [(nm_no h2).1, (nm_no h2).2] at N2'
          by_cases hk1 : k + 1 < n
          · by_cases h125 : z (k + 1) = 125
            · rw [if_pos (hasP_eq hk1 h125)] at ec
              rw [ec _ rfl]
              exact rc_open bb off n cap fr z w hr hn hf v k (by omega) hkn h44 hk1 h125 N1 N2'
            · rw [if_neg (by rw [hasP_ne h125]; decide), if_pos h2] at ec
              rw [ec _ rfl]
              exact rc_open_no bb off n cap fr z w hr hn hf v k (by omega) hkn h44 hk1 h125 N1 N2'
          · rw [if_neg (by rw [hasP_out hk1]; decide), if_pos h2] at ec
            rw [ec _ rfl]
            exact rc_open_end bb off n cap fr z w hr hn hf v k (by omega) hkn h44 hk1 N1 N2'
        | true =>
          simp only [(nm_yes h2).1, (nm_yes h2).2] at N2'
          have hdg := numOk_dig h2
          have hz : z (k + 1) ≠ 125 := fun e => by rw [e] at hdg; exact absurd hdg.2 (by decide)
          have hok2 : k + 1 < (numR z n (k + 1)).2 ∧ (numR z n (k + 1)).1 ≤ 1000 := by
            have := h2
            unfold numOk at this
            simp only [Bool.and_eq_true, decide_eq_true_eq] at this
            exact this.1
          rw [if_neg (by rw [hasP_ne hz]; decide), if_neg (by rw [h2]; decide)] at ec
          generalize (numR z n (k + 1)).1 = x at *
          generalize (numR z n (k + 1)).2 = y at *
          have hrep : repP (v : Int) (x : Int) = decide (v ≤ x) := by
            unfold repP
            rw [if_neg (by omega)]
            by_cases hvx : v ≤ x
            · rw [decide_eq_true hvx, decide_eq_true (by omega), decide_eq_true (by omega), decide_eq_true (by omega)]; rfl
            · rw [decide_eq_false hvx, decide_eq_false (show ¬ ((v : Int) ≤ (x : Int)) by omega)]; simp
          rw [hrep] at ec
          by_cases hy : y < n
          · by_cases h125 : z y = 125
            · by_cases hvx : v ≤ x
              · rw [if_neg (by rw [decide_eq_true hvx]; decide), if_neg (by rw [hasP_eq hy h125]; decide)] at ec
                rw [ec _ rfl]
                exact rc_two bb off n cap fr z w hr hn hf v k x y (by omega) hkn h44 (by omega) hy h125 hvx N1 N2'
              · rw [if_pos (by rw [decide_eq_false hvx])] at ec
                rw [ec _ rfl]
                exact rc_two_less bb off n cap fr z w hr hn hf v k x y (by omega) hkn h44 (by omega) hy h125 (by omega) N1 N2'
            · have e0 : rcntR z n fr = (tokV 0 0 0 0 0 0 false 0 0 false 0, 0) := by
                by_cases hvx : v ≤ x
                · rw [if_neg (by rw [decide_eq_true hvx]; decide), if_pos (hasP_ne h125)] at ec
                  exact ec _ rfl
                · rw [if_pos (by rw [decide_eq_false hvx])] at ec
                  exact ec _ rfl
              rw [e0]
              exact rc_two_no bb off n cap fr z w hr hn hf v k x y (by omega) hkn h44 (by omega) hy h125 N1 N2'
          · have e0 : rcntR z n fr = (tokV 0 0 0 0 0 0 false 0 0 false 0, 0) := by
              by_cases hvx : v ≤ x
              · rw [if_neg (by rw [decide_eq_true hvx]; decide), if_pos (hasP_out hy)] at ec
                exact ec _ rfl
              · rw [if_pos (by rw [decide_eq_false hvx])] at ec
                exact ec _ rfl
            rw [e0]
            exact rc_two_end bb off n cap fr z w hr hn hf v k x y (by omega) hkn h44 (by omega) hy N1 N2'
      · by_cases h125 : z k = 125
        · rw [if_pos (hasP_eq hkn h125)] at ec
          rw [ec _ rfl]
          exact rc_plain bb off n cap fr z w hr hn hf v k hok.2 (by omega) hkn h125 N1
        · rw [if_neg (by rw [hasP_ne h125]; decide), if_pos (hasP_ne h44)] at ec
          rw [ec _ rfl]
          exact rc_else bb off n cap fr z w hr hn hf v k hok.2 (by omega) hkn h44 h125 N1
    · rw [if_neg (by rw [hasP_out hkn]; decide), if_pos (hasP_out hkn)] at ec
      rw [ec _ rfl]
      exact rc_end bb off n cap fr w hn hf v k (by omega) hkn N1
end Go.Proofs.Ytlmmiicibjfcdaa.X
