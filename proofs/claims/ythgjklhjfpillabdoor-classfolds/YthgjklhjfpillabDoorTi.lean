/- Unlike classes have unlike texts; folds: the sums. -/
import Derived.Test.YthgjklhjfpillabDoorRq
import Derived.Test.YthgjklhjfpillabDoorFo
namespace Go.Proofs.YthgjklhjfpillabDoor
open Go.RowKit
/-- A digit of sixteen read back; a byte as Inner writes it, read back; so Literal. -/
def unhex (u : UInt8) : Nat := if u.toNat < 58 then u.toNat - 48 else u.toNat - 87
def decInn : List UInt8 → Nat × List UInt8
  | 92 :: _ :: h :: l :: t => (16 * unhex h + unhex l, t)
  | b :: t => (b.toNat, t)
  | [] => (0, [])
def decLit : List UInt8 → Nat
  | [92, b] => b.toNat
  | l => (decInn l).1
/-- Whether a byte is in what stands between brackets. -/
def memB (x : Nat) : Nat → List UInt8 → Bool
  | 0, _ => false
  | n + 1, l =>
    if l.head? = some 93 then false
    else if (decInn l).2.head? = some 45 then (decide ((decInn l).1 ≤ x) && decide (x ≤ (decInn (decInn l).2.tail).1)) || memB x n (decInn (decInn l).2.tail).2
    else (x == (decInn l).1) || memB x n (decInn l).2
def decT (x : Nat) (l : List UInt8) : Bool := if l.head? = some 91 then memB x l.length l.tail else x == decLit l
theorem lit_back (k : Nat) (hk : k < 256) : decLit (litB k) = k ∧ (litB k).head? ≠ some 91 := by
  have h : ∀ b : Fin 256, decLit (litB b.val) = b.val ∧ (litB b.val).head? ≠ some 91 := by decide +kernel
  exact h ⟨k, hk⟩
/-- What Inner writes: one byte, or four. -/
theorem inn_form (b : Nat) (hb : b < 256) : (∃ u : UInt8, innB b = [u] ∧ u.toNat = b ∧ u ≠ 92 ∧ u ≠ 93 ∧ u ≠ 45) ∨ ∃ h l : UInt8, innB b = [92, 120, h, l] ∧ 16 * unhex h + unhex l = b := by
  have h : ∀ b : Fin 256, ((innB b.val).length = 1 ∧ ((innB b.val).getD 0 0).toNat = b.val ∧ (innB b.val).getD 0 0 ≠ 92 ∧ (innB b.val).getD 0 0 ≠ 93 ∧ (innB b.val).getD 0 0 ≠ 45) ∨ ((innB b.val).length = 4 ∧ (innB b.val).getD 0 0 = 92 ∧ (innB b.val).getD 1 0 = 120 ∧ 16 * unhex ((innB b.val).getD 2 0) + unhex ((innB b.val).getD 3 0) = b.val) := by decide +kernel
  have h' := h ⟨b, hb⟩
  simp only at h'
  generalize innB b = l at *
  rcases h' with ⟨h1, h2, h3, h4, h5⟩ | ⟨h1, h2, h3, h4⟩
  · match l, h1 with
    | [u], _ => exact .inl ⟨u, rfl, h2, h3, h4, h5⟩
  · match l, h1 with
    | [p, q, r, s], _ =>
      have e1 : p = 92 := h2
      have e2 : q = 120 := h3
      subst e1 e2
      exact .inr ⟨r, s, rfl, h4⟩
theorem inn_back (b : Nat) (hb : b < 256) (t : List UInt8) : decInn (innB b ++ t) = (b, t) ∧ (innB b ++ t).head? ≠ some 93 ∧ (innB b ++ t).head? ≠ some 45 := by
  rcases inn_form b hb with ⟨u, e, h1, h2, h3, h4⟩ | ⟨h, l, e, h1⟩
  · rw [e]
    refine ⟨?_, by simpa using h3, by simpa using h4⟩
    show decInn (u :: t) = (b, t)
    unfold decInn
    split
    · rename_i heq
      have := (List.cons.inj heq).1
      exact absurd this h2
    · rename_i heq
      have e1 := (List.cons.inj heq).1
      have e2 := (List.cons.inj heq).2
      subst e1 e2
      rw [h1]
    · rename_i heq
      cases heq
  · rw [e]
    refine ⟨?_, by simp, by simp⟩
    show decInn (92 :: 120 :: h :: l :: t) = (b, t)
    rw [← h1]
    rfl
/-- What stands between brackets, and the bracket. -/
def bodyB (R : List (Nat × Nat)) : List UInt8 := (R.flatMap fun r => runB r.1 r.2) ++ [93]
theorem body_cons (r : Nat × Nat) (R : List (Nat × Nat)) : bodyB (r :: R) = runB r.1 r.2 ++ bodyB R := by
  unfold bodyB
  rw [List.flatMap_cons, List.append_assoc]
theorem run_form (lo hi : Nat) : ∃ m, runB lo hi = innB lo ++ m := by
  unfold runB
  split
  · exact ⟨[], by simp⟩
  · split
    · exact ⟨innB hi, rfl⟩
    · exact ⟨[45] ++ innB hi, by rw [List.append_assoc]⟩
theorem body_head (R : List (Nat × Nat)) (h : ∀ r ∈ R, r.1 ≤ r.2 ∧ r.2 < 256) : (bodyB R).head? ≠ some 45 := by
  cases R with
  | nil => simp [bodyB]
  | cons r R =>
    rw [body_cons]
    obtain ⟨m, e⟩ := run_form r.1 r.2
    rw [e, List.append_assoc]
    have hr := h r (by simp)
    exact (inn_back r.1 (by omega) _).2.2
theorem mem_one (x n b : Nat) (hb : b < 256) (t : List UInt8) (ht : t.head? ≠ some 45) : memB x (n + 1) (innB b ++ t) = ((x == b) || memB x n t) := by
  obtain ⟨h1, h2, h3⟩ := inn_back b hb t
  rw [memB, if_neg h2, h1, if_neg ht]
theorem mem_dash (x n b c : Nat) (hb : b < 256) (hc : c < 256) (t : List UInt8) : memB x (n + 1) (innB b ++ ([45] ++ (innB c ++ t))) = ((decide (b ≤ x) && decide (x ≤ c)) || memB x n t) := by
  obtain ⟨h1, h2, h3⟩ := inn_back b hb ([45] ++ (innB c ++ t))
  rw [memB, if_neg h2, h1, if_pos (by simp)]
  have e : ([45] ++ (innB c ++ t)).tail = innB c ++ t := rfl
  rw [e, (inn_back c hc t).1]
theorem inn_pos (b : Nat) : 1 ≤ (innB b).length := by
  unfold innB numB
  split <;> simp
theorem mem_body (x : Nat) (R : List (Nat × Nat)) (h : ∀ r ∈ R, r.1 ≤ r.2 ∧ r.2 < 256) : ∀ n, (bodyB R).length ≤ n → memB x n (bodyB R) = R.any fun r => decide (r.1 ≤ x) && decide (x ≤ r.2) := by
  induction R with
  | nil =>
    intro n hn
    cases n with
    | zero => simp [bodyB] at hn
    | succ n => rw [memB, if_pos (by simp [bodyB])]; rfl
  | cons r R ih =>
    intro n hn
    have hr := h r (by simp)
    have hR : ∀ r ∈ R, r.1 ≤ r.2 ∧ r.2 < 256 := fun s hs => h s (List.mem_cons_of_mem _ hs)
    have hh := body_head R hR
    rw [body_cons] at hn ⊢
    rw [List.length_append] at hn
    have p1 := inn_pos r.1
    have p2 := inn_pos r.2
    rw [List.any_cons]
    unfold runB at hn ⊢
    split at hn
    · rename_i e
      rw [if_pos e]
      obtain ⟨m, rfl⟩ : ∃ m, n = m + 1 := ⟨n - 1, by omega⟩
      rw [mem_one x m r.1 (by omega) _ hh, ih hR m (by omega), e]
      congr 1
      rw [Bool.eq_iff_iff]; simp; omega
    · rename_i e
      rw [if_neg e]
      split at hn
      · rename_i e1
        rw [if_pos e1, List.append_assoc]
        rw [List.length_append] at hn
        obtain ⟨m, rfl⟩ : ∃ m, n = m + 1 + 1 := ⟨n - 2, by omega⟩
        rw [mem_one x (m + 1) r.1 (by omega) _ (inn_back r.2 hr.2 _).2.2, mem_one x m r.2 hr.2 _ hh, ih hR m (by omega), ← Bool.or_assoc]
        congr 1
        rw [Bool.eq_iff_iff]; simp; omega
      · rename_i e1
        rw [if_neg e1, List.append_assoc, List.append_assoc]
        rw [List.length_append, List.length_append] at hn
        obtain ⟨m, rfl⟩ : ∃ m, n = m + 1 := ⟨n - 1, by omega⟩
        rw [mem_dash x m r.1 r.2 (by omega) hr.2, ih hR m (by omega)]
theorem text_back (P : Nat → Bool) (x : Nat) (hx : x < 256) : decT x (textB P) = P x := by
  rw [text_ref]
  have hle := runs_le P
  have his := runs_is P x hx
  by_cases h : ∃ k, k < 256 ∧ (rs P 257).1 = [(k, k)]
  · obtain ⟨k, hk, e⟩ := h
    have h1 := (runs_one P k hk).1 e x hx
    rw [e]
    show decT x (if k = k then litB k else _) = P x
    rw [if_pos rfl]
    obtain ⟨l1, l2⟩ := lit_back k hk
    unfold decT
    rw [if_neg l2, l1, Bool.eq_iff_iff, h1]
    simp
  · have e : refB (rs P 257).1 = [91] ++ bodyB (rs P 257).1 := by
      unfold refB bodyB
      split
      · rename_i r hr
        rw [if_neg]
        · rw [List.append_assoc]
        · intro e
          refine h ⟨r.1, by have := hle r (by rw [hr]; simp); omega, ?_⟩
          rw [hr, show (r.1, r.1) = r by rw [Prod.ext_iff]; exact ⟨rfl, e⟩]
      · rw [List.append_assoc]
    rw [e]
    unfold decT
    rw [if_pos (by simp)]
    have e2 : ([91] ++ bodyB (rs P 257).1).tail = bodyB (rs P 257).1 := rfl
    rw [e2, mem_body x _ (fun r hr => hle r hr) _ (by simp), Bool.eq_iff_iff, ← his]
    simp
theorem rs_congr {P Q : Nat → Bool} (h : ∀ x, x < 256 → P x = Q x) (n : Nat) : rs P n = rs Q n := by
  induction n with
  | zero => rfl
  | succ n ih =>
    have e : (decide (n < 256) && P n) = (decide (n < 256) && Q n) := by
      by_cases hn : n < 256
      · rw [h n hn]
      · rw [decide_eq_false hn, Bool.false_and, Bool.false_and]
    rw [rs, rs, e, ih]
/-- The same text, just if the same bytes. -/
theorem text_same (P Q : Nat → Bool) : textB P = textB Q ↔ eqC P Q = true := by
  rw [eqC_iff]
  constructor
  · intro h x hx
    rw [← text_back P x hx, h, text_back Q x hx]
  · intro h
    rw [text_ref, text_ref, rs_congr h]
/-- A class without regard to case. -/
def fo (P : Nat → Bool) : Nat → Bool := fun y => P y || (ltr y && P (y ^^^ 32))
theorem fo_fin : ∀ y : Fin 256, ltr (y.val ^^^ 32) = ltr y.val ∧ y.val ^^^ 32 < 256 ∧ (y.val ^^^ 32) ^^^ 32 = y.val := by decide +kernel
theorem fold_is (P : Nat → Bool) (y : Nat) (hy : y < 256) : foldN P (come P 256) y = fo P y := by
  obtain ⟨h1, h2, h3⟩ := fo_fin ⟨y, hy⟩
  simp only at h1 h2 h3
  unfold foldN fo
  congr 1
  rw [Bool.eq_iff_iff, List.any_eq_true, Bool.and_eq_true]
  constructor
  · rintro ⟨b, hb, h⟩
    have hb' : b < 256 ∧ P b = true := by unfold come at hb; simpa using hb
    rw [Bool.and_eq_true, beq_iff_eq] at h
    obtain ⟨g1, g2, g3⟩ := fo_fin ⟨b, hb'.1⟩
    simp only at g1 g2 g3
    rw [← h.2]
    exact ⟨by rw [g1]; exact h.1, by rw [g3]; exact hb'.2⟩
  · rintro ⟨hl, hp⟩
    refine ⟨y ^^^ 32, by unfold come; simp; exact ⟨h2, hp⟩, ?_⟩
    rw [Bool.and_eq_true, beq_iff_eq]
    exact ⟨by rw [h1]; exact hl, h3⟩
theorem fo_twice (P : Nat → Bool) (y : Nat) (hy : y < 256) : fo (fo P) y = fo P y := by
  obtain ⟨h1, h2, h3⟩ := fo_fin ⟨y, hy⟩
  simp only at h1 h2 h3
  unfold fo
  rw [h1, h3]
  cases P y <;> cases ltr y <;> cases P (y ^^^ 32) <;> rfl
theorem fo_or (P Q : Nat → Bool) (y : Nat) : fo (fun x => P x || Q x) y = (fo P y || fo Q y) := by
  show ((P y || Q y) || (ltr y && (P (y ^^^ 32) || Q (y ^^^ 32)))) = ((P y || (ltr y && P (y ^^^ 32))) || (Q y || (ltr y && Q (y ^^^ 32))))
  cases P y <;> cases Q y <;> cases ltr y <;> cases P (y ^^^ 32) <;> cases Q (y ^^^ 32) <;> rfl
theorem fo_and (P : Nat → Bool) (y : Nat) : (P y && fo P y) = P y := by
  unfold fo
  cases P y <;> simp
end Go.Proofs.YthgjklhjfpillabDoor
