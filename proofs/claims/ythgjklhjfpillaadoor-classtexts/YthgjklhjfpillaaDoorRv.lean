/- The reference's way to the runs is the program's: the sums. -/
import Derived.Test.YthgjklhjfpillaaDoorEr
namespace Go.Proofs.YthgjklhjfpillaaDoor
open Go.RowKit
/-- One byte more, as the reference takes it. -/
def more (l : List (Nat × Nat)) (x : Nat) : List (Nat × Nat) :=
  match l.getLast? with
  | some r => if r.2 + 1 = x then l.dropLast ++ [(r.1, x)] else l ++ [(x, x)]
  | none => [(x, x)]
/-- The runs of the bytes below n, by what the program has told and the run that is open. -/
def opn (P : Nat → Bool) (n : Nat) : List (Nat × Nat) := if (rs P n).2 < n then (rs P n).1 ++ [((rs P n).2, n - 1)] else (rs P n).1
theorem rs_no {P : Nat → Bool} {n : Nat} (h : P n = false) : rs P (n + 1) = (opn P n, n + 1) := by
  rw [rs, h, Bool.and_false, if_neg (by decide)]
  rfl
theorem rs_last {P : Nat → Bool} (n : Nat) (hn : n ≤ 256) : ∀ r, (rs P n).1.getLast? = some r → r.2 + 2 ≤ (rs P n).2 := by
  induction n with
  | zero => intro r h; cases h
  | succ n ih =>
    intro r h
    cases hP : P n with
    | true =>
      rw [rs_in (by omega) hP] at h ⊢
      exact ih (by omega) r h
    | false =>
      rw [rs_no hP] at h ⊢
      show r.2 + 2 ≤ n + 1
      unfold opn at h
      split at h
      · rw [List.getLast?_concat] at h
        cases h
        show n - 1 + 2 ≤ n + 1
        omega
      · have := ih (by omega) r h
        have := rs_lo P n
        omega
theorem more_opn {P : Nat → Bool} (n : Nat) (hn : n < 256) (h : P n = true) : more (opn P n) n = opn P (n + 1) := by
  have hlo := rs_lo P n
  have e : opn P (n + 1) = (rs P n).1 ++ [((rs P n).2, n)] := by
    unfold opn
    rw [rs_in hn h, if_pos (by omega)]
    rfl
  rw [e]
  by_cases hl : (rs P n).2 < n
  · have e2 : opn P n = (rs P n).1 ++ [((rs P n).2, n - 1)] := by unfold opn; rw [if_pos hl]
    rw [e2]
    unfold more
    rw [List.getLast?_concat]
    show (if n - 1 + 1 = n then _ else _) = _
    rw [if_pos (by omega), List.dropLast_concat]
  · have e2 : opn P n = (rs P n).1 := by unfold opn; rw [if_neg hl]
    rw [e2]
    have hen : (rs P n).2 = n := by omega
    have hr := rs_last (P := P) n (by omega)
    unfold more
    cases hg : (rs P n).1.getLast? with
    | none =>
      rw [List.getLast?_eq_none_iff] at hg
      rw [hg, hen]
      rfl
    | some r =>
      have := hr r hg
      show (if r.2 + 1 = n then _ else _) = _
      rw [if_neg (by omega), hen]
theorem opn_no {P : Nat → Bool} (n : Nat) (h : P n = false) : opn P n = opn P (n + 1) := by
  rw [show opn P (n + 1) = (rs P (n + 1)).1 from ?_, rs_no h]
  unfold opn
  rw [rs_no h, if_neg (Nat.lt_irrefl _)]
theorem more_all {P : Nat → Bool} (n : Nat) (hn : n ≤ 256) : (come P n).foldl more [] = opn P n := by
  induction n with
  | zero => rfl
  | succ n ih =>
    cases h : P n with
    | false => rw [come_no h, ih (by omega), opn_no n h]
    | true => rw [come_yes h, List.foldl_append, ih (by omega)]; exact more_opn n (by omega) h
theorem more_runs (P : Nat → Bool) : (come P 256).foldl more [] = (rs P 257).1 := by
  rw [more_all 256 (Nat.le_refl _), opn, rs]
  rfl
end Go.Proofs.YthgjklhjfpillaaDoor
