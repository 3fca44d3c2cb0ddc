/- What the runs of a class are: the sums. -/
import Derived.Test.YthgjklhjfpillabDoorTx
namespace Go.Proofs.YthgjklhjfpillabDoor
open Go.RowKit
/-- The runs that have ended ahead of n: apart, rising, just the bytes. -/
structure RunsAt (P : Nat → Bool) (n : Nat) : Prop where
  le : ∀ r ∈ (rs P n).1, r.1 ≤ r.2 ∧ r.2 < 256 ∧ r.2 + 2 ≤ (rs P n).2
  is : ∀ x, x < (rs P n).2 → ((∃ r ∈ (rs P n).1, r.1 ≤ x ∧ x ≤ r.2) ↔ (x < 256 ∧ P x = true))
  op : ∀ x, (rs P n).2 ≤ x → x < n → x < 256 ∧ P x = true
  pw : (rs P n).1.Pairwise fun r s => r.2 + 2 ≤ s.1
theorem runsAt (P : Nat → Bool) (n : Nat) : RunsAt P n := by
  induction n with
  | zero => exact ⟨fun r h => by simp [rs] at h, fun x h => by simp [rs] at h, fun x _ h => by omega, by simp [rs]⟩
  | succ n ih =>
    have hlo := rs_lo P n
    cases hq : (decide (n < 256) && P n) with
    | true =>
      have hq' : n < 256 ∧ P n = true := by simpa using hq
      have e := rs_in hq'.1 hq'.2
      refine ⟨?_, ?_, ?_, ?_⟩
      · rw [e]; exact ih.le
      · rw [e]; exact ih.is
      · rw [e]
        intro x h1 h2
        by_cases h : x = n
        · subst h; exact hq'
        · exact ih.op x h1 (by omega)
      · rw [e]; exact ih.pw
    | false =>
      have hno : ¬ (n < 256 ∧ P n = true) := by
        intro ⟨h1, h2⟩
        rw [decide_eq_true h1, h2] at hq
        cases hq
      by_cases hl : (rs P n).2 < n
      · have e := rs_out hq hl
        have ho := ih.op (n - 1) (by omega) (by omega)
        refine ⟨?_, ?_, ?_, ?_⟩
        · rw [e]
          intro r hr
          rcases List.mem_append.1 hr with h | h
          · obtain ⟨h1, h2, h3⟩ := ih.le r h
            exact ⟨h1, h2, by show r.2 + 2 ≤ n + 1; omega⟩
          · obtain rfl := List.mem_singleton.1 h
            exact ⟨by show (rs P n).2 ≤ n - 1; omega, ho.1, by show n - 1 + 2 ≤ n + 1; omega⟩
        · rw [e]
          intro x hx
          have hx' : x < n + 1 := hx
          by_cases h1 : x < (rs P n).2
          · rw [← ih.is x h1]
            constructor
            · rintro ⟨r, hr, h2⟩
              rcases List.mem_append.1 hr with h | h
              · exact ⟨r, h, h2⟩
              · obtain rfl := List.mem_singleton.1 h
                have : (rs P n).2 ≤ x := h2.1
                omega
            · rintro ⟨r, hr, h2⟩
              exact ⟨r, List.mem_append_left _ hr, h2⟩
          · by_cases h2 : x = n
            · subst h2
              refine ⟨?_, fun h => absurd h hno⟩
              rintro ⟨r, hr, h3⟩
              exfalso
              rcases List.mem_append.1 hr with h | h
              · have := ih.le r h; omega
              · obtain rfl := List.mem_singleton.1 h
                have : x ≤ x - 1 := h3.2
                omega
            · have := ih.op x (by omega) (by omega)
              refine ⟨fun _ => this, fun _ => ⟨((rs P n).2, n - 1), List.mem_append_right _ (List.mem_singleton.2 rfl), ?_⟩⟩
              show (rs P n).2 ≤ x ∧ x ≤ n - 1
              omega
        · rw [e]
          intro x h1 h2
          have : n + 1 ≤ x := h1
          omega
        · rw [e]
          refine List.pairwise_append.2 ⟨ih.pw, List.pairwise_singleton _ _, ?_⟩
          intro r hr s hs
          obtain rfl := List.mem_singleton.1 hs
          exact (ih.le r hr).2.2
      · have e := rs_skip hq hl
        refine ⟨?_, ?_, ?_, ?_⟩
        · rw [e]
          intro r h
          obtain ⟨h1, h2, h3⟩ := ih.le r h
          exact ⟨h1, h2, by show r.2 + 2 ≤ n + 1; omega⟩
        · rw [e]
          intro x hx
          have hx' : x < n + 1 := hx
          by_cases h1 : x < (rs P n).2
          · exact ih.is x h1
          · obtain rfl : x = n := by omega
            refine ⟨?_, fun h => absurd h hno⟩
            rintro ⟨r, hr, h3⟩
            have := ih.le r hr
            omega
        · rw [e]
          intro x h1 h2
          have : n + 1 ≤ x := h1
          omega
        · rw [e]; exact ih.pw
theorem rs_end (P : Nat → Bool) : (rs P 257).2 = 257 := by
  rw [rs]
  rfl
/-- Each byte of a class is in a run, and no other one. -/
theorem runs_is (P : Nat → Bool) (x : Nat) (hx : x < 256) : (∃ r ∈ (rs P 257).1, r.1 ≤ x ∧ x ≤ r.2) ↔ P x = true := by
  rw [(runsAt P 257).is x (by rw [rs_end]; omega)]
  exact ⟨fun h => h.2, fun h => ⟨hx, h⟩⟩
theorem runs_le (P : Nat → Bool) (r : Nat × Nat) (h : r ∈ (rs P 257).1) : r.1 ≤ r.2 ∧ r.2 < 256 := ⟨((runsAt P 257).le r h).1, ((runsAt P 257).le r h).2.1⟩
/-- One byte alone. -/
theorem runs_one (P : Nat → Bool) (k : Nat) (hk : k < 256) : (rs P 257).1 = [(k, k)] ↔ ∀ x, x < 256 → (P x = true ↔ x = k) := by
  constructor
  · intro h x hx
    rw [← runs_is P x hx, h]
    simp
    omega
  · intro h
    have hin : ∀ r ∈ (rs P 257).1, r = (k, k) := by
      rintro ⟨lo, hi⟩ hr
      obtain ⟨h1, h2⟩ := runs_le P _ hr
      have h1' : lo ≤ hi := h1
      have h2' : hi < 256 := h2
      have a := (h lo (by omega)).1 ((runs_is P lo (by omega)).1 ⟨_, hr, Nat.le_refl _, h1⟩)
      have b := (h hi h2).1 ((runs_is P hi h2).1 ⟨_, hr, h1, Nat.le_refl _⟩)
      rw [a, b]
    obtain ⟨r, hr, _⟩ := (runs_is P k hk).2 ((h k hk).2 rfl)
    have hpw := (runsAt P 257).pw
    match hL : (rs P 257).1 with
    | [] => rw [hL] at hr; cases hr
    | [r] => rw [hin r (by rw [hL]; simp)]
    | r :: s :: l =>
      rw [hL] at hpw
      have e1 := hin r (by rw [hL]; simp)
      have e2 := hin s (by rw [hL]; simp)
      have := (List.pairwise_cons.1 hpw).1 s (by simp)
      rw [e1, e2] at this
      have : k + 2 ≤ k := this
      omega
/-- The reference's text of runs. -/
def refB (l : List (Nat × Nat)) : List UInt8 := match l with
  | [r] => if r.1 = r.2 then litB r.1 else [91] ++ (l.flatMap fun r => runB r.1 r.2) ++ [93]
  | _ => [91] ++ (l.flatMap fun r => runB r.1 r.2) ++ [93]
theorem text_ref (P : Nat → Bool) : textB P = refB (rs P 257).1 := by
  by_cases h : ∃ k, k < 256 ∧ ∀ x, x < 256 → (P x = true ↔ x = k)
  · obtain ⟨k, hk, h⟩ := h
    rw [(runs_one P k hk).2 h]
    have hf : (List.range 256).find? P = some k := find_some hk ((h k hk).2 rfl) fun j hj => by
      cases hp : P j with
      | false => rfl
      | true => have := (h j (by omega)).1 hp; omega
    have he : eqC P (ofN (fun _ => k) 1) = true := by
      rw [eqC_iff]
      intro x hx
      rw [Bool.eq_iff_iff, h x hx, ofN_iff]
      exact ⟨fun e => ⟨0, by omega, e.symm⟩, fun ⟨_, _, e⟩ => e.symm⟩
    unfold textB
    rw [hf]
    show (if eqC P (ofN (fun _ => k) 1) = true then litB k else brk P) = _
    rw [if_pos he]
    simp [refB]
  · have h1 : textB P = brk P := by
      unfold textB
      cases hf : (List.range 256).find? P with
      | none => rfl
      | some k =>
        have hk : k < 256 := by
          rw [List.find?_range_eq_some] at hf
          exact List.mem_range.1 hf.2.1
        show (if eqC P (ofN (fun _ => k) 1) = true then litB k else brk P) = _
        rw [if_neg]
        intro he
        rw [eqC_iff] at he
        refine h ⟨k, hk, fun x hx => ?_⟩
        rw [he x hx, ofN_iff]
        exact ⟨fun ⟨_, _, e⟩ => e.symm, fun e => ⟨0, by omega, e.symm⟩⟩
    rw [h1]
    unfold refB brk
    split
    · rename_i r hr
      rw [if_neg]
      · intro e
        have hr' : (rs P 257).1 = [(r.1, r.1)] := by rw [hr]; rw [show (r.1, r.1) = r by rw [Prod.ext_iff]; exact ⟨rfl, e⟩]
        have hk : r.1 < 256 := by have := runs_le P r (by rw [hr]; simp); omega
        exact h ⟨r.1, hk, (runs_one P r.1 hk).1 hr'⟩
    · rfl
end Go.Proofs.YthgjklhjfpillabDoor
