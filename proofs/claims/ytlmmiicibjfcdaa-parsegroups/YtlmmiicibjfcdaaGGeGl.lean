/- token: what is read does not hang on what stands behind it. token: the words of texts one behind the other. -/
import Derived.Test.YtlmmiicibjfcdaaPu
import Derived.Test.YtlmmiicibjfcdaaGWoWpWsLxLy
namespace Go.Proofs.Ytlmmiicibjfcdaa
open Go.RowKit
section
variable {z : Nat → Nat} {n n' : Nat}
theorem hasP_same (h : n' ≤ n) {k b : Nat} (hk : k < n') : hasP z n k b = hasP z n' k b := by
  unfold hasP
  rw [decide_eq_true (by omega), decide_eq_true hk]
theorem numG_more (h : n' ≤ n) : ∀ d k v, n' - k = d → (numG z n' d k v).2 < n' → numG z n (n - k) k v = numG z n' d k v := by
  intro d
  induction d with
  | zero =>
    intro k v hd hl
    rw [numG] at hl
    have hl' : k < n' := hl
    omega
  | succ d ih =>
    intro k v hd hl
    rw [numG] at hl ⊢
    obtain ⟨f, hf⟩ : ∃ f, n - k = f + 1 := ⟨n - k - 1, by omega⟩
    split
    · rename_i hc
      rw [if_pos hc] at hl
      have e := ih (k + 1) (v * 10 + (z k - 48)) (by omega) hl
      simp only [Bool.and_eq_true, decide_eq_true_eq] at hc
      rw [hf, numG, if_pos (by simp [hc]; omega), ← e, show n - (k + 1) = f by omega]
    · rename_i hc
      rw [hf, numG, if_neg]
      intro hc'
      apply hc
      simp only [Bool.and_eq_true, decide_eq_true_eq] at hc' ⊢
      exact ⟨⟨by omega, hc'.1.2⟩, hc'.2⟩
theorem numR_more (h : n' ≤ n) {k : Nat} (hl : (numR z n' k).2 < n') : numR z n k = numR z n' k := numG_more h _ k 0 rfl hl
theorem numOk_more (h : n' ≤ n) {k : Nat} (hl : (numR z n' k).2 < n') : numOk z n k = numOk z n' k := by unfold numOk; rw [numR_more h hl]
theorem cntV_more (h : n' ≤ n) {fr : Nat} (e : (cntV z n' fr).2.2.2 = 0) : cntV z n fr = cntV z n' fr := by
  unfold cntV at e ⊢
  split at e
  · simp at e
  rename_i h1
  rw [if_neg h1]
  split at e
  · rename_i h2
    have hl := hasP_lt h2
    rw [numOk_more h hl, numR_more h hl, if_neg h1, hasP_same h hl, if_pos h2]
    rw [if_pos h2]
  rename_i h2
  rw [if_neg h2]
  split at e
  · simp at e
  rename_i h3
  rw [if_neg h3]
  have h3' : hasP z n' (numR z n' (fr + 1)).2 44 = true := by simpa using h3
  have hl := hasP_lt h3'
  rw [numOk_more h hl, numR_more h hl, if_neg h1, hasP_same h hl, if_neg h2, hasP_same h hl, if_neg h3]
  split at e
  · rename_i h4
    rw [if_pos h4, hasP_same h (hasP_lt h4), if_pos h4]
  rename_i h4
  rw [if_neg h4]
  split at e
  · simp at e
  rename_i h5
  rw [if_neg h5]
  split at e
  · simp at e
  rename_i h6
  rw [if_neg h6]
  split at e
  · simp at e
  rename_i h7
  rw [if_neg h7]
  have h7' : hasP z n' (numR z n' ((numR z n' (fr + 1)).2 + 1)).2 125 = true := by simpa using h7
  have hl7 := hasP_lt h7'
  have hk : (numR z n' (fr + 1)).2 + 1 < (numR z n' ((numR z n' (fr + 1)).2 + 1)).2 := by unfold numOk at h5; simp at h5; omega
  rw [hasP_same h (by omega), if_neg h4, numOk_more h hl7, if_neg h5, numR_more h hl7, if_neg h6, hasP_same h hl7, if_neg h7]
theorem repS_more (h : n' ≤ n) {k : Nat} (e : (repS z n' k).2.2.2 = 0) : repS z n k = repS z n' k := by
  unfold repS at *
  repeat' split
  all_goals first
    | rfl
    | (rename_i h1 h2 h3; rw [if_neg h1, if_neg h2, if_neg h3] at e; exact cntV_more h e)
theorem hasP_end (h : n' ≤ n) (hq : z n' ≠ 63) {k : Nat} (hk : k ≤ n') : hasP z n k 63 = hasP z n' k 63 := by
  by_cases e : k < n'
  · exact hasP_same h e
  · obtain rfl : k = n' := by omega
    unfold hasP
    simp [hq]
theorem rptS_more (h : n' ≤ n) (hq : z n' ≠ 63) {k : Nat} (hk : k < n') (e : (rptS z n' k).er = 0) : rptS z n k = rptS z n' k := by
  unfold rptS at *
  split at e
  · rename_i h1; exact absurd e h1
  rename_i h1
  have h1' : (repS z n' k).2.2.2 = 0 := Decidable.not_not.1 h1
  have hl := repS_lt hk h1'
  rw [repS_more h h1', hasP_end h hq hl.2]
theorem opnS_more (h : n' ≤ n) (hq : z n' ≠ 63) {k : Nat} (hk : k < n') (e : (opnS z n' k).er = 0) : opnS z n k = opnS z n' k := by
  unfold opnS at *
  rw [hasP_end h hq (by omega)]
  split at e
  · rename_i h1
    rw [if_pos h1, if_pos h1]
  rename_i h1
  rw [if_neg h1, if_neg h1]
  split at e
  · rename_i h2
    rw [if_pos h2, hasP_same h (hasP_lt h2), if_pos h2]
  · simp [TokS.bad] at e
theorem escS_more (h : n' ≤ n) {k : Nat} (e : (escS z n' k).er = 0) : escS z n k = escS z n' k := by
  have hl := escS_lt e
  unfold escS at e hl ⊢
  split at e
  · simp [TokS.bad] at e
  rename_i h1
  rw [if_neg h1, if_neg (show ¬ n < k + 2 by omega)]
  split
  · rfl
  rename_i h2
  rw [if_neg h2] at e
  split
  · rfl
  rename_i h3
  rw [if_neg h3] at e
  split
  · rfl
  rename_i h4
  rw [if_neg h4] at e
  split
  · rfl
  rename_i h5
  rw [if_neg h5] at e
  split
  · rename_i h6
    rw [if_pos h6] at e
    split at e
    · rename_i h7
      have h8 := hexV_le z n' (k + 2) h7
      have hv : hexV z n (k + 2) = hexV z n' (k + 2) := by unfold hexV; rw [if_pos (by omega), if_pos (by omega)]
      rw [hv]
    · simp [TokS.bad] at e
  · rfl
theorem uniS_more (h : n' ≤ n) {k : Nat} (e : (uniS z n' k).er = 0) : uniS z n k = uniS z n' k := by
  unfold uniS at *
  split
  · rename_i h1
    rw [if_pos h1] at e
    exact escS_more h e
  · rfl
theorem dashP_same (h : n' ≤ n) {k : Nat} (hk : k + 1 < n' ∨ (k < n' ∧ z k ≠ 45)) : dashP z n k = dashP z n' k := by
  unfold dashP
  rcases hk with hk | ⟨hk, hz⟩
  · rw [hasP_same h (by omega), decide_eq_true (by omega), decide_eq_true hk]
  · have : ∀ n, hasP z n k 45 = false := fun n => by unfold hasP; simp [hz]
    rw [this, this]; rfl
theorem untS_more (h : n' ≤ n) {k : Nat} (_hk : k < n') (e : (untS z n' k).2.2 = 0) (hj : (untS z n' k).2.1 + 1 < n' ∨ ((untS z n' k).2.1 < n' ∧ z (untS z n' k).2.1 ≠ 45)) : untS z n k = untS z n' k := by
  unfold untS at *
  split at e
  · rename_i h1; exact absurd e h1
  rename_i h1
  rw [if_neg h1] at hj
  have e1 := Decidable.not_not.1 h1
  rw [uniS_more h e1]
  split at e
  · rename_i h2
    rw [if_pos h2] at hj
    rw [dashP_same h hj]
    rw [if_pos h2, if_pos h2]
  rename_i h2
  have h2' : dashP z n' (uniS z n' k).en = true := by simpa using h2
  have hd := dashP_lt h2'
  rw [dashP_same h (.inl hd)]
  split at e
  · rename_i h3; exact absurd e h3
  rename_i h3
  rw [uniS_more h (Decidable.not_not.1 h3)]
theorem brkG_last {at_ : Nat} {nt : Bool} : ∀ f i P, (brkG z n' at_ nt f i P).er = 0 → i + 1 < n' ∨ (i < n' ∧ z i = 93) := by
  intro f i P e
  cases f with
  | zero => simp [brkG, TokS.bad] at e
  | succ f =>
    rw [brkG] at e
    split at e
    · simp [TokS.bad] at e
    rename_i h1
    split at e
    · rename_i h2; exact .inr ⟨by omega, h2⟩
    split at e
    · rename_i h3; exact absurd e h3
    rename_i h3
    have u := untS_lt (by omega) (Decidable.not_not.1 h3)
    have r := brkG_lt _ _ _ e
    exact .inl (by omega)
theorem brkG_more (h : n' ≤ n) {at_ : Nat} {nt : Bool} : ∀ f i P, (brkG z n' at_ nt f i P).er = 0 → brkG z n at_ nt f i P = brkG z n' at_ nt f i P := by
  intro f
  induction f with
  | zero => intro i P e; simp [brkG, TokS.bad] at e
  | succ f ih =>
    intro i P e
    rw [brkG] at e ⊢
    rw [brkG]
    split at e
    · simp [TokS.bad] at e
    rename_i h1
    rw [if_neg h1, if_neg (by omega)]
    split at e
    · rename_i h2
      rw [if_pos h2, if_pos h2]
    rename_i h2
    rw [if_neg h2, if_neg h2]
    split at e
    · rename_i h3; exact absurd e h3
    rename_i h3
    have e3 := Decidable.not_not.1 h3
    have hj := brkG_last _ _ _ e
    rw [untS_more h (by omega) e3 (by rcases hj with hj | ⟨hj, hz⟩; (exact .inl hj); (exact .inr ⟨hj, by omega⟩)), if_neg h3, if_neg h3]
    exact ih _ _ e
theorem brkS_more (h : n' ≤ n) {k : Nat} (e : (brkS z n' k).er = 0) : brkS z n k = brkS z n' k := by
  unfold brkS at *
  have r := brkG_last _ _ _ e
  have hk : k + 1 < n' := by
    revert r
    split <;> intro r <;> omega
  rw [hasP_same h hk]
  exact brkG_more h _ _ _ e
/-- A word that is read stays so, whatever stands behind it, but a ? . -/
theorem wrd_more (h : n' ≤ n) (hq : z n' ≠ 63) {k : Nat} (hk : k < n') (e : (wrd z n' k).er = 0) : wrd z n k = wrd z n' k := by
  unfold wrd wrdS at *
  split
  · rename_i h1; rw [if_pos h1] at e; exact escS_more h e
  rename_i h1
  rw [if_neg h1] at e
  split
  · rename_i h2; rw [if_pos h2] at e; exact brkS_more h e
  rename_i h2
  rw [if_neg h2] at e
  split
  · rename_i h3; rw [if_pos h3] at e; exact opnS_more h hq hk e
  rename_i h3
  rw [if_neg h3] at e
  split
  · rename_i h4; rw [if_pos h4] at e; exact rptS_more h hq hk e
  · rfl
end
end Go.Proofs.Ytlmmiicibjfcdaa
namespace Go.Proofs.Ytlmmiicibjfcdaa
open Go.RowKit
section
variable {z : Nat → Nat} {n n' : Nat}
/-- How much fuel there is does not matter. -/
theorem wl_fuel : ∀ (f g i : Nat), n - i ≤ f → n - i ≤ g → wl z n f i = wl z n g i := by
  intro f
  induction f with
  | zero =>
    intro g i hf _
    cases g with
    | zero => rfl
    | succ g => rw [wl, wl, if_pos (by omega)]
  | succ f ih =>
    intro g i hf hg
    cases g with
    | zero => rw [wl, wl, if_pos (by omega)]
    | succ g =>
      rw [wl, wl]
      split
      · rfl
      · rename_i hi
        congr 1
        split
        · rename_i he
          have := wrd_lt (by omega) he
          exact ih g _ (by omega) (by omega)
        · rfl
/-- The words of a text, then those of what stands behind it. -/
theorem wl_app (h : n' ≤ n) (hq : z n' ≠ 63) : ∀ (f i : Nat), i ≤ n' → n' - i ≤ f → (∀ s ∈ wl z n' f i, s.er = 0) → ∀ g d, n - i ≤ g → n - n' ≤ d → wl z n g i = wl z n' f i ++ wl z n d n' := by
  intro f
  induction f with
  | zero =>
    intro i hi hf _ g d hg hd
    obtain rfl : i = n' := by omega
    rw [wl, List.nil_append]
    exact wl_fuel _ _ _ hg hd
  | succ f ih =>
    intro i hi hf hs g d hg hd
    by_cases e : i = n'
    · subst e
      rw [wl, if_pos (by omega), List.nil_append]
      exact wl_fuel _ _ _ hg hd
    · have hin : i < n' := by omega
      obtain ⟨g', rfl⟩ : ∃ g', g = g' + 1 := ⟨g - 1, by omega⟩
      have e0 : wl z n' (f + 1) i = wrd z n' i :: if (wrd z n' i).er = 0 then wl z n' f (wrd z n' i).en else [] := by rw [wl, if_neg (by omega)]
      have he : (wrd z n' i).er = 0 := hs (wrd z n' i) (by rw [e0]; simp)
      rw [if_pos he] at e0
      have hlt := wrd_lt hin he
      have e1 : wl z n (g' + 1) i = wrd z n' i :: wl z n g' (wrd z n' i).en := by rw [wl, if_neg (by omega), wrd_more h hq hin he, if_pos he]
      rw [e0, e1, ih (wrd z n' i).en hlt.2.1 (by omega) (fun s hs' => hs s (by rw [e0]; simp [hs'])) g' d (by omega) hd]
      rfl
theorem wl_sh {a : Nat} : ∀ (f k : Nat), wl z (a + n) f (a + k) = (wl (fun i => z (a + i)) n f k).map (TokS.fwd a) := by
  intro f
  induction f with
  | zero => intro k; rfl
  | succ f ih =>
    intro k
    rw [wl, wl]
    by_cases h : n ≤ k
    · rw [if_pos (by omega), if_pos h]; rfl
    · rw [if_neg (by omega), if_neg h, wrd_sh, fwd_er, fwd_en]
      split
      · rename_i he
        rw [List.map_cons, ih]
      · rfl
theorem wl_len : ∀ (f i : Nat), (wl z n f i).length ≤ n - i := by
  intro f
  induction f with
  | zero => intro i; simp [wl]
  | succ f ih =>
    intro i
    rw [wl]
    split
    · simp
    · rename_i hi
      split
      · rename_i he
        have := wrd_lt (by omega) he
        have := ih (wrd z n i).en
        simp; omega
      · simp; omega
end
end Go.Proofs.Ytlmmiicibjfcdaa
