/- token: what bracket and word say, as functions; a word reads its own bytes alone. -/
import Derived.Test.YtlmmiicibjfcdaaKq
namespace Go.Proofs.Ytlmmiicibjfcdaa
open Go.RowKit
/-- What bracket says behind its head. -/
def brkG (z : Nat → Nat) (n at_ : Nat) (nt : Bool) : Nat → Nat → (Nat → Bool) → TokS
  | 0, _, _ => .bad at_ 41
  | f + 1, i, P => if n ≤ i then .bad at_ 41
    else if z i = 93 then (if mayP P nt = true then .cls P nt at_ (i + 1) else .bad at_ 41)
    else if (untS z n i).2.2 ≠ 0 then .bad (untS z n i).2.1 (untS z n i).2.2
    else brkG z n at_ nt f (untS z n i).2.1 (fun x => P x || (untS z n i).1 x)
/-- What bracket says. -/
def brkS (z : Nat → Nat) (n at_ : Nat) : TokS := brkG z n at_ (hasP z n (at_ + 1) 94) 1100 (if hasP z n (at_ + 1) 94 = true then at_ + 2 else at_ + 1) (fun _ => false)
/-- What word says. -/
def wrd (z : Nat → Nat) (n at_ : Nat) : TokS := wrdS (brkS z n at_) z n at_
section
variable {z : Nat → Nat} {n n' : Nat}
theorem hasP_mono (h : n' ≤ n) {k b : Nat} (e : hasP z n' k b = true) : hasP z n k b = true := by
  unfold hasP at *; simp at *; omega
theorem hasP_no (h : n' ≤ n) {k b : Nat} (e : hasP z n k b = false) : hasP z n' k b = false := by
  cases h' : hasP z n' k b
  · rfl
  · rw [hasP_mono h h'] at e; cases e
theorem hasP_in {k b : Nat} (h : k < n') (e : hasP z n k b = true) : hasP z n' k b = true := by
  unfold hasP at *; simp at *; omega
theorem hasP_lt {k b : Nat} (e : hasP z n k b = true) : k < n := by unfold hasP at e; simp at e; omega
/-- A number's digits alone are read. -/
theorem numG_cut (h : n' ≤ n) : ∀ d k v, n - k = d → (numG z n d k v).2 < n' → numG z n' (n' - k) k v = numG z n d k v := by
  intro d
  induction d with
  | zero =>
    intro k v hd hl
    rw [numG] at hl ⊢
    have hl' : k < n' := hl
    omega
  | succ d ih =>
    intro k v hd hl
    rw [numG] at hl ⊢
    split
    · rename_i hc
      rw [if_pos hc] at hl
      have e := ih (k + 1) (v * 10 + (z k - 48)) (by omega) hl
      have hk : k + 1 ≤ (numG z n d (k + 1) (v * 10 + (z k - 48))).2 := by
        have g : ∀ f k v, k ≤ (numG z n f k v).2 := by
          intro f
          induction f with
          | zero => intro k v; exact Nat.le_refl _
          | succ f ih =>
            intro k v
            rw [numG]
            split
            · have := ih (k + 1) (v * 10 + (z k - 48)); omega
            · exact Nat.le_refl _
        exact g _ _ _
      obtain ⟨f, hf⟩ : ∃ f, n' - k = f + 1 := ⟨n' - k - 1, by omega⟩
      simp only [Bool.and_eq_true, decide_eq_true_eq] at hc
      rw [hf, numG, if_pos (by simp [hc]; omega), ← e, show n' - (k + 1) = f by omega]
    · rename_i hc
      rw [if_neg hc] at hl
      have hl' : k < n' := hl
      obtain ⟨f, hf⟩ : ∃ f, n' - k = f + 1 := ⟨n' - k - 1, by omega⟩
      rw [hf, numG, if_neg]
      intro hc'
      apply hc
      simp only [Bool.and_eq_true, decide_eq_true_eq] at hc' ⊢
      exact ⟨⟨by omega, hc'.1.2⟩, hc'.2⟩
theorem numR_cut (h : n' ≤ n) {k : Nat} (hl : (numR z n k).2 < n') : numR z n' k = numR z n k := numG_cut h _ k 0 rfl hl
theorem numOk_cut (h : n' ≤ n) {k : Nat} (hl : (numR z n k).2 < n') : numOk z n' k = numOk z n k := by unfold numOk; rw [numR_cut h hl]
theorem cntV_cut (h : n' ≤ n) {fr : Nat} (e : (cntV z n fr).2.2.2 = 0) (hl : (cntV z n fr).2.2.1 ≤ n') : cntV z n' fr = cntV z n fr := by
  unfold cntV at e hl ⊢
  split at e
  · simp at e
  rename_i h1
  rw [if_neg h1] at hl ⊢
  split at e
  · rename_i h2
    rw [if_pos h2] at hl ⊢
    have hl' : (numR z n (fr + 1)).2 + 1 ≤ n' := hl
    rw [numOk_cut h (by omega), numR_cut h (by omega), if_neg h1, if_pos (hasP_in (by omega) h2)]
  rename_i h2
  rw [if_neg h2] at hl ⊢
  split at e
  · simp at e
  rename_i h3
  rw [if_neg h3] at hl ⊢
  have h3' : hasP z n (numR z n (fr + 1)).2 44 = true := by simpa using h3
  have h2' : hasP z n (numR z n (fr + 1)).2 125 = false := by simpa using h2
  split at e
  · rename_i h4
    rw [if_pos h4] at hl ⊢
    have hl' : (numR z n (fr + 1)).2 + 2 ≤ n' := hl
    rw [numOk_cut h (by omega), numR_cut h (by omega), if_neg h1, if_neg (by rw [hasP_no h h2']; decide), if_neg (by rw [hasP_in (by omega) h3']; decide), if_pos (hasP_in (by omega) h4)]
  rename_i h4
  rw [if_neg h4] at hl ⊢
  have h4' : hasP z n ((numR z n (fr + 1)).2 + 1) 125 = false := by simpa using h4
  split at e
  · simp at e
  rename_i h5
  rw [if_neg h5] at hl ⊢
  split at e
  · simp at e
  rename_i h6
  rw [if_neg h6] at hl ⊢
  split at e
  · simp at e
  rename_i h7
  rw [if_neg h7] at hl ⊢
  have h7' : hasP z n (numR z n ((numR z n (fr + 1)).2 + 1)).2 125 = true := by simpa using h7
  have hl' : (numR z n ((numR z n (fr + 1)).2 + 1)).2 + 1 ≤ n' := hl
  have hk : (numR z n (fr + 1)).2 + 1 < (numR z n ((numR z n (fr + 1)).2 + 1)).2 := by unfold numOk at h5; simp at h5; omega
  rw [numOk_cut h (by omega), numR_cut h (k := fr + 1) (by omega), numR_cut h (k := (numR z n (fr + 1)).2 + 1) (by omega), numOk_cut h (k := (numR z n (fr + 1)).2 + 1) (by omega), if_neg h1, if_neg (by rw [hasP_no h h2']; decide), if_neg (by rw [hasP_in (by omega) h3']; decide), if_neg (by rw [hasP_no h h4']; decide), if_neg h5, if_neg h6, if_neg (by rw [hasP_in (by omega) h7']; decide)]
theorem cntV_lt {fr : Nat} (e : (cntV z n fr).2.2.2 = 0) : fr < (cntV z n fr).2.2.1 ∧ (cntV z n fr).2.2.1 ≤ n := by
  unfold cntV at e ⊢
  split at e
  · simp at e
  rename_i h1
  rw [if_neg h1]
  have hk1 : fr + 1 < (numR z n (fr + 1)).2 := by unfold numOk at h1; simp at h1; omega
  split at e
  · rename_i h2
    rw [if_pos h2]
    have := hasP_lt h2
    exact ⟨by show fr < _ + 1; omega, by show _ + 1 ≤ n; omega⟩
  rename_i h2
  rw [if_neg h2]
  split at e
  · simp at e
  rename_i h3
  rw [if_neg h3]
  split at e
  · rename_i h4
    rw [if_pos h4]
    have := hasP_lt h4
    exact ⟨by show fr < _ + 2; omega, by show _ + 2 ≤ n; omega⟩
  rename_i h4
  rw [if_neg h4]
  split at e
  · simp at e
  rename_i h5
  rw [if_neg h5]
  split at e
  · simp at e
  rename_i h6
  rw [if_neg h6]
  split at e
  · simp at e
  rename_i h7
  rw [if_neg h7]
  have h7' : hasP z n (numR z n ((numR z n (fr + 1)).2 + 1)).2 125 = true := by simpa using h7
  have hk : (numR z n (fr + 1)).2 + 1 < (numR z n ((numR z n (fr + 1)).2 + 1)).2 := by unfold numOk at h5; simp at h5; omega
  have := hasP_lt h7'
  exact ⟨by show fr < _ + 1; omega, by show _ + 1 ≤ n; omega⟩
theorem repS_cut (h : n' ≤ n) {k : Nat} (e : (repS z n k).2.2.2 = 0) (hl : (repS z n k).2.2.1 ≤ n') : repS z n' k = repS z n k := by
  unfold repS at *
  repeat' split
  all_goals first
    | rfl
    | (rename_i h1 h2 h3; rw [if_neg h1, if_neg h2, if_neg h3] at e hl; exact cntV_cut h e hl)
theorem repS_lt {k : Nat} (hk : k < n) (e : (repS z n k).2.2.2 = 0) : k < (repS z n k).2.2.1 ∧ (repS z n k).2.2.1 ≤ n := by
  unfold repS at *
  repeat' split
  all_goals first
    | (rename_i h1 h2 h3; rw [if_neg h1, if_neg h2, if_neg h3] at e; exact cntV_lt e)
    | exact ⟨by show k < k + 1; omega, by show k + 1 ≤ n; omega⟩
theorem rptS_cut (h : n' ≤ n) {k : Nat} (e : (rptS z n k).er = 0) (hl : (rptS z n k).en ≤ n') : rptS z n' k = rptS z n k := by
  unfold rptS at *
  split at e
  · rename_i h1; exact absurd e h1
  rename_i h1
  have h1' : (repS z n k).2.2.2 = 0 := Decidable.not_not.1 h1
  rw [if_neg h1] at hl ⊢
  split at e
  · rename_i h2
    rw [if_pos h2] at hl ⊢
    have hl' : (repS z n k).2.2.1 + 1 ≤ n' := hl
    rw [repS_cut h h1' (by omega), if_neg h1, if_pos (hasP_in (by omega) h2)]
  · rename_i h2
    rw [if_neg h2] at hl ⊢
    have hl' : (repS z n k).2.2.1 ≤ n' := hl
    rw [repS_cut h h1' (by omega), if_neg h1, if_neg (by rw [hasP_no h (by simpa using h2)]; decide)]
theorem rptS_lt {k : Nat} (hk : k < n) (e : (rptS z n k).er = 0) : k < (rptS z n k).en ∧ (rptS z n k).en ≤ n ∧ (rptS z n k).at_ = k := by
  unfold rptS at *
  split at e
  · rename_i h1; exact absurd e h1
  rename_i h1
  rw [if_neg h1]
  have h1' : (repS z n k).2.2.2 = 0 := Decidable.not_not.1 h1
  have := repS_lt hk h1'
  split at e
  · rename_i h2
    rw [if_pos h2]
    have := hasP_lt h2
    exact ⟨by show k < _ + 1; omega, by show _ + 1 ≤ n; omega, rfl⟩
  · rename_i h2
    rw [if_neg h2]
    exact ⟨this.1, this.2, rfl⟩
theorem opnS_cut (h : n' ≤ n) {k : Nat} (e : (opnS z n k).er = 0) (hl : (opnS z n k).en ≤ n') : opnS z n' k = opnS z n k := by
  unfold opnS at *
  split at e
  · rename_i h1
    rw [if_pos h1] at hl ⊢
    rw [if_pos (hasP_no h h1)]
  rename_i h1
  rw [if_neg h1] at hl ⊢
  have h1' : hasP z n (k + 1) 63 = true := by simpa using h1
  split at e
  · rename_i h2
    rw [if_pos h2] at hl ⊢
    have hl' : k + 3 ≤ n' := hl
    rw [if_neg (by rw [hasP_in (by omega) h1']; decide), if_pos (hasP_in (by omega) h2)]
  · simp [TokS.bad] at e
theorem opnS_lt {k : Nat} (hk : k < n) (e : (opnS z n k).er = 0) : k < (opnS z n k).en ∧ (opnS z n k).en ≤ n ∧ (opnS z n k).at_ = k := by
  unfold opnS at *
  split at e
  · rename_i h1
    rw [if_pos h1]
    exact ⟨by show k < k + 1; omega, by show k + 1 ≤ n; omega, rfl⟩
  rename_i h1
  rw [if_neg h1]
  split at e
  · rename_i h2
    rw [if_pos h2]
    have := hasP_lt h2
    exact ⟨by show k < k + 3; omega, by show k + 3 ≤ n; omega, rfl⟩
  · simp [TokS.bad] at e
theorem escS_cut (h : n' ≤ n) {k : Nat} (e : (escS z n k).er = 0) (hl : (escS z n k).en ≤ n') : escS z n' k = escS z n k := by
  unfold escS at *
  split at e
  · simp [TokS.bad] at e
  rename_i h1
  rw [if_neg h1] at hl ⊢
  have hk2 : k + 2 ≤ n' := by
    revert hl
    repeat' split
    all_goals first
      | (intro hl; exact hl)
      | (intro hl; have : k + 4 ≤ n' := hl; omega)
      | (rename_i q1 q2; rw [if_neg q1, if_pos q2] at e; simp [TokS.bad] at e)
      | skip
    all_goals (exfalso; revert e; repeat' split)
    all_goals simp_all [TokS.bad]
  rw [if_neg (show ¬ n' < k + 2 by omega)]
  split
  · rfl
  rename_i h2
  rw [if_neg h2] at e hl
  split
  · rfl
  rename_i h3
  rw [if_neg h3] at e hl
  split
  · rfl
  rename_i h4
  rw [if_neg h4] at e hl
  split
  · rfl
  rename_i h5
  rw [if_neg h5] at e hl
  split
  · rename_i h6
    rw [if_pos h6] at e hl
    split at e
    · rename_i h7
      rw [if_pos h7] at hl ⊢
      have hl' : k + 4 ≤ n' := hl
      have hv : hexV z n' (k + 2) = hexV z n (k + 2) := by unfold hexV; rw [if_pos (by omega), if_pos (by omega)]
      rw [hv, if_pos h7]
    · simp [TokS.bad] at e
  · rfl
theorem uniS_cut (h : n' ≤ n) {k : Nat} (e : (uniS z n k).er = 0) (hl : (uniS z n k).en ≤ n') : uniS z n' k = uniS z n k := by
  unfold uniS at *
  split
  · rename_i h1
    rw [if_pos h1] at e hl
    exact escS_cut h e hl
  · rfl
end
section
variable {z : Nat → Nat} {n n' : Nat}
theorem escS_lt {k : Nat} (e : (escS z n k).er = 0) : k < (escS z n k).en ∧ (escS z n k).en ≤ n ∧ (escS z n k).at_ = k := by
  unfold escS at *
  split at e
  · simp [TokS.bad] at e
  rename_i h1
  rw [if_neg h1]
  split
  · exact ⟨by show k < k + 2; omega, by show k + 2 ≤ n; omega, rfl⟩
  rename_i h2
  rw [if_neg h2] at e
  split
  · exact ⟨by show k < k + 2; omega, by show k + 2 ≤ n; omega, rfl⟩
  rename_i h3
  rw [if_neg h3] at e
  split
  · exact ⟨by show k < k + 2; omega, by show k + 2 ≤ n; omega, rfl⟩
  rename_i h4
  rw [if_neg h4] at e
  split
  · exact ⟨by show k < k + 2; omega, by show k + 2 ≤ n; omega, rfl⟩
  rename_i h5
  rw [if_neg h5] at e
  split
  · rename_i h6
    rw [if_pos h6] at e
    split at e
    · rename_i h7
      rw [if_pos h7]
      have : k + 2 + 2 ≤ n := by
        unfold hexV at h7
        split at h7
        · assumption
        · simp at h7
      exact ⟨by show k < k + 4; omega, by show k + 4 ≤ n; omega, rfl⟩
    · simp [TokS.bad] at e
  rename_i h6
  rw [if_neg h6] at e
  split at e
  · simp [TokS.bad] at e
  rename_i h7
  rw [if_neg h7]
  split at e
  · simp [TokS.bad] at e
  rename_i h8
  rw [if_neg h8]
  exact ⟨by show k < k + 2; omega, by show k + 2 ≤ n; omega, rfl⟩
theorem uniS_lt {k : Nat} (hk : k < n) (e : (uniS z n k).er = 0) : k < (uniS z n k).en ∧ (uniS z n k).en ≤ n := by
  unfold uniS at *
  split
  · rename_i h1
    rw [if_pos h1] at e
    have := escS_lt e
    exact ⟨this.1, this.2.1⟩
  · exact ⟨by show k < k + 1; omega, by show k + 1 ≤ n; omega⟩
theorem dashP_lt {k : Nat} (e : dashP z n k = true) : k + 1 < n := by unfold dashP at e; simp at e; omega
theorem dashP_no (h : n' ≤ n) {k : Nat} (e : dashP z n k = false) : dashP z n' k = false := by
  cases h' : dashP z n' k
  · rfl
  · exfalso
    have : dashP z n k = true := by
      unfold dashP at h' ⊢
      simp only [Bool.and_eq_true, decide_eq_true_eq] at h' ⊢
      exact ⟨⟨hasP_mono h h'.1.1, by omega⟩, h'.2⟩
    rw [this] at e; cases e
theorem dashP_in {k : Nat} (h : k + 1 < n') (e : dashP z n k = true) : dashP z n' k = true := by
  unfold dashP at e ⊢
  simp only [Bool.and_eq_true, decide_eq_true_eq] at e ⊢
  exact ⟨⟨hasP_in (by omega) e.1.1, h⟩, e.2⟩
theorem untS_lt {k : Nat} (hk : k < n) (e : (untS z n k).2.2 = 0) : k < (untS z n k).2.1 ∧ (untS z n k).2.1 ≤ n := by
  unfold untS at *
  split at e
  · rename_i h1; exact absurd e h1
  rename_i h1
  rw [if_neg h1]
  have u := uniS_lt hk (Decidable.not_not.1 h1)
  split at e
  · rename_i h2
    rw [if_pos h2]
    exact u
  rename_i h2
  rw [if_neg h2]
  have hd := dashP_lt (by simpa using h2)
  split at e
  · rename_i h3; exact absurd e h3
  rename_i h3
  rw [if_neg h3]
  have v := uniS_lt hd (Decidable.not_not.1 h3)
  split at e
  · simp at e
  rename_i h4
  rw [if_neg h4]
  exact ⟨by show k < (uniS z n ((uniS z n k).en + 1)).en; omega, v.2⟩
theorem untS_cut (h : n' ≤ n) {k : Nat} (hk : k < n) (e : (untS z n k).2.2 = 0) (hl : (untS z n k).2.1 ≤ n') : untS z n' k = untS z n k := by
  unfold untS at *
  split at e
  · rename_i h1; exact absurd e h1
  rename_i h1
  rw [if_neg h1] at hl ⊢
  have e1 := Decidable.not_not.1 h1
  have u := uniS_lt hk e1
  split at e
  · rename_i h2
    rw [if_pos h2] at hl ⊢
    rw [uniS_cut h e1 hl, if_neg h1, if_pos (dashP_no h h2)]
  rename_i h2
  rw [if_neg h2] at hl ⊢
  have h2' : dashP z n (uniS z n k).en = true := by simpa using h2
  have hd := dashP_lt h2'
  split at e
  · rename_i h3; exact absurd e h3
  rename_i h3
  rw [if_neg h3] at hl ⊢
  have e3 := Decidable.not_not.1 h3
  have v := uniS_lt hd e3
  split at e
  · simp at e
  rename_i h4
  rw [if_neg h4] at hl ⊢
  have hl' : (uniS z n ((uniS z n k).en + 1)).en ≤ n' := hl
  rw [uniS_cut h e1 (by omega), if_neg h1, if_neg (by rw [dashP_in (by omega) h2']; decide), uniS_cut h e3 hl', if_neg h3, if_neg h4]
theorem brkG_lt {at_ : Nat} {nt : Bool} : ∀ f i P, (brkG z n at_ nt f i P).er = 0 → i < (brkG z n at_ nt f i P).en ∧ (brkG z n at_ nt f i P).en ≤ n ∧ (brkG z n at_ nt f i P).at_ = at_ := by
  intro f
  induction f with
  | zero => intro i P e; simp [brkG, TokS.bad] at e
  | succ f ih =>
    intro i P e
    rw [brkG] at e ⊢
    split at e
    · simp [TokS.bad] at e
    rename_i h1
    rw [if_neg h1]
    split at e
    · rename_i h2
      rw [if_pos h2]
      split at e
      · rename_i h3
        rw [if_pos h3]
        exact ⟨by show i < i + 1; omega, by show i + 1 ≤ n; omega, rfl⟩
      · simp [TokS.bad] at e
    rename_i h2
    rw [if_neg h2]
    split at e
    · rename_i h3; exact absurd e h3
    rename_i h3
    rw [if_neg h3]
    have u := untS_lt (by omega) (Decidable.not_not.1 h3)
    have := ih _ _ e
    exact ⟨by omega, this.2⟩
theorem brkG_cut (h : n' ≤ n) {at_ : Nat} {nt : Bool} : ∀ f i P, (brkG z n at_ nt f i P).er = 0 → (brkG z n at_ nt f i P).en ≤ n' → brkG z n' at_ nt f i P = brkG z n at_ nt f i P := by
  intro f
  induction f with
  | zero => intro i P e; simp [brkG, TokS.bad] at e
  | succ f ih =>
    intro i P e hl
    have hlt := brkG_lt _ _ _ e
    rw [brkG] at e hl ⊢
    rw [brkG] at hlt
    split at e
    · simp [TokS.bad] at e
    rename_i h1
    rw [if_neg h1] at hl hlt
    split at e
    · rename_i h2
      rw [if_pos h2] at hl hlt
      split at e
      · rename_i h3
        rw [if_pos h3] at hl
        have hl' : i + 1 ≤ n' := hl
        rw [if_neg (by omega), if_pos h2, if_pos h3, brkG, if_neg h1, if_pos h2, if_pos h3]
      · simp [TokS.bad] at e
    rename_i h2
    rw [if_neg h2] at hl hlt
    split at e
    · rename_i h3; exact absurd e h3
    rename_i h3
    rw [if_neg h3] at hl hlt
    have e3 := Decidable.not_not.1 h3
    have u := untS_lt (by omega) e3
    have r := brkG_lt _ _ _ e
    rw [untS_cut h (by omega) e3 (by omega), if_neg (by omega), if_neg h2, if_neg h3, brkG, if_neg h1, if_neg h2, if_neg h3]
    exact ih _ _ e hl
theorem brkS_lt {k : Nat} (e : (brkS z n k).er = 0) : k < (brkS z n k).en ∧ (brkS z n k).en ≤ n ∧ (brkS z n k).at_ = k := by
  unfold brkS at *
  have := brkG_lt _ _ _ e
  refine ⟨Nat.lt_trans ?_ this.1, this.2⟩
  split <;> omega
theorem brkS_cut (h : n' ≤ n) {k : Nat} (e : (brkS z n k).er = 0) (hl : (brkS z n k).en ≤ n') : brkS z n' k = brkS z n k := by
  unfold brkS at *
  have r := brkG_lt _ _ _ e
  have hh : hasP z n' (k + 1) 94 = hasP z n (k + 1) 94 := by
    cases hc : hasP z n (k + 1) 94
    · exact hasP_no h hc
    · rw [hc, if_pos rfl] at r
      rw [hc, if_pos rfl] at hl
      exact hasP_in (by omega) hc
  rw [hh]
  exact brkG_cut h _ _ _ e hl
theorem wrd_lt {k : Nat} (hk : k < n) (e : (wrd z n k).er = 0) : k < (wrd z n k).en ∧ (wrd z n k).en ≤ n ∧ (wrd z n k).at_ = k := by
  unfold wrd wrdS at *
  split
  · rename_i h1; rw [if_pos h1] at e; exact escS_lt e
  rename_i h1
  rw [if_neg h1] at e
  split
  · rename_i h2; rw [if_pos h2] at e; exact brkS_lt e
  rename_i h2
  rw [if_neg h2] at e
  split
  · rename_i h3; rw [if_pos h3] at e; exact opnS_lt hk e
  rename_i h3
  rw [if_neg h3] at e
  split
  · rename_i h4; rw [if_pos h4] at e; exact rptS_lt hk e
  · exact ⟨by show k < k + 1; omega, by show k + 1 ≤ n; omega, rfl⟩
theorem wrd_cut (h : n' ≤ n) {k : Nat} (e : (wrd z n k).er = 0) (hl : (wrd z n k).en ≤ n') : wrd z n' k = wrd z n k := by
  unfold wrd wrdS at *
  split
  · rename_i h1; rw [if_pos h1] at e hl; exact escS_cut h e hl
  rename_i h1
  rw [if_neg h1] at e hl
  split
  · rename_i h2; rw [if_pos h2] at e hl; exact brkS_cut h e hl
  rename_i h2
  rw [if_neg h2] at e hl
  split
  · rename_i h3; rw [if_pos h3] at e hl; exact opnS_cut h e hl
  rename_i h3
  rw [if_neg h3] at e hl
  split
  · rename_i h4; rw [if_pos h4] at e hl; exact rptS_cut h e hl
  · rfl
end
/-- A token some places further on. -/
def TokS.fwd (a : Nat) (s : TokS) : TokS := if s.er = 0 then { s with at_ := a + s.at_, en := a + s.en } else { s with en := a + s.en }
section
variable (z : Nat → Nat) (a n : Nat)
theorem hasP_sh (k b : Nat) : hasP z (a + n) (a + k) b = hasP (fun i => z (a + i)) n k b := by
  unfold hasP; congr 1; simp
theorem numG_sh : ∀ f k v, numG z (a + n) f (a + k) v = ((numG (fun i => z (a + i)) n f k v).1, a + (numG (fun i => z (a + i)) n f k v).2) := by
  intro f
  induction f with
  | zero => intro k v; rfl
  | succ f ih =>
    intro k v
    rw [numG, numG]
    have e : (decide (a + k < a + n) && digP (z (a + k)) && decide (v ≤ 1000)) = (decide (k < n) && digP ((fun i => z (a + i)) k) && decide (v ≤ 1000)) := by congr 2; simp
    rw [e]
    split
    · exact ih (k + 1) _
    · rfl
theorem numR_sh (k : Nat) : numR z (a + n) (a + k) = ((numR (fun i => z (a + i)) n k).1, a + (numR (fun i => z (a + i)) n k).2) := by
  unfold numR
  rw [show a + n - (a + k) = n - k by omega]
  exact numG_sh z a n _ k 0
theorem numOk_sh (k : Nat) : numOk z (a + n) (a + k) = numOk (fun i => z (a + i)) n k := by
  unfold numOk
  rw [numR_sh]
  generalize numR (fun i => z (a + i)) n k = r
  congr 1
  · congr 1; simp
  · congr 2; simp [Nat.add_assoc]
theorem cntV_sh (k : Nat) : cntV z (a + n) (a + k) = ((cntV (fun i => z (a + i)) n k).1, (cntV (fun i => z (a + i)) n k).2.1, a + (cntV (fun i => z (a + i)) n k).2.2.1, (cntV (fun i => z (a + i)) n k).2.2.2) := by
  unfold cntV
  rw [show a + k + 1 = a + (k + 1) from rfl, numR_sh, numOk_sh]
  generalize numR (fun i => z (a + i)) n (k + 1) = r
  obtain ⟨v, j⟩ := r
  simp only []
  rw [show a + j + 1 = a + (j + 1) from rfl, numR_sh, numOk_sh, hasP_sh, hasP_sh, hasP_sh]
  generalize numR (fun i => z (a + i)) n (j + 1) = r
  obtain ⟨u, m⟩ := r
  simp only []
  rw [hasP_sh]
  repeat' split
  all_goals rfl
theorem repS_sh (k : Nat) : repS z (a + n) (a + k) = ((repS (fun i => z (a + i)) n k).1, (repS (fun i => z (a + i)) n k).2.1, a + (repS (fun i => z (a + i)) n k).2.2.1, (repS (fun i => z (a + i)) n k).2.2.2) := by
  unfold repS
  rw [cntV_sh]
  repeat' split
  all_goals rfl
theorem rptS_sh (k : Nat) : rptS z (a + n) (a + k) = (rptS (fun i => z (a + i)) n k).fwd a := by
  unfold rptS
  rw [repS_sh]
  generalize repS (fun i => z (a + i)) n k = r
  obtain ⟨l, m, j, e⟩ := r
  simp only []
  rw [hasP_sh]
  split
  · rename_i h; simp [TokS.fwd, TokS.bad, h]
  split
  · simp [TokS.fwd, TokS.rep]; omega
  · simp [TokS.fwd, TokS.rep]
theorem opnS_sh (k : Nat) : opnS z (a + n) (a + k) = (opnS (fun i => z (a + i)) n k).fwd a := by
  unfold opnS
  rw [show a + k + 1 = a + (k + 1) from rfl, show a + k + 2 = a + (k + 2) from rfl, hasP_sh, hasP_sh]
  repeat' split
  all_goals simp [TokS.fwd, TokS.sgn, TokS.bad]
  all_goals omega
theorem hexV_sh (k : Nat) : hexV z (a + n) (a + k) = hexV (fun i => z (a + i)) n k := by
  unfold hexV
  by_cases h : k + 2 ≤ n
  · rw [if_pos (by omega), if_pos h]; rfl
  · rw [if_neg (by omega), if_neg h]
theorem escS_sh (k : Nat) : escS z (a + n) (a + k) = (escS (fun i => z (a + i)) n k).fwd a := by
  unfold escS
  have e1 : z (a + k + 1) = (fun i => z (a + i)) (k + 1) := rfl
  rw [e1, show a + k + 2 = a + (k + 2) from rfl, hexV_sh]
  generalize (fun i => z (a + i)) (k + 1) = q
  by_cases h : n < k + 2
  · rw [if_pos (by omega), if_pos h]; simp [TokS.fwd, TokS.bad]
  rw [if_neg (by omega), if_neg h]
  repeat' split
  all_goals simp [TokS.fwd, TokS.sgn, TokS.cls, TokS.bad]
  all_goals omega
theorem uniS_sh (k : Nat) : uniS z (a + n) (a + k) = (uniS (fun i => z (a + i)) n k).fwd a := by
  unfold uniS
  rw [escS_sh]
  split
  · rfl
  · simp [TokS.fwd, TokS.sgn]; omega
theorem fwd_er (s : TokS) : (s.fwd a).er = s.er := by unfold TokS.fwd; split <;> rfl
theorem fwd_en (s : TokS) : (s.fwd a).en = a + s.en := by unfold TokS.fwd; split <;> rfl
theorem fwd_k (s : TokS) : (s.fwd a).k = s.k := by unfold TokS.fwd; split <;> rfl
theorem fwd_b (s : TokS) : (s.fwd a).b = s.b := by unfold TokS.fwd; split <;> rfl
theorem fwd_P (s : TokS) : (s.fwd a).P = s.P := by unfold TokS.fwd; split <;> rfl
theorem dashP_sh (k : Nat) : dashP z (a + n) (a + k) = dashP (fun i => z (a + i)) n k := by
  unfold dashP
  rw [hasP_sh]
  congr 2
  simp [Nat.add_assoc]
theorem untS_sh (k : Nat) : untS z (a + n) (a + k) = ((untS (fun i => z (a + i)) n k).1, a + (untS (fun i => z (a + i)) n k).2.1, (untS (fun i => z (a + i)) n k).2.2) := by
  unfold untS
  rw [uniS_sh]
  generalize uniS (fun i => z (a + i)) n k = s
  rw [fwd_er, fwd_en, fwd_k, fwd_b, dashP_sh, show a + s.en + 1 = a + (s.en + 1) from rfl, uniS_sh]
  generalize uniS (fun i => z (a + i)) n (s.en + 1) = t
  rw [fwd_er, fwd_en, fwd_k, fwd_b, show oneS (s.fwd a) = oneS s by unfold oneS; rw [fwd_k, fwd_b, fwd_P]]
  repeat' split
  all_goals rfl
theorem brkG_sh (k : Nat) (nt : Bool) : ∀ f i P, brkG z (a + n) (a + k) nt f (a + i) P = (brkG (fun i => z (a + i)) n k nt f i P).fwd a := by
  intro f
  induction f with
  | zero => intro i P; simp [brkG, TokS.fwd, TokS.bad]
  | succ f ih =>
    intro i P
    rw [brkG, brkG, untS_sh]
    simp only []
    rw [ih]
    by_cases h : n ≤ i
    · rw [if_pos (by omega), if_pos h]; simp [TokS.fwd, TokS.bad]
    rw [if_neg (by omega), if_neg h]
    split
    · split
      · simp [TokS.fwd, TokS.cls]; omega
      · simp [TokS.fwd, TokS.bad]
    split
    · rename_i h3; simp [TokS.fwd, TokS.bad, h3]
    · rfl
theorem brkS_sh (k : Nat) : brkS z (a + n) (a + k) = (brkS (fun i => z (a + i)) n k).fwd a := by
  unfold brkS
  rw [show a + k + 1 = a + (k + 1) from rfl, hasP_sh, show a + k + 2 = a + (k + 2) from rfl, ← brkG_sh]
  congr 1
  split <;> rfl
theorem wrd_sh (k : Nat) : wrd z (a + n) (a + k) = (wrd (fun i => z (a + i)) n k).fwd a := by
  unfold wrd wrdS
  rw [escS_sh, brkS_sh, opnS_sh, rptS_sh]
  split
  · rfl
  split
  · rfl
  split
  · rfl
  split
  · rfl
  · simp [sgnS, TokS.fwd, TokS.sgn]; omega
end
/-- What lies from a word to the next is that word by itself. -/
theorem wrd_self {z : Nat → Nat} {n k : Nat} (hk : k < n) (e : (wrd z n k).er = 0) : wrd (fun i => z (k + i)) ((wrd z n k).en - k) 0 = { wrd z n k with at_ := 0, en := (wrd z n k).en - k } := by
  have hlt := wrd_lt hk e
  have c := wrd_cut (n' := (wrd z n k).en) hlt.2.1 e (Nat.le_refl _)
  have s := wrd_sh z k ((wrd z n k).en - k) 0
  rw [show k + ((wrd z n k).en - k) = (wrd z n k).en by omega, show k + 0 = k from rfl, c] at s
  have er : (wrd (fun i => z (k + i)) ((wrd z n k).en - k) 0).er = 0 := by rw [← fwd_er k, ← s]; exact e
  have ha := hlt.2.2
  generalize wrd (fun i => z (k + i)) ((wrd z n k).en - k) 0 = t at *
  generalize wrd z n k = u at *
  unfold TokS.fwd at s
  rw [if_pos er] at s
  subst s
  obtain ⟨t1, t2, t3, t4, t5, t6, t7, t8, t9, t10⟩ := t
  simp at ha ⊢
  omega
end Go.Proofs.Ytlmmiicibjfcdaa
