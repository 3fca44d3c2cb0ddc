/- token: what bracket and word say, as functions; a word reads its own bytes alone. Scopes in which the run jumps to several labels; bracket's code. token: bracket: the ways of one pass from its label. -/
import Derived.Test.YtlmmiicibjfcdaaQ08
import Derived.ScopeJumps
import Derived.WalkMore
import Derived.Deep.RegionWith
namespace Go.Proofs.Ytlmmiicibjfcdaa
open Go.RowKit
/-- What bracket says behind its head. -/
def brkG (z : Nat → Nat) (n at_ : Nat) (nt : Bool) : Nat → Nat → (Nat → Bool) → TokS
  | 0, _, _ => .bad at_ 41
  | f + 1, i, P => if n ≤ i then .bad at_ 41
    else if z i = 93 then (if mayP P nt = true then .cls P nt at_ (i + 1) else .bad at_ 41)
    else if (untS z n i).2.2 ≠ 0 then .bad (untS z n i).2.1 (untS z n i).2.2
    else brkG z n at_ nt f (untS z n i).2.1 (fun x => P x || (untS z n i).1 x)
/-- What bracket says. -/
def brkS (z : Nat → Nat) (n at_ : Nat) : TokS := brkG z n at_ (hasP z n (at_ + 1) 94) 1100 (if hasP z n (at_ + 1) 94 = true then at_ + 2 else at_ + 1) (fun _ => false)
/-- What word says. -/
def wrd (z : Nat → Nat) (n at_ : Nat) : TokS := wrdS (brkS z n at_) z n at_
section
variable {z : Nat → Nat} {n n' : Nat}
theorem hasP_lt {k b : Nat} (e : hasP z n k b = true) : k < n := by unfold hasP at e; simp at e; omega
theorem cntV_lt {fr : Nat} (e : (cntV z n fr).2.2.2 = 0) : fr < (cntV z n fr).2.2.1 ∧ (cntV z n fr).2.2.1 ≤ n := by
  unfold cntV at e ⊢
  split at e
  · simp at e
  rename_i h1
  rw [if_neg h1]
  have hk1 : fr + 1 < (numR z n (fr + 1)).2 := by unfold numOk at h1; simp at h1; omega
  split at e
  · rename_i h2
    rw [if_pos h2]
    have := hasP_lt h2
    exact ⟨by show fr < _ + 1; omega, by show _ + 1 ≤ n; omega⟩
  rename_i h2
  rw [if_neg h2]
  split at e
  · simp at e
  rename_i h3
  rw [if_neg h3]
  split at e
  · rename_i h4
    rw [if_pos h4]
    have := hasP_lt h4
    exact ⟨by show fr < _ + 2; omega, by show _ + 2 ≤ n; omega⟩
  rename_i h4
  rw [if_neg h4]
  split at e
  · simp at e
  rename_i h5
  rw [if_neg h5]
  split at e
  · simp at e
  rename_i h6
  rw [if_neg h6]
  split at e
  · simp at e
  rename_i h7
  rw [if_neg h7]
  have h7' : hasP z n (numR z n ((numR z n (fr + 1)).2 + 1)).2 125 = true := by simpa using h7
  have hk : (numR z n (fr + 1)).2 + 1 < (numR z n ((numR z n (fr + 1)).2 + 1)).2 := by unfold numOk at h5; simp at h5; omega
  have := hasP_lt h7'
  exact ⟨by show fr < _ + 1; omega, by show _ + 1 ≤ n; omega⟩
theorem repS_lt {k : Nat} (hk : k < n) (e : (repS z n k).2.2.2 = 0) : k < (repS z n k).2.2.1 ∧ (repS z n k).2.2.1 ≤ n := by
  unfold repS at *
  repeat' split
  all_goals first
    | (rename_i h1 h2 h3; rw [if_neg h1, if_neg h2, if_neg h3] at e; exact cntV_lt e)
    | exact ⟨by show k < k + 1; omega, by show k + 1 ≤ n; omega⟩
theorem rptS_lt {k : Nat} (hk : k < n) (e : (rptS z n k).er = 0) : k < (rptS z n k).en ∧ (rptS z n k).en ≤ n ∧ (rptS z n k).at_ = k := by
  unfold rptS at *
  split at e
  · rename_i h1; exact absurd e h1
  rename_i h1
  rw [if_neg h1]
  have h1' : (repS z n k).2.2.2 = 0 := Decidable.not_not.1 h1
  have := repS_lt hk h1'
  split at e
  · rename_i h2
    rw [if_pos h2]
    have := hasP_lt h2
    exact ⟨by show k < _ + 1; omega, by show _ + 1 ≤ n; omega, rfl⟩
  · rename_i h2
    rw [if_neg h2]
    exact ⟨this.1, this.2, rfl⟩
theorem opnS_lt {k : Nat} (hk : k < n) (e : (opnS z n k).er = 0) : k < (opnS z n k).en ∧ (opnS z n k).en ≤ n ∧ (opnS z n k).at_ = k := by
  unfold opnS at *
  split at e
  · rename_i h1
    rw [if_pos h1]
    exact ⟨by show k < k + 1; omega, by show k + 1 ≤ n; omega, rfl⟩
  rename_i h1
  rw [if_neg h1]
  split at e
  · rename_i h2
    rw [if_pos h2]
    have := hasP_lt h2
    exact ⟨by show k < k + 3; omega, by show k + 3 ≤ n; omega, rfl⟩
  · simp [TokS.bad] at e
end
section
variable {z : Nat → Nat} {n n' : Nat}
theorem escS_lt {k : Nat} (e : (escS z n k).er = 0) : k < (escS z n k).en ∧ (escS z n k).en ≤ n ∧ (escS z n k).at_ = k := by
  unfold escS at *
  split at e
  · simp [TokS.bad] at e
  rename_i h1
  rw [if_neg h1]
  split
  · exact ⟨by show k < k + 2; omega, by show k + 2 ≤ n; omega, rfl⟩
  rename_i h2
  rw [if_neg h2] at e
  split
  · exact ⟨by show k < k + 2; omega, by show k + 2 ≤ n; omega, rfl⟩
  rename_i h3
  rw [if_neg h3] at e
  split
  · exact ⟨by show k < k + 2; omega, by show k + 2 ≤ n; omega, rfl⟩
  rename_i h4
  rw [if_neg h4] at e
  split
  · exact ⟨by show k < k + 2; omega, by show k + 2 ≤ n; omega, rfl⟩
  rename_i h5
  rw [if_neg h5] at e
  split
  · rename_i h6
    rw [if_pos h6] at e
    split at e
    · rename_i h7
      rw [if_pos h7]
      have : k + 2 + 2 ≤ n := by
        unfold hexV at h7
        split at h7
        · assumption
        · simp at h7
      exact ⟨by show k < k + 4; omega, by show k + 4 ≤ n; omega, rfl⟩
    · simp [TokS.bad] at e
  rename_i h6
  rw [if_neg h6] at e
  split at e
  · simp [TokS.bad] at e
  rename_i h7
  rw [if_neg h7]
  split at e
  · simp [TokS.bad] at e
  rename_i h8
  rw [if_neg h8]
  exact ⟨by show k < k + 2; omega, by show k + 2 ≤ n; omega, rfl⟩
theorem uniS_lt {k : Nat} (hk : k < n) (e : (uniS z n k).er = 0) : k < (uniS z n k).en ∧ (uniS z n k).en ≤ n := by
  unfold uniS at *
  split
  · rename_i h1
    rw [if_pos h1] at e
    have := escS_lt e
    exact ⟨this.1, this.2.1⟩
  · exact ⟨by show k < k + 1; omega, by show k + 1 ≤ n; omega⟩
theorem dashP_lt {k : Nat} (e : dashP z n k = true) : k + 1 < n := by unfold dashP at e; simp at e; omega
theorem untS_lt {k : Nat} (hk : k < n) (e : (untS z n k).2.2 = 0) : k < (untS z n k).2.1 ∧ (untS z n k).2.1 ≤ n := by
  unfold untS at *
  split at e
  · rename_i h1; exact absurd e h1
  rename_i h1
  rw [if_neg h1]
  have u := uniS_lt hk (Decidable.not_not.1 h1)
  split at e
  · rename_i h2
    rw [if_pos h2]
    exact u
  rename_i h2
  rw [if_neg h2]
  have hd := dashP_lt (by simpa using h2)
  split at e
  · rename_i h3; exact absurd e h3
  rename_i h3
  rw [if_neg h3]
  have v := uniS_lt hd (Decidable.not_not.1 h3)
  split at e
  · simp at e
  rename_i h4
  rw [if_neg h4]
  exact ⟨by show k < (uniS z n ((uniS z n k).en + 1)).en; omega, v.2⟩
theorem brkG_lt {at_ : Nat} {nt : Bool} : ∀ f i P, (brkG z n at_ nt f i P).er = 0 → i < (brkG z n at_ nt f i P).en ∧ (brkG z n at_ nt f i P).en ≤ n ∧ (brkG z n at_ nt f i P).at_ = at_ := by
  intro f
  induction f with
  | zero => intro i P e; simp [brkG, TokS.bad] at e
  | succ f ih =>
    intro i P e
    rw [brkG] at e ⊢
    split at e
    · simp [TokS.bad] at e
    rename_i h1
    rw [if_neg h1]
    split at e
    · rename_i h2
      rw [if_pos h2]
      split at e
      · rename_i h3
        rw [if_pos h3]
        exact ⟨by show i < i + 1; omega, by show i + 1 ≤ n; omega, rfl⟩
      · simp [TokS.bad] at e
    rename_i h2
    rw [if_neg h2]
    split at e
    · rename_i h3; exact absurd e h3
    rename_i h3
    rw [if_neg h3]
    have u := untS_lt (by omega) (Decidable.not_not.1 h3)
    have := ih _ _ e
    exact ⟨by omega, this.2⟩
theorem brkS_lt {k : Nat} (e : (brkS z n k).er = 0) : k < (brkS z n k).en ∧ (brkS z n k).en ≤ n ∧ (brkS z n k).at_ = k := by
  unfold brkS at *
  have := brkG_lt _ _ _ e
  refine ⟨Nat.lt_trans ?_ this.1, this.2⟩
  split <;> omega
theorem wrd_lt {k : Nat} (hk : k < n) (e : (wrd z n k).er = 0) : k < (wrd z n k).en ∧ (wrd z n k).en ≤ n ∧ (wrd z n k).at_ = k := by
  unfold wrd wrdS at *
  split
  · rename_i h1; rw [if_pos h1] at e; exact escS_lt e
  rename_i h1
  rw [if_neg h1] at e
  split
  · rename_i h2; rw [if_pos h2] at e; exact brkS_lt e
  rename_i h2
  rw [if_neg h2] at e
  split
  · rename_i h3; rw [if_pos h3] at e; exact opnS_lt hk e
  rename_i h3
  rw [if_neg h3] at e
  split
  · rename_i h4; rw [if_pos h4] at e; exact rptS_lt hk e
  · exact ⟨by show k < k + 1; omega, by show k + 1 ≤ n; omega, rfl⟩
end
/-- A token some places further on. -/
def TokS.fwd (a : Nat) (s : TokS) : TokS := if s.er = 0 then { s with at_ := a + s.at_, en := a + s.en } else { s with en := a + s.en }
section
variable (z : Nat → Nat) (a n : Nat)
theorem hasP_sh (k b : Nat) : hasP z (a + n) (a + k) b = hasP (fun i => z (a + i)) n k b := by
  unfold hasP; congr 1; simp
theorem numG_sh : ∀ f k v, numG z (a + n) f (a + k) v = ((numG (fun i => z (a + i)) n f k v).1, a + (numG (fun i => z (a + i)) n f k v).2) := by
  intro f
  induction f with
  | zero => intro k v; rfl
  | succ f ih =>
    intro k v
    rw [numG, numG]
    have e : (decide (a + k < a + n) && digP (z (a + k)) && decide (v ≤ 1000)) = (decide (k < n) && digP ((fun i => z (a + i)) k) && decide (v ≤ 1000)) := by congr 2; simp
    rw [e]
    split
    · exact ih (k + 1) _
    · rfl
theorem numR_sh (k : Nat) : numR z (a + n) (a + k) = ((numR (fun i => z (a + i)) n k).1, a + (numR (fun i => z (a + i)) n k).2) := by
  unfold numR
  rw [show a + n - (a + k) = n - k by omega]
  exact numG_sh z a n _ k 0
theorem numOk_sh (k : Nat) : numOk z (a + n) (a + k) = numOk (fun i => z (a + i)) n k := by
  unfold numOk
  rw [numR_sh]
  generalize numR (fun i => z (a + i)) n k = r
  congr 1
  · congr 1; simp
  · congr 2; simp [Nat.add_assoc]
theorem cntV_sh (k : Nat) : cntV z (a + n) (a + k) = ((cntV (fun i => z (a + i)) n k).1, (cntV (fun i => z (a + i)) n k).2.1, a + (cntV (fun i => z (a + i)) n k).2.2.1, (cntV (fun i => z (a + i)) n k).2.2.2) := by
  unfold cntV
  rw [show a + k + 1 = a + (k + 1) from rfl, numR_sh, numOk_sh]
  generalize numR (fun i => z (a + i)) n (k + 1) = r
  obtain ⟨v, j⟩ := r
  simp only []
  rw [show a + j + 1 = a + (j + 1) from rfl, numR_sh, numOk_sh, hasP_sh, hasP_sh, hasP_sh]
  generalize numR (fun i => z (a + i)) n (j + 1) = r
  obtain ⟨u, m⟩ := r
  simp only []
  rw [hasP_sh]
  repeat' split
  all_goals rfl
theorem repS_sh (k : Nat) : repS z (a + n) (a + k) = ((repS (fun i => z (a + i)) n k).1, (repS (fun i => z (a + i)) n k).2.1, a + (repS (fun i => z (a + i)) n k).2.2.1, (repS (fun i => z (a + i)) n k).2.2.2) := by
  unfold repS
  rw [cntV_sh]
  repeat' split
  all_goals rfl
theorem rptS_sh (k : Nat) : rptS z (a + n) (a + k) = (rptS (fun i => z (a + i)) n k).fwd a := by
  unfold rptS
  rw [repS_sh]
  generalize repS (fun i => z (a + i)) n k = r
  obtain ⟨l, m, j, e⟩ := r
  simp only []
  rw [hasP_sh]
  split
  · rename_i h; simp [TokS.fwd, TokS.bad, h]
  split
  · simp [TokS.fwd, TokS.rep]; omega
  · simp [TokS.fwd, TokS.rep]
theorem opnS_sh (k : Nat) : opnS z (a + n) (a + k) = (opnS (fun i => z (a + i)) n k).fwd a := by
  unfold opnS
  rw [show a + k + 1 = a + (k + 1) from rfl, show a + k + 2 = a + (k + 2) from rfl, hasP_sh, hasP_sh]
  repeat' split
  all_goals simp [TokS.fwd, TokS.sgn, TokS.bad]
  all_goals omega
theorem hexV_sh (k : Nat) : hexV z (a + n) (a + k) = hexV (fun i => z (a + i)) n k := by
  unfold hexV
  by_cases h : k + 2 ≤ n
  · rw [if_pos (by omega), if_pos h]; rfl
  · rw [if_neg (by omega), if_neg h]
theorem escS_sh (k : Nat) : escS z (a + n) (a + k) = (escS (fun i => z (a + i)) n k).fwd a := by
  unfold escS
  have e1 : z (a + k + 1) = (fun i => z (a + i)) (k + 1) := rfl
  rw [e1, show a + k + 2 = a + (k + 2) from rfl, hexV_sh]
  generalize (fun i => z (a + i)) (k + 1) = q
  by_cases h : n < k + 2
  · rw [if_pos (by omega), if_pos h]; simp [TokS.fwd, TokS.bad]
  rw [if_neg (by omega), if_neg h]
  repeat' split
  all_goals simp [TokS.fwd, TokS.sgn, TokS.cls, TokS.bad]
  all_goals omega
theorem uniS_sh (k : Nat) : uniS z (a + n) (a + k) = (uniS (fun i => z (a + i)) n k).fwd a := by
  unfold uniS
  rw [escS_sh]
  split
  · rfl
  · simp [TokS.fwd, TokS.sgn]; omega
theorem fwd_er (s : TokS) : (s.fwd a).er = s.er := by unfold TokS.fwd; split <;> rfl
theorem fwd_en (s : TokS) : (s.fwd a).en = a + s.en := by unfold TokS.fwd; split <;> rfl
theorem fwd_k (s : TokS) : (s.fwd a).k = s.k := by unfold TokS.fwd; split <;> rfl
theorem fwd_b (s : TokS) : (s.fwd a).b = s.b := by unfold TokS.fwd; split <;> rfl
theorem fwd_P (s : TokS) : (s.fwd a).P = s.P := by unfold TokS.fwd; split <;> rfl
theorem dashP_sh (k : Nat) : dashP z (a + n) (a + k) = dashP (fun i => z (a + i)) n k := by
  unfold dashP
  rw [hasP_sh]
  congr 2
  simp [Nat.add_assoc]
theorem untS_sh (k : Nat) : untS z (a + n) (a + k) = ((untS (fun i => z (a + i)) n k).1, a + (untS (fun i => z (a + i)) n k).2.1, (untS (fun i => z (a + i)) n k).2.2) := by
  unfold untS
  rw [uniS_sh]
  generalize uniS (fun i => z (a + i)) n k = s
  rw [fwd_er, fwd_en, fwd_k, fwd_b, dashP_sh, show a + s.en + 1 = a + (s.en + 1) from rfl, uniS_sh]
  generalize uniS (fun i => z (a + i)) n (s.en + 1) = t
  rw [fwd_er, fwd_en, fwd_k, fwd_b, show oneS (s.fwd a) = oneS s by unfold oneS; rw [fwd_k, fwd_b, fwd_P]]
  repeat' split
  all_goals rfl
theorem brkG_sh (k : Nat) (nt : Bool) : ∀ f i P, brkG z (a + n) (a + k) nt f (a + i) P = (brkG (fun i => z (a + i)) n k nt f i P).fwd a := by
  intro f
  induction f with
  | zero => intro i P; simp [brkG, TokS.fwd, TokS.bad]
  | succ f ih =>
    intro i P
    rw [brkG, brkG, untS_sh]
    simp only []
    rw [ih]
    by_cases h : n ≤ i
    · rw [if_pos (by omega), if_pos h]; simp [TokS.fwd, TokS.bad]
    rw [if_neg (by omega), if_neg h]
    split
    · split
      · simp [TokS.fwd, TokS.cls]; omega
      · simp [TokS.fwd, TokS.bad]
    split
    · rename_i h3; simp [TokS.fwd, TokS.bad, h3]
    · rfl
theorem brkS_sh (k : Nat) : brkS z (a + n) (a + k) = (brkS (fun i => z (a + i)) n k).fwd a := by
  unfold brkS
  rw [show a + k + 1 = a + (k + 1) from rfl, hasP_sh, show a + k + 2 = a + (k + 2) from rfl, ← brkG_sh]
  congr 1
  split <;> rfl
theorem wrd_sh (k : Nat) : wrd z (a + n) (a + k) = (wrd (fun i => z (a + i)) n k).fwd a := by
  unfold wrd wrdS
  rw [escS_sh, brkS_sh, opnS_sh, rptS_sh]
  split
  · rfl
  split
  · rfl
  split
  · rfl
  split
  · rfl
  · simp [sgnS, TokS.fwd, TokS.sgn]; omega
end
end Go.Proofs.Ytlmmiicibjfcdaa
namespace Go.Proofs.Ytlmmiicibjfcdaa
open Go.RowKit
/-- As Q; by a goto to label l: J l. -/
def jumps (J : Nat → Act → World → Prop) (Q : Exit → Act → World → Prop) : Exit → Act → World → Prop
  | .goto l, a, w => J l a w
  | e, a, w => Q e a w
/-- A scope in which the run jumps to several labels; every jump lowers a measure. -/
theorem wp_scope_labels {P : Program} {c : Code} {Q : Exit → Act → World → Prop} {a : Act} {w : World} (J : Nat → Nat → Act → World → Prop)
    (first : c.wp P (jumps (fun l a w => ∃ m, J l m a w) Q) a w)
    (pass : ∀ l m a w, J l m a w → ∃ rest, findLabel c l = some rest ∧ rest.wp P (jumps (fun l' a' w' => ∃ m', m' < m ∧ J l' m' a' w') Q) a w) : (Code.scope c).wp P Q a w := by
  intro b k cs
  have key : ∀ n l a w, J l n a w → ∃ rest, findLabel c l = some rest ∧ ∃ e a' w', Q e a' w' ∧ Arrives P (lone (b.at a (.code rest :: .inScope c :: k)) cs w) b k cs e a' w' := by
    intro n
    induction n using Nat.strongRecOn with
    | _ n ih =>
      intro l a w hJ
      obtain ⟨rest, hf, hp⟩ := pass l n a w hJ
      refine ⟨rest, hf, ?_⟩
      obtain ⟨e, a₁, w₁, hq, harr⟩ := hp b (.inScope c :: k) cs
      cases e with
      | normal => exact ⟨.normal, a₁, w₁, hq, Steps.trans harr (.one step_inScope)⟩
      | exit id => exact ⟨.exit id, a₁, w₁, hq, fun k' hk => harr k' (by simp [exitTo, hk])⟩
      | goto l' =>
        obtain ⟨m', hlt, hJ'⟩ := hq
        obtain ⟨rest', hf', e₂, a₂, w₂, hq₂, harr₂⟩ := ih m' hlt l' a₁ w₁ hJ'
        have hg : gotoIn l' (.inScope c :: k) = some (.code rest' :: .inScope c :: k) := by simp [gotoIn, hf']
        exact ⟨e₂, a₂, w₂, hq₂, .of_steps (harr _ hg) harr₂⟩
      | ret => exact ⟨_, a₁, w₁, hq, harr⟩
      | panic ch => exact ⟨_, a₁, w₁, hq, harr⟩
      | outgrown => exact ⟨_, a₁, w₁, hq, harr⟩
  obtain ⟨e, a₁, w₁, hq, harr⟩ := first b (.inScope c :: k) cs
  cases e with
  | normal => exact ⟨.normal, a₁, w₁, hq, .head step_scope (Steps.trans harr (.one step_inScope))⟩
  | exit id => exact ⟨.exit id, a₁, w₁, hq, fun k' hk => .head step_scope (harr k' (by simp [exitTo, hk]))⟩
  | goto l' =>
    obtain ⟨m, hJ⟩ := hq
    obtain ⟨rest', hf', e₂, a₂, w₂, hq₂, harr₂⟩ := key m l' a₁ w₁ hJ
    have hg : gotoIn l' (.inScope c :: k) = some (.code rest' :: .inScope c :: k) := by simp [gotoIn, hf']
    exact ⟨e₂, a₂, w₂, hq₂, .of_steps (.head step_scope (harr _ hg)) harr₂⟩
  | ret => exact ⟨_, a₁, w₁, hq, .of_steps (.one step_scope) harr⟩
  | panic ch => exact ⟨_, a₁, w₁, hq, .of_steps (.one step_scope) harr⟩
  | outgrown => exact ⟨_, a₁, w₁, hq, .of_steps (.one step_scope) harr⟩
theorem jumps_mono {J J' : Nat → Act → World → Prop} {Q : Exit → Act → World → Prop} (h : ∀ l a w, J l a w → J' l a w) (e : Exit) (a : Act) (w : World) (hq : jumps J Q e a w) : jumps J' Q e a w := by
  cases e <;> first | exact hq | exact h _ _ _ hq
theorem wp_skip_seq {P : Program} {c : Code} {Q : Exit → Act → World → Prop} {a : Act} {w : World} (h : c.wp P Q a w) : (Code.skip.seq c).wp P Q a w := wp_seq (wp_skip h)
/-- The code inside the first scope of a code; what stands behind a code's first part. -/
def inScope : Code → Option Code
  | .scope c => some c
  | .seq a b => match inScope a with
    | some c => some c
    | none => inScope b
  | .block _ c => inScope c
  | _ => none
def behind : Code → Code
  | .seq _ b => b
  | c => c
/-- The value at a place of a frame. -/
def nth : List Value → Nat → Value
  | [], _ => undef
  | x :: _, 0 => x
  | _ :: xs, n + 1 => nth xs n
/-- The code inside a function's scope; what stands behind a label of it. -/
def scopeIn (fn : Func) : Code := ((fn.body.bind inScope).getD .skip)
def labelIn (fn : Func) (l : Nat) : Code := behind ((findLabel (scopeIn fn) l).getD .skip)
theorem br11_0 : findLabel (scopeIn Try.f85) 0 = some (Code.skip.seq (labelIn Try.f85 0)) := by kernel_rfl
theorem br11_1 : findLabel (scopeIn Try.f85) 1 = some (Code.skip.seq (labelIn Try.f85 1)) := by kernel_rfl
theorem br11_2 : findLabel (scopeIn Try.f85) 2 = some (Code.skip.seq (labelIn Try.f85 2)) := by kernel_rfl
/-- bracket's frame. -/
def fr11 (ao : Option Addr) (n cap at_ N : Nat) (u : Nat → Value) : Array Value := #[.slice ao n cap, .int .i64 (at_ : Nat), u 2, u 3, .pointer (some ⟨N, 0, none⟩), .pointer (some ⟨N + 1, 0, none⟩), .pointer (some ⟨N + 1 + 1, 0, none⟩), .pointer (some ⟨N + 1 + 1 + 1, 0, none⟩), .pointer (some ⟨N + 1 + 1 + 1 + 1, 0, none⟩), u 9, u 10, u 11, u 12, u 13, u 14, u 15, u 16, u 17, u 18, u 19, u 20, u 21, u 22, u 23, u 24, u 25, u 26, u 27, u 28, u 29, u 30, u 31, u 32, u 33, u 34, u 35, u 36, u 37, u 38, u 39, u 40, u 41, u 42, u 43, u 44, u 45, u 46, u 47, u 48, u 49, u 50, u 51, u 52, u 53, u 54, u 55, u 56, u 57, u 58, u 59, u 60, u 61, u 62, u 63, u 64, u 65]
def Fr11 (ao : Option Addr) (n cap at_ N : Nat) (tm : Array Value) : Prop := ∃ u, tm = fr11 ao n cap at_ N u
theorem Fr11.of {ao : Option Addr} {n cap at_ N : Nat} (tm : Array Value) (h : tm = fr11 ao n cap at_ N (nth tm.toList)) : Fr11 ao n cap at_ N tm := ⟨_, h⟩
/-- bracket's five blocks. -/
structure Bq (w : World) (N at_ : Nat) (nt : Bool) (c0 c1 c2 c3 i : Nat) (er : Int) (p0 p1 p2 p3 : Nat) (W : World) : Prop where
  k0 : Cl W N 42 [.int .i64 0, .int .u8 0, .int .u64 0, .int .u64 0, .int .u64 0, .int .u64 0, .bool false, .int .i64 0, .int .i64 0, .bool false, .int .i64 0]
  k1 : Cl W (N + 1) 96 [.int .i64 0, .int .i64 0]
  k2 : Cl W (N + 1 + 1) 42 [.int .i64 2, .int .u8 0, .int .u64 (c0 : Nat), .int .u64 (c1 : Nat), .int .u64 (c2 : Nat), .int .u64 (c3 : Nat), .bool nt, .int .i64 0, .int .i64 0, .bool false, .int .i64 (at_ : Nat)]
  k3 : Cl W (N + 1 + 1 + 1) 96 [.int .i64 (i : Nat), .int .i64 er]
  k4 : Cl W (N + 1 + 1 + 1 + 1) 40 [.int .u64 (p0 : Nat), .int .u64 (p1 : Nat), .int .u64 (p2 : Nat), .int .u64 (p3 : Nat)]
  bel : Below N w W
end Go.Proofs.Ytlmmiicibjfcdaa
namespace Go.Proofs.Ytlmmiicibjfcdaa
open Go.RowKit
theorem Bq.next {w W w1 : World} {N at_ : Nat} {nt : Bool} {c0 c1 c2 c3 i : Nat} {er : Int} {p0 p1 p2 p3 : Nat} (h : Bq w N at_ nt c0 c1 c2 c3 i er p0 p1 p2 p3 W) (hb : Below W.heap.size W w1) : Bq w N at_ nt c0 c1 c2 c3 i er p0 p1 p2 p3 w1 :=
  ⟨h.k0.below hb, h.k1.below hb, h.k2.below hb, h.k3.below hb, h.k4.below hb, h.bel.trans (hb.mono (Nat.le_of_lt h.k0.lt))⟩
theorem wp_then_only {P : Program} {c : Code} {K : Act → World → Prop} {Q : Exit → Act → World → Prop} {a : Act} {w : World} (h : c.wp P (Exit.then K (fun _ _ _ => False)) a w) : c.wp P (Exit.then K Q) a w :=
  Code.wp_mono (fun e a w h => by cases e <;> first | exact h | exact False.elim h) h
theorem jumps_ret {J : Nat → Act → World → Prop} {Q : Exit → Act → World → Prop} {a : Act} {w : World} : jumps J Q .ret a w = Q .ret a w := rfl
set_option maxRecDepth 10000 in
set_option maxHeartbeats 1000000 in
theorem br_n {K : Nat → Act → World → Prop} {Q : Exit → Act → World → Prop} (ao : Option Addr) (n cap at_ N : Nat) (u : Nat → Value) {w W : World} {nt : Bool} {c0 c1 c2 c3 i p0 p1 p2 p3 : Nat} (hq : Bq w N at_ nt c0 c1 c2 c3 i 0 p0 p1 p2 p3 W) (hi : i = n)
    (hK : Hid (∀ tm, Fr11 ao n cap at_ N tm → K 0 ⟨tm, []⟩ W)) : Code.wp Try.prog (labelIn Try.f85 1) (jumps K Q) ⟨fr11 ao n cap at_ N u, []⟩ W := by
  subst hi
  obtain ⟨⟨r0, r1⟩, s0, s1⟩ := hq.k3.two
  clear hq
  unfold fr11
  conv => arg 2; whnf
  go_wp2_with fail
  go_step3
  exact hK.out _ (Fr11.of _ rfl)
set_option maxRecDepth 10000 in
set_option maxHeartbeats 1000000 in
theorem br_e {K : Nat → Act → World → Prop} {Q : Exit → Act → World → Prop} (bb off : Nat) (n cap at_ N : Nat) (u : Nat → Value) {w W : World} {nt : Bool} {c0 c1 c2 c3 i p0 p1 p2 p3 : Nat} (hq : Bq w N at_ nt c0 c1 c2 c3 i 0 p0 p1 p2 p3 W) (hi : i < n) (hc : W.cell? ⟨bb, off + i, none⟩ = some (.int .u8 93))
    (hK : Hid (∀ tm, Fr11 (some ⟨bb, off, none⟩) n cap at_ N tm → K 2 ⟨tm, []⟩ W)) : Code.wp Try.prog (labelIn Try.f85 1) (jumps K Q) ⟨fr11 (some ⟨bb, off, none⟩) n cap at_ N u, []⟩ W := by
  obtain ⟨⟨r0, r1⟩, s0, s1⟩ := hq.k3.two
  clear hq
  have h1 : ((i : Int) == (n : Int)) = false := by simp; omega
  have h2 : (i : Int) < (n : Int) := by omega
  clear hi
  unfold fr11
  conv => arg 2; whnf
  go_wp2_with fail
  go_step3
  exact hK.out _ (Fr11.of _ rfl)
set_option maxRecDepth 20000 in
set_option maxHeartbeats 4000000 in
theorem br_bad {K : Nat → Act → World → Prop} {R : Ending → World → Prop} (bb off : Nat) (n cap at_ N : Nat) (u : Nat → Value) {w W : World} {nt : Bool} {c0 c1 c2 c3 i p0 p1 p2 p3 : Nat} (hq : Bq w N at_ nt c0 c1 c2 c3 i 0 p0 p1 p2 p3 W) (hi : i < n) (q : Nat) (hc : W.cell? ⟨bb, off + i, none⟩ = some (.int .u8 (q : Nat))) (hne : q ≠ 93)
    (U : Nat → Bool) (en : Nat) (er : Int) (her : er ≠ 0) (HU : Hid (Calls Try.prog 100 #[.slice (some ⟨bb, off, none⟩) n cap, .int .i64 (i : Nat)] W (RetU W U en er)))
    (hR : Hid (∀ W', Below N w W' → R (.returned (.tuple #[tokV 0 0 0 0 0 0 false 0 0 false 0, markV en er])) W')) : Code.wp Try.prog (labelIn Try.f85 1) (jumps K (bodyPost Try.prog Try.f85 R)) ⟨fr11 (some ⟨bb, off, none⟩) n cap at_ N u, []⟩ W := by
  obtain ⟨⟨r0, r1⟩, s0, s1⟩ := hq.k3.two
  have h1 : ((i : Int) == (n : Int)) = false := by simp; omega
  have h2 : (i : Int) < (n : Int) := by omega
  have h3 : ((q : Int) == 93) = false := by simp; omega
  have h9 : (er != 0) = true := by simp [her]
  clear hi hne her
  unfold fr11
  conv => arg 2; whnf
  obtain ⟨Q0, hQ0⟩ : ∃ Q0, Q0 = bodyPost Try.prog Try.f85 R := ⟨_, rfl⟩
  rw [← hQ0]
  have HQ0 : Hid (Q0 = bodyPost Try.prog Try.f85 R) := hQ0
  clear hQ0
  have HQ : Hid (Bq w N at_ nt c0 c1 c2 c3 i 0 p0 p1 p2 p3 W) := hq
  clear hq
  go_wp2_with fail
  refine HU.out.mono ?_
  rintro e w1 ⟨x0, x1, x2, x3, rfl, -, hb⟩
  have q1 := HQ.out.next hb
  clear HU r0 r1 s0 s1 hc h1 h2 h3 hb
  have v0 := (q1.k0.others4 (k := N + 1 + 1 + 1 + 1) (by omega) (.int .u64 (x0 : Nat)) (.int .u64 (x1 : Nat)) (.int .u64 (x2 : Nat)) (.int .u64 (x3 : Nat))).others2 (k := N + 1 + 1 + 1) (by omega) (.int .i64 (en : Nat)) (.int .i64 er)
  have v1 := (q1.k1.others4 (k := N + 1 + 1 + 1 + 1) (by omega) (.int .u64 (x0 : Nat)) (.int .u64 (x1 : Nat)) (.int .u64 (x2 : Nat)) (.int .u64 (x3 : Nat))).others2 (k := N + 1 + 1 + 1) (by omega) (.int .i64 (en : Nat)) (.int .i64 er)
  have v3 := (q1.k3.others4 (k := N + 1 + 1 + 1 + 1) (by omega) (.int .u64 (x0 : Nat)) (.int .u64 (x1 : Nat)) (.int .u64 (x2 : Nat)) (.int .u64 (x3 : Nat))).put2 (.int .i64 (en : Nat)) (.int .i64 er)
  have vb := below_put2 (b := N + 1 + 1 + 1) (below_putc (b := N + 1 + 1 + 1 + 1) q1.bel (by omega) (.int .u64 (x0 : Nat)) (.int .u64 (x1 : Nat)) (.int .u64 (x2 : Nat)) (.int .u64 (x3 : Nat))) (by omega) (.int .i64 (en : Nat)) (.int .i64 er)
  obtain ⟨⟨a0, a1, a2, a3⟩, b0, b1, b2, b3⟩ := q1.k4.four
  obtain ⟨⟨m0, m1⟩, n0, n1⟩ := (q1.k3.others4 (k := N + 1 + 1 + 1 + 1) (by omega) (.int .u64 (x0 : Nat)) (.int .u64 (x1 : Nat)) (.int .u64 (x2 : Nat)) (.int .u64 (x3 : Nat))).two
  simp only [put2, putc] at v0 v1 v3 vb m0 m1 n0 n1
  have V0 : Hid (Cl _ _ _ _) := v0
  have V1 : Hid (Cl _ _ _ _) := v1
  have V3 : Hid (Cl _ _ _ _) := v3
  have VB : Hid (Below _ _ _) := vb
  clear v0 v1 v3 vb q1 HQ
  simp only [markV]
  go_wp2_with fail
  generalize ((((((w1.setCell ⟨N + 1 + 1 + 1 + 1, 0, none⟩ (.int .u64 (x0 : Nat))).setCell ⟨N + 1 + 1 + 1 + 1, 1, none⟩ (.int .u64 (x1 : Nat))).setCell ⟨N + 1 + 1 + 1 + 1, 2, none⟩ (.int .u64 (x2 : Nat))).setCell ⟨N + 1 + 1 + 1 + 1, 3, none⟩ (.int .u64 (x3 : Nat))).setCell ⟨N + 1 + 1 + 1, 0, none⟩ (.int .i64 (en : Nat))).setCell ⟨N + 1 + 1 + 1, 1, none⟩ (.int .i64 er)) = W3 at *
  clear a0 a1 a2 a3 b0 b1 b2 b3 m0 m1 n0 n1
  obtain ⟨⟨r0, r1⟩, s0, s1⟩ := V3.out.two
  obtain ⟨⟨b0, b1, b2, b3, b4, b5, b6, b7, b8, b9, b10⟩, g0, g1, g2, g3, g4, g5, g6, g7, g8, g9, g10⟩ := V0.out.eleven
  obtain ⟨⟨d0, d1⟩, e0, e1⟩ := V1.out.two
  have F := ((V0.out.put11 (.int .i64 0) (.int .u8 0) (.int .u64 0) (.int .u64 0) (.int .u64 0) (.int .u64 0) (.bool false) (.int .i64 0) (.int .i64 0) (.bool false) (.int .i64 0)).others2 (k := N + 1) (by omega) (.int .i64 (en : Nat)) (.int .i64 er)).drew.eleven.1
  have G := ((V1.out.others11 (k := N) (by omega) (.int .i64 0) (.int .u8 0) (.int .u64 0) (.int .u64 0) (.int .u64 0) (.int .u64 0) (.bool false) (.int .i64 0) (.int .i64 0) (.bool false) (.int .i64 0)).put2 (.int .i64 (en : Nat)) (.int .i64 er)).drew.two.1
  have hB4 := (below_put2 (b := N + 1) (below_put11 (b := N) VB.out (Nat.le_refl _) (.int .i64 0) (.int .u8 0) (.int .u64 0) (.int .u64 0) (.int .u64 0) (.int .u64 0) (.bool false) (.int .i64 0) (.int .i64 0) (.bool false) (.int .i64 0)) (by omega) (.int .i64 (en : Nat)) (.int .i64 er)).drew
  simp only [put2, put11] at F G hB4
  obtain ⟨F0, F1, F2, F3, F4, F5, F6, F7, F8, F9, F10⟩ := F
  obtain ⟨G0, G1⟩ := G
  have HF : Hid (Below N w _) := hB4
  clear hB4
  refine wp_then_only ?_
  go_region_with (fail)
  all_goals go_wp2
  all_goals rw [jumps_ret, HQ0.out]
  all_goals exact bodyPost_ret (v := .tuple #[tokV 0 0 0 0 0 0 false 0 0 false 0, markV en er]) (by simp [results, Try.results85, go_sem, tokV, markV, F0, F1, F2, F3, F4, F5, F6, F7, F8, F9, F10, G0, G1]) rfl (hR.out _ HF.out)
set_option maxRecDepth 20000 in
set_option maxHeartbeats 4000000 in
theorem br_go {K : Nat → Act → World → Prop} {Q : Exit → Act → World → Prop} (bb off : Nat) (n cap at_ N : Nat) (u : Nat → Value) {w W : World} {nt : Bool} {c0 c1 c2 c3 i p0 p1 p2 p3 : Nat} (hq : Bq w N at_ nt c0 c1 c2 c3 i 0 p0 p1 p2 p3 W) (hi : i < n) (q : Nat) (hc : W.cell? ⟨bb, off + i, none⟩ = some (.int .u8 (q : Nat))) (hne : q ≠ 93)
    (P U : Nat → Bool) (h4 : C4 P c0 c1 c2 c3) (en : Nat) (HU : Hid (Calls Try.prog 100 #[.slice (some ⟨bb, off, none⟩) n cap, .int .i64 (i : Nat)] W (RetU W U en 0)))
    (hK : Hid (∀ tm W' d0 d1 d2 d3 e0 e1 e2 e3, Fr11 (some ⟨bb, off, none⟩) n cap at_ N tm → Bq w N at_ nt d0 d1 d2 d3 en 0 e0 e1 e2 e3 W' → C4 (fun x => P x || U x) d0 d1 d2 d3 → K 1 ⟨tm, []⟩ W')) : Code.wp Try.prog (labelIn Try.f85 1) (jumps K Q) ⟨fr11 (some ⟨bb, off, none⟩) n cap at_ N u, []⟩ W := by
  obtain ⟨⟨r0, r1⟩, s0, s1⟩ := hq.k3.two
  have h1 : ((i : Int) == (n : Int)) = false := by simp; omega
  have h2 : (i : Int) < (n : Int) := by omega
  have h3 : ((q : Int) == 93) = false := by simp; omega
  clear hi hne
  unfold fr11
  conv => arg 2; whnf
  have HQ : Hid (Bq w N at_ nt c0 c1 c2 c3 i 0 p0 p1 p2 p3 W) := hq
  have H4 : Hid (C4 P c0 c1 c2 c3) := h4
  clear hq h4
  go_wp2_with fail
  refine HU.out.mono ?_
  rintro e w1 ⟨x0, x1, x2, x3, rfl, hx, hb⟩
  have HX : Hid (C4 U x0 x1 x2 x3) := hx
  have q1 := HQ.out.next hb
  clear HU r0 r1 s0 s1 hc h1 h2 h3 hb hx
  have v0 := (q1.k0.others4 (k := N + 1 + 1 + 1 + 1) (by omega) (.int .u64 (x0 : Nat)) (.int .u64 (x1 : Nat)) (.int .u64 (x2 : Nat)) (.int .u64 (x3 : Nat))).others2 (k := N + 1 + 1 + 1) (by omega) (.int .i64 (en : Nat)) (.int .i64 0)
  have v1 := (q1.k1.others4 (k := N + 1 + 1 + 1 + 1) (by omega) (.int .u64 (x0 : Nat)) (.int .u64 (x1 : Nat)) (.int .u64 (x2 : Nat)) (.int .u64 (x3 : Nat))).others2 (k := N + 1 + 1 + 1) (by omega) (.int .i64 (en : Nat)) (.int .i64 0)
  have v2 := (q1.k2.others4 (k := N + 1 + 1 + 1 + 1) (by omega) (.int .u64 (x0 : Nat)) (.int .u64 (x1 : Nat)) (.int .u64 (x2 : Nat)) (.int .u64 (x3 : Nat))).others2 (k := N + 1 + 1 + 1) (by omega) (.int .i64 (en : Nat)) (.int .i64 0)
  have v3 := (q1.k3.others4 (k := N + 1 + 1 + 1 + 1) (by omega) (.int .u64 (x0 : Nat)) (.int .u64 (x1 : Nat)) (.int .u64 (x2 : Nat)) (.int .u64 (x3 : Nat))).put2 (.int .i64 (en : Nat)) (.int .i64 0)
  have v4 := (q1.k4.putc (.int .u64 (x0 : Nat)) (.int .u64 (x1 : Nat)) (.int .u64 (x2 : Nat)) (.int .u64 (x3 : Nat))).others2 (k := N + 1 + 1 + 1) (by omega) (.int .i64 (en : Nat)) (.int .i64 0)
  have vb := below_put2 (b := N + 1 + 1 + 1) (below_putc (b := N + 1 + 1 + 1 + 1) q1.bel (by omega) (.int .u64 (x0 : Nat)) (.int .u64 (x1 : Nat)) (.int .u64 (x2 : Nat)) (.int .u64 (x3 : Nat))) (by omega) (.int .i64 (en : Nat)) (.int .i64 0)
  obtain ⟨⟨a0, a1, a2, a3⟩, b0, b1, b2, b3⟩ := q1.k4.four
  obtain ⟨⟨m0, m1⟩, n0, n1⟩ := (q1.k3.others4 (k := N + 1 + 1 + 1 + 1) (by omega) (.int .u64 (x0 : Nat)) (.int .u64 (x1 : Nat)) (.int .u64 (x2 : Nat)) (.int .u64 (x3 : Nat))).two
  obtain ⟨y0, y1, y2, y3, y4, y5, y6, y7, y8, y9, y10⟩ := v2.eleven.1
  obtain ⟨o0, o1, o2, o3⟩ := v4.four.1
  simp only [put2, putc] at v0 v1 v2 v3 v4 vb m0 m1 n0 n1 y2 y3 y4 y5 o0 o1 o2 o3
  clear y0 y1 y6 y7 y8 y9 y10
  have VV : Hid (Bq w N at_ nt c0 c1 c2 c3 en 0 x0 x1 x2 x3 _) := ⟨v0, v1, v2, v3, v4, vb⟩
  clear v0 v1 v2 v3 v4 vb q1 HQ
  simp only [markV]
  go_wp2_with fail
  have hz : w1.heap.size = ((((((w1.setCell ⟨N + 1 + 1 + 1 + 1, 0, none⟩ (.int .u64 (x0 : Nat))).setCell ⟨N + 1 + 1 + 1 + 1, 1, none⟩ (.int .u64 (x1 : Nat))).setCell ⟨N + 1 + 1 + 1 + 1, 2, none⟩ (.int .u64 (x2 : Nat))).setCell ⟨N + 1 + 1 + 1 + 1, 3, none⟩ (.int .u64 (x3 : Nat))).setCell ⟨N + 1 + 1 + 1, 0, none⟩ (.int .i64 (en : Nat))).setCell ⟨N + 1 + 1 + 1, 1, none⟩ (.int .i64 0)).heap.size := by simp
  rw [hz]
  clear hz
  generalize ((((((w1.setCell ⟨N + 1 + 1 + 1 + 1, 0, none⟩ (.int .u64 (x0 : Nat))).setCell ⟨N + 1 + 1 + 1 + 1, 1, none⟩ (.int .u64 (x1 : Nat))).setCell ⟨N + 1 + 1 + 1 + 1, 2, none⟩ (.int .u64 (x2 : Nat))).setCell ⟨N + 1 + 1 + 1 + 1, 3, none⟩ (.int .u64 (x3 : Nat))).setCell ⟨N + 1 + 1 + 1, 0, none⟩ (.int .i64 (en : Nat))).setCell ⟨N + 1 + 1 + 1, 1, none⟩ (.int .i64 0)) = W3 at *
  clear a0 a1 a2 a3 b0 b1 b2 b3 m0 m1 n0 n1 y2 y3 y4 y5 o0 o1 o2 o3
  refine (union_any _ 2 2 _ (fun i => if i = 0 then P else U) _ (rdc_two W3 c0 c1 c2 c3 x0 x1 x2 x3) (fun i hi => ?_) (by decide)).mono ?_
  · have hi4 : i = 0 ∨ i = 1 := by omega
    rcases hi4 with rfl | rfl
    · exact H4.out
    · exact HX.out
  rintro e w4 ⟨⟨d0, d1, d2, d3, rfl, h5⟩, hb⟩
  have q4 := (VV.out.next ((Below.refl _ _).alloc (Nat.le_refl _) _)).next hb
  have H5 : Hid (C4 (fun x => P x || U x) d0 d1 d2 d3) := h5.congr fun b _ => by simp [unN]
  obtain ⟨⟨b0, b1, b2, b3, b4, b5, b6, b7, b8, b9, b10⟩, g0, g1, g2, g3, g4, g5, g6, g7, g8, g9, g10⟩ := q4.k2.eleven
  have V2 := (((q4.k2.set 2 (.int .u64 (d0 : Nat))).set 3 (.int .u64 (d1 : Nat))).set 4 (.int .u64 (d2 : Nat))).set 5 (.int .u64 (d3 : Nat))
  have V0 := (((q4.k0.other (k := N + 1 + 1) (by omega) 2 (.int .u64 (d0 : Nat))).other (k := N + 1 + 1) (by omega) 3 (.int .u64 (d1 : Nat))).other (k := N + 1 + 1) (by omega) 4 (.int .u64 (d2 : Nat))).other (k := N + 1 + 1) (by omega) 5 (.int .u64 (d3 : Nat))
  have V1 := (((q4.k1.other (k := N + 1 + 1) (by omega) 2 (.int .u64 (d0 : Nat))).other (k := N + 1 + 1) (by omega) 3 (.int .u64 (d1 : Nat))).other (k := N + 1 + 1) (by omega) 4 (.int .u64 (d2 : Nat))).other (k := N + 1 + 1) (by omega) 5 (.int .u64 (d3 : Nat))
  have V3 := (((q4.k3.other (k := N + 1 + 1) (by omega) 2 (.int .u64 (d0 : Nat))).other (k := N + 1 + 1) (by omega) 3 (.int .u64 (d1 : Nat))).other (k := N + 1 + 1) (by omega) 4 (.int .u64 (d2 : Nat))).other (k := N + 1 + 1) (by omega) 5 (.int .u64 (d3 : Nat))
  have V4 := (((q4.k4.other (k := N + 1 + 1) (by omega) 2 (.int .u64 (d0 : Nat))).other (k := N + 1 + 1) (by omega) 3 (.int .u64 (d1 : Nat))).other (k := N + 1 + 1) (by omega) 4 (.int .u64 (d2 : Nat))).other (k := N + 1 + 1) (by omega) 5 (.int .u64 (d3 : Nat))
  have VB := (((q4.bel.setCell (p := ⟨N + 1 + 1, 2, none⟩) (by show N ≤ N + 1 + 1; omega) (.int .u64 (d0 : Nat))).setCell (p := ⟨N + 1 + 1, 3, none⟩) (by show N ≤ N + 1 + 1; omega) (.int .u64 (d1 : Nat))).setCell (p := ⟨N + 1 + 1, 4, none⟩) (by show N ≤ N + 1 + 1; omega) (.int .u64 (d2 : Nat))).setCell (p := ⟨N + 1 + 1, 5, none⟩) (by show N ≤ N + 1 + 1; omega) (.int .u64 (d3 : Nat))
  have ZZ : Hid (Bq w N at_ nt d0 d1 d2 d3 en 0 x0 x1 x2 x3 _) := ⟨V0, V1, V2, V3, V4, VB⟩
  clear V0 V1 V2 V3 V4 VB q4 hb h5 VV
  go_wp2_with fail
  go_step3
  exact hK.out _ _ _ _ _ _ _ _ _ _ (Fr11.of _ rfl) ZZ.out H5.out
end Go.Proofs.Ytlmmiicibjfcdaa
