/- token: what is lexed may be; what is known of a token that may be. -/
import Derived.Test.YtlmmiicibjfcdaaGCxCyCcEzTq
import Derived.Test.YtlmmiicibjfcdaaGGtAnGaGg
namespace Go.Proofs.Ytlmmiicibjfcdaa
open Go.RowKit
/-- What is known of a token that may be. -/
theorem chk_parts {k : Int} {b : Nat} {P : Nat → Bool} {nt : Bool} {l m : Int} {lz : Bool} {t : Int} (h : chk k b P nt l m lz t = true) :
    (k ≠ 1 → b = 0) ∧ (k ≠ 2 → (∀ x, x < 256 → P x = false) ∧ nt = false) ∧ (k ≠ 7 → l = 0 ∧ m = 0 ∧ lz = false) ∧ (k = 2 → mayP P nt = true) ∧ (k = 7 → repP l m = true) ∧ (k ≠ 2 → k ≠ 7 → 1 ≤ k ∧ k ≤ 9) ∧ 0 ≤ t := by
  unfold chk at h
  simp only [Bool.and_eq_true, decide_eq_true_eq] at h
  obtain ⟨⟨⟨⟨h1, h2⟩, h3⟩, h4⟩, h5⟩ := h
  refine ⟨fun e => ?_, fun e => ?_, fun e => ?_, fun e => ?_, fun e => ?_, fun e e' => ?_, h1⟩
  · rw [if_neg e] at h2; simpa using h2
  · rw [if_neg e] at h3
    simp only [Bool.and_eq_true, Bool.not_eq_true'] at h3
    exact ⟨(eqC_iff _ _).1 h3.1, h3.2⟩
  · rw [if_neg e] at h4
    simp only [Bool.and_eq_true, beq_iff_eq, Bool.not_eq_true'] at h4
    exact ⟨h4.1.1, h4.1.2, h4.2⟩
  · rw [if_pos e] at h5; exact h5
  · rw [if_neg (by omega), if_pos e] at h5; exact h5
  · rw [if_neg e, if_neg e'] at h5
    simpa using h5
open Go.RowKit
/-- What is lexed may be. -/
def TokS.may (s : TokS) : Bool := chk s.k s.b s.P s.nt s.l s.m s.lz s.at_
theorem none_eq : eqC (fun _ => false) (fun _ => false) = true := (eqC_iff _ _).2 fun _ _ => rfl
theorem chk_sgn {k : Nat} {b at_ en : Nat} (h : k = 1 ∨ (b = 0 ∧ (k = 3 ∨ k = 4 ∨ k = 5 ∨ k = 6 ∨ k = 8 ∨ k = 9))) : (TokS.sgn k b at_ en).may = true := by
  show chk (k : Int) b (fun _ => false) false 0 0 false (at_ : Int) = true
  unfold chk
  rw [none_eq]
  rcases h with rfl | ⟨rfl, rfl | rfl | rfl | rfl | rfl | rfl⟩ <;> simp
theorem chk_cls {P : Nat → Bool} {nt : Bool} {at_ en : Nat} (h : mayP P nt = true) : (TokS.cls P nt at_ en).may = true := by
  show chk 2 0 P nt 0 0 false (at_ : Int) = true
  unfold chk
  simp [h]
theorem chk_rep {l m : Int} {lz : Bool} {at_ en : Nat} (h : repP l m = true) : (TokS.rep l m lz at_ en).may = true := by
  show chk 7 0 (fun _ => false) false l m lz (at_ : Int) = true
  unfold chk
  rw [none_eq]
  simp [h]
set_option maxRecDepth 100000 in
theorem nam_may : ∀ c ∈ [100, 119, 115, 68, 87, 83], mayP (namP c) false = true := by decide
theorem esc_chk {z : Nat → Nat} {n i : Nat} (hz : ∀ i, i < n → z i < 256) (e : (escS z n i).er = 0) : (escS z n i).may = true ∧ (escS z n i).b < 256 := by
  unfold escS at e ⊢
  split at e
  · cases e
  rename_i h0
  rw [if_neg h0]
  split at e
  · rename_i h1
    rw [if_pos h1]
    refine ⟨chk_cls ?_, by show 0 < 256; omega⟩
    rcases h1 with h | h | h | h | h | h <;> rw [h] <;> exact nam_may _ (by simp)
  rename_i h1
  rw [if_neg h1]
  split at e
  · rename_i h2
    rw [if_pos h2]; exact ⟨chk_sgn (.inl rfl), by show 10 < 256; omega⟩
  rename_i h2
  rw [if_neg h2]
  split at e
  · rename_i h3
    rw [if_pos h3]; exact ⟨chk_sgn (.inl rfl), by show 13 < 256; omega⟩
  rename_i h3
  rw [if_neg h3]
  split at e
  · rename_i h4
    rw [if_pos h4]; exact ⟨chk_sgn (.inl rfl), by show 9 < 256; omega⟩
  rename_i h4
  rw [if_neg h4]
  split at e
  · rename_i h5
    rw [if_pos h5]
    split at e
    · rename_i h6
      rw [if_pos h6]
      exact ⟨chk_sgn (.inl rfl), hexV_lt _ _ _⟩
    · cases e
  rename_i h5
  rw [if_neg h5]
  split at e
  · cases e
  rename_i h6
  rw [if_neg h6]
  split at e
  · cases e
  rename_i h7
  rw [if_neg h7]
  exact ⟨chk_sgn (.inl rfl), hz _ (by omega)⟩
theorem brkG_chk {z : Nat → Nat} {n at_ : Nat} {nt : Bool} : ∀ f i P, (brkG z n at_ nt f i P).er = 0 → (brkG z n at_ nt f i P).may = true ∧ (brkG z n at_ nt f i P).b < 256 := by
  intro f
  induction f with
  | zero => intro i P e; cases e
  | succ f ih =>
    intro i P e
    rw [brkG] at e ⊢
    split at e
    · cases e
    rename_i h0
    rw [if_neg h0]
    split at e
    · rename_i h1
      rw [if_pos h1]
      split at e
      · rename_i h2
        rw [if_pos h2]
        exact ⟨chk_cls h2, by show 0 < 256; omega⟩
      · cases e
    rename_i h1
    rw [if_neg h1]
    split at e
    · rename_i h2
      exact absurd e h2
    · rename_i h2
      rw [if_neg h2]
      exact ih _ _ e
theorem num_ok {z : Nat → Nat} {n k : Nat} (h : numOk z n k = true) : (numR z n k).1 ≤ 1000 := by
  unfold numOk at h
  simp only [Bool.and_eq_true, decide_eq_true_eq] at h
  exact h.1.2
theorem rep_ok {l : Nat} {m : Int} (hl : l ≤ 1000) (hm : m = -1 ∨ ((l : Int) ≤ m ∧ m ≤ 1000)) : repP l m = true := by
  unfold repP
  simp only [Bool.and_eq_true, decide_eq_true_eq]
  split <;> omega
theorem cnt_chk {z : Nat → Nat} {n k : Nat} (e : (cntV z n k).2.2.2 = 0) : repP (cntV z n k).1 (cntV z n k).2.1 = true := by
  unfold cntV at e ⊢
  split at e
  · cases e
  rename_i h0
  rw [if_neg h0]
  have h0' : numOk z n (k + 1) = true := by simpa using h0
  have h1 := num_ok h0'
  split at e
  · rename_i h2
    rw [if_pos h2]
    exact rep_ok h1 (.inr ⟨by dsimp only; omega, by dsimp only; omega⟩)
  rename_i h2
  rw [if_neg h2]
  split at e
  · cases e
  rename_i h3
  rw [if_neg h3]
  split at e
  · rename_i h4
    rw [if_pos h4]
    exact rep_ok h1 (.inl rfl)
  rename_i h4
  rw [if_neg h4]
  split at e
  · cases e
  rename_i h5
  rw [if_neg h5]
  split at e
  · cases e
  rename_i h6
  rw [if_neg h6]
  split at e
  · cases e
  rename_i h7
  rw [if_neg h7]
  simpa using h6
theorem rpt_chk {z : Nat → Nat} {n k : Nat} (e : (rptS z n k).er = 0) : (rptS z n k).may = true ∧ (rptS z n k).b < 256 := by
  have key : (repS z n k).2.2.2 = 0 → repP (repS z n k).1 (repS z n k).2.1 = true := by
    intro e
    unfold repS at e ⊢
    split at e
    · rename_i h; rw [if_pos h]; exact (by decide : repP 1 (-1) = true)
    rename_i h; rw [if_neg h]
    split at e
    · rename_i h; rw [if_pos h]; exact (by decide : repP 0 (-1) = true)
    rename_i h; rw [if_neg h]
    split at e
    · rename_i h; rw [if_pos h]; exact (by decide : repP 0 1 = true)
    rename_i h; rw [if_neg h]
    exact cnt_chk e
  unfold rptS at e ⊢
  split at e
  · rename_i h; exact absurd e h
  rename_i h
  rw [if_neg h]
  have h' : (repS z n k).2.2.2 = 0 := Classical.byContradiction h
  split at e
  · rename_i h2
    rw [if_pos h2]
    exact ⟨chk_rep (key h'), by show 0 < 256; omega⟩
  · rename_i h2
    rw [if_neg h2]
    exact ⟨chk_rep (key h'), by show 0 < 256; omega⟩
theorem sgn_chk {z : Nat → Nat} {k : Nat} (hz : z k < 256) : (sgnS z k).may = true ∧ (sgnS z k).b < 256 := by
  unfold sgnS
  refine ⟨chk_sgn ?_, by show (if signK (z k) = 1 then z k else 0) < 256; split <;> omega⟩
  unfold signK
  repeat' split
  all_goals simp_all
theorem wrd_chk {z : Nat → Nat} {n k : Nat} (hz : ∀ i, i < n → z i < 256) (hk : k < n) (e : (wrd z n k).er = 0) : (wrd z n k).may = true ∧ (wrd z n k).b < 256 := by
  unfold wrd wrdS at e ⊢
  split at e
  · rename_i h; rw [if_pos h]; exact esc_chk hz e
  rename_i h; rw [if_neg h]
  split at e
  · rename_i h; rw [if_pos h]; exact brkG_chk _ _ _ e
  rename_i h; rw [if_neg h]
  split at e
  · rename_i h; rw [if_pos h]
    unfold opnS at e ⊢
    split at e
    · rename_i h2; rw [if_pos h2]; exact ⟨chk_sgn (k := 4) (.inr ⟨rfl, by omega⟩), by show 0 < 256; omega⟩
    rename_i h2; rw [if_neg h2]
    split at e
    · rename_i h3; rw [if_pos h3]; exact ⟨chk_sgn (k := 4) (.inr ⟨rfl, by omega⟩), by show 0 < 256; omega⟩
    · cases e
  rename_i h; rw [if_neg h]
  split at e
  · rename_i h; rw [if_pos h]; exact rpt_chk e
  rename_i h; rw [if_neg h]
  exact sgn_chk (hz k hk)
theorem wl_chk {z : Nat → Nat} {n : Nat} (hz : ∀ i, i < n → z i < 256) : ∀ (f i : Nat), ∀ s ∈ wl z n f i, s.er = 0 → s.may = true ∧ s.b < 256
  | 0, _, s, h, _ => by cases h
  | f + 1, i, s, h, e => by
    rw [wl] at h
    split at h
    · cases h
    rename_i hi
    rcases List.mem_cons.1 h with rfl | h
    · exact wrd_chk hz (by omega) e
    · split at h
      · exact wl_chk hz f _ s h e
      · cases h

theorem may_rep {l m : Int} (h : repP l m = true) : Tre.mayR l m = true := by
  unfold repP at h
  unfold Tre.mayR
  simp only [Bool.and_eq_true, decide_eq_true_eq] at h ⊢
  by_cases e : m = -1
  · rw [if_pos e] at h; omega
  · rw [if_neg e] at h; omega
theorem fine_tp (fl : Fg) {x : TkR} (h : (x.tp fl).ok = true) : Fine (x.tp fl) := by
  have hp := chk_parts h
  obtain ⟨_, _, _, _, h7, h9, _⟩ := hp
  refine ⟨fun e => may_rep (h7 e), fun h4 h5 h6 h7' => ?_, fun e => ?_, fun e => ?_⟩
  · show Tre.lf (leafS fl x.k x.b x.P x.nt).1 = true
    have h4 : x.k ≠ 4 := h4
    have h5 : x.k ≠ 5 := h5
    have h6 : x.k ≠ 6 := h6
    have h7' : x.k ≠ 7 := h7'
    unfold leafS
    split
    · simp [Tre.lf, clN, Nd.eq]
    split
    · simp [Tre.lf, clN, Nd.eq]
    split
    · simp [Tre.lf, clN, Nd.eq]
    split
    · decide
    split
    · decide
    · have := h9 (by omega) h7'
      omega
  · have e' : (leafS fl x.k x.b x.P x.nt).1.k = 6 := e
    show x.k = 8
    unfold leafS at e'
    split at e'
    · simp [clN] at e'
    split at e'
    · simp [clN] at e'
    split at e'
    · simp [clN] at e'
    split at e'
    · rename_i h; exact h
    split at e'
    · simp [ndK] at e'
    · simp [ndK] at e'
  · have e' : (leafS fl x.k x.b x.P x.nt).1.k = 7 := e
    show x.k = 9
    unfold leafS at e'
    split at e'
    · simp [clN] at e'
    split at e'
    · simp [clN] at e'
    split at e'
    · simp [clN] at e'
    split at e'
    · simp [ndK] at e'
    split at e'
    · rename_i h; exact h
    · simp [ndK] at e'
end Go.Proofs.Ytlmmiicibjfcdaa
