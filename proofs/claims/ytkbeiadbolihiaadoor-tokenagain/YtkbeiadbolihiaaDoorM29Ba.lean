/- token: tokens that are printed are read as they were: plain facts. -/
import Derived.Test.YtkbeiadbolihiaaDoorM18Wo
import Derived.Test.YtkbeiadbolihiaaDoorM28Xt
import Derived.Test.YtkbeiadbolihiaaDoorM24Lt
namespace Go.Proofs.YtkbeiadbolihiaaDoor
open Go.RowKit
/-- These bytes stand at a place. -/
def AtL (z : Nat → Nat) : Nat → List UInt8 → Prop
  | _, [] => True
  | i, x :: l => z i = x.toNat ∧ AtL z (i + 1) l
theorem atL_app {z : Nat → Nat} : ∀ {a b : List UInt8} {i : Nat}, AtL z i (a ++ b) ↔ AtL z i a ∧ AtL z (i + a.length) b
  | [], b, i => by simp [AtL]
  | x :: a, b, i => by
    simp only [List.cons_append, AtL, List.length_cons]
    rw [atL_app, show i + 1 + a.length = i + (a.length + 1) by omega, and_assoc]
theorem u8_nat {b : Nat} (h : b < 256) : b.toUInt8.toNat = b := by
  simp [Nat.toUInt8]
  omega
theorem hexd_hex {q : Nat} (h : q < 16) : hexP (hexd q) = (q, true) ∧ (hexd q).toUInt8.toNat = hexd q := by
  have : q = 0 ∨ q = 1 ∨ q = 2 ∨ q = 3 ∨ q = 4 ∨ q = 5 ∨ q = 6 ∨ q = 7 ∨ q = 8 ∨ q = 9 ∨ q = 10 ∨ q = 11 ∨ q = 12 ∨ q = 13 ∨ q = 14 ∨ q = 15 := by omega
  rcases this with rfl | rfl | rfl | rfl | rfl | rfl | rfl | rfl | rfl | rfl | rfl | rfl | rfl | rfl | rfl | rfl <;> exact ⟨rfl, rfl⟩
theorem hex_or {b : Nat} (_h : b < 256) : b / 16 * 16 ||| b % 16 = b := by
  have := Nat.two_pow_add_eq_or_of_lt (i := 4) (b := b % 16) (by omega) (b / 16)
  rw [show (2 : Nat) ^ 4 = 16 from rfl] at this
  rw [Nat.mul_comm, ← this]
  omega
theorem hex_num {z : Nat → Nat} {n i b : Nat} (hb : b < 256) (h : AtL z i (numB b)) (hn : i + 4 ≤ n) : z i = 92 ∧ escS z n i = .sgn 1 b i (i + 4) := by
  obtain ⟨h0, h1, h2, h3, -⟩ := h
  have e1 := hexd_hex (q := b / 16) (by omega)
  have e2 := hexd_hex (q := b % 16) (by omega)
  rw [e1.2] at h2
  rw [e2.2] at h3
  have h1' : z (i + 1) = 120 := h1
  have hv : hexV z n (i + 2) = (b, true) := by
    unfold hexV
    rw [if_pos (by omega), show z (i + 2) = _ from h2, show z (i + 2 + 1) = _ from h3, e1.1, e2.1]
    simp [hex_or hb]
  refine ⟨h0, ?_⟩
  unfold escS
  rw [if_neg (by omega), h1', if_neg (by omega), if_neg (by omega), if_neg (by omega), if_neg (by omega), if_pos rfl, hv]
  rfl
set_option maxRecDepth 100000 in
theorem inn_tab : ∀ b : Fin 256, (vis b.val && !specI b.val) = true → b.val ≠ 93 ∧ b.val ≠ 91 ∧ b.val ≠ 92 ∧ b.val ≠ 94 ∧ b.val ≠ 45 := by decide
set_option maxRecDepth 100000 in
theorem lit_tab : ∀ b : Fin 256, vis b.val = true → spec b.val = false → b.val ≠ 92 ∧ b.val ≠ 91 ∧ b.val ≠ 40 ∧ ¬ (b.val = 42 ∨ b.val = 43 ∨ b.val = 63 ∨ b.val = 123) ∧ signK b.val = 1 := by decide
set_option maxRecDepth 100000 in
theorem lit_tab2 : ∀ b : Fin 256, vis b.val = true → spec b.val = true → letP b.val = false ∧ digP b.val = false ∧ ¬ (b.val = 100 ∨ b.val = 119 ∨ b.val = 115 ∨ b.val = 68 ∨ b.val = 87 ∨ b.val = 83) ∧ b.val ≠ 110 ∧ b.val ≠ 114 ∧ b.val ≠ 116 ∧ b.val ≠ 120 := by decide
/-- A byte in brackets is read as it is. -/
theorem inn_unit {z : Nat → Nat} {n i b : Nat} (hb : b < 256) (h : AtL z i (innB b)) (hn : i + (innB b).length ≤ n) : uniS z n i = .sgn 1 b i (i + (innB b).length) ∧ z i ≠ 93 ∧ z i ≠ 94 ∧ z i ≠ 45 ∧ 0 < (innB b).length := by
  unfold innB at h hn ⊢
  split at h
  · rename_i hv
    have ht := inn_tab ⟨b, hb⟩ hv
    rw [if_pos hv] at hn ⊢
    obtain ⟨h0, -⟩ := h
    rw [u8_nat hb] at h0
    dsimp only at ht
    unfold uniS
    rw [h0, if_neg ht.2.2.1]
    exact ⟨rfl, ht.1, ht.2.2.2.1, ht.2.2.2.2, by simp⟩
  · rename_i hv
    rw [if_neg hv] at hn ⊢
    have hl : (numB b).length = 4 := rfl
    rw [hl] at hn ⊢
    obtain ⟨h0, h1⟩ := hex_num hb h hn
    unfold uniS
    rw [if_pos h0, h0]
    exact ⟨h1, by omega, by omega, by omega, by omega⟩
/-- A run's text begins so. -/
theorem run_head {z : Nat → Nat} {n i lo hi : Nat} (hle : lo ≤ hi) (hh : hi < 256) (h : AtL z i (runB lo hi)) (hn : i + (runB lo hi).length ≤ n) : z i ≠ 93 ∧ z i ≠ 94 ∧ z i ≠ 45 ∧ 0 < (runB lo hi).length := by
  unfold runB at h hn ⊢
  have key : ∀ r : List UInt8, AtL z i (innB lo ++ r) → i + (innB lo ++ r).length ≤ n → z i ≠ 93 ∧ z i ≠ 94 ∧ z i ≠ 45 ∧ 0 < (innB lo ++ r).length := by
    intro r h hn
    have := inn_unit (n := n) (by omega : lo < 256) (atL_app.1 h).1 (by rw [List.length_append] at hn; omega)
    exact ⟨this.2.1, this.2.2.1, this.2.2.2.1, by rw [List.length_append]; omega⟩
  split at h
  · rename_i e
    rw [if_pos e] at hn ⊢
    have := key [] (by simpa using h) (by simpa using hn)
    simpa using this
  · rename_i e
    rw [if_neg e] at hn ⊢
    split at h
    · rename_i e2
      rw [if_pos e2] at hn ⊢
      exact key _ h hn
    · rename_i e2
      rw [if_neg e2] at hn ⊢
      rw [List.append_assoc] at h hn ⊢
      exact key _ h hn
theorem dash_no {z : Nat → Nat} {n i : Nat} (h : z i ≠ 45) : dashP z n i = false := by
  unfold dashP hasP
  simp [h]
theorem dash_yes {z : Nat → Nat} {n i : Nat} (h : z i = 45) (h2 : i + 1 < n) (h3 : z (i + 1) ≠ 93) : dashP z n i = true := by
  unfold dashP hasP
  simp [h, h2, h3]
  omega
/-- One unit that no - follows. -/
theorem unt_one {z : Nat → Nat} {n i b : Nat} (hb : b < 256) (h : AtL z i (innB b)) (hn : i + (innB b).length ≤ n) (hd : z (i + (innB b).length) ≠ 45) : untS z n i = (fun x => x == b, i + (innB b).length, 0) := by
  obtain ⟨h0, -⟩ := inn_unit hb h hn
  unfold untS
  rw [h0, if_neg (by show ¬ ((0 : Int) ≠ 0); omega)]
  show (if dashP z n (i + (innB b).length) = false then _ else _) = _
  rw [if_pos (dash_no hd)]
  have : oneS (.sgn 1 b i (i + (innB b).length)) = fun x => x == b := by
    unfold oneS
    rw [if_pos (by rfl)]
    funext x
    show ofN (fun _ => b) 1 x = _
    rw [Bool.eq_iff_iff, ofN_iff]
    constructor
    · rintro ⟨k, _, e⟩
      have e' : b = x := e
      simp [e']
    · intro e
      have e' : x = b := by simpa using e
      exact ⟨0, by omega, e'.symm⟩
  rw [this]
  rfl
theorem unt_rng {z : Nat → Nat} {n i lo hi : Nat} (hle : lo ≤ hi) (hh : hi < 256) (h : AtL z i (innB lo ++ [45] ++ innB hi)) (hn : i + (innB lo ++ [45] ++ innB hi).length ≤ n) : untS z n i = (rg lo (hi + 1 - lo), i + (innB lo ++ [45] ++ innB hi).length, 0) := by
  have h1 := (atL_app.1 h).1
  have h2 := (atL_app.1 h).2
  have h3 := (atL_app.1 h1).1
  have h4 := (atL_app.1 h1).2.1
  rw [List.length_append, List.length_append, List.length_singleton] at hn ⊢
  rw [List.length_append, List.length_singleton] at h2
  have h4' : z (i + (innB lo).length) = 45 := h4
  obtain ⟨a0, -⟩ := inn_unit (n := n) (by omega : lo < 256) h3 (by omega)
  obtain ⟨b0, b1, b2, b3, b4⟩ := inn_unit (n := n) hh h2 (by omega)
  rw [show i + ((innB lo).length + 1) = i + (innB lo).length + 1 by omega] at b0 b1
  have e1 : (uniS z n i).en = i + (innB lo).length := by rw [a0]; rfl
  have e2 : (uniS z n i).er = 0 := by rw [a0]; rfl
  have e3 : (uniS z n i).k = 1 := by rw [a0]; rfl
  have e4 : (uniS z n i).b = lo := by rw [a0]; rfl
  unfold untS
  rw [e1, e2, e3, e4, b0, if_neg (by omega), dash_yes h4' (by omega) b1]
  rw [if_neg (by decide), if_neg (by show ¬ ((0 : Int) ≠ 0); omega)]
  rw [if_neg (by show ¬ ((1 : Int) ≠ 1 ∨ (1 : Int) ≠ 1 ∨ hi < lo); omega)]
  show (rg lo (hi + 1 - lo), i + (innB lo).length + 1 + (innB hi).length, (0 : Int)) = _
  rw [show i + (innB lo).length + 1 + (innB hi).length = i + ((innB lo).length + 1 + (innB hi).length) by omega]
/-- One step of brackets. -/
theorem brk_step {z : Nat → Nat} {n at_ i f en : Nat} {nt : Bool} {P Q : Nat → Bool} (hi : i < n) (h : z i ≠ 93) (hu : untS z n i = (Q, en, 0)) : brkG z n at_ nt (f + 1) i P = brkG z n at_ nt f en (fun x => P x || Q x) := by
  rw [brkG, if_neg (by omega), if_neg h, hu]
  rfl
theorem run_brk {z : Nat → Nat} {n at_ i lo hi : Nat} {nt : Bool} (hle : lo ≤ hi) (hh : hi < 256) (h : AtL z i (runB lo hi)) (hn : i + (runB lo hi).length < n) (hd : z (i + (runB lo hi).length) ≠ 45) (P : Nat → Bool) :
    ∃ s Q, s ≤ (runB lo hi).length ∧ (∀ x, Q x = (P x || (decide (lo ≤ x) && decide (x ≤ hi)))) ∧ ∀ f, brkG z n at_ nt (s + f) i P = brkG z n at_ nt f (i + (runB lo hi).length) Q := by
  obtain ⟨g1, g2, g3, g4⟩ := run_head hle hh h (Nat.le_of_lt hn)
  unfold runB at h hn hd g4 ⊢
  by_cases e : hi = lo
  · rw [if_pos e] at h hn hd g4 ⊢
    refine ⟨1, fun x => P x || x == lo, by omega, fun x => ?_, fun f => ?_⟩
    · subst e
      dsimp only
      congr 1
      rw [Bool.eq_iff_iff]
      simp
      omega
    · rw [Nat.add_comm, brk_step (by omega) g1 (unt_one (by omega) h (by omega) hd)]
  · rw [if_neg e] at h hn hd g4 ⊢
    by_cases e2 : hi = lo + 1
    · rw [if_pos e2] at h hn hd g4 ⊢
      rw [List.length_append] at hn hd g4 ⊢
      obtain ⟨h1, h2⟩ := atL_app.1 h
      obtain ⟨-, b1, b2, b3, b4⟩ := inn_unit (n := n) hh h2 (by omega)
      obtain ⟨-, -, -, -, a4⟩ := inn_unit (n := n) (by omega : lo < 256) h1 (by omega)
      refine ⟨2, fun x => (P x || x == lo) || x == hi, by omega, fun x => ?_, fun f => ?_⟩
      · dsimp only
        rw [Bool.or_assoc]
        congr 1
        rw [Bool.eq_iff_iff]
        simp
        omega
      · rw [show 2 + f = (f + 1) + 1 by omega, brk_step (by omega) g1 (unt_one (by omega) h1 (by omega) b3), brk_step (by omega) b1 (unt_one hh h2 (by omega) (by rw [Nat.add_assoc]; exact hd)), Nat.add_assoc]
    · rw [if_neg e2] at h hn hd g4 ⊢
      refine ⟨1, fun x => P x || rg lo (hi + 1 - lo) x, by omega, fun x => ?_, fun f => ?_⟩
      · dsimp only
        congr 1
        unfold rg
        rw [Bool.eq_iff_iff]
        simp
        omega
      · rw [Nat.add_comm, brk_step (by omega) g1 (unt_rng hle hh h (by omega))]
/-- Many runs. -/
theorem runs_brk {z : Nat → Nat} {n at_ : Nat} {nt : Bool} : ∀ (l : List (Nat × Nat)) (i : Nat) (P : Nat → Bool), (∀ r ∈ l, r.1 ≤ r.2 ∧ r.2 < 256) → AtL z i (l.flatMap fun r => runB r.1 r.2) → i + (l.flatMap fun r => runB r.1 r.2).length < n → z (i + (l.flatMap fun r => runB r.1 r.2).length) = 93 →
    ∃ s Q, s ≤ (l.flatMap fun r => runB r.1 r.2).length ∧ (∀ x, Q x = (P x || l.any fun r => decide (r.1 ≤ x) && decide (x ≤ r.2))) ∧ ∀ f, brkG z n at_ nt (s + f) i P = brkG z n at_ nt f (i + (l.flatMap fun r => runB r.1 r.2).length) Q
  | [], i, P, _, _, _, _ => ⟨0, P, Nat.le_refl _, fun x => by simp, fun f => by simp⟩
  | r :: l, i, P, hr, h, hn, hz => by
    have hf : ((r :: l).flatMap fun r => runB r.1 r.2) = runB r.1 r.2 ++ l.flatMap fun r => runB r.1 r.2 := rfl
    rw [hf] at h hn hz ⊢
    rw [List.length_append] at hn hz ⊢
    obtain ⟨h1, h2⟩ := atL_app.1 h
    have r0 := hr r (List.mem_cons_self ..)
    have hnext : z (i + (runB r.1 r.2).length) ≠ 45 := by
      cases l with
      | nil =>
        have : z (i + (runB r.1 r.2).length) = 93 := by simpa using hz
        omega
      | cons r' l' =>
        have hf' : ((r' :: l').flatMap fun r => runB r.1 r.2) = runB r'.1 r'.2 ++ l'.flatMap fun r => runB r.1 r.2 := rfl
        rw [hf'] at h2 hn
        rw [List.length_append] at hn
        have r1 := hr r' (by simp)
        exact (run_head (n := n) r1.1 r1.2 (atL_app.1 h2).1 (by omega)).2.2.1
    obtain ⟨s1, Q1, a1, a2, a3⟩ := run_brk (n := n) (at_ := at_) (nt := nt) r0.1 r0.2 h1 (by omega) hnext P
    obtain ⟨s2, Q2, b1, b2, b3⟩ := runs_brk (n := n) (at_ := at_) (nt := nt) l (i + (runB r.1 r.2).length) Q1 (fun q hq => hr q (List.mem_cons_of_mem _ hq)) h2 (by omega) (by rw [Nat.add_assoc]; exact hz)
    refine ⟨s1 + s2, Q2, by omega, fun x => ?_, fun f => ?_⟩
    · rw [b2, a2, List.any_cons, Bool.or_assoc]
    · rw [Nat.add_assoc, a3, b3, Nat.add_assoc]
/-- A class's text is its runs in brackets, also of one byte alone. -/
theorem cls_brk (P : Nat → Bool) : clsS P = brk P := by
  unfold clsS textB
  cases hf : (List.range 256).find? P with
  | none => rfl
  | some k =>
    dsimp only
    by_cases he : eqC P (ofN (fun _ => k) 1) = true
    · rw [if_pos he]
      have hk : k < 256 := by
        have := List.mem_of_find?_eq_some hf
        simpa using this
      have h1 : (rs P 257).1 = [(k, k)] := (runs_one P k hk).2 fun x hx => by
        rw [(eqC_iff _ _).1 he x hx, ofN_iff]
        constructor
        · rintro ⟨i, _, e⟩; exact e.symm
        · intro e; exact ⟨0, by omega, e.symm⟩
      unfold brk
      rw [h1]
      simp [runB]
    · rw [if_neg he, if_neg he]
theorem mayP_ex {P : Nat → Bool} {nt : Bool} (h : mayP P nt = true) : ∃ x, x < 256 ∧ P x = true := by
  unfold mayP at h
  simp only [Bool.and_eq_true, Bool.not_eq_true'] at h
  have h1 := h.1
  refine Classical.byContradiction fun hn => ?_
  have : eqC P (fun _ => false) = true := (eqC_iff _ _).2 fun x hx => by
    cases hp : P x with
    | false => rfl
    | true => exact absurd ⟨x, hx, hp⟩ hn
  rw [this] at h1
  cases h1
theorem eqC_congr {P Q R : Nat → Bool} (h : ∀ x, x < 256 → P x = Q x) : eqC P R = eqC Q R := by
  rw [Bool.eq_iff_iff, eqC_iff, eqC_iff]
  constructor
  · intro g x hx; rw [← h x hx]; exact g x hx
  · intro g x hx; rw [h x hx]; exact g x hx
theorem mayP_congr {P Q : Nat → Bool} {nt : Bool} (h : ∀ x, x < 256 → P x = Q x) : mayP P nt = mayP Q nt := by
  unfold mayP
  rw [eqC_congr h, eqC_congr h]
/-- A class is read as it is. -/
theorem cls_read {z : Nat → Nat} {n i : Nat} {P : Nat → Bool} {nt : Bool} (hm : mayP P nt = true) (h : AtL z i (clsB P nt)) (hn : i + (clsB P nt).length ≤ n) (hN : n ≤ 1024) : ∃ Q, (∀ x, x < 256 → Q x = P x) ∧ z i = 91 ∧ brkS z n i = .cls Q nt i (i + (clsB P nt).length) ∧ 0 < (clsB P nt).length := by
  have hruns := runs_le P
  have his := runs_is P
  obtain ⟨x0, hx0, hP0⟩ := mayP_ex hm
  obtain ⟨r0, hr0, -⟩ := (his x0 hx0).2 hP0
  generalize hrs : (rs P 257).1 = l at *
  have hbody : ∀ (s : Nat), AtL z s ((l.flatMap fun r : Nat × Nat => runB r.1 r.2) ++ [93]) → s + ((l.flatMap fun r : Nat × Nat => runB r.1 r.2) ++ [93]).length ≤ n → z s ≠ 94 ∧ ∃ Q, (∀ x, x < 256 → Q x = P x) ∧ brkG z n i nt 1100 s (fun _ => false) = .cls Q nt i (s + ((l.flatMap fun r : Nat × Nat => runB r.1 r.2) ++ [93]).length) := by
    intro s hs hsn
    obtain ⟨h1, h2⟩ := atL_app.1 hs
    have h93 : z (s + (l.flatMap fun r : Nat × Nat => runB r.1 r.2).length) = 93 := h2.1
    rw [List.length_append, List.length_singleton] at hsn ⊢
    have hh : z s ≠ 94 := by
      cases l with
      | nil => cases hr0
      | cons r l' =>
        have hf' : ((r :: l').flatMap fun r : Nat × Nat => runB r.1 r.2) = runB r.1 r.2 ++ l'.flatMap fun r : Nat × Nat => runB r.1 r.2 := rfl
        rw [hf'] at h1 hsn
        rw [List.length_append] at hsn
        have r1 := hruns r (by simp)
        exact (run_head (n := n) r1.1 r1.2 (atL_app.1 h1).1 (by omega)).2.1
    obtain ⟨st, Q, a1, a2, a3⟩ := runs_brk (n := n) (at_ := i) (nt := nt) l s (fun _ => false) hruns h1 (by omega) h93
    have hQ : ∀ x, x < 256 → Q x = P x := by
      intro x hx
      rw [a2, Bool.false_or, Bool.eq_iff_iff, ← his x hx]
      simp
    refine ⟨hh, Q, hQ, ?_⟩
    rw [show 1100 = st + ((1099 - st) + 1) by omega, a3, brkG, if_neg (by omega), if_pos h93, if_pos (by rw [mayP_congr hQ]; exact hm)]
    rfl
  unfold clsB at h hn ⊢
  rw [cls_brk] at h hn ⊢
  unfold brk at h hn ⊢
  rw [hrs] at h hn ⊢
  cases nt with
  | false =>
    simp only [Bool.false_eq_true, if_false, List.append_assoc] at h hn ⊢
    obtain ⟨h91, h1⟩ := atL_app.1 h
    rw [List.length_append] at hn ⊢
    rw [List.length_singleton] at h1 hn ⊢
    obtain ⟨hh, Q, hQ, hb⟩ := hbody (i + 1) h1 (by omega)
    refine ⟨Q, hQ, h91.1, ?_, by omega⟩
    have hno : hasP z n (i + 1) 94 = false := by unfold hasP; simp [hh]
    unfold brkS
    rw [hno, if_neg (by decide), hb]
    congr 1
    omega
  | true =>
    simp only [if_true, List.append_assoc] at h hn ⊢
    have hd : List.drop 1 ([91] ++ ((l.flatMap fun r : Nat × Nat => runB r.1 r.2) ++ [93])) = (l.flatMap fun r : Nat × Nat => runB r.1 r.2) ++ [93] := rfl
    rw [hd] at h hn ⊢
    obtain ⟨h91, h1⟩ := atL_app.1 h
    rw [List.length_append] at hn ⊢
    have hl2 : ([91, 94] : List UInt8).length = 2 := rfl
    rw [hl2] at h1 hn ⊢
    obtain ⟨-, Q, hQ, hb⟩ := hbody (i + 2) h1 (by omega)
    refine ⟨Q, hQ, h91.1, ?_, by omega⟩
    have hyes : hasP z n (i + 1) 94 = true := by
      unfold hasP
      have : z (i + 1) = 94 := h91.2.1
      simp [this]
      omega
    unfold brkS
    rw [hyes, if_pos rfl, hb]
    congr 1
    omega
/-- A number is read as it is. -/
theorem dec_read {z : Nat → Nat} {n k : Nat} : ∀ (u : Nat), u ≤ 1000 → AtL z k (Lib.decDigits u) → k + (Lib.decDigits u).length ≤ n → numG z n (n - k) k 0 = numG z n (n - (k + (Lib.decDigits u).length)) (k + (Lib.decDigits u).length) u ∧ 0 < (Lib.decDigits u).length ∧ (1 ≤ u → z k ≠ 48) ∧ (u < 10 → (Lib.decDigits u).length = 1) := by
  intro u
  induction u using Nat.strongRecOn with
  | _ u ih =>
    intro hu h hn
    by_cases h10 : u < 10
    · have e : Lib.decDigits u = [UInt8.ofNat (48 + u)] := by rw [Lib.decDigits, dif_pos h10]
      rw [e] at h hn ⊢
      have h0 : z k = 48 + u := by
        have := h.1
        rw [this]
        simp [UInt8.toNat_ofNat]
        omega
      refine ⟨?_, by simp, by omega, by simp⟩
      simp only [List.length_singleton] at hn ⊢
      rw [numG_go (by omega) (by unfold digP; simp [h0]; omega) (by omega), h0]
      congr 1
      omega
    · have e : Lib.decDigits u = Lib.decDigits (u / 10) ++ [UInt8.ofNat (48 + u % 10)] := by rw [Lib.decDigits, dif_neg h10]
      rw [e] at h hn ⊢
      obtain ⟨h1, h2⟩ := atL_app.1 h
      rw [List.length_append, List.length_singleton] at hn ⊢
      obtain ⟨i1, i2, i3, i4⟩ := ih (u / 10) (by omega) (by omega) h1 (by omega)
      have h0 : z (k + (Lib.decDigits (u / 10)).length) = 48 + u % 10 := by
        have := h2.1
        rw [this]
        simp [UInt8.toNat_ofNat]
        omega
      refine ⟨?_, by omega, fun _ => i3 (by omega), by omega⟩
      rw [i1, numG_go (by omega) (by unfold digP; simp [h0]; omega) (by omega), h0, show u / 10 * 10 + (48 + u % 10 - 48) = u by omega, Nat.add_assoc]
theorem num_read {z : Nat → Nat} {n k u : Nat} (hu : u ≤ 1000) (h : AtL z k (Lib.decDigits u)) (hn : k + (Lib.decDigits u).length ≤ n) (hd : digP (z (k + (Lib.decDigits u).length)) = false) : numR z n k = (u, k + (Lib.decDigits u).length) ∧ numOk z n k = true := by
  obtain ⟨h1, h2, h3, h4⟩ := dec_read u hu h hn
  have e : numR z n k = (u, k + (Lib.decDigits u).length) := by
    unfold numR
    rw [h1]
    exact numG_end (by rw [hd]; simp)
  refine ⟨e, ?_⟩
  unfold numOk
  rw [e]
  dsimp only
  simp only [Bool.and_eq_true, decide_eq_true_eq, Bool.not_eq_true', Bool.and_eq_false_iff, decide_eq_false_iff_not]
  refine ⟨⟨by omega, hu⟩, ?_⟩
  by_cases h0 : u < 10
  · left; have := h4 h0; omega
  · right
    have := h3 (by omega)
    simpa using this
theorem has_yes {z : Nat → Nat} {n i b : Nat} (h : z i = b) (hi : i < n) : hasP z n i b = true := by unfold hasP; simp [h, hi]
theorem has_no {z : Nat → Nat} {n i b : Nat} (h : z i ≠ b) : hasP z n i b = false := by unfold hasP; simp [h]
/-- Bounds are read as they are. -/
theorem bnd_read {z : Nat → Nat} {n i l : Nat} {m : Int} (hl : l ≤ 1000) (hm : m = -1 ∨ ((l : Int) ≤ m ∧ m ≤ 1000)) (h : AtL z i (bndB l m)) (hn : i + (bndB l m).length ≤ n) : (z i = 42 ∨ z i = 43 ∨ z i = 63 ∨ z i = 123) ∧ repS z n i = ((l : Int), m, i + (bndB l m).length, 0) ∧ 0 < (bndB l m).length := by
  unfold bndB at h hn ⊢
  by_cases h1 : l = 0 ∧ m = -1
  · rw [if_pos h1] at h hn ⊢
    obtain ⟨rfl, rfl⟩ := h1
    have h0 : z i = 42 := h.1
    unfold repS
    rw [if_neg (by omega), if_pos h0]
    exact ⟨.inl h0, rfl, by simp⟩
  rw [if_neg h1] at h hn ⊢
  by_cases h2 : l = 1 ∧ m = -1
  · rw [if_pos h2] at h hn ⊢
    obtain ⟨rfl, rfl⟩ := h2
    have h0 : z i = 43 := h.1
    unfold repS
    rw [if_pos h0]
    exact ⟨.inr (.inl h0), rfl, by simp⟩
  rw [if_neg h2] at h hn ⊢
  by_cases h3 : l = 0 ∧ m = 1
  · rw [if_pos h3] at h hn ⊢
    obtain ⟨rfl, rfl⟩ := h3
    have h0 : z i = 63 := h.1
    unfold repS
    rw [if_neg (by omega), if_neg (by omega), if_pos h0]
    exact ⟨.inr (.inr (.inl h0)), rfl, by simp⟩
  rw [if_neg h3] at h hn ⊢
  have hrep : z i = 123 → repS z n i = cntV z n i := by
    intro e
    unfold repS
    rw [if_neg (by omega), if_neg (by omega), if_neg (by omega)]
  by_cases h4 : m = l
  · rw [if_pos h4] at h hn ⊢
    obtain ⟨g1, g2⟩ := atL_app.1 h
    obtain ⟨g3, g4⟩ := atL_app.1 g1
    have h0 : z i = 123 := g3.1
    rw [List.length_append, List.length_append, List.length_singleton] at hn ⊢
    rw [List.length_append, List.length_singleton] at g2
    rw [List.length_singleton] at g4 hn ⊢
    have q : z (i + 1 + (Lib.decDigits l).length) = 125 := by rw [Nat.add_assoc]; exact g2.1
    obtain ⟨n1, n2⟩ := num_read (n := n) hl g4 (by omega) (by rw [q]; decide)
    refine ⟨.inr (.inr (.inr h0)), ?_, by omega⟩
    rw [hrep h0]
    unfold cntV
    rw [n2, n1, if_neg (by decide)]
    dsimp only
    rw [if_pos (has_yes q (by omega)), h4, show i + 1 + (Lib.decDigits l).length + 1 = i + (1 + (Lib.decDigits l).length + 1) by omega]
  rw [if_neg h4] at h hn ⊢
  by_cases h5 : m = -1
  · rw [if_pos h5] at h hn ⊢
    obtain ⟨g1, g2⟩ := atL_app.1 h
    obtain ⟨g3, g4⟩ := atL_app.1 g1
    have h0 : z i = 123 := g3.1
    rw [List.length_append, List.length_append] at hn ⊢
    rw [List.length_append, List.length_singleton] at g2
    have hl2 : ([44, 125] : List UInt8).length = 2 := rfl
    rw [hl2, List.length_singleton] at hn ⊢
    rw [List.length_singleton] at g4
    have q : z (i + 1 + (Lib.decDigits l).length) = 44 := by rw [Nat.add_assoc]; exact g2.1
    have q2 : z (i + 1 + (Lib.decDigits l).length + 1) = 125 := by
      rw [show i + 1 + (Lib.decDigits l).length + 1 = i + (1 + (Lib.decDigits l).length) + 1 by omega]; exact g2.2.1
    obtain ⟨n1, n2⟩ := num_read (n := n) hl g4 (by omega) (by rw [q]; decide)
    refine ⟨.inr (.inr (.inr h0)), ?_, by omega⟩
    rw [hrep h0]
    unfold cntV
    rw [n2, n1, if_neg (by decide)]
    dsimp only
    rw [if_neg (by rw [has_no (by omega)]; decide), if_neg (by rw [has_yes q (by omega)]; decide), if_pos (has_yes q2 (by omega)), h5, show i + 1 + (Lib.decDigits l).length + 2 = i + (1 + (Lib.decDigits l).length + 2) by omega]
  rw [if_neg h5] at h hn ⊢
  have hmm : (l : Int) < m ∧ m ≤ 1000 := by omega
  obtain ⟨mn, rfl⟩ : ∃ mn : Nat, m = mn := ⟨m.toNat, by omega⟩
  rw [Int.toNat_natCast] at h hn ⊢
  obtain ⟨g1, g2⟩ := atL_app.1 h
  obtain ⟨g3, g4⟩ := atL_app.1 g1
  obtain ⟨g5, g6⟩ := atL_app.1 g3
  obtain ⟨g7, g8⟩ := atL_app.1 g5
  have h0 : z i = 123 := g7.1
  simp only [List.length_append, List.length_singleton] at hn g2 g4 g6 g8 ⊢
  have q : z (i + 1 + (Lib.decDigits l).length) = 44 := by rw [Nat.add_assoc]; exact g6.1
  have g4' : AtL z (i + 1 + (Lib.decDigits l).length + 1) (Lib.decDigits mn) := by
    rw [show i + 1 + (Lib.decDigits l).length + 1 = i + (1 + (Lib.decDigits l).length + 1) by omega]; exact g4
  have q3 : z (i + 1 + (Lib.decDigits l).length + 1 + (Lib.decDigits mn).length) = 125 := by
    rw [show i + 1 + (Lib.decDigits l).length + 1 + (Lib.decDigits mn).length = i + (1 + (Lib.decDigits l).length + 1 + (Lib.decDigits mn).length) by omega]; exact g2.1
  obtain ⟨n1, n2⟩ := num_read (n := n) hl g8 (by omega) (by rw [q]; decide)
  obtain ⟨n3, n4⟩ := num_read (n := n) (by omega : mn ≤ 1000) g4' (by omega) (by rw [q3]; decide)
  have hnz : z (i + 1 + (Lib.decDigits l).length + 1) ≠ 125 := by
    intro e
    have := n4
    unfold numOk at this
    rw [n3] at this
    have hg : numG z n (n - (i + 1 + (Lib.decDigits l).length + 1)) (i + 1 + (Lib.decDigits l).length + 1) 0 = (0, i + 1 + (Lib.decDigits l).length + 1) := numG_end (by rw [e]; simp [digP])
    have h3 : numR z n (i + 1 + (Lib.decDigits l).length + 1) = (0, i + 1 + (Lib.decDigits l).length + 1) := hg
    rw [h3] at n3
    have := congrArg Prod.fst n3
    dsimp only at this
    omega
  refine ⟨.inr (.inr (.inr h0)), ?_, by omega⟩
  rw [hrep h0]
  unfold cntV
  rw [n2, n1, if_neg (by decide)]
  dsimp only
  have hr : repP (l : Int) (mn : Int) = true := by
    unfold repP
    rw [if_neg (by omega)]
    simp only [Bool.and_eq_true, decide_eq_true_eq]
    omega
  rw [if_neg (by rw [has_no (by omega)]; decide), if_neg (by rw [has_yes q (by omega)]; decide), if_neg (by rw [has_no hnz]; decide), n4, if_neg (by decide), n3]
  dsimp only
  rw [hr, if_neg (by decide), if_neg (by rw [has_yes q3 (by omega)]; decide)]
  rw [show i + 1 + (Lib.decDigits l).length + 1 + (Lib.decDigits mn).length + 1 = i + (1 + (Lib.decDigits l).length + 1 + (Lib.decDigits mn).length + 1) by omega]
/-- What is known of a token that may be. -/
theorem chk_parts {k : Int} {b : Nat} {P : Nat → Bool} {nt : Bool} {l m : Int} {lz : Bool} {t : Int} (h : chk k b P nt l m lz t = true) :
    (k ≠ 1 → b = 0) ∧ (k ≠ 2 → (∀ x, x < 256 → P x = false) ∧ nt = false) ∧ (k ≠ 7 → l = 0 ∧ m = 0 ∧ lz = false) ∧ (k = 2 → mayP P nt = true) ∧ (k = 7 → repP l m = true) ∧ (k ≠ 2 → k ≠ 7 → 1 ≤ k ∧ k ≤ 9) ∧ 0 ≤ t := by
  unfold chk at h
  simp only [Bool.and_eq_true, decide_eq_true_eq] at h
  obtain ⟨⟨⟨⟨h1, h2⟩, h3⟩, h4⟩, h5⟩ := h
  refine ⟨fun e => ?_, fun e => ?_, fun e => ?_, fun e => ?_, fun e => ?_, fun e e' => ?_, h1⟩
  · rw [if_neg e] at h2; simpa using h2
  · rw [if_neg e] at h3
    simp only [Bool.and_eq_true, Bool.not_eq_true'] at h3
    exact ⟨(eqC_iff _ _).1 h3.1, h3.2⟩
  · rw [if_neg e] at h4
    simp only [Bool.and_eq_true, beq_iff_eq, Bool.not_eq_true'] at h4
    exact ⟨h4.1.1, h4.1.2, h4.2⟩
  · rw [if_pos e] at h5; exact h5
  · rw [if_neg (by omega), if_pos e] at h5; exact h5
  · rw [if_neg e, if_neg e'] at h5
    simpa using h5
/-- A token's record is what was printed. -/
structure Is (s : TokS) (k : Int) (b : Nat) (P : Nat → Bool) (nt : Bool) (l m : Int) (lz : Bool) : Prop where
  k : s.k = k
  b : s.b = b
  P : ∀ x, x < 256 → s.P x = P x
  nt : s.nt = nt
  l : s.l = l
  m : s.m = m
  lz : s.lz = lz
  er : s.er = 0
theorem lit_read {z : Nat → Nat} {n i b : Nat} (hb : b < 256) (h : AtL z i (litB b)) (hn : i + (litB b).length ≤ n) : wrd z n i = .sgn 1 b i (i + (litB b).length) ∧ 0 < (litB b).length ∧ z i ≠ 63 := by
  unfold litB at h hn ⊢
  cases hv : vis b with
  | false =>
    rw [hv] at h hn
    simp only [Bool.false_eq_true, if_false] at h hn ⊢
    have hl : (numB b).length = 4 := rfl
    rw [hl] at hn ⊢
    obtain ⟨h0, h1⟩ := hex_num hb h hn
    refine ⟨?_, by omega, by omega⟩
    unfold wrd wrdS
    rw [if_pos h0]
    exact h1
  | true =>
    rw [hv] at h hn
    simp only [if_true] at h hn ⊢
    cases hs : spec b with
    | true =>
      rw [hs] at h hn
      simp only [if_true] at h hn ⊢
      have ht := lit_tab2 ⟨b, hb⟩ hv hs
      dsimp only at ht
      obtain ⟨h0, h1, -⟩ := h
      rw [u8_nat hb] at h1
      have h0' : z i = 92 := h0
      have hl : ([92, b.toUInt8] : List UInt8).length = 2 := rfl
      rw [hl] at hn ⊢
      refine ⟨?_, by omega, by omega⟩
      unfold wrd wrdS
      rw [if_pos h0']
      unfold escS
      rw [if_neg (by omega), h1, if_neg ht.2.2.1, if_neg ht.2.2.2.1, if_neg ht.2.2.2.2.1, if_neg ht.2.2.2.2.2.1, if_neg ht.2.2.2.2.2.2, if_neg (by rw [ht.1]; decide), if_neg (by rw [ht.2.1]; decide)]
    | false =>
      rw [hs] at h hn
      simp only [Bool.false_eq_true, if_false] at h hn ⊢
      have ht := lit_tab ⟨b, hb⟩ hv hs
      dsimp only at ht
      obtain ⟨h0, -⟩ := h
      rw [u8_nat hb] at h0
      refine ⟨?_, by simp, by omega⟩
      unfold wrd wrdS
      rw [h0, if_neg ht.1, if_neg ht.2.1, if_neg ht.2.2.1, if_neg ht.2.2.2.1]
      unfold sgnS
      rw [h0, ht.2.2.2.2]
      rfl
/-- A token that may be is read as it is. -/
theorem tok_read {z : Nat → Nat} {n i : Nat} {k : Int} {b : Nat} {P : Nat → Bool} {nt : Bool} {l m : Int} {lz : Bool} {t : Int} (hN : n ≤ 1024) (hb : b < 256) (hc : chk k b P nt l m lz t = true) (h : AtL z i (txtB k b P nt l m lz)) (hn : i + (txtB k b P nt l m lz).length ≤ n) (hq : k = 7 → hasP z n (i + (txtB k b P nt l m lz).length) 63 = false) :
    Is (wrd z n i) k b P nt l m lz ∧ (wrd z n i).en = i + (txtB k b P nt l m lz).length ∧ 0 < (txtB k b P nt l m lz).length ∧ (k ≠ 7 → z i ≠ 63) := by
  obtain ⟨c1, c2, c3, c4, c5, c6, c7⟩ := chk_parts hc
  have sg : ∀ (q : Nat) (K : Nat), (K ≠ 1) → (K : Int) = k → k ≠ 1 → k ≠ 2 → k ≠ 7 → z i = q → q ≠ 92 → q ≠ 91 → q ≠ 40 → ¬ (q = 42 ∨ q = 43 ∨ q = 63 ∨ q = 123) → signK q = K → Is (wrd z n i) k b P nt l m lz ∧ (wrd z n i).en = i + 1 := by
    intro q K hK hk k1 k2 k7 hz q1 q2 q3 q4 hs
    have e : wrd z n i = .sgn K 0 i (i + 1) := by
      unfold wrd wrdS
      rw [hz, if_neg q1, if_neg q2, if_neg q3, if_neg q4]
      unfold sgnS
      rw [hz, hs, if_neg hK]
    rw [e]
    obtain ⟨e1, e2, e3⟩ := c3 k7
    exact ⟨⟨hk, (c1 k1).symm, fun x hx => ((c2 k2).1 x hx).symm, (c2 k2).2.symm, e1.symm, e2.symm, e3.symm, rfl⟩, rfl⟩
  by_cases h1 : k = 1
  · subst h1
    have e : txtB 1 b P nt l m lz = litB b := rfl
    rw [e] at h hn hq ⊢
    obtain ⟨g1, g2, g3⟩ := lit_read hb h hn
    rw [g1]
    obtain ⟨e1, e2, e3⟩ := c3 (by omega)
    exact ⟨⟨rfl, rfl, fun x hx => ((c2 (by omega)).1 x hx).symm, (c2 (by omega)).2.symm, e1.symm, e2.symm, e3.symm, rfl⟩, rfl, g2, fun _ => g3⟩
  by_cases h2 : k = 2
  · subst h2
    have e : txtB 2 b P nt l m lz = clsB P nt := rfl
    rw [e] at h hn hq ⊢
    obtain ⟨Q, g1, g2, g3, g4⟩ := cls_read (c4 rfl) h hn hN
    have ew : wrd z n i = .cls Q nt i (i + (clsB P nt).length) := by
      unfold wrd wrdS
      rw [if_neg (by omega), if_pos g2]
      exact g3
    rw [ew]
    obtain ⟨e1, e2, e3⟩ := c3 (by omega)
    exact ⟨⟨rfl, (c1 (by omega)).symm, g1, rfl, e1.symm, e2.symm, e3.symm, rfl⟩, rfl, g4, fun _ => by omega⟩
  by_cases h7 : k = 7
  · subst h7
    have hr := c5 rfl
    unfold repP at hr
    simp only [Bool.and_eq_true, decide_eq_true_eq] at hr
    obtain ⟨ln, rfl⟩ : ∃ ln : Nat, l = ln := ⟨l.toNat, by omega⟩
    have hln : ln ≤ 1000 := by
      by_cases e : m = -1
      · rw [if_pos e] at hr; omega
      · rw [if_neg e] at hr; omega
    have hm : m = -1 ∨ ((ln : Int) ≤ m ∧ m ≤ 1000) := by
      by_cases e : m = -1
      · exact .inl e
      · rw [if_neg e] at hr; right; omega
    have e : txtB 7 b P nt ln m lz = repB ln m lz := by unfold txtB; simp
    rw [e] at h hn hq ⊢
    have hq' := hq rfl
    clear hq
    have e0 := c1 (by omega)
    have e2 := c2 (by omega)
    unfold repB at h hn hq' ⊢
    cases lz with
    | true =>
      simp only [if_true] at h hn hq' ⊢
      obtain ⟨g1, g2⟩ := atL_app.1 h
      rw [List.length_append, List.length_singleton] at hn hq' ⊢
      obtain ⟨r1, r2, r3⟩ := bnd_read (n := n) hln hm g1 (by omega)
      have hy : hasP z n (i + (bndB ln m).length) 63 = true := has_yes g2.1 (by omega)
      have ew : wrd z n i = .rep ln m true i (i + (bndB ln m).length + 1) := by
        unfold wrd wrdS
        rw [if_neg (by omega), if_neg (by omega), if_neg (by omega), if_pos r1]
        unfold rptS
        rw [r2]
        dsimp only
        rw [if_neg (by omega), if_pos hy]
      rw [ew]
      exact ⟨⟨rfl, e0.symm, fun x hx => (e2.1 x hx).symm, e2.2.symm, rfl, rfl, rfl, rfl⟩, by show _ + _ = _; omega, by omega, fun h => absurd rfl h⟩
    | false =>
      simp only [Bool.false_eq_true, if_false] at h hn hq' ⊢
      obtain ⟨r1, r2, r3⟩ := bnd_read (n := n) hln hm h hn
      have ew : wrd z n i = .rep ln m false i (i + (bndB ln m).length) := by
        unfold wrd wrdS
        rw [if_neg (by omega), if_neg (by omega), if_neg (by omega), if_pos r1]
        unfold rptS
        rw [r2]
        dsimp only
        rw [if_neg (by omega), if_neg (by rw [hq']; decide)]
      rw [ew]
      exact ⟨⟨rfl, e0.symm, fun x hx => (e2.1 x hx).symm, e2.2.symm, rfl, rfl, rfl, rfl⟩, rfl, r3, fun h => absurd rfl h⟩
  have hk := c6 h2 h7
  by_cases h3 : k = 3
  · subst h3
    have e : txtB 3 b P nt l m lz = [46] := rfl
    rw [e] at h hn ⊢
    have hz : z i = 46 := h.1
    obtain ⟨a1, a2⟩ := sg 46 3 (by omega) rfl (by omega) (by omega) (by omega) hz (by omega) (by omega) (by omega) (by omega) rfl
    exact ⟨a1, a2, by simp, fun _ => by omega⟩
  by_cases h4 : k = 4
  · subst h4
    have e : txtB 4 b P nt l m lz = [40, 63, 58] := rfl
    rw [e] at h hn ⊢
    have hl : ([40, 63, 58] : List UInt8).length = 3 := rfl
    rw [hl] at hn ⊢
    have z0 : z i = 40 := h.1
    have z1 : z (i + 1) = 63 := h.2.1
    have z2 : z (i + 2) = 58 := h.2.2.1
    have ew : wrd z n i = .sgn 4 0 i (i + 3) := by
      unfold wrd wrdS
      rw [if_neg (by omega), if_neg (by omega), if_pos z0]
      unfold opnS
      rw [if_neg (by rw [has_yes z1 (by omega)]; decide), if_pos (has_yes z2 (by omega))]
    rw [ew]
    obtain ⟨e1, e2, e3⟩ := c3 (by omega)
    exact ⟨⟨rfl, (c1 (by omega)).symm, fun x hx => ((c2 (by omega)).1 x hx).symm, (c2 (by omega)).2.symm, e1.symm, e2.symm, e3.symm, rfl⟩, rfl, by omega, fun _ => by omega⟩
  by_cases h5 : k = 5
  · subst h5
    have e : txtB 5 b P nt l m lz = [41] := rfl
    rw [e] at h hn ⊢
    have hz : z i = 41 := h.1
    obtain ⟨a1, a2⟩ := sg 41 5 (by omega) rfl (by omega) (by omega) (by omega) hz (by omega) (by omega) (by omega) (by omega) rfl
    exact ⟨a1, a2, by simp, fun _ => by omega⟩
  by_cases h6 : k = 6
  · subst h6
    have e : txtB 6 b P nt l m lz = [124] := rfl
    rw [e] at h hn ⊢
    have hz : z i = 124 := h.1
    obtain ⟨a1, a2⟩ := sg 124 6 (by omega) rfl (by omega) (by omega) (by omega) hz (by omega) (by omega) (by omega) (by omega) rfl
    exact ⟨a1, a2, by simp, fun _ => by omega⟩
  by_cases h8 : k = 8
  · subst h8
    have e : txtB 8 b P nt l m lz = [94] := rfl
    rw [e] at h hn ⊢
    have hz : z i = 94 := h.1
    obtain ⟨a1, a2⟩ := sg 94 8 (by omega) rfl (by omega) (by omega) (by omega) hz (by omega) (by omega) (by omega) (by omega) rfl
    exact ⟨a1, a2, by simp, fun _ => by omega⟩
  obtain rfl : k = 9 := by omega
  have e : txtB 9 b P nt l m lz = [36] := rfl
  rw [e] at h hn ⊢
  have hz : z i = 36 := h.1
  obtain ⟨a1, a2⟩ := sg 36 9 (by omega) rfl (by omega) (by omega) (by omega) hz (by omega) (by omega) (by omega) (by omega) rfl
  exact ⟨a1, a2, by simp, fun _ => by omega⟩
theorem atL_get {z : Nat → Nat} : ∀ (l : List UInt8) (i : Nat), (∀ j, j < l.length → z (i + j) = (l.getD j 0).toNat) → AtL z i l
  | [], _, _ => trivial
  | x :: l, i, h => by
    refine ⟨by simpa using h 0 (by simp), atL_get l (i + 1) fun j hj => ?_⟩
    have := h (j + 1) (by simp; omega)
    rw [show i + 1 + j = i + (j + 1) by omega, this]
    simp
/-- The texts of the first ones, one behind the other. -/
def prL (tx : Nat → List UInt8) : Nat → List UInt8
  | 0 => []
  | n + 1 => prL tx n ++ tx n
theorem prL_le (tx : Nat → List UInt8) : ∀ {a b : Nat}, a ≤ b → (prL tx a).length ≤ (prL tx b).length := by
  intro a b h
  induction h with
  | refl => exact Nat.le_refl _
  | step _ ih => rw [prL, List.length_append]; omega
theorem prL_at {z : Nat → Nat} {tx : Nat → List UInt8} : ∀ {n : Nat}, AtL z 0 (prL tx n) → ∀ k, k < n → AtL z (prL tx k).length (tx k)
  | 0, _, k, hk => by omega
  | n + 1, h, k, hk => by
    obtain ⟨h1, h2⟩ := atL_app.1 h
    by_cases e : k = n
    · subst e; simpa using h2
    · exact prL_at h1 k (by omega)
/-- All are read, one behind the other. -/
theorem wl_read {z : Nat → Nat} {N n : Nat} {tx : Nat → List UInt8} (hlen : (prL tx n).length = N) (hr : ∀ k, k < n → (wrd z N (prL tx k).length).er = 0 ∧ (wrd z N (prL tx k).length).en = (prL tx (k + 1)).length ∧ 0 < (tx k).length) :
    ∀ (d k f : Nat), n - k = d → k ≤ n → d < f → wl z N f (prL tx k).length = (List.range d).map fun j => wrd z N (prL tx (k + j)).length := by
  intro d
  induction d with
  | zero =>
    intro k f hd hk hf
    obtain ⟨g, rfl⟩ : ∃ g, f = g + 1 := ⟨f - 1, by omega⟩
    obtain rfl : k = n := by omega
    rw [wl, if_pos (by omega)]
    rfl
  | succ d ih =>
    intro k f hd hk hf
    obtain ⟨g, rfl⟩ : ∃ g, f = g + 1 := ⟨f - 1, by omega⟩
    obtain ⟨r1, r2, r3⟩ := hr k (by omega)
    have hlt : (prL tx k).length < N := by
      have := prL_le tx (show k + 1 ≤ n by omega)
      rw [prL, List.length_append] at this
      omega
    rw [wl, if_neg (by omega), if_pos r1, r2, ih (k + 1) g (by omega) (by omega) (by omega), List.range_succ_eq_map, List.map_cons, List.map_map]
    congr 1
    apply List.map_congr_left
    intro j _
    show wrd z N (prL tx (k + 1 + j)).length = wrd z N (prL tx (k + (j + 1))).length
    rw [show k + 1 + j = k + (j + 1) by omega]
theorem prL_num {tx : Nat → List UInt8} : ∀ {n : Nat}, (∀ k, k < n → 0 < (tx k).length) → n ≤ (prL tx n).length
  | 0, _ => Nat.zero_le _
  | n + 1, h => by
    have := prL_num fun k hk => h k (Nat.lt_succ_of_lt hk)
    have h2 := h n (Nat.lt_succ_self n)
    rw [prL, List.length_append]
    omega
/-- A token, field by field. -/
structure Tf where
  k : Int
  b : Nat
  P : Nat → Bool
  nt : Bool
  l : Int
  m : Int
  lz : Bool
  t : Int
/-- Tokens that are printed are lexed as they were. -/
theorem back_read {z : Nat → Nat} {n : Nat} {G : Nat → Tf} (hb : ∀ i, i < n → (G i).b < 256) (hc : ∀ i, i < n → chk (G i).k (G i).b (G i).P (G i).nt (G i).l (G i).m (G i).lz (G i).t = true) (hrr : ∀ i, i + 1 < n → ¬ ((G i).k = 7 ∧ (G (i + 1)).k = 7))
    (hN : (prL (fun i => txtB (G i).k (G i).b (G i).P (G i).nt (G i).l (G i).m (G i).lz) n).length ≤ 1024) (hz : AtL z 0 (prL (fun i => txtB (G i).k (G i).b (G i).P (G i).nt (G i).l (G i).m (G i).lz) n)) :
    ∃ S : Nat → TokS, wl z (prL (fun i => txtB (G i).k (G i).b (G i).P (G i).nt (G i).l (G i).m (G i).lz) n).length 1100 0 = (List.range n).map S ∧ ∀ i, i < n → Is (S i) (G i).k (G i).b (G i).P (G i).nt (G i).l (G i).m (G i).lz := by
  generalize hL : (prL (fun i => txtB (G i).k (G i).b (G i).P (G i).nt (G i).l (G i).m (G i).lz) n).length = N at *
  generalize htx : (fun i => txtB (G i).k (G i).b (G i).P (G i).nt (G i).l (G i).m (G i).lz) = tx at *
  have htx' : ∀ i, tx i = txtB (G i).k (G i).b (G i).P (G i).nt (G i).l (G i).m (G i).lz := fun i => by rw [← htx]
  have hend : ∀ k, k < n → (prL tx k).length + (tx k).length ≤ N := fun k hk => by
    have := prL_le tx (show k + 1 ≤ n by omega)
    rw [prL, List.length_append] at this
    omega
  -- from the last one on
  have key : ∀ d k, n - k = d + 1 → k < n → Is (wrd z N (prL tx k).length) (G k).k (G k).b (G k).P (G k).nt (G k).l (G k).m (G k).lz ∧ (wrd z N (prL tx k).length).en = (prL tx k).length + (tx k).length ∧ 0 < (tx k).length ∧ ((G k).k ≠ 7 → z (prL tx k).length ≠ 63) := by
    intro d
    induction d with
    | zero =>
      intro k hd hk
      have hat := prL_at hz k hk
      rw [htx'] at hat ⊢
      refine tok_read hN (hb k hk) (hc k hk) hat (by rw [← htx']; exact hend k hk) fun _ => ?_
      have : (prL tx k).length + (tx k).length = N := by
        have e : k + 1 = n := by omega
        rw [← hL, ← e, prL, List.length_append]
      rw [← htx', this]
      unfold hasP
      simp
    | succ d ih =>
      intro k hd hk
      have hat := prL_at hz k hk
      obtain ⟨-, -, -, hnx⟩ := ih (k + 1) (by omega) (by omega)
      rw [htx'] at hat ⊢
      refine tok_read hN (hb k hk) (hc k hk) hat (by rw [← htx']; exact hend k hk) fun h7 => ?_
      have h8 : (G (k + 1)).k ≠ 7 := fun h => hrr k (by omega) ⟨h7, h⟩
      have := hnx h8
      rw [prL, List.length_append] at this
      rw [← htx']
      exact has_no this
  have key' : ∀ k, k < n → _ := fun k hk => key (n - k - 1) k (by omega) hk
  have hnum : n ≤ N := by rw [← hL]; exact prL_num fun k hk => (key' k hk).2.2.1
  refine ⟨fun j => wrd z N (prL tx j).length, ?_, fun i hi => (key' i hi).1⟩
  have := wl_read (z := z) (N := N) (n := n) (tx := tx) hL (fun k hk => ⟨(key' k hk).1.er, by rw [(key' k hk).2.1, prL, List.length_append], (key' k hk).2.2.1⟩) n 0 1100 (by omega) (by omega) (by omega)
  simpa [prL] using this
end Go.Proofs.YtkbeiadbolihiaaDoor
