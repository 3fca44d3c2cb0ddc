/- parse: the tokens of a pattern in a group. A region that draws its order, by what is known of all answers together: each operation is looked at once, whatever the order. token: words hang on the bytes of the text alone; the words of two patterns beside each other. parse: tokens beside each other: the trees. -/
import Derived.Orders
import Derived.BigRegion
import Derived.Test.YtlmmiicibjfcdaaQ23
import Derived.Test.YtlmmiicibjfcdaaQ22
import Derived.Test.YtlmmiicibjfcdaaQ12
namespace Go.Proofs.Ytlmmiicibjfcdaa
open Go.RowKit
theorem fwd_r (a : Nat) (s : TokS) (fl : Fg) (h : s.er = 0) : (s.r.tp fl).Like ((s.fwd a).r.tp fl) := by
  unfold TokS.fwd
  rw [if_pos h]
  refine ⟨rfl, rfl, rfl, rfl, rfl, ?_⟩
  show chk s.k s.b s.P s.nt s.l s.m s.lz ((a + s.at_ : Nat) : Int) = chk s.k s.b s.P s.nt s.l s.m s.lz ((s.at_ : Nat) : Int)
  unfold chk
  rw [decide_eq_true (Int.natCast_nonneg _), decide_eq_true (Int.natCast_nonneg _)]
theorem nS_get {l : List TokS} {i : Nat} {s : TokS} (h : l[i]? = some s) : nS l i = s := by
  unfold nS
  rw [List.getD_eq_getElem?_getD, h]; rfl
theorem sgn_ok (fl : Fg) (k : Nat) (a b : Nat) (h : k = 4 ∨ k = 5) : ((TokS.sgn k 0 a b).r.tp fl).ok = true := by
  have h1 : (TokS.sgn k 0 a b).may = true := chk_sgn (.inr ⟨rfl, by omega⟩)
  exact h1
end Go.Proofs.Ytlmmiicibjfcdaa
namespace Go.Proofs.Ytlmmiicibjfcdaa
open Go
section
variable {P : Program} {ops : Array Oper} {Q : Exit → Act → World → Prop}
/-- How many operations are left. -/
def left (ops : Array Oper) (listed : Array Bool) : Nat := ((List.range ops.size).filter fun j => !listed.getD j true).length
end
section
variable {P : Program} {ops : Array Oper} {Q : Exit → Act → World → Prop} {i : Nat} {o : Oper} {a : Act} {w : World} {K : Act → World → Prop}
end
end Go.Proofs.Ytlmmiicibjfcdaa
namespace Go.Proofs.Ytlmmiicibjfcdaa
open Go.RowKit
section
variable {z y : Nat → Nat} {n : Nat}
theorem hasP_cg (h : ∀ i, i < n → z i = y i) (k b : Nat) : hasP z n k b = hasP y n k b := by
  unfold hasP
  by_cases e : k < n
  · rw [h k e]
  · simp [e]
theorem numG_cg (h : ∀ i, i < n → z i = y i) : ∀ f k v, numG z n f k v = numG y n f k v := by
  intro f
  induction f with
  | zero => intro k v; rfl
  | succ f ih =>
    intro k v
    rw [numG, numG]
    by_cases e : k < n
    · rw [h k e]
      split
      · exact ih _ _
      · rfl
    · simp [e]
theorem numR_cg (h : ∀ i, i < n → z i = y i) (k : Nat) : numR z n k = numR y n k := numG_cg h _ _ _
theorem numOk_cg (h : ∀ i, i < n → z i = y i) (k : Nat) : numOk z n k = numOk y n k := by
  unfold numOk
  rw [numR_cg h k]
  by_cases e : k < n
  · rw [h k e]
  · have : (numR y n k).2 = k := by
      unfold numR
      rw [show n - k = 0 by omega]
      rfl
    rw [this]
    simp
theorem cntV_cg (h : ∀ i, i < n → z i = y i) (k : Nat) : cntV z n k = cntV y n k := by
  unfold cntV
  simp only [numR_cg h, numOk_cg h, hasP_cg h]
theorem repS_cg (h : ∀ i, i < n → z i = y i) {k : Nat} (hk : k < n) : repS z n k = repS y n k := by
  unfold repS
  rw [h k hk, cntV_cg h]
theorem rptS_cg (h : ∀ i, i < n → z i = y i) {k : Nat} (hk : k < n) : rptS z n k = rptS y n k := by
  unfold rptS
  simp only [repS_cg h hk, hasP_cg h]
theorem opnS_cg (h : ∀ i, i < n → z i = y i) (k : Nat) : opnS z n k = opnS y n k := by
  unfold opnS
  simp only [hasP_cg h]
theorem hexV_cg (h : ∀ i, i < n → z i = y i) (k : Nat) : hexV z n k = hexV y n k := by
  unfold hexV
  split
  · rw [h k (by omega), h (k + 1) (by omega)]
  · rfl
theorem escS_cg (h : ∀ i, i < n → z i = y i) (k : Nat) : escS z n k = escS y n k := by
  unfold escS
  by_cases e : n < k + 2
  · rw [if_pos e, if_pos e]
  · rw [if_neg e, if_neg e, h (k + 1) (by omega), hexV_cg h]
theorem uniS_cg (h : ∀ i, i < n → z i = y i) {k : Nat} (hk : k < n) : uniS z n k = uniS y n k := by
  unfold uniS
  rw [h k hk, escS_cg h]
theorem dashP_cg (h : ∀ i, i < n → z i = y i) (k : Nat) : dashP z n k = dashP y n k := by
  unfold dashP
  rw [hasP_cg h]
  by_cases e : k + 1 < n
  · rw [h (k + 1) e]
  · simp [e]
theorem untS_cg (h : ∀ i, i < n → z i = y i) {k : Nat} (hk : k < n) : untS z n k = untS y n k := by
  unfold untS
  rw [uniS_cg h hk, dashP_cg h]
  split
  · rfl
  split
  · rfl
  rename_i h2
  have hd : dashP y n (uniS y n k).en = true := by simpa using h2
  have := dashP_lt hd
  rw [uniS_cg h this]
theorem brkG_cg (h : ∀ i, i < n → z i = y i) {at_ : Nat} {nt : Bool} : ∀ f i P, brkG z n at_ nt f i P = brkG y n at_ nt f i P := by
  intro f
  induction f with
  | zero => intro i P; rfl
  | succ f ih =>
    intro i P
    rw [brkG, brkG]
    by_cases e : n ≤ i
    · rw [if_pos e, if_pos e]
    · rw [if_neg e, if_neg e, h i (by omega), untS_cg h (by omega)]
      split
      · rfl
      split
      · rfl
      · exact ih _ _
theorem wrd_cg (h : ∀ i, i < n → z i = y i) {k : Nat} (hk : k < n) : wrd z n k = wrd y n k := by
  unfold wrd wrdS brkS sgnS
  rw [h k hk, escS_cg h, opnS_cg h, rptS_cg h hk, hasP_cg h, brkG_cg h]
theorem wl_cg (h : ∀ i, i < n → z i = y i) : ∀ f i, wl z n f i = wl y n f i := by
  intro f
  induction f with
  | zero => intro i; rfl
  | succ f ih =>
    intro i
    rw [wl, wl]
    by_cases e : n ≤ i
    · rw [if_pos e, if_pos e]
    · rw [if_neg e, if_neg e, wrd_cg h (by omega)]
      split
      · rw [ih]
      · rfl
end
/-- One sign alone. -/
theorem sign_word {z : Nat → Nat} {N i : Nat} (k : Nat) (_hi : i < N) (h : (z i = 41 ∧ k = 5) ∨ (z i = 124 ∧ k = 6)) : wrd z N i = .sgn (k : Nat) 0 i (i + 1) := by
  unfold wrd wrdS
  rcases h with ⟨hz, rfl⟩ | ⟨hz, rfl⟩
  · rw [hz, if_neg (by omega), if_neg (by omega), if_neg (by omega), if_neg (by omega)]
    unfold sgnS; rw [hz]; rfl
  · rw [hz, if_neg (by omega), if_neg (by omega), if_neg (by omega), if_neg (by omega)]
    unfold sgnS; rw [hz]; rfl
theorem open_word {z : Nat → Nat} {N i : Nat} (hi : i + 2 < N) (h0 : z i = 40) (h1 : z (i + 1) = 63) (h2 : z (i + 2) = 58) : wrd z N i = .sgn 4 0 i (i + 3) := by
  unfold wrd wrdS
  rw [h0, if_neg (by omega), if_neg (by omega), if_pos rfl]
  unfold opnS
  rw [if_neg (by unfold hasP; simp [h1]; omega), if_pos (by unfold hasP; simp [h2]; omega)]
/-- A good word, then the rest. -/
theorem wl_step {z : Nat → Nat} {N i f : Nat} {s : TokS} (hi : i < N) (h : wrd z N i = s) (hs : s.er = 0) : wl z N (f + 1) i = s :: wl z N f s.en := by
  rw [wl, if_neg (by omega), h, if_pos hs]
/-- The words of a text that stands at a place, then the rest. -/
theorem wl_part {z x : Nat → Nat} {N a n f g : Nat} (hx : ∀ i, i < n → z (a + i) = x i) (hN : a + n ≤ N) (hq : z (a + n) ≠ 63) (hg : ∀ s ∈ wl x n 1100 0, s.er = 0) (hn : n ≤ 1024) (hf : N - a ≤ f) (hgf : N - (a + n) ≤ g) : wl z N f a = (wl x n 1100 0).map (TokS.fwd a) ++ wl z N g (a + n) := by
  have e0 : wl (fun i => z (a + i)) n 1100 0 = wl x n 1100 0 := wl_cg hx 1100 0
  have e1 := wl_sh (z := z) (n := n) (a := a) 1100 0
  rw [Nat.add_zero, e0] at e1
  have hg' : ∀ s ∈ wl z (a + n) 1100 a, s.er = 0 := by
    rw [e1]
    intro s hs
    obtain ⟨s', hs', rfl⟩ := List.mem_map.1 hs
    rw [fwd_er]
    exact hg s' hs'
  have e2 := wl_app (z := z) (n := N) (n' := a + n) hN hq 1100 a (by omega) (by omega) hg' f g hf hgf
  rw [e2, e1]
/-- The words of p|q. -/
theorem bar_words {z p q : Nat → Nat} {n k : Nat} (hp : ∀ i, i < n → z i = p i) (hb : z n = 124) (hq : ∀ i, i < k → z (n + 1 + i) = q i) (hN : n + 1 + k ≤ 1024) (gp : ∀ s ∈ wl p n 1100 0, s.er = 0) (gq : ∀ s ∈ wl q k 1100 0, s.er = 0) :
    ∀ e, z (n + 1 + k) = e → e ≠ 63 → wl z (n + 1 + k) 1100 0 = (wl p n 1100 0).map (TokS.fwd 0) ++ .sgn 6 0 n (n + 1) :: (wl q k 1100 0).map (TokS.fwd (n + 1)) := by
  intro e he he2
  have h1 := wl_part (z := z) (x := p) (N := n + 1 + k) (a := 0) (n := n) (f := 1100) (g := 1050 + 1) (fun i hi => by rw [Nat.zero_add]; exact hp i hi) (by omega) (by rw [Nat.zero_add, hb]; decide) gp (by omega) (by omega) (by omega)
  have h2 := wl_step (f := 1050) (by omega : n < n + 1 + k) (sign_word 6 (by omega) (.inr ⟨hb, rfl⟩)) rfl
  have h3 := wl_part (z := z) (x := q) (N := n + 1 + k) (a := n + 1) (n := k) (f := 1050) (g := 0) hq (by omega) (by rw [he]; exact he2) gq (by omega) (by omega) (by omega)
  rw [h1, Nat.zero_add, h2]
  show _ ++ _ :: wl z (n + 1 + k) 1050 (n + 1) = _
  rw [h3]
  show _ ++ _ :: (_ ++ []) = _
  rw [List.append_nil]
  rfl
/-- The words of (?:p)(?:q). -/
theorem pair_words {z p q : Nat → Nat} {n k : Nat} (h0 : z 0 = 40) (h1 : z 1 = 63) (h2 : z 2 = 58) (hp : ∀ i, i < n → z (3 + i) = p i) (hc : z (3 + n) = 41) (g0 : z (4 + n) = 40) (g1 : z (5 + n) = 63) (g2 : z (6 + n) = 58) (hq : ∀ i, i < k → z (7 + n + i) = q i) (gc : z (7 + n + k) = 41) (hN : 8 + n + k ≤ 1024) (gp : ∀ s ∈ wl p n 1100 0, s.er = 0) (gq : ∀ s ∈ wl q k 1100 0, s.er = 0) :
    wl z (8 + n + k) 1100 0 = .sgn 4 0 0 3 :: ((wl p n 1100 0).map (TokS.fwd 3) ++ .sgn 5 0 (3 + n) (4 + n) :: .sgn 4 0 (4 + n) (7 + n) :: ((wl q k 1100 0).map (TokS.fwd (7 + n)) ++ [.sgn 5 0 (7 + n + k) (8 + n + k)])) := by
  have w0 := wl_step (f := 1099) (by omega : 0 < 8 + n + k) (open_word (by omega) h0 h1 h2) rfl
  have w1 := wl_part (z := z) (x := p) (N := 8 + n + k) (a := 3) (n := n) (f := 1099) (g := 1060 + 1) hp (by omega) (by rw [hc]; decide) gp (by omega) (by omega) (by omega)
  have w2 := wl_step (f := 1060) (by omega : 3 + n < 8 + n + k) (sign_word 5 (by omega) (.inl ⟨hc, rfl⟩)) rfl
  have w3 := wl_step (f := 1059) (by omega : 4 + n < 8 + n + k) (open_word (by omega) g0 (by rw [show 4 + n + 1 = 5 + n by omega]; exact g1) (by rw [show 4 + n + 2 = 6 + n by omega]; exact g2)) rfl
  have w4 := wl_part (z := z) (x := q) (N := 8 + n + k) (a := 7 + n) (n := k) (f := 1059) (g := 1030 + 1) hq (by omega) (by rw [gc]; decide) gq (by omega) (by omega) (by omega)
  have w5 := wl_step (f := 1030) (by omega : 7 + n + k < 8 + n + k) (sign_word 5 (by omega) (.inl ⟨gc, rfl⟩)) rfl
  have w6 : wl z (8 + n + k) 1030 (8 + n + k) = [] := by rw [wl, if_pos (Nat.le_refl _)]
  have e1 : (3 + n) + 1 = 4 + n := by omega
  have e2 : (4 + n) + 3 = 7 + n := by omega
  have e3 : (7 + n + k) + 1 = 8 + n + k := by omega
  rw [w0]
  show _ :: wl z (8 + n + k) 1099 3 = _
  rw [w1, w2]
  show _ :: (_ ++ _ :: wl z (8 + n + k) 1060 (3 + n + 1)) = _
  rw [e1, w3]
  show _ :: (_ ++ _ :: _ :: wl z (8 + n + k) 1059 (4 + n + 3)) = _
  rw [e2, w4, w5]
  show _ :: (_ ++ _ :: _ :: (_ ++ _ :: wl z (8 + n + k) 1030 (7 + n + k + 1))) = _
  rw [e3, w6]
  rfl
end Go.Proofs.Ytlmmiicibjfcdaa
namespace Go.Proofs.Ytlmmiicibjfcdaa
/-- Tokens that are those of X as far as m. -/
theorem like_run {X Z : Nat → Tp} {m : Nat} (hl : ∀ i, i < m → (X i).Like (Z i)) : ∀ {i : Nat} {p : Ps}, i ≤ m → runP X i = .ok p → runP Z i = .ok p ∧ bldT Z i = bldT X i
  | 0, p, _, h => by cases h; exact ⟨rfl, rfl⟩
  | i + 1, q, hi, hq => by
    obtain ⟨p, hp, hs⟩ := runP_prev hq
    obtain ⟨h1, h2⟩ := like_run hl (by omega) hp
    have hk := hl i (by omega)
    refine ⟨?_, by rw [bldT, h2, tkT_like hk, bldT]⟩
    rw [runP, h1]
    show stepP Z p i = _
    rw [← hs]
    unfold stepP at hs ⊢
    rw [hk.ok, hk.k]
    split at hs
    · cases hs
    rename_i h0
    rw [if_neg h0]
    split at hs
    · rename_i h4; rw [if_pos h4, if_neg h0, if_pos h4]
    rename_i h4
    rw [if_neg h4, if_neg h0, if_neg h4]
    split at hs
    · rename_i h6; rw [if_pos h6, if_pos h6]
    rename_i h6
    rw [if_neg h6, if_neg h6]
    split at hs
    · rename_i h5
      rw [if_pos h5, if_pos h5]
      split at hs
      · cases hs
      · rfl
    rename_i h5
    rw [if_neg h5, if_neg h5]
    split at hs
    · rename_i h7
      rw [if_pos h7, if_pos h7]
      split at hs
      · rename_i ha; rw [if_pos ha, if_pos ha]
      · cases hs
    rename_i h7
    rw [if_neg h7, if_neg h7]
/-- The lowest level, with sequences ahead of it. -/
def onB (b : Option Tre) : List Lt → List Lt
  | [] => []
  | [L] => [⟨(match b with | none => L.b | some x => some x), L.r, L.i⟩]
  | L :: M :: R => L :: onB b (M :: R)
theorem onB_cons (b : Option Tre) (L M : Lt) (R : List Lt) : onB b (L :: M :: R) = L :: onB b (M :: R) := rfl
theorem onB_none : ∀ S : List Lt, onB none S = S
  | [] => rfl
  | [L] => rfl
  | L :: M :: R => by rw [onB_cons, onB_none (M :: R)]
/-- A level's parts but for the sequences ahead. -/
theorem onB_top (b : Option Tre) (L : Lt) (R : List Lt) : ∃ x R', onB b (L :: R) = ⟨x, L.r, L.i⟩ :: R' := by
  cases R with
  | nil => exact ⟨_, _, rfl⟩
  | cons M R => exact ⟨L.b, _, by rw [onB_cons]⟩
/-- The tokens Z from s on are those of Y; under them lie levels R and groups q; b: the sequences ahead of the lowest one. -/
structure Ont (Y Z : Nat → Tp) (k s : Nat) : Prop where
  like : ∀ i, i < k → (Y i).Like (Z (s + i))
theorem ont_bld {Y Z : Nat → Tp} {k s : Nat} {b : Option Tre} {R : List Lt} (h : Ont Y Z k s) (h0 : bldT Z s = ⟨b, none, none⟩ :: R)
    (hb : b = none ∨ ∀ i p, i < k → runP Y i = .ok p → (Y i).k = 6 → p.op ≠ []) :
    ∀ {i : Nat} {p : Ps}, i ≤ k → runP Y i = .ok p → bldT Z (s + i) = onB b (bldT Y i) ++ R
  | 0, p, _, _ => by
    rw [Nat.add_zero, h0]
    show _ = onB b [Lt.nul] ++ R
    cases b <;> rfl
  | i + 1, q, hi, hq => by
    obtain ⟨p, hp, hs⟩ := runP_prev hq
    have ih := ont_bld h h0 hb (by omega) hp
    obtain ⟨L, S, hbl, hS⟩ := run_level hp
    show bldT Z (s + i + 1) = _
    rw [bldT, ih, tkT_like (h.like i (by omega)), bldT, hbl]
    rcases hb with rfl | hnb
    · rw [onB_none, onB_none, List.cons_append, tkT_cons, tkT_cons]
      unfold stepP at hs
      split at hs
      · cases hs
      split
      · rfl
      rename_i h4
      rw [if_neg h4] at hs
      split
      · rfl
      rename_i h6
      rw [if_neg h6] at hs
      split
      · rename_i h5
        rw [if_pos h5] at hs
        split at hs
        · cases hs
        · rename_i o r ho
          rw [ho] at hS
          cases S with
          | nil => simp at hS
          | cons M S' => rfl
      split
      · rfl
      · rfl
    · have h6n := hnb i p (by omega) hp
      cases S with
      | nil =>
        have hop : p.op = [] := List.eq_nil_of_length_eq_zero (by simpa using hS.symm)
        have h6 : (Y i).k ≠ 6 := fun h => h6n h hop
        show tkT (Y i) (_ :: R) = _
        rw [tkT_cons, tkT_cons]
        unfold stepP at hs
        split at hs
        · cases hs
        split
        · rfl
        rename_i h4
        rw [if_neg h4] at hs
        split
        · rename_i h5
          rw [if_pos h5, hop] at hs
          cases hs
        split
        · rfl
        · rfl
      | cons M S' =>
        rw [onB_cons, List.cons_append, tkT_cons, tkT_cons]
        obtain ⟨x, R', hx⟩ := onB_top b M S'
        split
        · rfl
        rename_i h4
        split
        · rfl
        rename_i h6
        split
        · rename_i h5
          rw [hx]
          show _ = onB b (⟨M.b, M.r, L.eS.b⟩ :: S') ++ R
          cases S' with
          | nil =>
            cases hx
            rfl
          | cons K S'' =>
            rw [onB_cons] at hx ⊢
            obtain ⟨g1, g2⟩ := List.cons.inj hx
            have gx : x = M.b := by rw [g1]
            rw [← g2, gx]
            rfl
        split
        · rfl
        · rfl
theorem ont_run {Y Z : Nat → Tp} {k s : Nat} {q0 : List Nat} {c0 : Nat → Int} (h : Ont Y Z k s) (h0 : runP Z s = .ok ⟨q0, 0, c0⟩) :
    ∀ {i : Nat} {p : Ps}, i ≤ k → runP Y i = .ok p → ∃ cl', runP Z (s + i) = .ok ⟨p.op.map (s + ·) ++ q0, p.ah, cl'⟩ ∧ (∀ o, o < i → o ∉ p.op → (Y o).k = 4 → cl' (s + o) = p.cl o + s) ∧ ∀ j, j < s → cl' j = c0 j
  | 0, p, _, hp => by
    cases hp
    exact ⟨c0, h0, fun o ho => by omega, fun _ _ => rfl⟩
  | i + 1, q, hi, hq => by
    obtain ⟨p, hp, hs⟩ := runP_prev hq
    obtain ⟨cl', hr, hc, hc0⟩ := ont_run h h0 (by omega) hp
    have hk := h.like i (by omega)
    show ∃ cl'', runP Z (s + i + 1) = _ ∧ _
    rw [runP, hr]
    show ∃ cl'', stepP Z ⟨p.op.map (s + ·) ++ q0, p.ah, cl'⟩ (s + i) = _ ∧ _
    unfold stepP at hs ⊢
    rw [hk.ok, hk.k]
    split at hs
    · cases hs
    rename_i hok
    rw [if_neg hok]
    split at hs
    · rename_i h4
      cases hs
      rw [if_pos h4]
      refine ⟨cl', rfl, fun o ho hn h4' => hc o ?_ (fun hm => hn (by simp [hm])) h4', hc0⟩
      have : o ≠ i := fun e => hn (by simp [e])
      omega
    rename_i h4
    have hlt : ∀ o, o < i + 1 → (Y o).k = 4 → o < i := fun o ho h => by
      by_cases e : o = i
      · subst e; exact absurd h h4
      · omega
    rw [if_neg h4]
    split at hs
    · rename_i h6
      cases hs
      rw [if_pos h6]
      exact ⟨cl', rfl, fun o ho hn h4' => hc o (hlt o ho h4') hn h4', hc0⟩
    rename_i h6
    rw [if_neg h6]
    split at hs
    · rename_i h5
      rw [if_pos h5]
      split at hs
      · cases hs
      · rename_i o' r ho'
        cases hs
        rw [ho']
        refine ⟨_, rfl, fun o ho hn h4' => ?_, fun j hj => ?_⟩
        · show (if s + o = s + o' then ((s + i : Nat) : Int) else cl' (s + o)) = (if o = o' then (i : Int) else p.cl o) + s
          by_cases e : o = o'
          · subst e
            rw [if_pos rfl, if_pos rfl]
            omega
          · rw [if_neg (by omega), if_neg e]
            exact hc o (hlt o ho h4') (by rw [ho']; simp [e]; exact hn) h4'
        · have hno : j ≠ s + o' := by omega
          show (if j = s + o' then ((s + i : Nat) : Int) else cl' j) = c0 j
          rw [if_neg hno]
          exact hc0 j hj
    rename_i h5
    rw [if_neg h5]
    split at hs
    · rename_i h7
      rw [if_pos h7]
      split at hs
      · rename_i ha
        cases hs
        dsimp only
        rw [if_pos ha]
        exact ⟨cl', rfl, fun o ho hn h4' => hc o (hlt o ho h4') hn h4', hc0⟩
      · cases hs
    rename_i h7
    rw [if_neg h7]
    split at hs
    · rename_i h8
      cases hs
      rw [if_pos h8]
      exact ⟨cl', rfl, fun o ho hn h4' => hc o (hlt o ho h4') hn h4', hc0⟩
    · rename_i h8
      cases hs
      rw [if_neg h8]
      exact ⟨cl', rfl, fun o ho hn h4' => hc o (hlt o ho h4') hn h4', hc0⟩
/-- One behind the other, each in a group. -/
structure Pair2 (X Y Z : Nat → Tp) (m k : Nat) : Prop where
  o1 : (Z 0).k = 4 ∧ (Z 0).ok = true
  x : Ont X Z m 1
  c1 : (Z (1 + m)).k = 5 ∧ (Z (1 + m)).ok = true
  o2 : (Z (2 + m)).k = 4 ∧ (Z (2 + m)).ok = true
  y : Ont Y Z k (3 + m)
  c2 : (Z (3 + m + k)).k = 5 ∧ (Z (3 + m + k)).ok = true
theorem step_open {Z : Nat → Tp} {i : Nat} {q : List Nat} {ah : Int} {c : Nat → Int} (h : (Z i).k = 4 ∧ (Z i).ok = true) (hr : runP Z i = .ok ⟨q, ah, c⟩) : runP Z (i + 1) = .ok ⟨i :: q, 0, c⟩ := by
  rw [runP, hr]
  show stepP Z _ i = _
  unfold stepP
  rw [if_neg (by rw [h.2]; decide), if_pos h.1]
theorem step_close {Z : Nat → Tp} {i o : Nat} {q : List Nat} {ah : Int} {c : Nat → Int} (h : (Z i).k = 5 ∧ (Z i).ok = true) (hr : runP Z i = .ok ⟨o :: q, ah, c⟩) : runP Z (i + 1) = .ok ⟨q, 2, fun j => if j = o then (i : Int) else c j⟩ := by
  rw [runP, hr]
  show stepP Z _ i = _
  unfold stepP
  rw [if_neg (by rw [h.2]; decide), if_neg (by omega), if_neg (by omega), if_pos h.1]
theorem step_bar {Z : Nat → Tp} {i : Nat} {q : List Nat} {ah : Int} {c : Nat → Int} (h : (Z i).k = 6 ∧ (Z i).ok = true) (hr : runP Z i = .ok ⟨q, ah, c⟩) : runP Z (i + 1) = .ok ⟨q, 0, c⟩ := by
  rw [runP, hr]
  show stepP Z _ i = _
  unfold stepP
  rw [if_neg (by rw [h.2]; decide), if_neg (by omega), if_pos h.1]
theorem bld_open {Z : Nat → Tp} {i : Nat} {L : Lt} {R : List Lt} (h : (Z i).k = 4) (hb : bldT Z i = L :: R) : bldT Z (i + 1) = Lt.nul :: L.eI :: R := by rw [bldT, hb, tkT_cons, if_pos h]
theorem bld_close {Z : Nat → Tp} {i : Nat} {L M : Lt} {R : List Lt} (h : (Z i).k = 5) (hb : bldT Z i = L :: M :: R) : bldT Z (i + 1) = ⟨M.b, M.r, L.eS.b⟩ :: R := by rw [bldT, hb, tkT_cons, if_neg (by omega), if_neg (by omega), if_pos h]
theorem bld_bar {Z : Nat → Tp} {i : Nat} {L : Lt} {R : List Lt} (h : (Z i).k = 6) (hb : bldT Z i = L :: R) : bldT Z (i + 1) = L.eS :: R := by rw [bldT, hb, tkT_cons, if_neg (by omega), if_pos h]
theorem tre_of {X : Nat → Tp} {m : Nat} {cl : Nat → Int} (hp : prsE X m = .ok cl) : ∃ L, bldT X m = [L] ∧ L.eS.b = some (treT X m) := by
  obtain ⟨L, hb, _⟩ := one_level hp
  obtain ⟨y, hy⟩ := eS_some L
  refine ⟨L, hb, ?_⟩
  unfold treT
  rw [hb]
  show L.eS.b = some (L.eS.b.getD emp)
  rw [hy]; rfl
theorem pair_tree {X Y Z : Nat → Tp} {m k : Nat} {cx cy : Nat → Int} (h : Pair2 X Y Z m k) (hx : prsE X m = .ok cx) (hy : prsE Y k = .ok cy) : (∃ cl, prsE Z (4 + m + k) = .ok cl) ∧ treT Z (4 + m + k) = .two 3 (treT X m) (treT Y k) := by
  obtain ⟨ax, rx⟩ := prsE_run hx
  obtain ⟨ay, ry⟩ := prsE_run hy
  obtain ⟨LX, bX, tX⟩ := tre_of hx
  obtain ⟨LY, bY, tY⟩ := tre_of hy
  have r1 := step_open (i := 0) (q := []) (ah := 0) (c := fun _ => 0) h.o1 rfl
  have b1 : bldT Z 1 = ⟨none, none, none⟩ :: [Lt.nul] := bld_open (L := Lt.nul) h.o1.1 rfl
  obtain ⟨c1, r2, _, _⟩ := ont_run h.x r1 (Nat.le_refl m) rx
  have b2 := ont_bld h.x b1 (.inl rfl) (Nat.le_refl m) rx
  rw [onB_none, bX] at b2
  have r3 := step_close h.c1 (o := 0) (q := []) (by simpa using r2)
  have b3 := bld_close h.c1.1 (L := LX) (M := Lt.nul) (R := []) b2
  rw [show 1 + m + 1 = 2 + m by omega] at r3 b3
  have r4 := step_open h.o2 r3
  have b4 := bld_open h.o2.1 b3
  rw [show 2 + m + 1 = 3 + m by omega] at r4 b4
  have b4' : bldT Z (3 + m) = ⟨none, none, none⟩ :: [⟨none, LX.eS.b, none⟩] := b4
  obtain ⟨c2, r5, _, _⟩ := ont_run h.y r4 (Nat.le_refl k) ry
  have b5 := ont_bld h.y b4' (.inl rfl) (Nat.le_refl k) ry
  rw [onB_none, bY] at b5
  have r6 := step_close h.c2 (o := 2 + m) (q := []) (by simpa using r5)
  have b6 := bld_close h.c2.1 (L := LY) (M := ⟨none, LX.eS.b, none⟩) (R := []) b5
  rw [show 3 + m + k + 1 = 4 + m + k by omega] at r6 b6
  refine ⟨⟨_, by unfold prsE; rw [r6]⟩, ?_⟩
  unfold treT
  rw [b6]
  show (Lt.eS ⟨none, LX.eS.b, LY.eS.b⟩).b.getD emp = _
  rw [tX, tY]
  rfl
/-- Side by side. -/
structure Bar2 (X Y Z : Nat → Tp) (m k : Nat) : Prop where
  x : ∀ i, i < m → (X i).Like (Z i)
  bar : (Z m).k = 6 ∧ (Z m).ok = true
  y : Ont Y Z k (m + 1)
  no : ∀ i p, i < k → runP Y i = .ok p → (Y i).k = 6 → p.op ≠ []
/-- No bar: no sequences ahead. -/
theorem no_bars {Y : Nat → Tp} {k : Nat} (hn : ∀ i p, i < k → runP Y i = .ok p → (Y i).k = 6 → p.op ≠ []) : ∀ {i : Nat} {p : Ps}, i ≤ k → runP Y i = .ok p → ∃ S L, bldT Y i = S ++ [L] ∧ L.b = none
  | 0, p, _, _ => ⟨[], Lt.nul, rfl, rfl⟩
  | i + 1, q, hi, hq => by
    obtain ⟨p, hp, hs⟩ := runP_prev hq
    obtain ⟨S, L, hb, hL⟩ := no_bars hn (by omega) hp
    obtain ⟨K, R, hb', hR⟩ := run_level hp
    have hno := hn i p (by omega) hp
    rw [bldT, hb]
    cases S with
    | nil =>
      have hop : p.op = [] := by
        rw [hb] at hb'
        cases hb'
        exact List.eq_nil_of_length_eq_zero (by simpa using hR.symm)
      have h6 : (Y i).k ≠ 6 := fun h => hno h hop
      show ∃ S' L', tkT (Y i) [L] = S' ++ [L'] ∧ _
      rw [tkT_cons]
      unfold stepP at hs
      split at hs
      · cases hs
      split
      · exact ⟨[Lt.nul], L.eI, rfl, hL⟩
      rename_i h4
      rw [if_neg h4] at hs
      first | rw [if_neg h6] at hs | skip
      first | rw [if_neg h6] | skip
      split
      · rename_i h5
        rw [if_pos h5, hop] at hs
        cases hs
      split
      · exact ⟨[], _, rfl, hL⟩
      · exact ⟨[], _, rfl, hL⟩
    | cons N S' =>
      show ∃ S2 L2, tkT (Y i) (N :: (S' ++ [L])) = S2 ++ [L2] ∧ _
      rw [tkT_cons]
      split
      · exact ⟨Lt.nul :: N.eI :: S', L, rfl, hL⟩
      split
      · exact ⟨N.eS :: S', L, rfl, hL⟩
      split
      · cases S' with
        | nil => exact ⟨[], ⟨L.b, L.r, N.eS.b⟩, rfl, hL⟩
        | cons M S'' => exact ⟨⟨M.b, M.r, N.eS.b⟩ :: S'', L, rfl, hL⟩
      split
      · exact ⟨_ :: S', L, rfl, hL⟩
      · exact ⟨_ :: S', L, rfl, hL⟩
theorem bar_tree {X Y Z : Nat → Tp} {m k : Nat} {cx cy : Nat → Int} (h : Bar2 X Y Z m k) (hx : prsE X m = .ok cx) (hy : prsE Y k = .ok cy) : (∃ cl, prsE Z (m + 1 + k) = .ok cl ∧ (∀ o, o < k → (Y o).k = 4 → cl (m + 1 + o) = cy o + (m + 1 : Nat)) ∧ ∀ j, j < m + 1 → cl j = cx j) ∧ treT Z (m + 1 + k) = .two 4 (treT X m) (treT Y k) := by
  obtain ⟨ax, rx⟩ := prsE_run hx
  obtain ⟨ay, ry⟩ := prsE_run hy
  obtain ⟨LX, bX, tX⟩ := tre_of hx
  obtain ⟨LY, bY, tY⟩ := tre_of hy
  obtain ⟨r1, b1⟩ := like_run h.x (Nat.le_refl m) rx
  rw [bX] at b1
  have r2 := step_bar h.bar r1
  have b2 := bld_bar h.bar.1 b1
  have b2' : bldT Z (m + 1) = ⟨LX.eS.b, none, none⟩ :: [] := b2
  obtain ⟨c1, r3, hc1, hc2⟩ := ont_run h.y r2 (Nat.le_refl k) ry
  have b3 := ont_bld h.y b2' (.inr h.no) (Nat.le_refl k) ry
  rw [bY] at b3
  obtain ⟨S, L, hb, hL⟩ := no_bars h.no (Nat.le_refl k) ry
  have hLY : LY.b = none := by
    rw [bY] at hb
    cases S with
    | nil => cases hb; exact hL
    | cons _ S' => simp at hb
  refine ⟨⟨c1, by unfold prsE; rw [r3]; rfl, fun o ho h4 => hc1 o ho (by simp) h4, hc2⟩, ?_⟩
  unfold treT
  rw [b3, bX, bY]
  rw [tX]
  show (Lt.eS ⟨some (treT X m), LY.r, LY.i⟩).b.getD emp = Tre.two 4 (LX.eS.b.getD emp) (LY.eS.b.getD emp)
  have e1 : LX.eS.b.getD emp = treT X m := by rw [tX]; rfl
  rw [e1]
  unfold Lt.eS
  rw [hLY]
  rfl
theorem like_anc {X Z : Nat → Tp} {m n : Nat} {cx cl : Nat → Int} (hl : ∀ i, i < m → (X i).Like (Z i)) (hb : (Z m).k = 6) (hn : m < n) (hc : ∀ o, o < m → (X o).k = 4 → ∃ c : Nat, cx o = c ∧ c < m) (he : ∀ j, j < m → cl j = cx j) :
    ∀ {i : Nat} {rs : List (Bool × Bool)}, i ≤ m → runA X m cx i = .ok rs → runA Z n cl i = .ok rs
  | 0, rs, _, h => h
  | i + 1, rs, hi, h => by
    rw [runA] at h
    cases har : runA X m cx i with
    | error e => rw [har] at h; cases h
    | ok rs0 =>
    rw [har] at h
    have ih := like_anc hl hb hn hc he (by omega) har
    rw [runA, ih]
    show stepA Z n cl rs0 i = _
    have hk := (hl i (by omega)).k
    have hf : fstA Z i = fstA X i := by
      unfold fstA
      cases i with
      | zero => rfl
      | succ j =>
        have := (hl j (by omega)).k
        simp [this]
    have hlst : ∀ c, c < m → lstA Z n c = lstA X m c := fun c hc => by
      unfold lstA
      by_cases e : c + 1 = m
      · rw [e, hb]; simp
      · have := (hl (c + 1) (by omega)).k
        rw [this, decide_eq_false (by omega), decide_eq_false e]
    have hrep : ∀ c, c < m → repA Z n c = repA X m c := fun c hc => by
      unfold repA
      by_cases e : c + 1 = m
      · rw [e, hb]; simp
      · have := (hl (c + 1) (by omega)).k
        rw [this, decide_eq_true (by omega), decide_eq_true (by omega)]
    have h' : stepA X m cx rs0 i = .ok rs := h
    clear h
    by_cases h4 : (X i).k = 4
    · obtain ⟨c, hc1, hc2⟩ := hc i (by omega) h4
      unfold stepA at h' ⊢
      rw [hk, if_pos h4] at *
      rw [he i (by omega), hc1, Int.toNat_natCast, hf, hrep c hc2, hlst c hc2]
      rw [hc1, Int.toNat_natCast] at h'
      exact h'
    · unfold stepA at h' ⊢
      rw [hk, hf, hlst i (by omega)]
      rw [if_neg h4] at h' ⊢
      by_cases h5 : (X i).k = 5
      · rw [if_pos h5] at h' ⊢; exact h'
      rw [if_neg h5] at h' ⊢
      by_cases h8 : (X i).k = 8
      · rw [if_pos h8] at h' ⊢
        split at h'
        · rename_i hh; rw [if_pos hh]; exact h'
        · cases h'
      rw [if_neg h8] at h' ⊢
      by_cases h9 : (X i).k = 9
      · rw [if_pos h9] at h' ⊢
        split at h'
        · rename_i hh; rw [if_pos hh]; exact h'
        · cases h'
      rw [if_neg h9] at h' ⊢
      exact h'
theorem ont_anc {Y Z : Nat → Tp} {k s : Nat} {cy cl : Nat → Int} (h : Ont Y Z k s) (hs : 0 < s) (hp : (Z (s - 1)).k = 6) (hc : ∀ o, o < k → (Y o).k = 4 → ∃ c : Nat, cy o = c ∧ c < k) (he : ∀ o, o < k → (Y o).k = 4 → cl (s + o) = cy o + s) (h0 : runA Z (s + k) cl s = .ok [(true, true)]) :
    ∀ {i : Nat} {rs : List (Bool × Bool)}, i ≤ k → runA Y k cy i = .ok rs → runA Z (s + k) cl (s + i) = .ok rs
  | 0, rs, _, hr => by cases hr; exact h0
  | i + 1, rs, hi, hr => by
    rw [runA] at hr
    cases har : runA Y k cy i with
    | error e => rw [har] at hr; cases hr
    | ok rs0 =>
    rw [har] at hr
    have ih := ont_anc h hs hp hc he h0 (by omega) har
    show runA Z (s + k) cl (s + i + 1) = _
    rw [runA, ih]
    show stepA Z (s + k) cl rs0 (s + i) = _
    have hk := (h.like i (by omega)).k
    have hf : fstA Z (s + i) = fstA Y i := by
      unfold fstA
      cases i with
      | zero => rw [Nat.add_zero, hp]; simp
      | succ j =>
        have := (h.like j (by omega)).k
        rw [show s + (j + 1) - 1 = s + j by omega, this]
        simp
    have hlst : ∀ c, c < k → lstA Z (s + k) (s + c) = lstA Y k c := fun c hc => by
      unfold lstA
      by_cases e : c + 1 = k
      · rw [decide_eq_true (by omega), decide_eq_true e]; simp
      · have := (h.like (c + 1) (by omega)).k
        rw [show s + c + 1 = s + (c + 1) by omega, this, decide_eq_false (by omega), decide_eq_false e]
    have hrep : ∀ c, c < k → repA Z (s + k) (s + c) = repA Y k c := fun c hc => by
      unfold repA
      by_cases e : c + 1 = k
      · rw [decide_eq_false (by omega), decide_eq_false (by omega)]; rfl
      · have := (h.like (c + 1) (by omega)).k
        rw [show s + c + 1 = s + (c + 1) by omega, this, decide_eq_true (by omega), decide_eq_true (by omega)]
    have h' : stepA Y k cy rs0 i = .ok rs := hr
    clear hr
    by_cases h4 : (Y i).k = 4
    · obtain ⟨c, hc1, hc2⟩ := hc i (by omega) h4
      unfold stepA at h' ⊢
      rw [hk, if_pos h4] at *
      rw [he i (by omega) h4, hc1, show ((c : Int) + (s : Int)).toNat = s + c by omega, hf, hrep c hc2, hlst c hc2]
      rw [hc1, Int.toNat_natCast] at h'
      exact h'
    · unfold stepA at h' ⊢
      rw [hk, hf, hlst i (by omega)]
      rw [if_neg h4] at h' ⊢
      by_cases h5 : (Y i).k = 5
      · rw [if_pos h5] at h' ⊢; exact h'
      rw [if_neg h5] at h' ⊢
      by_cases h8 : (Y i).k = 8
      · rw [if_pos h8] at h' ⊢
        split at h'
        · rename_i hh; rw [if_pos hh]; exact h'
        · cases h'
      rw [if_neg h8] at h' ⊢
      by_cases h9 : (Y i).k = 9
      · rw [if_pos h9] at h' ⊢
        split at h'
        · rename_i hh; rw [if_pos hh]; exact h'
        · cases h'
      rw [if_neg h9] at h' ⊢
      exact h'
theorem toks_bar {X Y Z : Nat → Tp} {m k : Nat} {la lb : List Nd} (h : Bar2 X Y Z m k) (hx : toksS X m = .ok la) (hy : toksS Y k = .ok lb) (htx : ∀ i, i < m → 0 ≤ (X i).t) (hty : ∀ i, i < k → 0 ≤ (Y i).t) (hz : (treT X m).size + (treT Y k).size + 1 ≤ 2048) : toksS Z (m + 1 + k) = .ok (ndF (Tre.two 4 (treT X m) (treT Y k)).subs) := by
  obtain ⟨cx, px, _, wx, _⟩ := toksS_parts hx
  obtain ⟨cy, py, _, wy', _⟩ := toksS_parts hy
  obtain ⟨⟨cl, hp, hc1, hc2⟩, ht⟩ := bar_tree h px py
  obtain ⟨ax, rx⟩ := prsE_run px
  obtain ⟨ay, ry⟩ := prsE_run py
  obtain ⟨rsx, ax'⟩ := runA_good htx wx
  obtain ⟨rsy, ay'⟩ := runA_good hty wy'
  have lx := runA_ln rx ax'
  have g1 := like_anc (n := m + 1 + k) (cl := cl) h.x h.bar.1 (by omega) (closed rx) (fun j hj => hc2 j (by omega)) (Nat.le_refl m) ax'
  obtain ⟨_, _, hm, hn⟩ := one_level hp
  have hrx : rsx = [(true, true)] := by
    have : ∀ {i : Nat} {p : Ps} {rs : List (Bool × Bool)}, runP X i = .ok p → runA X m cx i = .ok rs → ∃ r, rs = r ++ [(true, true)] := by
      intro i
      induction i with
      | zero => intro p rs _ h; cases h; exact ⟨[], rfl⟩
      | succ i ih =>
        intro q rs hq hr
        obtain ⟨p, hp', hs⟩ := runP_prev hq
        rw [runA] at hr
        cases har : runA X m cx i with
        | error e => rw [har] at hr; cases hr
        | ok rs0 =>
        rw [har] at hr
        obtain ⟨r, rfl⟩ := ih hp' har
        have hl := runA_ln hp' har
        have hr' : stepA X m cx (r ++ [(true, true)]) i = .ok rs := hr
        unfold stepA at hr'
        unfold stepP at hs
        split at hs
        · cases hs
        split at hr'
        · cases hr'; exact ⟨_ :: r, rfl⟩
        rename_i h4
        rw [if_neg h4] at hs
        split at hr'
        · rename_i h5
          rw [if_neg (by omega), if_pos h5] at hs
          cases hr'
          split at hs
          · cases hs
          · rename_i o q' ho
            rw [ho] at hl
            cases r with
            | nil => simp at hl
            | cons x r' => exact ⟨r', rfl⟩
        split at hr'
        · split at hr'
          · cases hr'; exact ⟨r, rfl⟩
          · cases hr'
        split at hr'
        · split at hr'
          · cases hr'; exact ⟨r, rfl⟩
          · cases hr'
        · cases hr'; exact ⟨r, rfl⟩
    obtain ⟨r, rfl⟩ := this rx ax'
    have : r = [] := List.eq_nil_of_length_eq_zero (by simpa using lx)
    rw [this]; rfl
  subst hrx
  have g2 : runA Z (m + 1 + k) cl (m + 1) = .ok [(true, true)] := by
    rw [runA, g1]
    show stepA Z _ cl _ m = _
    unfold stepA
    have := h.bar.1
    rw [if_neg (by omega), if_neg (by omega), if_neg (by omega), if_neg (by omega)]
  have g3 := ont_anc (cl := cl) h.y (by omega) (by rw [Nat.add_sub_cancel]; exact h.bar.1) (closed ry) (fun o ho h4 => hc1 o ho h4) g2 (Nat.le_refl k) ay'
  have hw : wrgA Z (m + 1 + k) cl = -1 := by unfold wrgA; rw [g3]
  have := toksS_of hp (by rw [hn.1, ht]; exact hz) hw
  rw [this, hn.2, ht, List.take_of_length_le]
  rw [ndF_len, Tre.subs_length]
  exact hz
/-- One behind the other, each in a group: the tree, or an anchor that cannot stand. -/
theorem toks_pair {X Y Z : Nat → Tp} {m k : Nat} {la lb : List Nd} (h : Pair2 X Y Z m k) (hx : toksS X m = .ok la) (hy : toksS Y k = .ok lb) (hz : (treT X m).size + (treT Y k).size + 1 ≤ 2048) : toksS Z (4 + m + k) = .ok (ndF (Tre.two 3 (treT X m) (treT Y k)).subs) ∨ ∃ at_, toksS Z (4 + m + k) = .error (at_, 51) := by
  obtain ⟨cx, px, _, _, _⟩ := toksS_parts hx
  obtain ⟨cy, py, _, _, _⟩ := toksS_parts hy
  obtain ⟨⟨cl, hp⟩, ht⟩ := pair_tree h px py
  obtain ⟨_, _, _, hm, hn⟩ := one_level hp
  by_cases hw : wrgA Z (4 + m + k) cl = -1
  · left
    rw [toksS_of hp (by rw [hm, ht]; exact hz) hw, hn, ht, List.take_of_length_le]
    rw [ndF_len, Tre.subs_length]
    exact hz
  · right
    refine ⟨wrgA Z (4 + m + k) cl, ?_⟩
    unfold toksS
    rw [hp]
    dsimp only
    rw [if_neg (by rw [hm, ht]; exact Nat.not_lt.2 hz), if_pos hw]
end Go.Proofs.Ytlmmiicibjfcdaa
