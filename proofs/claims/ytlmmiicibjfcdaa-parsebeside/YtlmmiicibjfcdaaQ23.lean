/- token: what is lexed may be; what is known of a token that may be. parse: Tokens, Parse: the walks. -/
import Derived.Test.YtlmmiicibjfcdaaQ16
import Derived.Test.YtlmmiicibjfcdaaQ22
import Derived.Test.YtlmmiicibjfcdaaQ21
import Derived.Test.YtlmmiicibjfcdaaQ12
namespace Go.Proofs.Ytlmmiicibjfcdaa
open Go.RowKit
/-- What is known of a token that may be. -/
theorem chk_parts {k : Int} {b : Nat} {P : Nat → Bool} {nt : Bool} {l m : Int} {lz : Bool} {t : Int} (h : chk k b P nt l m lz t = true) :
    (k ≠ 1 → b = 0) ∧ (k ≠ 2 → (∀ x, x < 256 → P x = false) ∧ nt = false) ∧ (k ≠ 7 → l = 0 ∧ m = 0 ∧ lz = false) ∧ (k = 2 → mayP P nt = true) ∧ (k = 7 → repP l m = true) ∧ (k ≠ 2 → k ≠ 7 → 1 ≤ k ∧ k ≤ 9) ∧ 0 ≤ t := by
  unfold chk at h
  simp only [Bool.and_eq_true, decide_eq_true_eq] at h
  obtain ⟨⟨⟨⟨h1, h2⟩, h3⟩, h4⟩, h5⟩ := h
  refine ⟨fun e => ?_, fun e => ?_, fun e => ?_, fun e => ?_, fun e => ?_, fun e e' => ?_, h1⟩
  · rw [if_neg e] at h2; simpa using h2
  · rw [if_neg e] at h3
    simp only [Bool.and_eq_true, Bool.not_eq_true'] at h3
    exact ⟨(eqC_iff _ _).1 h3.1, h3.2⟩
  · rw [if_neg e] at h4
    simp only [Bool.and_eq_true, beq_iff_eq, Bool.not_eq_true'] at h4
    exact ⟨h4.1.1, h4.1.2, h4.2⟩
  · rw [if_pos e] at h5; exact h5
  · rw [if_neg (by omega), if_pos e] at h5; exact h5
  · rw [if_neg e, if_neg e'] at h5
    simpa using h5
open Go.RowKit
/-- What is lexed may be. -/
def TokS.may (s : TokS) : Bool := chk s.k s.b s.P s.nt s.l s.m s.lz s.at_
theorem none_eq : eqC (fun _ => false) (fun _ => false) = true := (eqC_iff _ _).2 fun _ _ => rfl
theorem chk_sgn {k : Nat} {b at_ en : Nat} (h : k = 1 ∨ (b = 0 ∧ (k = 3 ∨ k = 4 ∨ k = 5 ∨ k = 6 ∨ k = 8 ∨ k = 9))) : (TokS.sgn k b at_ en).may = true := by
  show chk (k : Int) b (fun _ => false) false 0 0 false (at_ : Int) = true
  unfold chk
  rw [none_eq]
  rcases h with rfl | ⟨rfl, rfl | rfl | rfl | rfl | rfl | rfl⟩ <;> simp
theorem chk_cls {P : Nat → Bool} {nt : Bool} {at_ en : Nat} (h : mayP P nt = true) : (TokS.cls P nt at_ en).may = true := by
  show chk 2 0 P nt 0 0 false (at_ : Int) = true
  unfold chk
  simp [h]
theorem chk_rep {l m : Int} {lz : Bool} {at_ en : Nat} (h : repP l m = true) : (TokS.rep l m lz at_ en).may = true := by
  show chk 7 0 (fun _ => false) false l m lz (at_ : Int) = true
  unfold chk
  rw [none_eq]
  simp [h]
set_option maxRecDepth 100000 in
theorem nam_may : ∀ c ∈ [100, 119, 115, 68, 87, 83], mayP (namP c) false = true := by decide
theorem esc_chk {z : Nat → Nat} {n i : Nat} (hz : ∀ i, i < n → z i < 256) (e : (escS z n i).er = 0) : (escS z n i).may = true ∧ (escS z n i).b < 256 := by
  unfold escS at e ⊢
  split at e
  · cases e
  rename_i h0
  rw [if_neg h0]
  split at e
  · rename_i h1
    rw [if_pos h1]
    refine ⟨chk_cls ?_, by show 0 < 256; omega⟩
    rcases h1 with h | h | h | h | h | h <;> rw [h] <;> exact nam_may _ (by simp)
  rename_i h1
  rw [if_neg h1]
  split at e
  · rename_i h2
    rw [if_pos h2]; exact ⟨chk_sgn (.inl rfl), by show 10 < 256; omega⟩
  rename_i h2
  rw [if_neg h2]
  split at e
  · rename_i h3
    rw [if_pos h3]; exact ⟨chk_sgn (.inl rfl), by show 13 < 256; omega⟩
  rename_i h3
  rw [if_neg h3]
  split at e
  · rename_i h4
    rw [if_pos h4]; exact ⟨chk_sgn (.inl rfl), by show 9 < 256; omega⟩
  rename_i h4
  rw [if_neg h4]
  split at e
  · rename_i h5
    rw [if_pos h5]
    split at e
    · rename_i h6
      rw [if_pos h6]
      exact ⟨chk_sgn (.inl rfl), hexV_lt _ _ _⟩
    · cases e
  rename_i h5
  rw [if_neg h5]
  split at e
  · cases e
  rename_i h6
  rw [if_neg h6]
  split at e
  · cases e
  rename_i h7
  rw [if_neg h7]
  exact ⟨chk_sgn (.inl rfl), hz _ (by omega)⟩
theorem brkG_chk {z : Nat → Nat} {n at_ : Nat} {nt : Bool} : ∀ f i P, (brkG z n at_ nt f i P).er = 0 → (brkG z n at_ nt f i P).may = true ∧ (brkG z n at_ nt f i P).b < 256 := by
  intro f
  induction f with
  | zero => intro i P e; cases e
  | succ f ih =>
    intro i P e
    rw [brkG] at e ⊢
    split at e
    · cases e
    rename_i h0
    rw [if_neg h0]
    split at e
    · rename_i h1
      rw [if_pos h1]
      split at e
      · rename_i h2
        rw [if_pos h2]
        exact ⟨chk_cls h2, by show 0 < 256; omega⟩
      · cases e
    rename_i h1
    rw [if_neg h1]
    split at e
    · rename_i h2
      exact absurd e h2
    · rename_i h2
      rw [if_neg h2]
      exact ih _ _ e
theorem num_ok {z : Nat → Nat} {n k : Nat} (h : numOk z n k = true) : (numR z n k).1 ≤ 1000 := by
  unfold numOk at h
  simp only [Bool.and_eq_true, decide_eq_true_eq] at h
  exact h.1.2
theorem rep_ok {l : Nat} {m : Int} (hl : l ≤ 1000) (hm : m = -1 ∨ ((l : Int) ≤ m ∧ m ≤ 1000)) : repP l m = true := by
  unfold repP
  simp only [Bool.and_eq_true, decide_eq_true_eq]
  split <;> omega
theorem cnt_chk {z : Nat → Nat} {n k : Nat} (e : (cntV z n k).2.2.2 = 0) : repP (cntV z n k).1 (cntV z n k).2.1 = true := by
  unfold cntV at e ⊢
  split at e
  · cases e
  rename_i h0
  rw [if_neg h0]
  have h0' : numOk z n (k + 1) = true := by simpa using h0
  have h1 := num_ok h0'
  split at e
  · rename_i h2
    rw [if_pos h2]
    exact rep_ok h1 (.inr ⟨by dsimp only; omega, by dsimp only; omega⟩)
  rename_i h2
  rw [if_neg h2]
  split at e
  · cases e
  rename_i h3
  rw [if_neg h3]
  split at e
  · rename_i h4
    rw [if_pos h4]
    exact rep_ok h1 (.inl rfl)
  rename_i h4
  rw [if_neg h4]
  split at e
  · cases e
  rename_i h5
  rw [if_neg h5]
  split at e
  · cases e
  rename_i h6
  rw [if_neg h6]
  split at e
  · cases e
  rename_i h7
  rw [if_neg h7]
  simpa using h6
theorem rpt_chk {z : Nat → Nat} {n k : Nat} (e : (rptS z n k).er = 0) : (rptS z n k).may = true ∧ (rptS z n k).b < 256 := by
  have key : (repS z n k).2.2.2 = 0 → repP (repS z n k).1 (repS z n k).2.1 = true := by
    intro e
    unfold repS at e ⊢
    split at e
    · rename_i h; rw [if_pos h]; exact (by decide : repP 1 (-1) = true)
    rename_i h; rw [if_neg h]
    split at e
    · rename_i h; rw [if_pos h]; exact (by decide : repP 0 (-1) = true)
    rename_i h; rw [if_neg h]
    split at e
    · rename_i h; rw [if_pos h]; exact (by decide : repP 0 1 = true)
    rename_i h; rw [if_neg h]
    exact cnt_chk e
  unfold rptS at e ⊢
  split at e
  · rename_i h; exact absurd e h
  rename_i h
  rw [if_neg h]
  have h' : (repS z n k).2.2.2 = 0 := Classical.byContradiction h
  split at e
  · rename_i h2
    rw [if_pos h2]
    exact ⟨chk_rep (key h'), by show 0 < 256; omega⟩
  · rename_i h2
    rw [if_neg h2]
    exact ⟨chk_rep (key h'), by show 0 < 256; omega⟩
theorem sgn_chk {z : Nat → Nat} {k : Nat} (hz : z k < 256) : (sgnS z k).may = true ∧ (sgnS z k).b < 256 := by
  unfold sgnS
  refine ⟨chk_sgn ?_, by show (if signK (z k) = 1 then z k else 0) < 256; split <;> omega⟩
  unfold signK
  repeat' split
  all_goals simp_all
theorem wrd_chk {z : Nat → Nat} {n k : Nat} (hz : ∀ i, i < n → z i < 256) (hk : k < n) (e : (wrd z n k).er = 0) : (wrd z n k).may = true ∧ (wrd z n k).b < 256 := by
  unfold wrd wrdS at e ⊢
  split at e
  · rename_i h; rw [if_pos h]; exact esc_chk hz e
  rename_i h; rw [if_neg h]
  split at e
  · rename_i h; rw [if_pos h]; exact brkG_chk _ _ _ e
  rename_i h; rw [if_neg h]
  split at e
  · rename_i h; rw [if_pos h]
    unfold opnS at e ⊢
    split at e
    · rename_i h2; rw [if_pos h2]; exact ⟨chk_sgn (k := 4) (.inr ⟨rfl, by omega⟩), by show 0 < 256; omega⟩
    rename_i h2; rw [if_neg h2]
    split at e
    · rename_i h3; rw [if_pos h3]; exact ⟨chk_sgn (k := 4) (.inr ⟨rfl, by omega⟩), by show 0 < 256; omega⟩
    · cases e
  rename_i h; rw [if_neg h]
  split at e
  · rename_i h; rw [if_pos h]; exact rpt_chk e
  rename_i h; rw [if_neg h]
  exact sgn_chk (hz k hk)
theorem wl_chk {z : Nat → Nat} {n : Nat} (hz : ∀ i, i < n → z i < 256) : ∀ (f i : Nat), ∀ s ∈ wl z n f i, s.er = 0 → s.may = true ∧ s.b < 256
  | 0, _, s, h, _ => by cases h
  | f + 1, i, s, h, e => by
    rw [wl] at h
    split at h
    · cases h
    rename_i hi
    rcases List.mem_cons.1 h with rfl | h
    · exact wrd_chk hz (by omega) e
    · split at h
      · exact wl_chk hz f _ s h e
      · cases h

theorem may_rep {l m : Int} (h : repP l m = true) : Tre.mayR l m = true := by
  unfold repP at h
  unfold Tre.mayR
  simp only [Bool.and_eq_true, decide_eq_true_eq] at h ⊢
  by_cases e : m = -1
  · rw [if_pos e] at h; omega
  · rw [if_neg e] at h; omega
theorem fine_tp (fl : Fg) {x : TkR} (h : (x.tp fl).ok = true) : Fine (x.tp fl) := by
  have hp := chk_parts h
  obtain ⟨_, _, _, _, h7, h9, _⟩ := hp
  refine ⟨fun e => may_rep (h7 e), fun h4 h5 h6 h7' => ?_, fun e => ?_, fun e => ?_⟩
  · show Tre.lf (leafS fl x.k x.b x.P x.nt).1 = true
    have h4 : x.k ≠ 4 := h4
    have h5 : x.k ≠ 5 := h5
    have h6 : x.k ≠ 6 := h6
    have h7' : x.k ≠ 7 := h7'
    unfold leafS
    split
    · simp [Tre.lf, clN, Nd.eq]
    split
    · simp [Tre.lf, clN, Nd.eq]
    split
    · simp [Tre.lf, clN, Nd.eq]
    split
    · decide
    split
    · decide
    · have := h9 (by omega) h7'
      omega
  · have e' : (leafS fl x.k x.b x.P x.nt).1.k = 6 := e
    show x.k = 8
    unfold leafS at e'
    split at e'
    · simp [clN] at e'
    split at e'
    · simp [clN] at e'
    split at e'
    · simp [clN] at e'
    split at e'
    · rename_i h; exact h
    split at e'
    · simp [ndK] at e'
    · simp [ndK] at e'
  · have e' : (leafS fl x.k x.b x.P x.nt).1.k = 7 := e
    show x.k = 9
    unfold leafS at e'
    split at e'
    · simp [clN] at e'
    split at e'
    · simp [clN] at e'
    split at e'
    · simp [clN] at e'
    split at e'
    · simp [ndK] at e'
    split at e'
    · rename_i h; exact h
    · simp [ndK] at e'
end Go.Proofs.Ytlmmiicibjfcdaa
namespace Go.Proofs.Ytlmmiicibjfcdaa
open Go.RowKit
set_option maxRecDepth 10000 in
set_option maxHeartbeats 4000000 in
theorem toks_any (ao : Option Addr) (n cap : Nat) (F : Nat → TkR) (fl : Fg) (w : World) (hr : RdK w ao n F) (hn : n ≤ 3000) : Calls Try.prog 9 #[fgV fl, .slice ao n cap] w (RetTs w (toksS (fun i => (F i).tp fl) n)) := by
  have hB := below2 w (.cells #[.bool fl.c, .bool fl.d, .bool fl.m, .bool fl.o, .bool fl.l] 23) (.cells #[.slice none 0 0] 28)
  have kF : Cl ((w.alloc (.cells #[.bool fl.c, .bool fl.d, .bool fl.m, .bool fl.o, .bool fl.l] 23)).alloc (.cells #[.slice none 0 0] 28)) w.heap.size 23 [.bool fl.c, .bool fl.d, .bool fl.m, .bool fl.o, .bool fl.l] := (Cl.new w 23 [.bool fl.c, .bool fl.d, .bool fl.m, .bool fl.o, .bool fl.l]).alloc _
  have kR : Cl ((w.alloc (.cells #[.bool fl.c, .bool fl.d, .bool fl.m, .bool fl.o, .bool fl.l] 23)).alloc (.cells #[.slice none 0 0] 28)) (w.heap.size + 1) 28 [.slice none 0 0] := by
    have := Cl.new (w.alloc (.cells #[.bool fl.c, .bool fl.d, .bool fl.m, .bool fl.o, .bool fl.l] 23)) 28 [.slice none 0 0]
    rw [World.size_alloc] at this
    exact this
  have HP := pairs_any ao n cap F fl ((w.alloc (.cells #[.bool fl.c, .bool fl.d, .bool fl.m, .bool fl.o, .bool fl.l] 23)).alloc (.cells #[.slice none 0 0] 28)) (hr.below hB) hn
  have hfg : fgV fl = .agg #[.bool fl.c, .bool fl.d, .bool fl.m, .bool fl.o, .bool fl.l] := rfl
  rw [hfg]
  go_enter Try.func9, Try.ntmps9
  go_wp2_with fail
  refine HP.mono ?_
  clear HP
  generalize (w.alloc (.cells #[.bool fl.c, .bool fl.d, .bool fl.m, .bool fl.o, .bool fl.l] 23)).alloc (.cells #[.slice none 0 0] 28) = V at *
  cases hE : prsE (fun i => (F i).tp fl) n with
  | error c =>
    intro e W1 hQ
    obtain ⟨rfl, hb1⟩ := hQ.1 c rfl
    have kR9 := kR.below hb1
    have hB1 := hB.trans (hb1.mono hB.size)
    have hT : toksS (fun i => (F i).tp fl) n = .error (c.1, c.2) := by unfold toksS; rw [hE]
    have hc0 : c.2 ≠ 0 := prsE_ne hE
    have hc1 : (c.2 != 0) = true := by simpa using hc0
    obtain ⟨r0, r1⟩ := kR9.one
    have kS := kR9.set 0 (.slice none 0 0)
    have z0 := kS.cell 0 rfl
    have HR : Hid (RetTs w (toksS (fun i => (F i).tp fl) n) (.returned (.tuple #[.agg #[.slice none 0 0], .int .i64 c.1, .int .i64 c.2])) (W1.setCell ⟨w.heap.size + 1, 0, none⟩ (.slice none 0 0))) := ret_te hT (hB1.setCell (p := ⟨w.heap.size + 1, 0, none⟩) (by simp) _)
    clear hQ hb1 hB1 hB kR kF kR9 kS hr hT hc0
    go_wp2_with fail
    exact bodyPost_ret (v := .tuple #[.agg #[.slice none 0 0], .int .i64 c.1, .int .i64 c.2]) (by simp [results, Try.results9, go_sem, z0]) rfl HR.out
  | ok cl =>
    intro e W1 hQ
    obtain ⟨rfl, hcb, hb1⟩ := hQ.2 cl rfl
    have hB1 := hB.trans (hb1.mono hB.size)
    have kF1 := kF.below hb1
    have kR1 := kR.below hb1
    have HBd := build_any ao n cap F fl W1 (hr.below hB1) hn (prsE_cl hE).1
    rw [hfg] at HBd
    obtain ⟨f0, f1, f2, f3, f4⟩ : W1.cell? ⟨w.heap.size, 0, none⟩ = some (.bool fl.c) ∧ W1.cell? ⟨w.heap.size, 1, none⟩ = some (.bool fl.d) ∧ W1.cell? ⟨w.heap.size, 2, none⟩ = some (.bool fl.m) ∧ W1.cell? ⟨w.heap.size, 3, none⟩ = some (.bool fl.o) ∧ W1.cell? ⟨w.heap.size, 4, none⟩ = some (.bool fl.l) := ⟨kF1.cell 0 rfl, kF1.cell 1 rfl, kF1.cell 2 rfl, kF1.cell 3 rfl, kF1.cell 4 rfl⟩
    clear hQ hb1 kF kR hB kF1
    generalize V.heap.size = cb at *
    go_wp2_with fail
    refine HBd.mono ?_
    rintro e W2 ⟨no, nc, rfl, hrow, hb2⟩
    obtain ⟨sB, hsB⟩ : ∃ sB, (bld (fun i => (F i).tp fl) n).endSeq = sB := ⟨_, rfl⟩
    rw [hsB] at hrow
    rw [hsB]
    have hB2 := hB1.trans (hb2.mono hB1.size)
    have kR2 := kR1.below hb2
    have hcb2 := hcb.below hb2
    clear HBd f0 f1 f2 f3 f4
    by_cases hm : sB.many ≤ 2048
    · rw [decide_eq_true hm]
      have hbA : Below W2.heap.size W2 (W2.alloc (.cells #[.slice no sB.ns.length nc] 28)) := bel1 W2 _
      have hB3 := hB2.trans (hbA.mono hB2.size)
      have HW := wrong_any ao n cap F fl (W2.alloc (.cells #[.slice no sB.ns.length nc] 28)) (hr.below hB3) hn cl hE cb (hcb2.below hbA)
      have kT3 := Cl.new W2 28 [.slice no sB.ns.length nc]
      have kR3 := kR2.below hbA
      have hrow3 : (W2.alloc (.cells #[.slice no sB.ns.length nc] 28)).ownsRow w.heap.size 44 10 (.slice no sB.ns.length nc) sB.ns.length (ndsL sB.ns) := ownsRow_base (own_at hrow fun _ hg => hbA.block _ (own_block hrow hg).2.1) hB1.size
      have hT : toksS (fun i => (F i).tp fl) n = if wrgA (fun i => (F i).tp fl) n cl ≠ -1 then .error (wrgA (fun i => (F i).tp fl) n cl, 51) else .ok sB.ns := by
        unfold toksS; rw [hE]; dsimp only; rw [hsB, if_neg (by omega)]
      clear hrow hb2 kR1 kR2 hcb hcb2 hbA hB1 hB2 hr
      go_wp2_with fail
      refine HW.mono ?_
      rintro e W4 ⟨rfl, hb4⟩
      have kR9 := kR3.below hb4
      have kT4 := kT3.below hb4
      have hB4 := hB3.trans (hb4.mono hB3.size)
      have hrow4 := own_at hrow3 (W' := W4) fun _ hg => hb4.block _ (own_block hrow3 hg).2.1
      have hlt4 := kR3.lt
      clear HW hrow3 hb4 kT3 kR3 hB3
      cases hw : (wrgA (fun i => (F i).tp fl) n cl == -1) with
      | true =>
        have hw1 : wrgA (fun i => (F i).tp fl) n cl = -1 := by simpa using hw
        rw [if_neg (by simpa using hw1)] at hT
        have hw2 : (wrgA (fun i => (F i).tp fl) n cl != -1) = false := by simp [hw1]
        have t0 := kT4.cell 0 rfl
        have hrow9 := own_at hrow4 (W' := W4.setCell ⟨w.heap.size + 1, 0, none⟩ (.slice no sB.ns.length nc)) fun b hb => by
          refine Below.heap_setCell _ _ _ _ ?_
          rintro rfl
          obtain ⟨_, _, cur, hc⟩ := own_block hrow4 hb
          unfold Cl at kR9
          rw [hc] at kR9
          cases kR9
        obtain ⟨r0, r1⟩ := kR9.one
        have kS := kR9.set 0 (.slice no sB.ns.length nc)
        have z0 := kS.cell 0 rfl
        have HR : Hid (RetTs w (toksS (fun i => (F i).tp fl) n) (.returned (.tuple #[.agg #[.slice no sB.ns.length nc], .int .i64 0, .int .i64 0])) (W4.setCell ⟨w.heap.size + 1, 0, none⟩ (.slice no sB.ns.length nc))) := ret_to hT hrow9 (hB4.setCell (p := ⟨w.heap.size + 1, 0, none⟩) (by simp) _)
        clear hrow4 hrow9 kT4 kS kR9 hB4 hT hw hw1
        generalize wrgA (fun i => (F i).tp fl) n cl = wv at *
        generalize sB.ns.length = nn at *
        go_wp2_with fail
        exact bodyPost_ret (v := .tuple #[.agg #[.slice no nn nc], .int .i64 0, .int .i64 0]) (by simp [results, Try.results9, go_sem, z0]) rfl HR.out
      | false =>
        have hw1 : wrgA (fun i => (F i).tp fl) n cl ≠ -1 := by simpa using hw
        rw [if_pos hw1] at hT
        have hw2 : (wrgA (fun i => (F i).tp fl) n cl != -1) = true := by simpa using hw1
        obtain ⟨r0, r1⟩ := kR9.one
        have kS := kR9.set 0 (.slice none 0 0)
        have z0 := kS.cell 0 rfl
        have HR : Hid (RetTs w (toksS (fun i => (F i).tp fl) n) (.returned (.tuple #[.agg #[.slice none 0 0], .int .i64 (wrgA (fun i => (F i).tp fl) n cl), .int .i64 51])) (W4.setCell ⟨w.heap.size + 1, 0, none⟩ (.slice none 0 0))) := ret_te hT (hB4.setCell (p := ⟨w.heap.size + 1, 0, none⟩) (by simp) _)
        clear hrow4 kT4 kS kR9 hB4 hT hw hw1
        generalize wrgA (fun i => (F i).tp fl) n cl = wv at *
        generalize sB.ns.length = nn at *
        go_wp2_with fail
        exact bodyPost_ret (v := .tuple #[.agg #[.slice none 0 0], .int .i64 wv, .int .i64 51]) (by simp [results, Try.results9, go_sem, z0]) rfl HR.out
    · rw [decide_eq_false hm]
      have hT : toksS (fun i => (F i).tp fl) n = .error (0, 63) := by
        unfold toksS; rw [hE]; dsimp only; rw [hsB, if_pos (by omega)]
      have kR9 := kR2.below (bel1 W2 (.cells #[.slice no sB.ns.length nc] 28))
      have hB4 := hB2.trans ((bel1 W2 (.cells #[.slice no sB.ns.length nc] 28)).mono hB2.size)
      obtain ⟨r0, r1⟩ := kR9.one
      have kS := kR9.set 0 (.slice none 0 0)
      have z0 := kS.cell 0 rfl
      have HR : Hid (RetTs w (toksS (fun i => (F i).tp fl) n) (.returned (.tuple #[.agg #[.slice none 0 0], .int .i64 0, .int .i64 63])) ((W2.alloc (.cells #[.slice no sB.ns.length nc] 28)).setCell ⟨w.heap.size + 1, 0, none⟩ (.slice none 0 0))) := ret_te hT (hB4.setCell (p := ⟨w.heap.size + 1, 0, none⟩) (by simp) _)
      clear hrow hb2 kR1 kR2 hcb hcb2 hB1 hB2 hr kS kR9 hB4 hT
      generalize sB.ns.length = nn at *
      go_wp2_with fail
      exact bodyPost_ret (v := .tuple #[.agg #[.slice none 0 0], .int .i64 0, .int .i64 63]) (by simp [results, Try.results9, go_sem, z0]) rfl HR.out
set_option maxRecDepth 10000 in
set_option maxHeartbeats 4000000 in
theorem parse_good (ao : Option Addr) (n cap : Nat) (z : Nat → Nat) (fl : Fg) (w : World) (hr : Rd w ao n z) (hn : (n : Int) ≤ 1024) (hg : ∀ s, s ∈ wl z n 1100 0 → s.er = 0 ∧ s.b < 256) (hN : (wl z n 1100 0).length ≤ 3000) : Calls Try.prog 17 #[.slice ao n cap, fgV fl] w (RetPr w n (toksS (fun i => (nS (wl z n 1100 0) i).r.tp fl) (wl z n 1100 0).length)) := by
  have hB := below2 w (.cells #[.bool fl.c, .bool fl.d, .bool fl.m, .bool fl.o, .bool fl.l] 23) (.cells #[.slice none 0 0] 28)
  have kF : Cl ((w.alloc (.cells #[.bool fl.c, .bool fl.d, .bool fl.m, .bool fl.o, .bool fl.l] 23)).alloc (.cells #[.slice none 0 0] 28)) w.heap.size 23 [.bool fl.c, .bool fl.d, .bool fl.m, .bool fl.o, .bool fl.l] := (Cl.new w 23 [.bool fl.c, .bool fl.d, .bool fl.m, .bool fl.o, .bool fl.l]).alloc _
  have kR : Cl ((w.alloc (.cells #[.bool fl.c, .bool fl.d, .bool fl.m, .bool fl.o, .bool fl.l] 23)).alloc (.cells #[.slice none 0 0] 28)) (w.heap.size + 1) 28 [.slice none 0 0] := by
    have := Cl.new (w.alloc (.cells #[.bool fl.c, .bool fl.d, .bool fl.m, .bool fl.o, .bool fl.l] 23)) 28 [.slice none 0 0]
    rw [World.size_alloc] at this
    exact this
  have HL := lex_short ao n cap z ((w.alloc (.cells #[.bool fl.c, .bool fl.d, .bool fl.m, .bool fl.o, .bool fl.l] 23)).alloc (.cells #[.slice none 0 0] 28)) (hr.below hB) hn
  have hfg : fgV fl = .agg #[.bool fl.c, .bool fl.d, .bool fl.m, .bool fl.o, .bool fl.l] := rfl
  rw [hfg]
  go_enter Try.func17, Try.ntmps17
  go_wp2_with fail
  refine HL.mono ?_
  clear HL
  generalize (w.alloc (.cells #[.bool fl.c, .bool fl.d, .bool fl.m, .bool fl.o, .bool fl.l] 23)).alloc (.cells #[.slice none 0 0] 28) = V at *
  rintro e W1 (⟨lo, lc, _, rfl, hrow, hb1⟩ | ⟨s, hs, hne, _⟩)
  · have hB1 := hB.trans (hb1.mono hB.size)
    have kF1 := kF.below hb1
    have kR1 := kR.below hb1
    have hmem : ∀ i, i < (wl z n 1100 0).length → nS (wl z n 1100 0) i ∈ wl z n 1100 0 := fun i hi => by simp [nS, List.getD, hi]
    have hrk : RdK W1 lo (wl z n 1100 0).length (fun i => (nS (wl z n 1100 0) i).r) := rdk_row (T := nS (wl z n 1100 0)) (cap := lc) (base := V.heap.size) (by rw [nS_map]; exact hrow) fun i hi => (hg _ (hmem i hi)).2
    have HT := toks_any lo (wl z n 1100 0).length lc (fun i => (nS (wl z n 1100 0) i).r) fl W1 hrk hN
    rw [hfg] at HT
    obtain ⟨f0, f1, f2, f3, f4⟩ : W1.cell? ⟨w.heap.size, 0, none⟩ = some (.bool fl.c) ∧ W1.cell? ⟨w.heap.size, 1, none⟩ = some (.bool fl.d) ∧ W1.cell? ⟨w.heap.size, 2, none⟩ = some (.bool fl.m) ∧ W1.cell? ⟨w.heap.size, 3, none⟩ = some (.bool fl.o) ∧ W1.cell? ⟨w.heap.size, 4, none⟩ = some (.bool fl.l) := ⟨kF1.cell 0 rfl, kF1.cell 1 rfl, kF1.cell 2 rfl, kF1.cell 3 rfl, kF1.cell 4 rfl⟩
    clear hrow hb1 kF kR hB kF1 hmem hrk hg
    obtain ⟨XX, hX⟩ : ∃ XX, (fun i => (nS (wl z n 1100 0) i).r.tp fl) = XX := ⟨_, rfl⟩
    obtain ⟨m, hm⟩ : ∃ m, (wl z n 1100 0).length = m := ⟨_, rfl⟩
    have hTT : Hid (toksS (fun i => (nS (wl z n 1100 0) i).r.tp fl) (wl z n 1100 0).length = toksS XX m) := by
      have h0 : toksS (fun i => (nS (wl z n 1100 0) i).r.tp fl) (wl z n 1100 0).length = toksS XX m := by rw [hX, hm]
      exact h0
    rw [hm, hX] at HT
    rw [hm]
    clear hX hm hN
    go_wp2_with fail
    refine HT.mono ?_
    clear HT f0 f1 f2 f3 f4
    cases hE : toksS XX m with
    | error c =>
      intro e W2 hQ
      obtain ⟨rfl, hb2⟩ := hQ.1 c rfl
      have kR9 := (kR1.below hb2).below (bel1 W2 (.cells #[.slice none 0 0] 28))
      have hB2 := hB1.trans (hb2.mono hB1.size)
      have hB4 := hB2.trans ((bel1 W2 (.cells #[.slice none 0 0] 28)).mono hB2.size)
      have hc1 : (c.2 != 0) = true := by simpa using toksS_ne hE
      have hE' : toksS (fun i => (nS (wl z n 1100 0) i).r.tp fl) (wl z n 1100 0).length = .error (c.1, c.2) := hTT.out.trans hE
      obtain ⟨r0, r1⟩ := kR9.one
      have kS := kR9.set 0 (.slice none 0 0)
      have z0 := kS.cell 0 rfl
      have HR : Hid (RetPr w n (toksS (fun i => (nS (wl z n 1100 0) i).r.tp fl) (wl z n 1100 0).length) (.returned (.tuple #[.agg #[.slice none 0 0], .int .i64 c.1, .int .i64 c.2])) ((W2.alloc (.cells #[.slice none 0 0] 28)).setCell ⟨w.heap.size + 1, 0, none⟩ (.slice none 0 0))) := ret_pe hE' (hB4.setCell (p := ⟨w.heap.size + 1, 0, none⟩) (by simp) _)
      clear hQ hb2 hB1 hB2 hB4 kR1 kR9 kS hE hE' hTT
      go_wp2_with fail
      exact bodyPost_ret (v := .tuple #[.agg #[.slice none 0 0], .int .i64 c.1, .int .i64 c.2]) (by simp [results, Try.results17, go_sem, z0]) rfl HR.out
    | ok l =>
      intro e W2 hQ
      obtain ⟨no, nc, rfl, hrow, hb2⟩ := hQ.2 l rfl
      have hbA := bel1 W2 (.cells #[.slice no l.length nc] 28)
      have kR9 := (kR1.below hb2).below hbA
      have hB2 := hB1.trans (hb2.mono hB1.size)
      have hB4 := hB2.trans (hbA.mono hB2.size)
      have t0 : (W2.alloc (.cells #[.slice no l.length nc] 28)).cell? ⟨W2.heap.size, 0, none⟩ = some (.slice no l.length nc) := (Cl.new W2 28 [.slice no l.length nc]).cell 0 rfl
      have hrow4 : (W2.alloc (.cells #[.slice no l.length nc] 28)).ownsRow w.heap.size 44 10 (.slice no l.length nc) l.length (ndsL l) := ownsRow_base (own_at hrow fun _ hg => hbA.block _ (own_block hrow hg).2.1) hB1.size
      have hE' : toksS (fun i => (nS (wl z n 1100 0) i).r.tp fl) (wl z n 1100 0).length = .ok l := hTT.out.trans hE
      have hrow9 := own_at hrow4 (W' := (W2.alloc (.cells #[.slice no l.length nc] 28)).setCell ⟨w.heap.size + 1, 0, none⟩ (.slice no l.length nc)) fun b hb => by
        refine Below.heap_setCell _ _ _ _ ?_
        rintro rfl
        obtain ⟨_, _, cur, hc⟩ := own_block hrow4 hb
        unfold Cl at kR9
        rw [hc] at kR9
        cases kR9
      obtain ⟨r0, r1⟩ := kR9.one
      have kS := kR9.set 0 (.slice no l.length nc)
      have z0 := kS.cell 0 rfl
      have HR : Hid (RetPr w n (toksS (fun i => (nS (wl z n 1100 0) i).r.tp fl) (wl z n 1100 0).length) (.returned (.tuple #[.agg #[.slice no l.length nc], .int .i64 (n : Nat), .int .i64 0])) ((W2.alloc (.cells #[.slice no l.length nc] 28)).setCell ⟨w.heap.size + 1, 0, none⟩ (.slice no l.length nc))) := ret_po hE' hrow9 (hB4.setCell (p := ⟨w.heap.size + 1, 0, none⟩) (by simp) _)
      clear hQ hb2 hB1 hB2 hB4 kR1 kR9 kS hE hE' hTT hrow hrow4 hrow9 hbA
      generalize l.length = nn at *
      go_wp2_with fail
      exact bodyPost_ret (v := .tuple #[.agg #[.slice no nn nc], .int .i64 (n : Nat), .int .i64 0]) (by simp [results, Try.results17, go_sem, z0]) rfl HR.out
  · exact absurd (hg s hs).1 hne
/-- Parse answers no tree. -/
def RetNo (w : World) (e : Ending) (w' : World) : Prop := ∃ a b : Int, b ≠ 0 ∧ e = .returned (.tuple #[.agg #[.slice none 0 0], .int .i64 a, .int .i64 b]) ∧ Below w.heap.size w w'
theorem ret_no {w W' : World} {a b : Int} (hb : b ≠ 0) (h : Below w.heap.size w W') : RetNo w (.returned (.tuple #[.agg #[.slice none 0 0], .int .i64 a, .int .i64 b])) W' := ⟨a, b, hb, rfl, h⟩
set_option maxRecDepth 10000 in
set_option maxHeartbeats 4000000 in
theorem parse_bad (ao : Option Addr) (n cap : Nat) (z : Nat → Nat) (fl : Fg) (w : World) (hr : Rd w ao n z) (hn : (n : Int) ≤ 1024) (hg : ∃ s, s ∈ wl z n 1100 0 ∧ s.er ≠ 0) : Calls Try.prog 17 #[.slice ao n cap, fgV fl] w (RetNo w) := by
  have hB := below2 w (.cells #[.bool fl.c, .bool fl.d, .bool fl.m, .bool fl.o, .bool fl.l] 23) (.cells #[.slice none 0 0] 28)
  have kR : Cl ((w.alloc (.cells #[.bool fl.c, .bool fl.d, .bool fl.m, .bool fl.o, .bool fl.l] 23)).alloc (.cells #[.slice none 0 0] 28)) (w.heap.size + 1) 28 [.slice none 0 0] := by
    have := Cl.new (w.alloc (.cells #[.bool fl.c, .bool fl.d, .bool fl.m, .bool fl.o, .bool fl.l] 23)) 28 [.slice none 0 0]
    rw [World.size_alloc] at this
    exact this
  have HL := lex_short ao n cap z ((w.alloc (.cells #[.bool fl.c, .bool fl.d, .bool fl.m, .bool fl.o, .bool fl.l] 23)).alloc (.cells #[.slice none 0 0] 28)) (hr.below hB) hn
  have hfg : fgV fl = .agg #[.bool fl.c, .bool fl.d, .bool fl.m, .bool fl.o, .bool fl.l] := rfl
  rw [hfg]
  go_enter Try.func17, Try.ntmps17
  go_wp2_with fail
  refine HL.mono ?_
  clear HL
  generalize (w.alloc (.cells #[.bool fl.c, .bool fl.d, .bool fl.m, .bool fl.o, .bool fl.l] 23)).alloc (.cells #[.slice none 0 0] 28) = V at *
  rintro e W1 (⟨lo, lc, h0, _⟩ | ⟨s, hs, hne, rfl, hb1⟩)
  · obtain ⟨s, hs, hne⟩ := hg
    exact absurd (h0 s hs) hne
  clear hg hr
  obtain ⟨pa, hpa⟩ : ∃ pa : Int, ((s.en : Nat) : Int) = pa := ⟨_, rfl⟩
  obtain ⟨pe, hpe⟩ : ∃ pe : Int, s.er = pe := ⟨_, rfl⟩
  rw [hpe] at hne
  rw [hpa, hpe]
  clear hpa hpe hs
  have hB1 := hB.trans (hb1.mono hB.size)
  have kR9 := kR.below hb1
  obtain ⟨r0, r1⟩ := kR9.one
  have kS := kR9.set 0 (.slice none 0 0)
  have z0 := kS.cell 0 rfl
  have HR : Hid (RetNo w (.returned (.tuple #[.agg #[.slice none 0 0], .int .i64 pa, .int .i64 pe])) (W1.setCell ⟨w.heap.size + 1, 0, none⟩ (.slice none 0 0))) := ret_no hne (hB1.setCell (p := ⟨w.heap.size + 1, 0, none⟩) (by simp) _)
  have hc1 : (pe != 0) = true := by simpa using hne
  clear hb1 hB1 hB kR kR9 kS hne
  go_wp2_with fail
  exact bodyPost_ret (v := .tuple #[.agg #[.slice none 0 0], .int .i64 pa, .int .i64 pe]) (by simp [results, Try.results17, go_sem, z0]) rfl HR.out
set_option maxRecDepth 10000 in
set_option maxHeartbeats 4000000 in
theorem parse_long (ao : Option Addr) (n cap : Nat) (fl : Fg) (w : World) (hn : (n : Int) > 1024) : Calls Try.prog 17 #[.slice ao n cap, fgV fl] w (RetNo w) := by
  have hB := below2 w (.cells #[.bool fl.c, .bool fl.d, .bool fl.m, .bool fl.o, .bool fl.l] 23) (.cells #[.slice none 0 0] 28)
  have kR : Cl ((w.alloc (.cells #[.bool fl.c, .bool fl.d, .bool fl.m, .bool fl.o, .bool fl.l] 23)).alloc (.cells #[.slice none 0 0] 28)) (w.heap.size + 1) 28 [.slice none 0 0] := by
    have := Cl.new (w.alloc (.cells #[.bool fl.c, .bool fl.d, .bool fl.m, .bool fl.o, .bool fl.l] 23)) 28 [.slice none 0 0]
    rw [World.size_alloc] at this
    exact this
  have HL := lex_long ao n cap ((w.alloc (.cells #[.bool fl.c, .bool fl.d, .bool fl.m, .bool fl.o, .bool fl.l] 23)).alloc (.cells #[.slice none 0 0] 28)) hn
  have hfg : fgV fl = .agg #[.bool fl.c, .bool fl.d, .bool fl.m, .bool fl.o, .bool fl.l] := rfl
  rw [hfg]
  go_enter Try.func17, Try.ntmps17
  go_wp2_with fail
  refine HL.mono ?_
  clear HL
  generalize (w.alloc (.cells #[.bool fl.c, .bool fl.d, .bool fl.m, .bool fl.o, .bool fl.l] 23)).alloc (.cells #[.slice none 0 0] 28) = V at *
  rintro e W1 ⟨rfl, hb1⟩
  obtain ⟨pa, hpa⟩ : ∃ pa : Int, (0 : Int) = pa := ⟨_, rfl⟩
  obtain ⟨pe, hpe⟩ : ∃ pe : Int, (3 : Int) = pe := ⟨_, rfl⟩
  have hne : pe ≠ 0 := by omega
  rw [hpe]
  clear hpe
  have hl : (Value.tuple #[.slice none 0 0, .int .i64 0, .int .i64 pe]) = .tuple #[.slice none 0 0, .int .i64 pa, .int .i64 pe] := by rw [hpa]
  rw [hl]
  clear hl hpa
  have hB1 := hB.trans (hb1.mono hB.size)
  have kR9 := kR.below hb1
  obtain ⟨r0, r1⟩ := kR9.one
  have kS := kR9.set 0 (.slice none 0 0)
  have z0 := kS.cell 0 rfl
  have HR : Hid (RetNo w (.returned (.tuple #[.agg #[.slice none 0 0], .int .i64 pa, .int .i64 pe])) (W1.setCell ⟨w.heap.size + 1, 0, none⟩ (.slice none 0 0))) := ret_no hne (hB1.setCell (p := ⟨w.heap.size + 1, 0, none⟩) (by simp) _)
  have hc1 : (pe != 0) = true := by simpa using hne
  clear hb1 hB1 hB kR kR9 kS hne
  go_wp2_with fail
  exact bodyPost_ret (v := .tuple #[.agg #[.slice none 0 0], .int .i64 pa, .int .i64 pe]) (by simp [results, Try.results17, go_sem, z0]) rfl HR.out
/-- A pattern that can be read, and the nodes of its tree. -/
def OkP (z : Nat → Nat) (n : Nat) (fl : Fg) (l : List Nd) : Prop := n ≤ 1024 ∧ (∀ s, s ∈ wl z n 1100 0 → s.er = 0) ∧ toksS (fun i => (nS (wl z n 1100 0) i).r.tp fl) (wl z n 1100 0).length = .ok l
/-- What Parse answers. -/
def RetPq (w : World) (z : Nat → Nat) (n : Nat) (fl : Fg) (e : Ending) (w' : World) : Prop :=
  (RetNo w e w' ∧ ∀ l, ¬ OkP z n fl l) ∨ ∃ l no nc, OkP z n fl l ∧ e = .returned (.tuple #[.agg #[.slice no l.length nc], .int .i64 (n : Nat), .int .i64 0]) ∧ w'.ownsRow w.heap.size 44 10 (.slice no l.length nc) l.length (ndsL l) ∧ Below w.heap.size w w'
theorem parse_any (ao : Option Addr) (n cap : Nat) (z : Nat → Nat) (fl : Fg) (w : World) (hr : Rd w ao n z) : Calls Try.prog 17 #[.slice ao n cap, fgV fl] w (RetPq w z n fl) := by
  by_cases hn : (n : Int) ≤ 1024
  · by_cases hg : ∀ s, s ∈ wl z n 1100 0 → s.er = 0
    · have hl : (wl z n 1100 0).length ≤ 3000 := by
        have := wl_len (z := z) (n := n) 1100 0
        omega
      refine (parse_good ao n cap z fl w hr hn (fun s hs => ⟨hg s hs, (wl_chk hr.small 1100 0 s hs (hg s hs)).2⟩) hl).mono fun e w' h => ?_
      cases hE : toksS (fun i => (nS (wl z n 1100 0) i).r.tp fl) (wl z n 1100 0).length with
      | error c =>
        obtain ⟨h1, h2⟩ := h.1 c hE
        exact .inl ⟨⟨c.1, c.2, toksS_ne hE, h1, h2⟩, fun l hl => by rw [hl.2.2] at hE; cases hE⟩
      | ok l =>
        obtain ⟨no, nc, h1, h2, h3⟩ := h.2 l hE
        exact .inr ⟨l, no, nc, ⟨by omega, hg, hE⟩, h1, h2, h3⟩
    · have hg' : ∃ s, s ∈ wl z n 1100 0 ∧ s.er ≠ 0 := by
        apply Classical.byContradiction
        intro hc
        exact hg fun s hs => Classical.byContradiction fun he => hc ⟨s, hs, he⟩
      exact (parse_bad ao n cap z fl w hr hn hg').mono fun e w' h => .inl ⟨h, fun l hl => hg hl.2.1⟩
  · exact (parse_long ao n cap fl w (by omega)).mono fun e w' h => .inl ⟨h, fun l hl => hn (by have := hl.1; omega)⟩
end Go.Proofs.Ytlmmiicibjfcdaa
