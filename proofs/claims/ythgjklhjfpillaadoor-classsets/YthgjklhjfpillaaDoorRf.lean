/- The reference's Fold: the walk. -/
import Derived.Test.YthgjklhjfpillaaDoorRm
namespace Go.Proofs.YthgjklhjfpillaaDoor
open Go.RowKit
/-- P, and of the first k letters both cases, where one of them is in P. -/
def rfN (P : Nat → Bool) : Nat → Nat → Bool
  | 0 => P
  | k + 1 => if P (97 + k) || P (65 + k) then ins (ins (rfN P k) (97 + k)) (65 + k) else rfN P k
theorem rfN_iff (P : Nat → Bool) (k y : Nat) : rfN P k y = true ↔ P y = true ∨ ∃ i, i < k ∧ (P (97 + i) = true ∨ P (65 + i) = true) ∧ (y = 97 + i ∨ y = 65 + i) := by
  induction k with
  | zero => simp [rfN]
  | succ k ih =>
    unfold rfN
    by_cases hc : (P (97 + k) || P (65 + k)) = true
    · rw [if_pos hc]
      simp only [ins, Bool.or_eq_true, beq_iff_eq, ih]
      constructor
      · rintro ((h | h) | h)
        · rcases h with h | ⟨i, hi, h⟩
          · exact .inl h
          · exact .inr ⟨i, by omega, h⟩
        · exact .inr ⟨k, by omega, by simpa using hc, .inl h⟩
        · exact .inr ⟨k, by omega, by simpa using hc, .inr h⟩
      · rintro (h | ⟨i, hi, h1, h2⟩)
        · exact .inl (.inl (.inl h))
        · by_cases e : i = k
          · subst e
            rcases h2 with h2 | h2
            · exact .inl (.inr h2)
            · exact .inr h2
          · exact .inl (.inl (.inr ⟨i, by omega, h1, h2⟩))
    · rw [if_neg hc, ih]
      constructor
      · rintro (h | ⟨i, hi, h⟩)
        · exact .inl h
        · exact .inr ⟨i, by omega, h⟩
      · rintro (h | ⟨i, hi, h1, h2⟩)
        · exact .inl h
        · by_cases e : i = k
          · subst e
            exact absurd (by simpa using h1) hc
          · exact .inr ⟨i, by omega, h1, h2⟩
theorem other_case : ∀ b : Nat, b < 256 → ltr b = true → (b ^^^ 32 < 256 ∧ ∃ i, i < 26 ∧ ((b = 97 + i ∧ b ^^^ 32 = 65 + i) ∨ (b = 65 + i ∧ b ^^^ 32 = 97 + i))) := by
  intro b hb h
  have key : ∀ b : Fin 256, ltr b.1 = true → (b.1 ^^^ 32 < 256 ∧ ((97 ≤ b.1 ∧ b.1 < 123 ∧ b.1 ^^^ 32 = b.1 - 32) ∨ (65 ≤ b.1 ∧ b.1 < 91 ∧ b.1 ^^^ 32 = b.1 + 32))) := by decide +kernel
  obtain ⟨h1, h2⟩ := key ⟨b, hb⟩ h
  refine ⟨h1, ?_⟩
  rcases h2 with ⟨a1, a2, a3⟩ | ⟨a1, a2, a3⟩
  · simp only at a1 a2 a3
    exact ⟨b - 97, by omega, .inl ⟨by omega, by omega⟩⟩
  · simp only at a1 a2 a3
    exact ⟨b - 65, by omega, .inr ⟨by omega, by omega⟩⟩
theorem letters : ∀ i : Nat, i < 26 → ltr (97 + i) = true ∧ ltr (65 + i) = true ∧ (97 + i) ^^^ 32 = 65 + i ∧ (65 + i) ^^^ 32 = 97 + i := by
  intro i hi
  have key : ∀ i : Fin 26, ltr (97 + i.1) = true ∧ ltr (65 + i.1) = true ∧ (97 + i.1) ^^^ 32 = 65 + i.1 ∧ (65 + i.1) ^^^ 32 = 97 + i.1 := by decide +kernel
  exact key ⟨i, hi⟩
/-- Both ways to fold are one. -/
theorem fold_same (P : Nat → Bool) (y : Nat) : rfN P 26 y = foldN P (come P 256) y := by
  rw [Bool.eq_iff_iff, rfN_iff]
  unfold foldN come
  simp only [Bool.or_eq_true, List.any_eq_true, List.mem_filter, List.mem_range, Bool.and_eq_true, beq_iff_eq]
  constructor
  · rintro (h | ⟨i, hi, h1, h2⟩)
    · exact .inl h
    · obtain ⟨l1, l2, x1, x2⟩ := letters i hi
      rcases h1 with h1 | h1 <;> rcases h2 with h2 | h2
      · exact .inl (h2 ▸ h1)
      · exact .inr ⟨97 + i, ⟨by omega, h1⟩, l1, by rw [x1, h2]⟩
      · exact .inr ⟨65 + i, ⟨by omega, h1⟩, l2, by rw [x2, h2]⟩
      · exact .inl (h2 ▸ h1)
  · rintro (h | ⟨b, ⟨hb, hP⟩, hl, rfl⟩)
    · exact .inl h
    · obtain ⟨_, i, hi, (⟨e1, e2⟩ | ⟨e1, e2⟩)⟩ := other_case b hb hl
      · exact .inr ⟨i, hi, .inl (e1 ▸ hP), .inr e2⟩
      · exact .inr ⟨i, hi, .inr (e1 ▸ hP), .inl e2⟩
/-- The class, the result's box and what comes of it. -/
structure F3 (w : World) (a b c d : Nat) (P : Nat → Bool) (wr : World) : Prop where
  a : Bx wr w.heap.size (.int .u64 (a : Nat)) (.int .u64 (b : Nat)) (.int .u64 (c : Nat)) (.int .u64 (d : Nat))
  c : Bx wr (w.heap.size + 1) (.int .u64 0) (.int .u64 0) (.int .u64 0) (.int .u64 0)
  f : ∃ p q r s, C4 P p q r s ∧ Bx wr (w.heap.size + 1 + 1) (.int .u64 (p : Nat)) (.int .u64 (q : Nat)) (.int .u64 (r : Nat)) (.int .u64 (s : Nat))
  bel : Below w.heap.size w wr
theorem F3.below {w : World} {a b c d : Nat} {P : Nat → Bool} {wr wr' : World} (t : F3 w a b c d P wr) (hb : Below wr.heap.size wr wr') : F3 w a b c d P wr' := by
  obtain ⟨p, q, r, s, h4, hx⟩ := t.f
  exact ⟨t.a.below hb, t.c.below hb, ⟨p, q, r, s, h4, hx.below hb⟩, t.bel.trans (hb.mono t.bel.size)⟩
theorem F3.put {w : World} {a b c d : Nat} {P Q : Nat → Bool} {wr : World} (t : F3 w a b c d P wr) {p q r s : Nat} (h4 : C4 Q p q r s) : F3 w a b c d Q (put4 wr (w.heap.size + 1 + 1) (.int .u64 (p : Nat)) (.int .u64 (q : Nat)) (.int .u64 (r : Nat)) (.int .u64 (s : Nat))) := by
  obtain ⟨_, _, _, _, _, hx⟩ := t.f
  exact ⟨t.a.others (by omega) _ _ _ _, t.c.others (by omega) _ _ _ _, ⟨p, q, r, s, h4, hx.set _ _ _ _⟩, below_put4 t.bel (by omega) _ _ _ _⟩
theorem F3.start {P : Nat → Bool} {a b c d : Nat} (h4 : C4 P a b c d) (w : World) : F3 w a b c d P (((w.alloc (.cells #[.int .u64 (a : Nat), .int .u64 (b : Nat), .int .u64 (c : Nat), .int .u64 (d : Nat)] 26)).alloc (.cells #[.int .u64 0, .int .u64 0, .int .u64 0, .int .u64 0] 26)).alloc (.cells #[.int .u64 (a : Nat), .int .u64 (b : Nat), .int .u64 (c : Nat), .int .u64 (d : Nat)] 26)) := by
  refine ⟨((Bx.new w _ _ _ _).alloc _).alloc _, Bx.alloc ?_ _, ⟨a, b, c, d, h4, ?_⟩, below3 _ _ _ _⟩
  · have := Bx.new (w.alloc (.cells #[.int .u64 (a : Nat), .int .u64 (b : Nat), .int .u64 (c : Nat), .int .u64 (d : Nat)] 26)) (.int .u64 0) (.int .u64 0) (.int .u64 0) (.int .u64 0)
    simpa using this
  · have := Bx.new ((w.alloc (.cells #[.int .u64 (a : Nat), .int .u64 (b : Nat), .int .u64 (c : Nat), .int .u64 (d : Nat)] 26)).alloc (.cells #[.int .u64 0, .int .u64 0, .int .u64 0, .int .u64 0] 26)) (.int .u64 (a : Nat)) (.int .u64 (b : Nat)) (.int .u64 (c : Nat)) (.int .u64 (d : Nat))
    simpa using this
set_option maxRecDepth 10000 in
set_option maxHeartbeats 3000000 in
theorem rfold_c {P : Nat → Bool} {a b c d : Nat} (h4 : C4 P a b c d) (w : World) : Calls Tryd.prog 34 #[.agg #[.int .u64 (a : Nat), .int .u64 (b : Nat), .int .u64 (c : Nat), .int .u64 (d : Nat)]] w (RetC w (foldN P (come P 256))) := by
  have t0 := F3.start h4 w
  go_enter Tryd.func34, Tryd.ntmps34
  go_wp2_with fail
  go_loopw [4] (fun i wr => ∃ k q : Nat, k ≤ 26 ∧ q = 97 + k ∧ i = .int .u8 (q : Nat) ∧ F3 w a b c d (rfN P k) wr) (fun i _ => 123 - (intOf i).toNat)
  case atStart => exact ⟨0, 97, by omega, rfl, rfl, t0⟩
  case round =>
    obtain ⟨k, q, hk, hq, rfl, t⟩ := hrel
    clear t0
    by_cases hlt : k < 26
    · have hq1 : (q : Int) ≤ 122 := by omega
      have hq0 : (97 : Int) ≤ (q : Int) := by omega
      have HQ : Hid (q = 97 + k) := hq
      obtain ⟨r, hr⟩ : ∃ r, r = 65 + k := ⟨_, rfl⟩
      have hqr : (q : Int) - 32 = (r : Nat) := by omega
      have HR : Hid (r = 65 + k) := hr
      have hq8 : q < 256 := by omega
      have hr8 : r < 256 := by omega
      have HN : Hid (rfN P (k + 1) = if P q || P r then ins (ins (rfN P k) q) r else rfN P k) := by unfold Hid; rw [hq, hr]; rfl
      clear hq hr
      obtain ⟨c0, c1, c2, c3, _⟩ := t.a.cells
      have H4 : Hid (C4 P a b c d) := h4
      go_wp2_with fail
      refine (rhas_c h4 q _ hq8).mono ?_
      rintro e w1 ⟨rfl, hb1⟩
      replace t := t.below hb1
      clear c0 c1 c2 c3 hb1
      obtain ⟨c0, c1, c2, c3, _⟩ := t.a.cells
      by_cases hPq : P q = true
      · rw [hPq]
        have HP : Hid ((P q || P r) = true) := by unfold Hid; rw [hPq]; rfl
        obtain ⟨p1, p2, p3, p4, g4, hx⟩ := t.f
        obtain ⟨x0, x1, x2, x3, _⟩ := hx.cells
        go_wp2_with fail
        refine (rwith_c g4 q _ hq8).mono ?_
        rintro e wq ⟨⟨p1', p2', p3', p4', rfl, g4'⟩, hbq⟩
        replace t := t.below hbq
        clear c0 c1 c2 c3 x0 x1 x2 x3 hbq g4 hx
        go_wp2_with fail
        refine (rwith_c g4' r _ hr8).mono ?_
        rintro e wz ⟨⟨p5, p6, p7, p8, rfl, g5⟩, hbz⟩
        replace t := t.below hbz
        obtain ⟨_, _, _, _, _, hx⟩ := t.f
        obtain ⟨x0, x1, x2, x3, y0, y1, y2, y3⟩ := hx.cells
        have hxl := hx.lt
        have t' := t.put g5
        clear hbz t hx
        go_wp2
        have hq := HQ.out
        exact ⟨⟨k + 1, q + 1, by omega, by omega, by go_num, by rw [HN.out, if_pos HP.out]; exact t'⟩, by simp [intOf]; omega⟩
      · have hPq' : P q = false := by simpa using hPq
        rw [hPq']
        go_wp2_with fail
        refine (rhas_c h4 r _ hr8).mono ?_
        rintro e w2 ⟨rfl, hb2⟩
        replace t := t.below hb2
        clear c0 c1 c2 c3 hb2
        obtain ⟨c0, c1, c2, c3, _⟩ := t.a.cells
        by_cases hPr : P r = true
        · rw [hPr]
          have HP : Hid ((P q || P r) = true) := by unfold Hid; rw [hPr]; simp
          obtain ⟨p1, p2, p3, p4, g4, hx⟩ := t.f
          obtain ⟨x0, x1, x2, x3, _⟩ := hx.cells
          go_wp2_with fail
          refine (rwith_c g4 q _ hq8).mono ?_
          rintro e wq ⟨⟨p1', p2', p3', p4', rfl, g4'⟩, hbq⟩
          replace t := t.below hbq
          clear c0 c1 c2 c3 x0 x1 x2 x3 hbq g4 hx
          go_wp2_with fail
          refine (rwith_c g4' r _ hr8).mono ?_
          rintro e wz ⟨⟨p5, p6, p7, p8, rfl, g5⟩, hbz⟩
          replace t := t.below hbz
          obtain ⟨_, _, _, _, _, hx⟩ := t.f
          obtain ⟨x0, x1, x2, x3, y0, y1, y2, y3⟩ := hx.cells
          have hxl := hx.lt
          have t' := t.put g5
          clear hbz t hx
          go_wp2
          have hq := HQ.out
          exact ⟨⟨k + 1, q + 1, by omega, by omega, by go_num, by rw [HN.out, if_pos HP.out]; exact t'⟩, by simp [intOf]; omega⟩
        · have hPr' : P r = false := by simpa using hPr
          rw [hPr']
          have HP : Hid (¬ (P q || P r) = true) := by unfold Hid; rw [hPq', hPr']; simp
          go_wp2
          have hq := HQ.out
          exact ⟨⟨k + 1, q + 1, by omega, by omega, by go_num, by rw [HN.out, if_neg HP.out]; exact t⟩, by simp [intOf]; omega⟩
    · obtain rfl : k = 26 := by omega
      obtain rfl : q = 123 := by omega
      obtain ⟨p1, p2, p3, p4, g4, hx⟩ := t.f
      obtain ⟨x0, x1, x2, x3, _⟩ := hx.cells
      obtain ⟨y0, y1, y2, y3, v0, v1, v2, v3⟩ := t.c.cells
      obtain ⟨z0, z1, z2, z3, _⟩ := (t.c.set (.int .u64 (p1 : Nat)) (.int .u64 (p2 : Nat)) (.int .u64 (p3 : Nat)) (.int .u64 (p4 : Nat))).cells
      have hbel := t.bel
      have hclt := t.c.lt
      have G4 : Hid (C4 (foldN P (come P 256)) p1 p2 p3 p4) := g4.congr fun y _ => fold_same P y
      clear g4 hx t
      go_wp2
      exact bodyPost_ret (v := .agg #[.int .u64 (p1 : Nat), .int .u64 (p2 : Nat), .int .u64 (p3 : Nat), .int .u64 (p4 : Nat)]) (by simp [results, Tryd.results34, go_sem, z0, z1, z2, z3]) rfl ⟨⟨p1, p2, p3, p4, rfl, G4.out⟩, below_put4 hbel (by omega) _ _ _ _⟩
end Go.Proofs.YthgjklhjfpillaaDoor
