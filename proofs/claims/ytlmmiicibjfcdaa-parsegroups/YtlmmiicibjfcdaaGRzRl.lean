/- The reference's Of, Not, Fold: the walks. The reference's Leaf: the walk. -/
import Derived.Test.YtlmmiicibjfcdaaGEqCkTailMkRuWd
import Derived.Test.YtlmmiicibjfcdaaFd
import Derived.Test.YtlmmiicibjfcdaaKn
import Derived.Test.YtlmmiicibjfcdaaPm
namespace Go.Proofs.Ytlmmiicibjfcdaa
open Go.RowKit
set_option maxRecDepth 10000 in
set_option maxHeartbeats 1000000 in
theorem rof_any (ao : Option Addr) (len cap : Nat) (z : Nat → Nat) (w : World) (hr : Rd w ao len z) (hl : (len : Int) ≤ 9223372036854775807) :
    Calls Try.prog 32 #[.slice ao len cap] w (RetC w (ofN z len)) := by
  have hW0 := Way.start w
  go_enter Try.func32, Try.ntmps32
  go_wp2
  go_loopw [4] (fun i wr => ∃ k : Nat, k ≤ len ∧ i = .int .i64 (k : Nat) ∧ Way w (ofN z k) wr) (fun i _ => len - (intOf i).toNat)
  case atStart => exact ⟨0, by omega, rfl, hW0⟩
  case round =>
    obtain ⟨k, hk, rfl, hW⟩ := hrel
    by_cases hlt : k < len
    · obtain ⟨bb, off, rfl, hbb, hc⟩ := hr.at_ (by omega)
      have hki : (k : Int) < (len : Int) := by omega
      have hk0 : (0 : Int) ≤ (k : Int) := by omega
      have hzk := hr.small k hlt
      go_wp2_with fail
      replace hW := hW.drew
      obtain ⟨a, b, c, d, h4, hx⟩ := hW.ex
      obtain ⟨c0, c1, c2, c3, f0, f1, f2, f3⟩ := hx.cells
      have t1 : wr.drew.cell? ⟨bb, off + k, none⟩ = some (.int .u8 (z k : Nat)) := by rw [hW.bel.cell (p := ⟨bb, off + k, none⟩) hbb]; exact hc k hlt
      have hw := rwith_c h4 (z k) wr.drew hzk
      have HI : Hid (ins (ofN z k) (z k) = ofN z (k + 1)) := rfl
      clear hc
      generalize hv : z k = v at *
      go_region_with (first | (go_at_call 58; refine hw.mono ?_; rintro e w' ⟨⟨a', b', c', d', rfl, h4'⟩, hb'⟩; have hW' := hW.next hb' h4'; obtain ⟨g0, g1, g2, g3, e0, e1, e2, e3⟩ := (hx.below hb').cells))
      all_goals go_wp2
      all_goals exact ⟨⟨k + 1, by omega, by go_num, by rw [← HI.out]; exact hW'⟩, by simp [intOf]; omega⟩
    · obtain rfl : k = len := by omega
      obtain ⟨a, b, c, d, h4, hx⟩ := hW.ex
      obtain ⟨c0, c1, c2, c3, f0, f1, f2, f3⟩ := hx.cells
      obtain ⟨p', q', r', s', hy⟩ := hW.res
      obtain ⟨y0, y1, y2, y3, v0, v1, v2, v3⟩ := hy.cells
      obtain ⟨z0, z1, z2, z3, _⟩ := (hy.set (.int .u64 (a : Nat)) (.int .u64 (b : Nat)) (.int .u64 (c : Nat)) (.int .u64 (d : Nat))).cells
      go_wp2
      exact bodyPost_ret (v := .agg #[.int .u64 (a : Nat), .int .u64 (b : Nat), .int .u64 (c : Nat), .int .u64 (d : Nat)]) (by simp [results, Try.results32, go_sem, z0, z1, z2, z3]) rfl ⟨⟨a, b, c, d, rfl, h4⟩, below_put4 hW.bel (Nat.le_refl _) _ _ _ _⟩
set_option maxHeartbeats 2000000 in
theorem rnot_walk (a b c d a' b' c' d' : Nat) (w : World) (ha : bits BinOp.xor IntKind.u64 (if IntKind.u64.signed = true then -1 else IntKind.u64.max) (a : Int) = (a' : Nat)) (hb : bits BinOp.xor IntKind.u64 (if IntKind.u64.signed = true then -1 else IntKind.u64.max) (b : Int) = (b' : Nat)) (hc : bits BinOp.xor IntKind.u64 (if IntKind.u64.signed = true then -1 else IntKind.u64.max) (c : Int) = (c' : Nat)) (hd : bits BinOp.xor IntKind.u64 (if IntKind.u64.signed = true then -1 else IntKind.u64.max) (d : Int) = (d' : Nat)) :
    Calls Try.prog 33 #[.agg #[.int .u64 (a : Nat), .int .u64 (b : Nat), .int .u64 (c : Nat), .int .u64 (d : Nat)]] w fun e w' => e = .returned (.agg #[.int .u64 (a' : Nat), .int .u64 (b' : Nat), .int .u64 (c' : Nat), .int .u64 (d' : Nat)]) ∧ Below w.heap.size w w' := by
  go_enter Try.func33, Try.ntmps33
  go_wp2
  go_loopw [3] (fun i wr => ∃ p q r s : Nat, wr = (w.alloc (.cells #[.int .u64 (p : Nat), .int .u64 (q : Nat), .int .u64 (r : Nat), .int .u64 (s : Nat)] 40)).alloc (.cells #[.int .u64 0, .int .u64 0, .int .u64 0, .int .u64 0] 40) ∧ ((i = .int .i64 0 ∧ p = a ∧ q = b ∧ r = c ∧ s = d) ∨ (i = .int .i64 1 ∧ p = a' ∧ q = b ∧ r = c ∧ s = d) ∨ (i = .int .i64 2 ∧ p = a' ∧ q = b' ∧ r = c ∧ s = d) ∨ (i = .int .i64 3 ∧ p = a' ∧ q = b' ∧ r = c' ∧ s = d) ∨ (i = .int .i64 4 ∧ p = a' ∧ q = b' ∧ r = c' ∧ s = d'))) (fun i _ => 4 - (intOf i).toNat)
  case atStart => exact ⟨a, b, c, d, rfl, .inl ⟨rfl, rfl, rfl, rfl, rfl⟩⟩
  case round =>
    obtain ⟨p, q, r, s, rfl, h⟩ := hrel
    rcases h with ⟨rfl, rfl, rfl, rfl, rfl⟩ | ⟨rfl, rfl, rfl, rfl, rfl⟩ | ⟨rfl, rfl, rfl, rfl, rfl⟩ | ⟨rfl, rfl, rfl, rfl, rfl⟩ | ⟨rfl, rfl, rfl, rfl, rfl⟩
    · go_wp2
      go_roundw
      case rel => exact ⟨_, _, _, _, rfl, .inr (.inl ⟨rfl, rfl, rfl, rfl, rfl⟩)⟩
      case measure => decide
    · go_wp2
      go_roundw
      case rel => exact ⟨_, _, _, _, rfl, .inr (.inr (.inl ⟨rfl, rfl, rfl, rfl, rfl⟩))⟩
      case measure => decide
    · go_wp2
      go_roundw
      case rel => exact ⟨_, _, _, _, rfl, .inr (.inr (.inr (.inl ⟨rfl, rfl, rfl, rfl, rfl⟩)))⟩
      case measure => decide
    · go_wp2
      go_roundw
      case rel => exact ⟨_, _, _, _, rfl, .inr (.inr (.inr (.inr ⟨rfl, rfl, rfl, rfl, rfl⟩)))⟩
      case measure => decide
    · go_wp2
      exact bodyPost_ret (v := .agg #[.int .u64 (p : Nat), .int .u64 (q : Nat), .int .u64 (r : Nat), .int .u64 (s : Nat)]) (by simp [results, Try.results33, go_sem]) rfl ⟨rfl, below2 _ _ _⟩
/-- rnot. -/
theorem rnot_c {P : Nat → Bool} {a b c d : Nat} (h : C4 P a b c d) (w : World) : Calls Try.prog 33 #[.agg #[.int .u64 (a : Nat), .int .u64 (b : Nat), .int .u64 (c : Nat), .int .u64 (d : Nat)]] w (RetC w fun x => !P x) := by
  exact (rnot_walk a b c d _ _ _ _ w (not_val h.la) (not_val h.lb) (not_val h.lc) (not_val h.ld)).mono fun e w' ⟨he, hb⟩ => ⟨⟨_, _, _, _, he, h.not⟩, hb⟩
/-- P, and of the first k letters both cases, where one of them is in P. -/
def rfN (P : Nat → Bool) : Nat → Nat → Bool
  | 0 => P
  | k + 1 => if P (97 + k) || P (65 + k) then ins (ins (rfN P k) (97 + k)) (65 + k) else rfN P k
theorem rfN_iff (P : Nat → Bool) (k y : Nat) : rfN P k y = true ↔ P y = true ∨ ∃ i, i < k ∧ (P (97 + i) = true ∨ P (65 + i) = true) ∧ (y = 97 + i ∨ y = 65 + i) := by
  induction k with
  | zero => simp [rfN]
  | succ k ih =>
    unfold rfN
    by_cases hc : (P (97 + k) || P (65 + k)) = true
    · rw [if_pos hc]
      simp only [ins, Bool.or_eq_true, beq_iff_eq, ih]
      constructor
      · rintro ((h | h) | h)
        · rcases h with h | ⟨i, hi, h⟩
          · exact .inl h
          · exact .inr ⟨i, by omega, h⟩
        · exact .inr ⟨k, by omega, by simpa using hc, .inl h⟩
        · exact .inr ⟨k, by omega, by simpa using hc, .inr h⟩
      · rintro (h | ⟨i, hi, h1, h2⟩)
        · exact .inl (.inl (.inl h))
        · by_cases e : i = k
          · subst e
            rcases h2 with h2 | h2
            · exact .inl (.inr h2)
            · exact .inr h2
          · exact .inl (.inl (.inr ⟨i, by omega, h1, h2⟩))
    · rw [if_neg hc, ih]
      constructor
      · rintro (h | ⟨i, hi, h⟩)
        · exact .inl h
        · exact .inr ⟨i, by omega, h⟩
      · rintro (h | ⟨i, hi, h1, h2⟩)
        · exact .inl h
        · by_cases e : i = k
          · subst e
            exact absurd (by simpa using h1) hc
          · exact .inr ⟨i, by omega, h1, h2⟩
theorem other_case : ∀ b : Nat, b < 256 → ltr b = true → (b ^^^ 32 < 256 ∧ ∃ i, i < 26 ∧ ((b = 97 + i ∧ b ^^^ 32 = 65 + i) ∨ (b = 65 + i ∧ b ^^^ 32 = 97 + i))) := by
  intro b hb h
  have key : ∀ b : Fin 256, ltr b.1 = true → (b.1 ^^^ 32 < 256 ∧ ((97 ≤ b.1 ∧ b.1 < 123 ∧ b.1 ^^^ 32 = b.1 - 32) ∨ (65 ≤ b.1 ∧ b.1 < 91 ∧ b.1 ^^^ 32 = b.1 + 32))) := by decide +kernel
  obtain ⟨h1, h2⟩ := key ⟨b, hb⟩ h
  refine ⟨h1, ?_⟩
  rcases h2 with ⟨a1, a2, a3⟩ | ⟨a1, a2, a3⟩
  · simp only at a1 a2 a3
    exact ⟨b - 97, by omega, .inl ⟨by omega, by omega⟩⟩
  · simp only at a1 a2 a3
    exact ⟨b - 65, by omega, .inr ⟨by omega, by omega⟩⟩
theorem letters : ∀ i : Nat, i < 26 → ltr (97 + i) = true ∧ ltr (65 + i) = true ∧ (97 + i) ^^^ 32 = 65 + i ∧ (65 + i) ^^^ 32 = 97 + i := by
  intro i hi
  have key : ∀ i : Fin 26, ltr (97 + i.1) = true ∧ ltr (65 + i.1) = true ∧ (97 + i.1) ^^^ 32 = 65 + i.1 ∧ (65 + i.1) ^^^ 32 = 97 + i.1 := by decide +kernel
  exact key ⟨i, hi⟩
/-- Both ways to fold are one. -/
theorem fold_same (P : Nat → Bool) (y : Nat) : rfN P 26 y = foldN P (come P 256) y := by
  rw [Bool.eq_iff_iff, rfN_iff]
  unfold foldN come
  simp only [Bool.or_eq_true, List.any_eq_true, List.mem_filter, List.mem_range, Bool.and_eq_true, beq_iff_eq]
  constructor
  · rintro (h | ⟨i, hi, h1, h2⟩)
    · exact .inl h
    · obtain ⟨l1, l2, x1, x2⟩ := letters i hi
      rcases h1 with h1 | h1 <;> rcases h2 with h2 | h2
      · exact .inl (h2 ▸ h1)
      · exact .inr ⟨97 + i, ⟨by omega, h1⟩, l1, by rw [x1, h2]⟩
      · exact .inr ⟨65 + i, ⟨by omega, h1⟩, l2, by rw [x2, h2]⟩
      · exact .inl (h2 ▸ h1)
  · rintro (h | ⟨b, ⟨hb, hP⟩, hl, rfl⟩)
    · exact .inl h
    · obtain ⟨_, i, hi, (⟨e1, e2⟩ | ⟨e1, e2⟩)⟩ := other_case b hb hl
      · exact .inr ⟨i, hi, .inl (e1 ▸ hP), .inr e2⟩
      · exact .inr ⟨i, hi, .inr (e1 ▸ hP), .inl e2⟩
/-- The class, the result's box and what comes of it. -/
structure F3 (w : World) (a b c d : Nat) (P : Nat → Bool) (wr : World) : Prop where
  a : Bx wr w.heap.size (.int .u64 (a : Nat)) (.int .u64 (b : Nat)) (.int .u64 (c : Nat)) (.int .u64 (d : Nat))
  c : Bx wr (w.heap.size + 1) (.int .u64 0) (.int .u64 0) (.int .u64 0) (.int .u64 0)
  f : ∃ p q r s, C4 P p q r s ∧ Bx wr (w.heap.size + 1 + 1) (.int .u64 (p : Nat)) (.int .u64 (q : Nat)) (.int .u64 (r : Nat)) (.int .u64 (s : Nat))
  bel : Below w.heap.size w wr
theorem F3.below {w : World} {a b c d : Nat} {P : Nat → Bool} {wr wr' : World} (t : F3 w a b c d P wr) (hb : Below wr.heap.size wr wr') : F3 w a b c d P wr' := by
  obtain ⟨p, q, r, s, h4, hx⟩ := t.f
  exact ⟨t.a.below hb, t.c.below hb, ⟨p, q, r, s, h4, hx.below hb⟩, t.bel.trans (hb.mono t.bel.size)⟩
theorem F3.put {w : World} {a b c d : Nat} {P Q : Nat → Bool} {wr : World} (t : F3 w a b c d P wr) {p q r s : Nat} (h4 : C4 Q p q r s) : F3 w a b c d Q (put4 wr (w.heap.size + 1 + 1) (.int .u64 (p : Nat)) (.int .u64 (q : Nat)) (.int .u64 (r : Nat)) (.int .u64 (s : Nat))) := by
  obtain ⟨_, _, _, _, _, hx⟩ := t.f
  exact ⟨t.a.others (by omega) _ _ _ _, t.c.others (by omega) _ _ _ _, ⟨p, q, r, s, h4, hx.set _ _ _ _⟩, below_put4 t.bel (by omega) _ _ _ _⟩
theorem F3.start {P : Nat → Bool} {a b c d : Nat} (h4 : C4 P a b c d) (w : World) : F3 w a b c d P (((w.alloc (.cells #[.int .u64 (a : Nat), .int .u64 (b : Nat), .int .u64 (c : Nat), .int .u64 (d : Nat)] 40)).alloc (.cells #[.int .u64 0, .int .u64 0, .int .u64 0, .int .u64 0] 40)).alloc (.cells #[.int .u64 (a : Nat), .int .u64 (b : Nat), .int .u64 (c : Nat), .int .u64 (d : Nat)] 40)) := by
  refine ⟨((Bx.new w _ _ _ _).alloc _).alloc _, Bx.alloc ?_ _, ⟨a, b, c, d, h4, ?_⟩, below3 _ _ _ _⟩
  · have := Bx.new (w.alloc (.cells #[.int .u64 (a : Nat), .int .u64 (b : Nat), .int .u64 (c : Nat), .int .u64 (d : Nat)] 40)) (.int .u64 0) (.int .u64 0) (.int .u64 0) (.int .u64 0)
    simpa using this
  · have := Bx.new ((w.alloc (.cells #[.int .u64 (a : Nat), .int .u64 (b : Nat), .int .u64 (c : Nat), .int .u64 (d : Nat)] 40)).alloc (.cells #[.int .u64 0, .int .u64 0, .int .u64 0, .int .u64 0] 40)) (.int .u64 (a : Nat)) (.int .u64 (b : Nat)) (.int .u64 (c : Nat)) (.int .u64 (d : Nat))
    simpa using this
set_option maxRecDepth 10000 in
set_option maxHeartbeats 3000000 in
theorem rfold_c {P : Nat → Bool} {a b c d : Nat} (h4 : C4 P a b c d) (w : World) : Calls Try.prog 57 #[.agg #[.int .u64 (a : Nat), .int .u64 (b : Nat), .int .u64 (c : Nat), .int .u64 (d : Nat)]] w (RetC w (foldN P (come P 256))) := by
  have t0 := F3.start h4 w
  go_enter Try.func57, Try.ntmps57
  go_wp2_with fail
  go_loopw [4] (fun i wr => ∃ k q : Nat, k ≤ 26 ∧ q = 97 + k ∧ i = .int .u8 (q : Nat) ∧ F3 w a b c d (rfN P k) wr) (fun i _ => 123 - (intOf i).toNat)
  case atStart => exact ⟨0, 97, by omega, rfl, rfl, t0⟩
  case round =>
    obtain ⟨k, q, hk, hq, rfl, t⟩ := hrel
    clear t0
    by_cases hlt : k < 26
    · have hq1 : (q : Int) ≤ 122 := by omega
      have hq0 : (97 : Int) ≤ (q : Int) := by omega
      have HQ : Hid (q = 97 + k) := hq
      obtain ⟨r, hr⟩ : ∃ r, r = 65 + k := ⟨_, rfl⟩
      have hqr : (q : Int) - 32 = (r : Nat) := by omega
      have HR : Hid (r = 65 + k) := hr
      have hq8 : q < 256 := by omega
      have hr8 : r < 256 := by omega
      have HN : Hid (rfN P (k + 1) = if P q || P r then ins (ins (rfN P k) q) r else rfN P k) := by unfold Hid; rw [hq, hr]; rfl
      clear hq hr
      obtain ⟨c0, c1, c2, c3, _⟩ := t.a.cells
      have H4 : Hid (C4 P a b c d) := h4
      go_wp2_with fail
      refine (rhas_c h4 q _ hq8).mono ?_
      rintro e w1 ⟨rfl, hb1⟩
      replace t := t.below hb1
      clear c0 c1 c2 c3 hb1
      obtain ⟨c0, c1, c2, c3, _⟩ := t.a.cells
      by_cases hPq : P q = true
      · rw [hPq]
        have HP : Hid ((P q || P r) = true) := by unfold Hid; rw [hPq]; rfl
        obtain ⟨p1, p2, p3, p4, g4, hx⟩ := t.f
        obtain ⟨x0, x1, x2, x3, _⟩ := hx.cells
        go_wp2_with fail
        refine (rwith_c g4 q _ hq8).mono ?_
        rintro e wq ⟨⟨p1', p2', p3', p4', rfl, g4'⟩, hbq⟩
        replace t := t.below hbq
        clear c0 c1 c2 c3 x0 x1 x2 x3 hbq g4 hx
        go_wp2_with fail
        refine (rwith_c g4' r _ hr8).mono ?_
        rintro e wz ⟨⟨p5, p6, p7, p8, rfl, g5⟩, hbz⟩
        replace t := t.below hbz
        obtain ⟨_, _, _, _, _, hx⟩ := t.f
        obtain ⟨x0, x1, x2, x3, y0, y1, y2, y3⟩ := hx.cells
        have hxl := hx.lt
        have t' := t.put g5
        clear hbz t hx
        go_wp2
        have hq := HQ.out
        exact ⟨⟨k + 1, q + 1, by omega, by omega, by go_num, by rw [HN.out, if_pos HP.out]; exact t'⟩, by simp [intOf]; omega⟩
      · have hPq' : P q = false := by simpa using hPq
        rw [hPq']
        go_wp2_with fail
        refine (rhas_c h4 r _ hr8).mono ?_
        rintro e w2 ⟨rfl, hb2⟩
        replace t := t.below hb2
        clear c0 c1 c2 c3 hb2
        obtain ⟨c0, c1, c2, c3, _⟩ := t.a.cells
        by_cases hPr : P r = true
        · rw [hPr]
          have HP : Hid ((P q || P r) = true) := by unfold Hid; rw [hPr]; simp
          obtain ⟨p1, p2, p3, p4, g4, hx⟩ := t.f
          obtain ⟨x0, x1, x2, x3, _⟩ := hx.cells
          go_wp2_with fail
          refine (rwith_c g4 q _ hq8).mono ?_
          rintro e wq ⟨⟨p1', p2', p3', p4', rfl, g4'⟩, hbq⟩
          replace t := t.below hbq
          clear c0 c1 c2 c3 x0 x1 x2 x3 hbq g4 hx
          go_wp2_with fail
          refine (rwith_c g4' r _ hr8).mono ?_
          rintro e wz ⟨⟨p5, p6, p7, p8, rfl, g5⟩, hbz⟩
          replace t := t.below hbz
          obtain ⟨_, _, _, _, _, hx⟩ := t.f
          obtain ⟨x0, x1, x2, x3, y0, y1, y2, y3⟩ := hx.cells
          have hxl := hx.lt
          have t' := t.put g5
          clear hbz t hx
          go_wp2
          have hq := HQ.out
          exact ⟨⟨k + 1, q + 1, by omega, by omega, by go_num, by rw [HN.out, if_pos HP.out]; exact t'⟩, by simp [intOf]; omega⟩
        · have hPr' : P r = false := by simpa using hPr
          rw [hPr']
          have HP : Hid (¬ (P q || P r) = true) := by unfold Hid; rw [hPq', hPr']; simp
          go_wp2
          have hq := HQ.out
          exact ⟨⟨k + 1, q + 1, by omega, by omega, by go_num, by rw [HN.out, if_neg HP.out]; exact t⟩, by simp [intOf]; omega⟩
    · obtain rfl : k = 26 := by omega
      obtain rfl : q = 123 := by omega
      obtain ⟨p1, p2, p3, p4, g4, hx⟩ := t.f
      obtain ⟨x0, x1, x2, x3, _⟩ := hx.cells
      obtain ⟨y0, y1, y2, y3, v0, v1, v2, v3⟩ := t.c.cells
      obtain ⟨z0, z1, z2, z3, _⟩ := (t.c.set (.int .u64 (p1 : Nat)) (.int .u64 (p2 : Nat)) (.int .u64 (p3 : Nat)) (.int .u64 (p4 : Nat))).cells
      have hbel := t.bel
      have hclt := t.c.lt
      have G4 : Hid (C4 (foldN P (come P 256)) p1 p2 p3 p4) := g4.congr fun y _ => fold_same P y
      clear g4 hx t
      go_wp2
      exact bodyPost_ret (v := .agg #[.int .u64 (p1 : Nat), .int .u64 (p2 : Nat), .int .u64 (p3 : Nat), .int .u64 (p4 : Nat)]) (by simp [results, Try.results57, go_sem, z0, z1, z2, z3]) rfl ⟨⟨p1, p2, p3, p4, rfl, G4.out⟩, below_put4 hbel (by omega) _ _ _ _⟩
end Go.Proofs.Ytlmmiicibjfcdaa
namespace Go.Proofs.Ytlmmiicibjfcdaa
open Go.RowKit
set_option maxRecDepth 10000 in
set_option maxHeartbeats 2000000 in
theorem rcased_c {P : Nat → Bool} {a b c d : Nat} (h4 : C4 P a b c d) (fl : Fg) (w : World) : Calls Try.prog 31 #[.agg #[.int .u64 (a : Nat), .int .u64 (b : Nat), .int .u64 (c : Nat), .int .u64 (d : Nat)], fgV fl] w (RetC w (csP fl P)) := by
  have hB := below3 w (.cells #[.int .u64 (a : Nat), .int .u64 (b : Nat), .int .u64 (c : Nat), .int .u64 (d : Nat)] 40) (.cells #[.bool fl.c, .bool fl.d, .bool fl.m, .bool fl.o, .bool fl.l] 23) (.cells #[.int .u64 0, .int .u64 0, .int .u64 0, .int .u64 0] 40)
  unfold fgV csP
  cases hc : fl.c with
  | false =>
    rw [if_neg (by decide)]
    rw [hc] at hB
    go_enter Try.func31, Try.ntmps31
    go_wp2
    exact bodyPost_ret (v := .agg #[.int .u64 (a : Nat), .int .u64 (b : Nat), .int .u64 (c : Nat), .int .u64 (d : Nat)]) (by simp [results, Try.results31, go_sem]) rfl ⟨⟨a, b, c, d, rfl, h4⟩, below3 _ _ _ _⟩
  | true =>
    rw [if_pos rfl]
    rw [hc] at hB
    have hz : Bx (((w.alloc (.cells #[.int .u64 (a : Nat), .int .u64 (b : Nat), .int .u64 (c : Nat), .int .u64 (d : Nat)] 40)).alloc (.cells #[.bool true, .bool fl.d, .bool fl.m, .bool fl.o, .bool fl.l] 23)).alloc (.cells #[.int .u64 0, .int .u64 0, .int .u64 0, .int .u64 0] 40)) (w.heap.size + 1 + 1) (.int .u64 0) (.int .u64 0) (.int .u64 0) (.int .u64 0) := by
      have := Bx.new ((w.alloc (.cells #[.int .u64 (a : Nat), .int .u64 (b : Nat), .int .u64 (c : Nat), .int .u64 (d : Nat)] 40)).alloc (.cells #[.bool true, .bool fl.d, .bool fl.m, .bool fl.o, .bool fl.l] 23)) (.int .u64 0) (.int .u64 0) (.int .u64 0) (.int .u64 0)
      simpa using this
    have HF := rfold_c h4 (((w.alloc (.cells #[.int .u64 (a : Nat), .int .u64 (b : Nat), .int .u64 (c : Nat), .int .u64 (d : Nat)] 40)).alloc (.cells #[.bool true, .bool fl.d, .bool fl.m, .bool fl.o, .bool fl.l] 23)).alloc (.cells #[.int .u64 0, .int .u64 0, .int .u64 0, .int .u64 0] 40))
    go_enter Try.func31, Try.ntmps31
    go_wp2_with fail
    refine HF.mono ?_
    rintro e w1 ⟨⟨a', b', c', d', rfl, h4'⟩, hb1⟩
    have hx := hz.below hb1
    have hB1 := hB.trans (hb1.mono hB.size)
    obtain ⟨y0, y1, y2, y3, v0, v1, v2, v3⟩ := hx.cells
    obtain ⟨z0, z1, z2, z3, _⟩ := (hx.set (.int .u64 (a' : Nat)) (.int .u64 (b' : Nat)) (.int .u64 (c' : Nat)) (.int .u64 (d' : Nat))).cells
    have HB : Hid (Below w.heap.size w (put4 w1 (w.heap.size + 1 + 1) (.int .u64 (a' : Nat)) (.int .u64 (b' : Nat)) (.int .u64 (c' : Nat)) (.int .u64 (d' : Nat)))) := below_put4 hB1 (by omega) _ _ _ _
    clear hb1 HF hB hB1 hz
    go_wp2
    exact bodyPost_ret (v := .agg #[.int .u64 (a' : Nat), .int .u64 (b' : Nat), .int .u64 (c' : Nat), .int .u64 (d' : Nat)]) (by simp [results, Try.results31, go_sem, z0, z1, z2, z3]) rfl ⟨⟨a', b', c', d', rfl, h4'⟩, HB.out⟩
section
variable (fl : Fg) (b a0 a1 a2 a3 : Nat) (nt : Bool) (l m : Int) (lz : Bool) (t : Int) (w : World)
theorem below4 (w : World) (o o' o'' o3 : Obj) : Below w.heap.size w ((((w.alloc o).alloc o').alloc o'').alloc o3) := (below3 w o o' o'').alloc (by simp; omega) _
theorem rleaf_start (k : Int) : Below w.heap.size w ((((w.alloc (.cells #[.int .i64 k, .int .u8 (b : Nat), .int .u64 (a0 : Nat), .int .u64 (a1 : Nat), .int .u64 (a2 : Nat), .int .u64 (a3 : Nat), .bool nt, .int .i64 l, .int .i64 m, .bool lz, .int .i64 t] 42)).alloc (.cells #[.bool fl.c, .bool fl.d, .bool fl.m, .bool fl.o, .bool fl.l] 23)).alloc (.cells #[.int .i64 0, .int .u64 0, .int .u64 0, .int .u64 0, .int .u64 0, .int .i64 0, .int .i64 0, .int .i64 0, .int .i64 0, .bool false] 44)).alloc (.cells #[.int .i64 2, .int .u64 0, .int .u64 0, .int .u64 0, .int .u64 0, .int .i64 0, .int .i64 0, .int .i64 0, .int .i64 0, .bool false] 44)) ∧ Cl ((((w.alloc (.cells #[.int .i64 k, .int .u8 (b : Nat), .int .u64 (a0 : Nat), .int .u64 (a1 : Nat), .int .u64 (a2 : Nat), .int .u64 (a3 : Nat), .bool nt, .int .i64 l, .int .i64 m, .bool lz, .int .i64 t] 42)).alloc (.cells #[.bool fl.c, .bool fl.d, .bool fl.m, .bool fl.o, .bool fl.l] 23)).alloc (.cells #[.int .i64 0, .int .u64 0, .int .u64 0, .int .u64 0, .int .u64 0, .int .i64 0, .int .i64 0, .int .i64 0, .int .i64 0, .bool false] 44)).alloc (.cells #[.int .i64 2, .int .u64 0, .int .u64 0, .int .u64 0, .int .u64 0, .int .i64 0, .int .i64 0, .int .i64 0, .int .i64 0, .bool false] 44)) w.heap.size 42 [.int .i64 k, .int .u8 (b : Nat), .int .u64 (a0 : Nat), .int .u64 (a1 : Nat), .int .u64 (a2 : Nat), .int .u64 (a3 : Nat), .bool nt, .int .i64 l, .int .i64 m, .bool lz, .int .i64 t] ∧ Cl ((((w.alloc (.cells #[.int .i64 k, .int .u8 (b : Nat), .int .u64 (a0 : Nat), .int .u64 (a1 : Nat), .int .u64 (a2 : Nat), .int .u64 (a3 : Nat), .bool nt, .int .i64 l, .int .i64 m, .bool lz, .int .i64 t] 42)).alloc (.cells #[.bool fl.c, .bool fl.d, .bool fl.m, .bool fl.o, .bool fl.l] 23)).alloc (.cells #[.int .i64 0, .int .u64 0, .int .u64 0, .int .u64 0, .int .u64 0, .int .i64 0, .int .i64 0, .int .i64 0, .int .i64 0, .bool false] 44)).alloc (.cells #[.int .i64 2, .int .u64 0, .int .u64 0, .int .u64 0, .int .u64 0, .int .i64 0, .int .i64 0, .int .i64 0, .int .i64 0, .bool false] 44)) (w.heap.size + 1) 23 [.bool fl.c, .bool fl.d, .bool fl.m, .bool fl.o, .bool fl.l] ∧ Cl ((((w.alloc (.cells #[.int .i64 k, .int .u8 (b : Nat), .int .u64 (a0 : Nat), .int .u64 (a1 : Nat), .int .u64 (a2 : Nat), .int .u64 (a3 : Nat), .bool nt, .int .i64 l, .int .i64 m, .bool lz, .int .i64 t] 42)).alloc (.cells #[.bool fl.c, .bool fl.d, .bool fl.m, .bool fl.o, .bool fl.l] 23)).alloc (.cells #[.int .i64 0, .int .u64 0, .int .u64 0, .int .u64 0, .int .u64 0, .int .i64 0, .int .i64 0, .int .i64 0, .int .i64 0, .bool false] 44)).alloc (.cells #[.int .i64 2, .int .u64 0, .int .u64 0, .int .u64 0, .int .u64 0, .int .i64 0, .int .i64 0, .int .i64 0, .int .i64 0, .bool false] 44)) (w.heap.size + 1 + 1) 44 [.int .i64 0, .int .u64 0, .int .u64 0, .int .u64 0, .int .u64 0, .int .i64 0, .int .i64 0, .int .i64 0, .int .i64 0, .bool false] ∧ Cl ((((w.alloc (.cells #[.int .i64 k, .int .u8 (b : Nat), .int .u64 (a0 : Nat), .int .u64 (a1 : Nat), .int .u64 (a2 : Nat), .int .u64 (a3 : Nat), .bool nt, .int .i64 l, .int .i64 m, .bool lz, .int .i64 t] 42)).alloc (.cells #[.bool fl.c, .bool fl.d, .bool fl.m, .bool fl.o, .bool fl.l] 23)).alloc (.cells #[.int .i64 0, .int .u64 0, .int .u64 0, .int .u64 0, .int .u64 0, .int .i64 0, .int .i64 0, .int .i64 0, .int .i64 0, .bool false] 44)).alloc (.cells #[.int .i64 2, .int .u64 0, .int .u64 0, .int .u64 0, .int .u64 0, .int .i64 0, .int .i64 0, .int .i64 0, .int .i64 0, .bool false] 44)) (w.heap.size + 1 + 1 + 1) 44 [.int .i64 2, .int .u64 0, .int .u64 0, .int .u64 0, .int .u64 0, .int .i64 0, .int .i64 0, .int .i64 0, .int .i64 0, .bool false] := by
  obtain ⟨hB, kT, kF, kN⟩ := leaf_start fl b a0 a1 a2 a3 nt l m lz t w k
  refine ⟨below4 w _ _ _ _, kT.alloc _, kF.alloc _, kN.alloc _, ?_⟩
  have := Cl.new (((w.alloc (.cells #[.int .i64 k, .int .u8 (b : Nat), .int .u64 (a0 : Nat), .int .u64 (a1 : Nat), .int .u64 (a2 : Nat), .int .u64 (a3 : Nat), .bool nt, .int .i64 l, .int .i64 m, .bool lz, .int .i64 t] 42)).alloc (.cells #[.bool fl.c, .bool fl.d, .bool fl.m, .bool fl.o, .bool fl.l] 23)).alloc (.cells #[.int .i64 0, .int .u64 0, .int .u64 0, .int .u64 0, .int .u64 0, .int .i64 0, .int .i64 0, .int .i64 0, .int .i64 0, .bool false] 44)) 44 [.int .i64 2, .int .u64 0, .int .u64 0, .int .u64 0, .int .u64 0, .int .i64 0, .int .i64 0, .int .i64 0, .int .i64 0, .bool false]
  simpa using this
set_option maxRecDepth 10000 in
set_option maxHeartbeats 2000000 in
theorem rleaf_8 : Calls Try.prog 16 #[tokI 8 b a0 a1 a2 a3 nt l m lz t, fgV fl] w (RetLf w (ndK 6, true)) := by
  unfold tokI fgV
  go_enter Try.func16, Try.ntmps16
  go_wp2
  exact bodyPost_ret (v := .tuple #[.agg #[.int .i64 6, .int .u64 0, .int .u64 0, .int .u64 0, .int .u64 0, .int .i64 0, .int .i64 0, .int .i64 0, .int .i64 0, .bool false], .bool true]) (by simp [results, Try.results16, go_sem]) rfl ⟨rfl, below4 _ _ _ _ _⟩
set_option maxRecDepth 10000 in
set_option maxHeartbeats 2000000 in
theorem rleaf_9 : Calls Try.prog 16 #[tokI 9 b a0 a1 a2 a3 nt l m lz t, fgV fl] w (RetLf w (ndK 7, true)) := by
  unfold tokI fgV
  go_enter Try.func16, Try.ntmps16
  go_wp2
  exact bodyPost_ret (v := .tuple #[.agg #[.int .i64 7, .int .u64 0, .int .u64 0, .int .u64 0, .int .u64 0, .int .i64 0, .int .i64 0, .int .i64 0, .int .i64 0, .bool false], .bool true]) (by simp [results, Try.results16, go_sem]) rfl ⟨rfl, below4 _ _ _ _ _⟩
set_option maxRecDepth 10000 in
set_option maxHeartbeats 2000000 in
theorem rleaf_0 (k : Int) (h1 : (k == 1) = false) (h2 : (k == 2) = false) (h3 : (k == 3) = false) (h8 : (k == 8) = false) (h9 : (k == 9) = false) : Calls Try.prog 16 #[tokI k b a0 a1 a2 a3 nt l m lz t, fgV fl] w (RetLf w (ndK 0, false)) := by
  unfold tokI fgV
  go_enter Try.func16, Try.ntmps16
  go_wp2
  exact bodyPost_ret (v := .tuple #[.agg #[.int .i64 0, .int .u64 0, .int .u64 0, .int .u64 0, .int .u64 0, .int .i64 0, .int .i64 0, .int .i64 0, .int .i64 0, .bool false], .bool false]) (by simp [results, Try.results16, go_sem]) rfl ⟨rfl, below4 _ _ _ _ _⟩
set_option maxRecDepth 10000 in
set_option maxHeartbeats 2000000 in
theorem rleaf_2f {P : Nat → Bool} (h0 : C4 P a0 a1 a2 a3) : Calls Try.prog 16 #[tokI 2 b a0 a1 a2 a3 false l m lz t, fgV fl] w (RetLf w (clN (csP fl P), true)) := by
  obtain ⟨hB, kT, kF, kR, kN⟩ := rleaf_start fl b a0 a1 a2 a3 false l m lz t w 2
  have HC := rcased_c h0 fl ((((w.alloc (.cells #[.int .i64 2, .int .u8 (b : Nat), .int .u64 (a0 : Nat), .int .u64 (a1 : Nat), .int .u64 (a2 : Nat), .int .u64 (a3 : Nat), .bool false, .int .i64 l, .int .i64 m, .bool lz, .int .i64 t] 42)).alloc (.cells #[.bool fl.c, .bool fl.d, .bool fl.m, .bool fl.o, .bool fl.l] 23)).alloc (.cells #[.int .i64 0, .int .u64 0, .int .u64 0, .int .u64 0, .int .u64 0, .int .i64 0, .int .i64 0, .int .i64 0, .int .i64 0, .bool false] 44)).alloc (.cells #[.int .i64 2, .int .u64 0, .int .u64 0, .int .u64 0, .int .u64 0, .int .i64 0, .int .i64 0, .int .i64 0, .int .i64 0, .bool false] 44))
  unfold tokI
  unfold fgV at *
  go_enter Try.func16, Try.ntmps16
  go_wp2_with fail
  refine HC.mono ?_
  clear HC
  generalize (((w.alloc (.cells #[.int .i64 2, .int .u8 (b : Nat), .int .u64 (a0 : Nat), .int .u64 (a1 : Nat), .int .u64 (a2 : Nat), .int .u64 (a3 : Nat), .bool false, .int .i64 l, .int .i64 m, .bool lz, .int .i64 t] 42)).alloc (.cells #[.bool fl.c, .bool fl.d, .bool fl.m, .bool fl.o, .bool fl.l] 23)).alloc (.cells #[.int .i64 0, .int .u64 0, .int .u64 0, .int .u64 0, .int .u64 0, .int .i64 0, .int .i64 0, .int .i64 0, .int .i64 0, .bool false] 44)).alloc (.cells #[.int .i64 2, .int .u64 0, .int .u64 0, .int .u64 0, .int .u64 0, .int .i64 0, .int .i64 0, .int .i64 0, .int .i64 0, .bool false] 44) = V at *
  rintro e w1 ⟨⟨q0, q1, q2, q3, rfl, h4⟩, hb1⟩
  have kT1 := kT.below hb1
  have kF1 := kF.below hb1
  have kR1 := kR.below hb1
  have kN1 := kN.below hb1
  have hB1 := hB.trans (hb1.mono hB.size)
  have kTU : Cl ((((w1.setCell ⟨w.heap.size + 1 + 1 + 1, 1, none⟩ (.int .u64 (q0 : Nat))).setCell ⟨w.heap.size + 1 + 1 + 1, 2, none⟩ (.int .u64 (q1 : Nat))).setCell ⟨w.heap.size + 1 + 1 + 1, 3, none⟩ (.int .u64 (q2 : Nat))).setCell ⟨w.heap.size + 1 + 1 + 1, 4, none⟩ (.int .u64 (q3 : Nat))) w.heap.size 42 _ := ((((kT1.other (by omega) 1 (.int .u64 (q0 : Nat))).other (by omega) 2 (.int .u64 (q1 : Nat))).other (by omega) 3 (.int .u64 (q2 : Nat))).other (by omega) 4 (.int .u64 (q3 : Nat)))
  have kFU : Cl ((((w1.setCell ⟨w.heap.size + 1 + 1 + 1, 1, none⟩ (.int .u64 (q0 : Nat))).setCell ⟨w.heap.size + 1 + 1 + 1, 2, none⟩ (.int .u64 (q1 : Nat))).setCell ⟨w.heap.size + 1 + 1 + 1, 3, none⟩ (.int .u64 (q2 : Nat))).setCell ⟨w.heap.size + 1 + 1 + 1, 4, none⟩ (.int .u64 (q3 : Nat))) (w.heap.size + 1) 23 _ := ((((kF1.other (by omega) 1 (.int .u64 (q0 : Nat))).other (by omega) 2 (.int .u64 (q1 : Nat))).other (by omega) 3 (.int .u64 (q2 : Nat))).other (by omega) 4 (.int .u64 (q3 : Nat)))
  have kRU : Cl ((((w1.setCell ⟨w.heap.size + 1 + 1 + 1, 1, none⟩ (.int .u64 (q0 : Nat))).setCell ⟨w.heap.size + 1 + 1 + 1, 2, none⟩ (.int .u64 (q1 : Nat))).setCell ⟨w.heap.size + 1 + 1 + 1, 3, none⟩ (.int .u64 (q2 : Nat))).setCell ⟨w.heap.size + 1 + 1 + 1, 4, none⟩ (.int .u64 (q3 : Nat))) (w.heap.size + 1 + 1) 44 [.int .i64 0, .int .u64 0, .int .u64 0, .int .u64 0, .int .u64 0, .int .i64 0, .int .i64 0, .int .i64 0, .int .i64 0, .bool false] := ((((kR1.other (by omega) 1 (.int .u64 (q0 : Nat))).other (by omega) 2 (.int .u64 (q1 : Nat))).other (by omega) 3 (.int .u64 (q2 : Nat))).other (by omega) 4 (.int .u64 (q3 : Nat)))
  have kNU : Cl ((((w1.setCell ⟨w.heap.size + 1 + 1 + 1, 1, none⟩ (.int .u64 (q0 : Nat))).setCell ⟨w.heap.size + 1 + 1 + 1, 2, none⟩ (.int .u64 (q1 : Nat))).setCell ⟨w.heap.size + 1 + 1 + 1, 3, none⟩ (.int .u64 (q2 : Nat))).setCell ⟨w.heap.size + 1 + 1 + 1, 4, none⟩ (.int .u64 (q3 : Nat))) (w.heap.size + 1 + 1 + 1) 44 [.int .i64 2, .int .u64 (q0 : Nat), .int .u64 (q1 : Nat), .int .u64 (q2 : Nat), .int .u64 (q3 : Nat), .int .i64 0, .int .i64 0, .int .i64 0, .int .i64 0, .bool false] := ((((kN1.set 1 (.int .u64 (q0 : Nat))).set 2 (.int .u64 (q1 : Nat))).set 3 (.int .u64 (q2 : Nat))).set 4 (.int .u64 (q3 : Nat)))
  have hBU : Below w.heap.size w ((((w1.setCell ⟨w.heap.size + 1 + 1 + 1, 1, none⟩ (.int .u64 (q0 : Nat))).setCell ⟨w.heap.size + 1 + 1 + 1, 2, none⟩ (.int .u64 (q1 : Nat))).setCell ⟨w.heap.size + 1 + 1 + 1, 3, none⟩ (.int .u64 (q2 : Nat))).setCell ⟨w.heap.size + 1 + 1 + 1, 4, none⟩ (.int .u64 (q3 : Nat))) := ((((hB1.setCell (p := ⟨w.heap.size + 1 + 1 + 1, 1, none⟩) (by show w.heap.size ≤ w.heap.size + 1 + 1 + 1; omega) (.int .u64 (q0 : Nat))).setCell (p := ⟨w.heap.size + 1 + 1 + 1, 2, none⟩) (by show w.heap.size ≤ w.heap.size + 1 + 1 + 1; omega) (.int .u64 (q1 : Nat))).setCell (p := ⟨w.heap.size + 1 + 1 + 1, 3, none⟩) (by show w.heap.size ≤ w.heap.size + 1 + 1 + 1; omega) (.int .u64 (q2 : Nat))).setCell (p := ⟨w.heap.size + 1 + 1 + 1, 4, none⟩) (by show w.heap.size ≤ w.heap.size + 1 + 1 + 1; omega) (.int .u64 (q3 : Nat)))
  obtain ⟨y0, y1, y2, y3, y4, y5, y6, y7, y8, y9, v0, v1, v2, v3, v4, v5, v6, v7, v8, v9⟩ := kN1.ten
  clear hb1 hB kT kF kR kN kT1 kF1 kR1 kN1 hB1
  go_upto_region 8 with fail
  clear y0 y1 y2 y3 y4 y5 y6 y7 y8 y9 v0 v1 v2 v3 v4 v5 v6 v7 v8 v9
  generalize ((((w1.setCell ⟨w.heap.size + 1 + 1 + 1, 1, none⟩ (.int .u64 (q0 : Nat))).setCell ⟨w.heap.size + 1 + 1 + 1, 2, none⟩ (.int .u64 (q1 : Nat))).setCell ⟨w.heap.size + 1 + 1 + 1, 3, none⟩ (.int .u64 (q2 : Nat))).setCell ⟨w.heap.size + 1 + 1 + 1, 4, none⟩ (.int .u64 (q3 : Nat))) = U at *
  have t6 := kTU.cell 6 rfl
  clear kTU kFU
  obtain ⟨n0, n1, n2, n3, n4, n5, n6, n7, n8, n9, _⟩ := kNU.ten
  obtain ⟨y0, y1, y2, y3, y4, y5, y6, y7, y8, y9, v0, v1, v2, v3, v4, v5, v6, v7, v8, v9⟩ := kRU.ten
  obtain ⟨z0, z1, z2, z3, z4, z5, z6, z7, z8, z9, _⟩ := (kRU.put10 (.int .i64 2) (.int .u64 (q0 : Nat)) (.int .u64 (q1 : Nat)) (.int .u64 (q2 : Nat)) (.int .u64 (q3 : Nat)) (.int .i64 0) (.int .i64 0) (.int .i64 0) (.int .i64 0) (.bool false)).ten
  have HB : Hid (Below w.heap.size w (Ytlmmiicibjfcdaa.put10 U (w.heap.size + 1 + 1) (.int .i64 2) (.int .u64 (q0 : Nat)) (.int .u64 (q1 : Nat)) (.int .u64 (q2 : Nat)) (.int .u64 (q3 : Nat)) (.int .i64 0) (.int .i64 0) (.int .i64 0) (.int .i64 0) (.bool false))) := below_put10 hBU (by omega) _ _ _ _ _ _ _ _ _ _
  clear hBU kRU kNU
  go_wp2
  clear y0 y1 y2 y3 y4 y5 y6 y7 y8 y9 v0 v1 v2 v3 v4 v5 v6 v7 v8 v9
  change bodyPost _ _ _ _ _ (Ytlmmiicibjfcdaa.put10 U (w.heap.size + 1 + 1) (.int .i64 2) (.int .u64 (q0 : Nat)) (.int .u64 (q1 : Nat)) (.int .u64 (q2 : Nat)) (.int .u64 (q3 : Nat)) (.int .i64 0) (.int .i64 0) (.int .i64 0) (.int .i64 0) (.bool false))
  generalize Ytlmmiicibjfcdaa.put10 U (w.heap.size + 1 + 1) (.int .i64 2) (.int .u64 (q0 : Nat)) (.int .u64 (q1 : Nat)) (.int .u64 (q2 : Nat)) (.int .u64 (q3 : Nat)) (.int .i64 0) (.int .i64 0) (.int .i64 0) (.int .i64 0) (.bool false) = U9 at *
  exact bodyPost_ret (v := .tuple #[.agg #[.int .i64 2, .int .u64 (q0 : Nat), .int .u64 (q1 : Nat), .int .u64 (q2 : Nat), .int .u64 (q3 : Nat), .int .i64 0, .int .i64 0, .int .i64 0, .int .i64 0, .bool false], .bool true]) (by simp [results, Try.results16, go_sem, z0, z1, z2, z3, z4, z5, z6, z7, z8, z9]) rfl ⟨by rw [clN_of h4], HB.out⟩
set_option maxRecDepth 10000 in
set_option maxHeartbeats 2000000 in
theorem rleaf_2t {P : Nat → Bool} (h0 : C4 P a0 a1 a2 a3) : Calls Try.prog 16 #[tokI 2 b a0 a1 a2 a3 true l m lz t, fgV fl] w (RetLf w (clN (fun x => !csP fl P x), true)) := by
  obtain ⟨hB, kT, kF, kR, kN⟩ := rleaf_start fl b a0 a1 a2 a3 true l m lz t w 2
  have HC := rcased_c h0 fl ((((w.alloc (.cells #[.int .i64 2, .int .u8 (b : Nat), .int .u64 (a0 : Nat), .int .u64 (a1 : Nat), .int .u64 (a2 : Nat), .int .u64 (a3 : Nat), .bool true, .int .i64 l, .int .i64 m, .bool lz, .int .i64 t] 42)).alloc (.cells #[.bool fl.c, .bool fl.d, .bool fl.m, .bool fl.o, .bool fl.l] 23)).alloc (.cells #[.int .i64 0, .int .u64 0, .int .u64 0, .int .u64 0, .int .u64 0, .int .i64 0, .int .i64 0, .int .i64 0, .int .i64 0, .bool false] 44)).alloc (.cells #[.int .i64 2, .int .u64 0, .int .u64 0, .int .u64 0, .int .u64 0, .int .i64 0, .int .i64 0, .int .i64 0, .int .i64 0, .bool false] 44))
  unfold tokI
  unfold fgV at *
  go_enter Try.func16, Try.ntmps16
  go_wp2_with fail
  refine HC.mono ?_
  clear HC
  generalize (((w.alloc (.cells #[.int .i64 2, .int .u8 (b : Nat), .int .u64 (a0 : Nat), .int .u64 (a1 : Nat), .int .u64 (a2 : Nat), .int .u64 (a3 : Nat), .bool true, .int .i64 l, .int .i64 m, .bool lz, .int .i64 t] 42)).alloc (.cells #[.bool fl.c, .bool fl.d, .bool fl.m, .bool fl.o, .bool fl.l] 23)).alloc (.cells #[.int .i64 0, .int .u64 0, .int .u64 0, .int .u64 0, .int .u64 0, .int .i64 0, .int .i64 0, .int .i64 0, .int .i64 0, .bool false] 44)).alloc (.cells #[.int .i64 2, .int .u64 0, .int .u64 0, .int .u64 0, .int .u64 0, .int .i64 0, .int .i64 0, .int .i64 0, .int .i64 0, .bool false] 44) = V at *
  rintro e w1 ⟨⟨q0, q1, q2, q3, rfl, h4⟩, hb1⟩
  have kT1 := kT.below hb1
  have kF1 := kF.below hb1
  have kR1 := kR.below hb1
  have kN1 := kN.below hb1
  have hB1 := hB.trans (hb1.mono hB.size)
  have kTU : Cl ((((w1.setCell ⟨w.heap.size + 1 + 1 + 1, 1, none⟩ (.int .u64 (q0 : Nat))).setCell ⟨w.heap.size + 1 + 1 + 1, 2, none⟩ (.int .u64 (q1 : Nat))).setCell ⟨w.heap.size + 1 + 1 + 1, 3, none⟩ (.int .u64 (q2 : Nat))).setCell ⟨w.heap.size + 1 + 1 + 1, 4, none⟩ (.int .u64 (q3 : Nat))) w.heap.size 42 _ := ((((kT1.other (by omega) 1 (.int .u64 (q0 : Nat))).other (by omega) 2 (.int .u64 (q1 : Nat))).other (by omega) 3 (.int .u64 (q2 : Nat))).other (by omega) 4 (.int .u64 (q3 : Nat)))
  have kFU : Cl ((((w1.setCell ⟨w.heap.size + 1 + 1 + 1, 1, none⟩ (.int .u64 (q0 : Nat))).setCell ⟨w.heap.size + 1 + 1 + 1, 2, none⟩ (.int .u64 (q1 : Nat))).setCell ⟨w.heap.size + 1 + 1 + 1, 3, none⟩ (.int .u64 (q2 : Nat))).setCell ⟨w.heap.size + 1 + 1 + 1, 4, none⟩ (.int .u64 (q3 : Nat))) (w.heap.size + 1) 23 _ := ((((kF1.other (by omega) 1 (.int .u64 (q0 : Nat))).other (by omega) 2 (.int .u64 (q1 : Nat))).other (by omega) 3 (.int .u64 (q2 : Nat))).other (by omega) 4 (.int .u64 (q3 : Nat)))
  have kRU : Cl ((((w1.setCell ⟨w.heap.size + 1 + 1 + 1, 1, none⟩ (.int .u64 (q0 : Nat))).setCell ⟨w.heap.size + 1 + 1 + 1, 2, none⟩ (.int .u64 (q1 : Nat))).setCell ⟨w.heap.size + 1 + 1 + 1, 3, none⟩ (.int .u64 (q2 : Nat))).setCell ⟨w.heap.size + 1 + 1 + 1, 4, none⟩ (.int .u64 (q3 : Nat))) (w.heap.size + 1 + 1) 44 [.int .i64 0, .int .u64 0, .int .u64 0, .int .u64 0, .int .u64 0, .int .i64 0, .int .i64 0, .int .i64 0, .int .i64 0, .bool false] := ((((kR1.other (by omega) 1 (.int .u64 (q0 : Nat))).other (by omega) 2 (.int .u64 (q1 : Nat))).other (by omega) 3 (.int .u64 (q2 : Nat))).other (by omega) 4 (.int .u64 (q3 : Nat)))
  have kNU : Cl ((((w1.setCell ⟨w.heap.size + 1 + 1 + 1, 1, none⟩ (.int .u64 (q0 : Nat))).setCell ⟨w.heap.size + 1 + 1 + 1, 2, none⟩ (.int .u64 (q1 : Nat))).setCell ⟨w.heap.size + 1 + 1 + 1, 3, none⟩ (.int .u64 (q2 : Nat))).setCell ⟨w.heap.size + 1 + 1 + 1, 4, none⟩ (.int .u64 (q3 : Nat))) (w.heap.size + 1 + 1 + 1) 44 [.int .i64 2, .int .u64 (q0 : Nat), .int .u64 (q1 : Nat), .int .u64 (q2 : Nat), .int .u64 (q3 : Nat), .int .i64 0, .int .i64 0, .int .i64 0, .int .i64 0, .bool false] := ((((kN1.set 1 (.int .u64 (q0 : Nat))).set 2 (.int .u64 (q1 : Nat))).set 3 (.int .u64 (q2 : Nat))).set 4 (.int .u64 (q3 : Nat)))
  have hBU : Below w.heap.size w ((((w1.setCell ⟨w.heap.size + 1 + 1 + 1, 1, none⟩ (.int .u64 (q0 : Nat))).setCell ⟨w.heap.size + 1 + 1 + 1, 2, none⟩ (.int .u64 (q1 : Nat))).setCell ⟨w.heap.size + 1 + 1 + 1, 3, none⟩ (.int .u64 (q2 : Nat))).setCell ⟨w.heap.size + 1 + 1 + 1, 4, none⟩ (.int .u64 (q3 : Nat))) := ((((hB1.setCell (p := ⟨w.heap.size + 1 + 1 + 1, 1, none⟩) (by show w.heap.size ≤ w.heap.size + 1 + 1 + 1; omega) (.int .u64 (q0 : Nat))).setCell (p := ⟨w.heap.size + 1 + 1 + 1, 2, none⟩) (by show w.heap.size ≤ w.heap.size + 1 + 1 + 1; omega) (.int .u64 (q1 : Nat))).setCell (p := ⟨w.heap.size + 1 + 1 + 1, 3, none⟩) (by show w.heap.size ≤ w.heap.size + 1 + 1 + 1; omega) (.int .u64 (q2 : Nat))).setCell (p := ⟨w.heap.size + 1 + 1 + 1, 4, none⟩) (by show w.heap.size ≤ w.heap.size + 1 + 1 + 1; omega) (.int .u64 (q3 : Nat)))
  obtain ⟨y0, y1, y2, y3, y4, y5, y6, y7, y8, y9, v0, v1, v2, v3, v4, v5, v6, v7, v8, v9⟩ := kN1.ten
  clear hb1 hB kT kF kR kN kT1 kF1 kR1 kN1 hB1
  go_upto_region 8 with fail
  clear y0 y1 y2 y3 y4 y5 y6 y7 y8 y9 v0 v1 v2 v3 v4 v5 v6 v7 v8 v9
  generalize ((((w1.setCell ⟨w.heap.size + 1 + 1 + 1, 1, none⟩ (.int .u64 (q0 : Nat))).setCell ⟨w.heap.size + 1 + 1 + 1, 2, none⟩ (.int .u64 (q1 : Nat))).setCell ⟨w.heap.size + 1 + 1 + 1, 3, none⟩ (.int .u64 (q2 : Nat))).setCell ⟨w.heap.size + 1 + 1 + 1, 4, none⟩ (.int .u64 (q3 : Nat))) = U at *
  have t6 := kTU.cell 6 rfl
  clear kTU kFU
  have HN := rnot_c h4 U
  obtain ⟨n0, n1, n2, n3, n4, n5, n6, n7, n8, n9, _⟩ := kNU.ten
  go_wp2_with fail
  refine HN.mono ?_
  clear HN n0 n1 n2 n3 n4 n5 n6 n7 n8 n9 t6
  rintro e w2 ⟨⟨r0, r1, r2, r3, rfl, h5⟩, hb2⟩
  have kR2 := kRU.below hb2
  have kN2 := kNU.below hb2
  have hB2 := hBU.trans (hb2.mono hBU.size)
  obtain ⟨y0, y1, y2, y3, y4, y5, y6, y7, y8, y9, v0, v1, v2, v3, v4, v5, v6, v7, v8, v9⟩ := kN2.ten
  clear hb2 kRU kNU hBU
  have kRU : Cl ((((w2.setCell ⟨w.heap.size + 1 + 1 + 1, 1, none⟩ (.int .u64 (r0 : Nat))).setCell ⟨w.heap.size + 1 + 1 + 1, 2, none⟩ (.int .u64 (r1 : Nat))).setCell ⟨w.heap.size + 1 + 1 + 1, 3, none⟩ (.int .u64 (r2 : Nat))).setCell ⟨w.heap.size + 1 + 1 + 1, 4, none⟩ (.int .u64 (r3 : Nat))) (w.heap.size + 1 + 1) 44 [.int .i64 0, .int .u64 0, .int .u64 0, .int .u64 0, .int .u64 0, .int .i64 0, .int .i64 0, .int .i64 0, .int .i64 0, .bool false] := ((((kR2.other (by omega) 1 (.int .u64 (r0 : Nat))).other (by omega) 2 (.int .u64 (r1 : Nat))).other (by omega) 3 (.int .u64 (r2 : Nat))).other (by omega) 4 (.int .u64 (r3 : Nat)))
  have kNU : Cl ((((w2.setCell ⟨w.heap.size + 1 + 1 + 1, 1, none⟩ (.int .u64 (r0 : Nat))).setCell ⟨w.heap.size + 1 + 1 + 1, 2, none⟩ (.int .u64 (r1 : Nat))).setCell ⟨w.heap.size + 1 + 1 + 1, 3, none⟩ (.int .u64 (r2 : Nat))).setCell ⟨w.heap.size + 1 + 1 + 1, 4, none⟩ (.int .u64 (r3 : Nat))) (w.heap.size + 1 + 1 + 1) 44 [.int .i64 2, .int .u64 (r0 : Nat), .int .u64 (r1 : Nat), .int .u64 (r2 : Nat), .int .u64 (r3 : Nat), .int .i64 0, .int .i64 0, .int .i64 0, .int .i64 0, .bool false] := ((((kN2.set 1 (.int .u64 (r0 : Nat))).set 2 (.int .u64 (r1 : Nat))).set 3 (.int .u64 (r2 : Nat))).set 4 (.int .u64 (r3 : Nat)))
  have hBU : Below w.heap.size w ((((w2.setCell ⟨w.heap.size + 1 + 1 + 1, 1, none⟩ (.int .u64 (r0 : Nat))).setCell ⟨w.heap.size + 1 + 1 + 1, 2, none⟩ (.int .u64 (r1 : Nat))).setCell ⟨w.heap.size + 1 + 1 + 1, 3, none⟩ (.int .u64 (r2 : Nat))).setCell ⟨w.heap.size + 1 + 1 + 1, 4, none⟩ (.int .u64 (r3 : Nat))) := ((((hB2.setCell (p := ⟨w.heap.size + 1 + 1 + 1, 1, none⟩) (by show w.heap.size ≤ w.heap.size + 1 + 1 + 1; omega) (.int .u64 (r0 : Nat))).setCell (p := ⟨w.heap.size + 1 + 1 + 1, 2, none⟩) (by show w.heap.size ≤ w.heap.size + 1 + 1 + 1; omega) (.int .u64 (r1 : Nat))).setCell (p := ⟨w.heap.size + 1 + 1 + 1, 3, none⟩) (by show w.heap.size ≤ w.heap.size + 1 + 1 + 1; omega) (.int .u64 (r2 : Nat))).setCell (p := ⟨w.heap.size + 1 + 1 + 1, 4, none⟩) (by show w.heap.size ≤ w.heap.size + 1 + 1 + 1; omega) (.int .u64 (r3 : Nat)))
  clear kR2 kN2 hB2
  go_upto_region 18 with fail
  clear y0 y1 y2 y3 y4 y5 y6 y7 y8 y9 v0 v1 v2 v3 v4 v5 v6 v7 v8 v9
  generalize ((((w2.setCell ⟨w.heap.size + 1 + 1 + 1, 1, none⟩ (.int .u64 (r0 : Nat))).setCell ⟨w.heap.size + 1 + 1 + 1, 2, none⟩ (.int .u64 (r1 : Nat))).setCell ⟨w.heap.size + 1 + 1 + 1, 3, none⟩ (.int .u64 (r2 : Nat))).setCell ⟨w.heap.size + 1 + 1 + 1, 4, none⟩ (.int .u64 (r3 : Nat))) = U at *
  obtain ⟨n0, n1, n2, n3, n4, n5, n6, n7, n8, n9, _⟩ := kNU.ten
  obtain ⟨y0, y1, y2, y3, y4, y5, y6, y7, y8, y9, v0, v1, v2, v3, v4, v5, v6, v7, v8, v9⟩ := kRU.ten
  obtain ⟨z0, z1, z2, z3, z4, z5, z6, z7, z8, z9, _⟩ := (kRU.put10 (.int .i64 2) (.int .u64 (r0 : Nat)) (.int .u64 (r1 : Nat)) (.int .u64 (r2 : Nat)) (.int .u64 (r3 : Nat)) (.int .i64 0) (.int .i64 0) (.int .i64 0) (.int .i64 0) (.bool false)).ten
  have HB : Hid (Below w.heap.size w (Ytlmmiicibjfcdaa.put10 U (w.heap.size + 1 + 1) (.int .i64 2) (.int .u64 (r0 : Nat)) (.int .u64 (r1 : Nat)) (.int .u64 (r2 : Nat)) (.int .u64 (r3 : Nat)) (.int .i64 0) (.int .i64 0) (.int .i64 0) (.int .i64 0) (.bool false))) := below_put10 hBU (by omega) _ _ _ _ _ _ _ _ _ _
  clear hBU kRU kNU
  go_wp2
  clear y0 y1 y2 y3 y4 y5 y6 y7 y8 y9 v0 v1 v2 v3 v4 v5 v6 v7 v8 v9
  change bodyPost _ _ _ _ _ (Ytlmmiicibjfcdaa.put10 U (w.heap.size + 1 + 1) (.int .i64 2) (.int .u64 (r0 : Nat)) (.int .u64 (r1 : Nat)) (.int .u64 (r2 : Nat)) (.int .u64 (r3 : Nat)) (.int .i64 0) (.int .i64 0) (.int .i64 0) (.int .i64 0) (.bool false))
  generalize Ytlmmiicibjfcdaa.put10 U (w.heap.size + 1 + 1) (.int .i64 2) (.int .u64 (r0 : Nat)) (.int .u64 (r1 : Nat)) (.int .u64 (r2 : Nat)) (.int .u64 (r3 : Nat)) (.int .i64 0) (.int .i64 0) (.int .i64 0) (.int .i64 0) (.bool false) = U9 at *
  exact bodyPost_ret (v := .tuple #[.agg #[.int .i64 2, .int .u64 (r0 : Nat), .int .u64 (r1 : Nat), .int .u64 (r2 : Nat), .int .u64 (r3 : Nat), .int .i64 0, .int .i64 0, .int .i64 0, .int .i64 0, .bool false], .bool true]) (by simp [results, Try.results16, go_sem, z0, z1, z2, z3, z4, z5, z6, z7, z8, z9]) rfl ⟨by rw [clN_of h5], HB.out⟩
set_option maxRecDepth 10000 in
set_option maxHeartbeats 2000000 in
theorem rleaf_3t (hd : fl.d = true) : Calls Try.prog 16 #[tokI 3 b a0 a1 a2 a3 nt l m lz t, fgV fl] w (RetLf w (clN (dotP fl), true)) := by
  obtain ⟨hB, kT, kF, kR, kN⟩ := rleaf_start fl b a0 a1 a2 a3 nt l m lz t w 3
  have HC := rfull_any ((((w.alloc (.cells #[.int .i64 3, .int .u8 (b : Nat), .int .u64 (a0 : Nat), .int .u64 (a1 : Nat), .int .u64 (a2 : Nat), .int .u64 (a3 : Nat), .bool nt, .int .i64 l, .int .i64 m, .bool lz, .int .i64 t] 42)).alloc (.cells #[.bool fl.c, .bool fl.d, .bool fl.m, .bool fl.o, .bool fl.l] 23)).alloc (.cells #[.int .i64 0, .int .u64 0, .int .u64 0, .int .u64 0, .int .u64 0, .int .i64 0, .int .i64 0, .int .i64 0, .int .i64 0, .bool false] 44)).alloc (.cells #[.int .i64 2, .int .u64 0, .int .u64 0, .int .u64 0, .int .u64 0, .int .i64 0, .int .i64 0, .int .i64 0, .int .i64 0, .bool false] 44))
  have hD : Hid (dotP fl = fun _ => true) := by
    have h0 : dotP fl = fun _ => true := by unfold dotP; rw [hd]; rfl
    exact h0
  unfold tokI fgV
  rw [hd] at *
  go_enter Try.func16, Try.ntmps16
  go_wp2_with fail
  refine HC.mono ?_
  clear HC
  generalize (((w.alloc (.cells #[.int .i64 3, .int .u8 (b : Nat), .int .u64 (a0 : Nat), .int .u64 (a1 : Nat), .int .u64 (a2 : Nat), .int .u64 (a3 : Nat), .bool nt, .int .i64 l, .int .i64 m, .bool lz, .int .i64 t] 42)).alloc (.cells #[.bool fl.c, .bool true, .bool fl.m, .bool fl.o, .bool fl.l] 23)).alloc (.cells #[.int .i64 0, .int .u64 0, .int .u64 0, .int .u64 0, .int .u64 0, .int .i64 0, .int .i64 0, .int .i64 0, .int .i64 0, .bool false] 44)).alloc (.cells #[.int .i64 2, .int .u64 0, .int .u64 0, .int .u64 0, .int .u64 0, .int .i64 0, .int .i64 0, .int .i64 0, .int .i64 0, .bool false] 44) = V at *
  rintro e w1 ⟨⟨q0, q1, q2, q3, rfl, h4⟩, hb1⟩
  have kT1 := kT.below hb1
  have kF1 := kF.below hb1
  have kR1 := kR.below hb1
  have kN1 := kN.below hb1
  have hB1 := hB.trans (hb1.mono hB.size)
  have kTU : Cl ((((w1.setCell ⟨w.heap.size + 1 + 1 + 1, 1, none⟩ (.int .u64 (q0 : Nat))).setCell ⟨w.heap.size + 1 + 1 + 1, 2, none⟩ (.int .u64 (q1 : Nat))).setCell ⟨w.heap.size + 1 + 1 + 1, 3, none⟩ (.int .u64 (q2 : Nat))).setCell ⟨w.heap.size + 1 + 1 + 1, 4, none⟩ (.int .u64 (q3 : Nat))) w.heap.size 42 _ := ((((kT1.other (by omega) 1 (.int .u64 (q0 : Nat))).other (by omega) 2 (.int .u64 (q1 : Nat))).other (by omega) 3 (.int .u64 (q2 : Nat))).other (by omega) 4 (.int .u64 (q3 : Nat)))
  have kFU : Cl ((((w1.setCell ⟨w.heap.size + 1 + 1 + 1, 1, none⟩ (.int .u64 (q0 : Nat))).setCell ⟨w.heap.size + 1 + 1 + 1, 2, none⟩ (.int .u64 (q1 : Nat))).setCell ⟨w.heap.size + 1 + 1 + 1, 3, none⟩ (.int .u64 (q2 : Nat))).setCell ⟨w.heap.size + 1 + 1 + 1, 4, none⟩ (.int .u64 (q3 : Nat))) (w.heap.size + 1) 23 _ := ((((kF1.other (by omega) 1 (.int .u64 (q0 : Nat))).other (by omega) 2 (.int .u64 (q1 : Nat))).other (by omega) 3 (.int .u64 (q2 : Nat))).other (by omega) 4 (.int .u64 (q3 : Nat)))
  have kRU : Cl ((((w1.setCell ⟨w.heap.size + 1 + 1 + 1, 1, none⟩ (.int .u64 (q0 : Nat))).setCell ⟨w.heap.size + 1 + 1 + 1, 2, none⟩ (.int .u64 (q1 : Nat))).setCell ⟨w.heap.size + 1 + 1 + 1, 3, none⟩ (.int .u64 (q2 : Nat))).setCell ⟨w.heap.size + 1 + 1 + 1, 4, none⟩ (.int .u64 (q3 : Nat))) (w.heap.size + 1 + 1) 44 [.int .i64 0, .int .u64 0, .int .u64 0, .int .u64 0, .int .u64 0, .int .i64 0, .int .i64 0, .int .i64 0, .int .i64 0, .bool false] := ((((kR1.other (by omega) 1 (.int .u64 (q0 : Nat))).other (by omega) 2 (.int .u64 (q1 : Nat))).other (by omega) 3 (.int .u64 (q2 : Nat))).other (by omega) 4 (.int .u64 (q3 : Nat)))
  have kNU : Cl ((((w1.setCell ⟨w.heap.size + 1 + 1 + 1, 1, none⟩ (.int .u64 (q0 : Nat))).setCell ⟨w.heap.size + 1 + 1 + 1, 2, none⟩ (.int .u64 (q1 : Nat))).setCell ⟨w.heap.size + 1 + 1 + 1, 3, none⟩ (.int .u64 (q2 : Nat))).setCell ⟨w.heap.size + 1 + 1 + 1, 4, none⟩ (.int .u64 (q3 : Nat))) (w.heap.size + 1 + 1 + 1) 44 [.int .i64 2, .int .u64 (q0 : Nat), .int .u64 (q1 : Nat), .int .u64 (q2 : Nat), .int .u64 (q3 : Nat), .int .i64 0, .int .i64 0, .int .i64 0, .int .i64 0, .bool false] := ((((kN1.set 1 (.int .u64 (q0 : Nat))).set 2 (.int .u64 (q1 : Nat))).set 3 (.int .u64 (q2 : Nat))).set 4 (.int .u64 (q3 : Nat)))
  have hBU : Below w.heap.size w ((((w1.setCell ⟨w.heap.size + 1 + 1 + 1, 1, none⟩ (.int .u64 (q0 : Nat))).setCell ⟨w.heap.size + 1 + 1 + 1, 2, none⟩ (.int .u64 (q1 : Nat))).setCell ⟨w.heap.size + 1 + 1 + 1, 3, none⟩ (.int .u64 (q2 : Nat))).setCell ⟨w.heap.size + 1 + 1 + 1, 4, none⟩ (.int .u64 (q3 : Nat))) := ((((hB1.setCell (p := ⟨w.heap.size + 1 + 1 + 1, 1, none⟩) (by show w.heap.size ≤ w.heap.size + 1 + 1 + 1; omega) (.int .u64 (q0 : Nat))).setCell (p := ⟨w.heap.size + 1 + 1 + 1, 2, none⟩) (by show w.heap.size ≤ w.heap.size + 1 + 1 + 1; omega) (.int .u64 (q1 : Nat))).setCell (p := ⟨w.heap.size + 1 + 1 + 1, 3, none⟩) (by show w.heap.size ≤ w.heap.size + 1 + 1 + 1; omega) (.int .u64 (q2 : Nat))).setCell (p := ⟨w.heap.size + 1 + 1 + 1, 4, none⟩) (by show w.heap.size ≤ w.heap.size + 1 + 1 + 1; omega) (.int .u64 (q3 : Nat)))
  obtain ⟨y0, y1, y2, y3, y4, y5, y6, y7, y8, y9, v0, v1, v2, v3, v4, v5, v6, v7, v8, v9⟩ := kN1.ten
  clear hb1 hB kT kF kR kN kT1 kF1 kR1 kN1 hB1
  go_upto_region 12 with fail
  clear y0 y1 y2 y3 y4 y5 y6 y7 y8 y9 v0 v1 v2 v3 v4 v5 v6 v7 v8 v9
  generalize ((((w1.setCell ⟨w.heap.size + 1 + 1 + 1, 1, none⟩ (.int .u64 (q0 : Nat))).setCell ⟨w.heap.size + 1 + 1 + 1, 2, none⟩ (.int .u64 (q1 : Nat))).setCell ⟨w.heap.size + 1 + 1 + 1, 3, none⟩ (.int .u64 (q2 : Nat))).setCell ⟨w.heap.size + 1 + 1 + 1, 4, none⟩ (.int .u64 (q3 : Nat))) = U at *
  have t6 := kFU.cell 1 rfl
  clear kTU kFU
  have h5 : C4 (dotP fl) q0 q1 q2 q3 := by
    rw [hD.out]
    exact h4.congr fun x hx => by simp [rg]; omega
  obtain ⟨n0, n1, n2, n3, n4, n5, n6, n7, n8, n9, _⟩ := kNU.ten
  obtain ⟨y0, y1, y2, y3, y4, y5, y6, y7, y8, y9, v0, v1, v2, v3, v4, v5, v6, v7, v8, v9⟩ := kRU.ten
  obtain ⟨z0, z1, z2, z3, z4, z5, z6, z7, z8, z9, _⟩ := (kRU.put10 (.int .i64 2) (.int .u64 (q0 : Nat)) (.int .u64 (q1 : Nat)) (.int .u64 (q2 : Nat)) (.int .u64 (q3 : Nat)) (.int .i64 0) (.int .i64 0) (.int .i64 0) (.int .i64 0) (.bool false)).ten
  have HB : Hid (Below w.heap.size w (Ytlmmiicibjfcdaa.put10 U (w.heap.size + 1 + 1) (.int .i64 2) (.int .u64 (q0 : Nat)) (.int .u64 (q1 : Nat)) (.int .u64 (q2 : Nat)) (.int .u64 (q3 : Nat)) (.int .i64 0) (.int .i64 0) (.int .i64 0) (.int .i64 0) (.bool false))) := below_put10 hBU (by omega) _ _ _ _ _ _ _ _ _ _
  clear hBU kRU kNU
  go_wp2
  clear y0 y1 y2 y3 y4 y5 y6 y7 y8 y9 v0 v1 v2 v3 v4 v5 v6 v7 v8 v9
  change bodyPost _ _ _ _ _ (Ytlmmiicibjfcdaa.put10 U (w.heap.size + 1 + 1) (.int .i64 2) (.int .u64 (q0 : Nat)) (.int .u64 (q1 : Nat)) (.int .u64 (q2 : Nat)) (.int .u64 (q3 : Nat)) (.int .i64 0) (.int .i64 0) (.int .i64 0) (.int .i64 0) (.bool false))
  generalize Ytlmmiicibjfcdaa.put10 U (w.heap.size + 1 + 1) (.int .i64 2) (.int .u64 (q0 : Nat)) (.int .u64 (q1 : Nat)) (.int .u64 (q2 : Nat)) (.int .u64 (q3 : Nat)) (.int .i64 0) (.int .i64 0) (.int .i64 0) (.int .i64 0) (.bool false) = U9 at *
  exact bodyPost_ret (v := .tuple #[.agg #[.int .i64 2, .int .u64 (q0 : Nat), .int .u64 (q1 : Nat), .int .u64 (q2 : Nat), .int .u64 (q3 : Nat), .int .i64 0, .int .i64 0, .int .i64 0, .int .i64 0, .bool false], .bool true]) (by simp [results, Try.results16, go_sem, z0, z1, z2, z3, z4, z5, z6, z7, z8, z9]) rfl ⟨by rw [clN_of h5], HB.out⟩
set_option maxRecDepth 10000 in
set_option maxHeartbeats 2000000 in
theorem rleaf_3f (hd : fl.d = false) : Calls Try.prog 16 #[tokI 3 b a0 a1 a2 a3 nt l m lz t, fgV fl] w (RetLf w (clN (dotP fl), true)) := by
  obtain ⟨hB, kT, kF, kR, kN⟩ := rleaf_start fl b a0 a1 a2 a3 nt l m lz t w 3
  have HC := rfull_any ((((w.alloc (.cells #[.int .i64 3, .int .u8 (b : Nat), .int .u64 (a0 : Nat), .int .u64 (a1 : Nat), .int .u64 (a2 : Nat), .int .u64 (a3 : Nat), .bool nt, .int .i64 l, .int .i64 m, .bool lz, .int .i64 t] 42)).alloc (.cells #[.bool fl.c, .bool fl.d, .bool fl.m, .bool fl.o, .bool fl.l] 23)).alloc (.cells #[.int .i64 0, .int .u64 0, .int .u64 0, .int .u64 0, .int .u64 0, .int .i64 0, .int .i64 0, .int .i64 0, .int .i64 0, .bool false] 44)).alloc (.cells #[.int .i64 2, .int .u64 0, .int .u64 0, .int .u64 0, .int .u64 0, .int .i64 0, .int .i64 0, .int .i64 0, .int .i64 0, .bool false] 44))
  have hD : Hid (dotP fl = fun x => !ofN (fun _ => 10) 1 x) := by
    have h0 : dotP fl = fun x => !ofN (fun _ => 10) 1 x := by unfold dotP; rw [hd]; rfl
    exact h0
  unfold tokI fgV
  rw [hd] at *
  go_enter Try.func16, Try.ntmps16
  go_wp2_with fail
  refine HC.mono ?_
  clear HC
  generalize (((w.alloc (.cells #[.int .i64 3, .int .u8 (b : Nat), .int .u64 (a0 : Nat), .int .u64 (a1 : Nat), .int .u64 (a2 : Nat), .int .u64 (a3 : Nat), .bool nt, .int .i64 l, .int .i64 m, .bool lz, .int .i64 t] 42)).alloc (.cells #[.bool fl.c, .bool false, .bool fl.m, .bool fl.o, .bool fl.l] 23)).alloc (.cells #[.int .i64 0, .int .u64 0, .int .u64 0, .int .u64 0, .int .u64 0, .int .i64 0, .int .i64 0, .int .i64 0, .int .i64 0, .bool false] 44)).alloc (.cells #[.int .i64 2, .int .u64 0, .int .u64 0, .int .u64 0, .int .u64 0, .int .i64 0, .int .i64 0, .int .i64 0, .int .i64 0, .bool false] 44) = V at *
  rintro e w1 ⟨⟨q0, q1, q2, q3, rfl, h4⟩, hb1⟩
  have kT1 := kT.below hb1
  have kF1 := kF.below hb1
  have kR1 := kR.below hb1
  have kN1 := kN.below hb1
  have hB1 := hB.trans (hb1.mono hB.size)
  have kTU : Cl ((((w1.setCell ⟨w.heap.size + 1 + 1 + 1, 1, none⟩ (.int .u64 (q0 : Nat))).setCell ⟨w.heap.size + 1 + 1 + 1, 2, none⟩ (.int .u64 (q1 : Nat))).setCell ⟨w.heap.size + 1 + 1 + 1, 3, none⟩ (.int .u64 (q2 : Nat))).setCell ⟨w.heap.size + 1 + 1 + 1, 4, none⟩ (.int .u64 (q3 : Nat))) w.heap.size 42 _ := ((((kT1.other (by omega) 1 (.int .u64 (q0 : Nat))).other (by omega) 2 (.int .u64 (q1 : Nat))).other (by omega) 3 (.int .u64 (q2 : Nat))).other (by omega) 4 (.int .u64 (q3 : Nat)))
  have kFU : Cl ((((w1.setCell ⟨w.heap.size + 1 + 1 + 1, 1, none⟩ (.int .u64 (q0 : Nat))).setCell ⟨w.heap.size + 1 + 1 + 1, 2, none⟩ (.int .u64 (q1 : Nat))).setCell ⟨w.heap.size + 1 + 1 + 1, 3, none⟩ (.int .u64 (q2 : Nat))).setCell ⟨w.heap.size + 1 + 1 + 1, 4, none⟩ (.int .u64 (q3 : Nat))) (w.heap.size + 1) 23 _ := ((((kF1.other (by omega) 1 (.int .u64 (q0 : Nat))).other (by omega) 2 (.int .u64 (q1 : Nat))).other (by omega) 3 (.int .u64 (q2 : Nat))).other (by omega) 4 (.int .u64 (q3 : Nat)))
  have kRU : Cl ((((w1.setCell ⟨w.heap.size + 1 + 1 + 1, 1, none⟩ (.int .u64 (q0 : Nat))).setCell ⟨w.heap.size + 1 + 1 + 1, 2, none⟩ (.int .u64 (q1 : Nat))).setCell ⟨w.heap.size + 1 + 1 + 1, 3, none⟩ (.int .u64 (q2 : Nat))).setCell ⟨w.heap.size + 1 + 1 + 1, 4, none⟩ (.int .u64 (q3 : Nat))) (w.heap.size + 1 + 1) 44 [.int .i64 0, .int .u64 0, .int .u64 0, .int .u64 0, .int .u64 0, .int .i64 0, .int .i64 0, .int .i64 0, .int .i64 0, .bool false] := ((((kR1.other (by omega) 1 (.int .u64 (q0 : Nat))).other (by omega) 2 (.int .u64 (q1 : Nat))).other (by omega) 3 (.int .u64 (q2 : Nat))).other (by omega) 4 (.int .u64 (q3 : Nat)))
  have kNU : Cl ((((w1.setCell ⟨w.heap.size + 1 + 1 + 1, 1, none⟩ (.int .u64 (q0 : Nat))).setCell ⟨w.heap.size + 1 + 1 + 1, 2, none⟩ (.int .u64 (q1 : Nat))).setCell ⟨w.heap.size + 1 + 1 + 1, 3, none⟩ (.int .u64 (q2 : Nat))).setCell ⟨w.heap.size + 1 + 1 + 1, 4, none⟩ (.int .u64 (q3 : Nat))) (w.heap.size + 1 + 1 + 1) 44 [.int .i64 2, .int .u64 (q0 : Nat), .int .u64 (q1 : Nat), .int .u64 (q2 : Nat), .int .u64 (q3 : Nat), .int .i64 0, .int .i64 0, .int .i64 0, .int .i64 0, .bool false] := ((((kN1.set 1 (.int .u64 (q0 : Nat))).set 2 (.int .u64 (q1 : Nat))).set 3 (.int .u64 (q2 : Nat))).set 4 (.int .u64 (q3 : Nat)))
  have hBU : Below w.heap.size w ((((w1.setCell ⟨w.heap.size + 1 + 1 + 1, 1, none⟩ (.int .u64 (q0 : Nat))).setCell ⟨w.heap.size + 1 + 1 + 1, 2, none⟩ (.int .u64 (q1 : Nat))).setCell ⟨w.heap.size + 1 + 1 + 1, 3, none⟩ (.int .u64 (q2 : Nat))).setCell ⟨w.heap.size + 1 + 1 + 1, 4, none⟩ (.int .u64 (q3 : Nat))) := ((((hB1.setCell (p := ⟨w.heap.size + 1 + 1 + 1, 1, none⟩) (by show w.heap.size ≤ w.heap.size + 1 + 1 + 1; omega) (.int .u64 (q0 : Nat))).setCell (p := ⟨w.heap.size + 1 + 1 + 1, 2, none⟩) (by show w.heap.size ≤ w.heap.size + 1 + 1 + 1; omega) (.int .u64 (q1 : Nat))).setCell (p := ⟨w.heap.size + 1 + 1 + 1, 3, none⟩) (by show w.heap.size ≤ w.heap.size + 1 + 1 + 1; omega) (.int .u64 (q2 : Nat))).setCell (p := ⟨w.heap.size + 1 + 1 + 1, 4, none⟩) (by show w.heap.size ≤ w.heap.size + 1 + 1 + 1; omega) (.int .u64 (q3 : Nat)))
  obtain ⟨y0, y1, y2, y3, y4, y5, y6, y7, y8, y9, v0, v1, v2, v3, v4, v5, v6, v7, v8, v9⟩ := kN1.ten
  clear hb1 hB kT kF kR kN kT1 kF1 kR1 kN1 hB1
  go_upto_region 12 with fail
  clear y0 y1 y2 y3 y4 y5 y6 y7 y8 y9 v0 v1 v2 v3 v4 v5 v6 v7 v8 v9
  generalize ((((w1.setCell ⟨w.heap.size + 1 + 1 + 1, 1, none⟩ (.int .u64 (q0 : Nat))).setCell ⟨w.heap.size + 1 + 1 + 1, 2, none⟩ (.int .u64 (q1 : Nat))).setCell ⟨w.heap.size + 1 + 1 + 1, 3, none⟩ (.int .u64 (q2 : Nat))).setCell ⟨w.heap.size + 1 + 1 + 1, 4, none⟩ (.int .u64 (q3 : Nat))) = U at *
  have t6 := kFU.cell 1 rfl
  clear kTU kFU
  have HO := rof_any _ 1 1 (fun _ => 10) _ (rd_one U 10 (by decide)) (by decide)
  go_wp2_with fail
  refine HO.mono ?_
  clear HO t6 h4
  rintro e w2 ⟨⟨r0, r1, r2, r3, rfl, h5⟩, hb2⟩
  have HN := rnot_c h5 w2
  go_wp2_with fail
  refine HN.mono ?_
  clear HN
  rintro e w3 ⟨⟨s0, s1, s2, s3, rfl, h6⟩, hb3⟩
  have hbA := bel1 U (.cells #[.int .u8 10] 5)
  have kR3 := ((kRU.below hbA).below hb2).below hb3
  have kN3 := ((kNU.below hbA).below hb2).below hb3
  have hB3 := hBU.trans (hbA.mono hBU.size)
  have hB4 := hB3.trans (hb2.mono hB3.size)
  have hB5 := hB4.trans (hb3.mono hB4.size)
  obtain ⟨y0, y1, y2, y3, y4, y5, y6, y7, y8, y9, v0, v1, v2, v3, v4, v5, v6, v7, v8, v9⟩ := kN3.ten
  clear hb2 hb3 hbA kRU kNU hBU hB3 hB4 h5
  have kRU : Cl ((((w3.setCell ⟨w.heap.size + 1 + 1 + 1, 1, none⟩ (.int .u64 (s0 : Nat))).setCell ⟨w.heap.size + 1 + 1 + 1, 2, none⟩ (.int .u64 (s1 : Nat))).setCell ⟨w.heap.size + 1 + 1 + 1, 3, none⟩ (.int .u64 (s2 : Nat))).setCell ⟨w.heap.size + 1 + 1 + 1, 4, none⟩ (.int .u64 (s3 : Nat))) (w.heap.size + 1 + 1) 44 [.int .i64 0, .int .u64 0, .int .u64 0, .int .u64 0, .int .u64 0, .int .i64 0, .int .i64 0, .int .i64 0, .int .i64 0, .bool false] := ((((kR3.other (by omega) 1 (.int .u64 (s0 : Nat))).other (by omega) 2 (.int .u64 (s1 : Nat))).other (by omega) 3 (.int .u64 (s2 : Nat))).other (by omega) 4 (.int .u64 (s3 : Nat)))
  have kNU : Cl ((((w3.setCell ⟨w.heap.size + 1 + 1 + 1, 1, none⟩ (.int .u64 (s0 : Nat))).setCell ⟨w.heap.size + 1 + 1 + 1, 2, none⟩ (.int .u64 (s1 : Nat))).setCell ⟨w.heap.size + 1 + 1 + 1, 3, none⟩ (.int .u64 (s2 : Nat))).setCell ⟨w.heap.size + 1 + 1 + 1, 4, none⟩ (.int .u64 (s3 : Nat))) (w.heap.size + 1 + 1 + 1) 44 [.int .i64 2, .int .u64 (s0 : Nat), .int .u64 (s1 : Nat), .int .u64 (s2 : Nat), .int .u64 (s3 : Nat), .int .i64 0, .int .i64 0, .int .i64 0, .int .i64 0, .bool false] := ((((kN3.set 1 (.int .u64 (s0 : Nat))).set 2 (.int .u64 (s1 : Nat))).set 3 (.int .u64 (s2 : Nat))).set 4 (.int .u64 (s3 : Nat)))
  have hBU : Below w.heap.size w ((((w3.setCell ⟨w.heap.size + 1 + 1 + 1, 1, none⟩ (.int .u64 (s0 : Nat))).setCell ⟨w.heap.size + 1 + 1 + 1, 2, none⟩ (.int .u64 (s1 : Nat))).setCell ⟨w.heap.size + 1 + 1 + 1, 3, none⟩ (.int .u64 (s2 : Nat))).setCell ⟨w.heap.size + 1 + 1 + 1, 4, none⟩ (.int .u64 (s3 : Nat))) := ((((hB5.setCell (p := ⟨w.heap.size + 1 + 1 + 1, 1, none⟩) (by show w.heap.size ≤ w.heap.size + 1 + 1 + 1; omega) (.int .u64 (s0 : Nat))).setCell (p := ⟨w.heap.size + 1 + 1 + 1, 2, none⟩) (by show w.heap.size ≤ w.heap.size + 1 + 1 + 1; omega) (.int .u64 (s1 : Nat))).setCell (p := ⟨w.heap.size + 1 + 1 + 1, 3, none⟩) (by show w.heap.size ≤ w.heap.size + 1 + 1 + 1; omega) (.int .u64 (s2 : Nat))).setCell (p := ⟨w.heap.size + 1 + 1 + 1, 4, none⟩) (by show w.heap.size ≤ w.heap.size + 1 + 1 + 1; omega) (.int .u64 (s3 : Nat)))
  clear kR3 kN3 hB5
  go_upto_region 18 with fail
  clear y0 y1 y2 y3 y4 y5 y6 y7 y8 y9 v0 v1 v2 v3 v4 v5 v6 v7 v8 v9
  generalize ((((w3.setCell ⟨w.heap.size + 1 + 1 + 1, 1, none⟩ (.int .u64 (s0 : Nat))).setCell ⟨w.heap.size + 1 + 1 + 1, 2, none⟩ (.int .u64 (s1 : Nat))).setCell ⟨w.heap.size + 1 + 1 + 1, 3, none⟩ (.int .u64 (s2 : Nat))).setCell ⟨w.heap.size + 1 + 1 + 1, 4, none⟩ (.int .u64 (s3 : Nat))) = U9 at *
  have h5 : C4 (dotP fl) s0 s1 s2 s3 := by rw [hD.out]; exact h6
  obtain ⟨n0, n1, n2, n3, n4, n5, n6, n7, n8, n9, _⟩ := kNU.ten
  obtain ⟨y0, y1, y2, y3, y4, y5, y6, y7, y8, y9, v0, v1, v2, v3, v4, v5, v6, v7, v8, v9⟩ := kRU.ten
  obtain ⟨z0, z1, z2, z3, z4, z5, z6, z7, z8, z9, _⟩ := (kRU.put10 (.int .i64 2) (.int .u64 (s0 : Nat)) (.int .u64 (s1 : Nat)) (.int .u64 (s2 : Nat)) (.int .u64 (s3 : Nat)) (.int .i64 0) (.int .i64 0) (.int .i64 0) (.int .i64 0) (.bool false)).ten
  have HB : Hid (Below w.heap.size w (Ytlmmiicibjfcdaa.put10 U9 (w.heap.size + 1 + 1) (.int .i64 2) (.int .u64 (s0 : Nat)) (.int .u64 (s1 : Nat)) (.int .u64 (s2 : Nat)) (.int .u64 (s3 : Nat)) (.int .i64 0) (.int .i64 0) (.int .i64 0) (.int .i64 0) (.bool false))) := below_put10 hBU (by omega) _ _ _ _ _ _ _ _ _ _
  clear hBU kRU kNU
  go_wp2
  clear y0 y1 y2 y3 y4 y5 y6 y7 y8 y9 v0 v1 v2 v3 v4 v5 v6 v7 v8 v9
  change bodyPost _ _ _ _ _ (Ytlmmiicibjfcdaa.put10 U9 (w.heap.size + 1 + 1) (.int .i64 2) (.int .u64 (s0 : Nat)) (.int .u64 (s1 : Nat)) (.int .u64 (s2 : Nat)) (.int .u64 (s3 : Nat)) (.int .i64 0) (.int .i64 0) (.int .i64 0) (.int .i64 0) (.bool false))
  generalize Ytlmmiicibjfcdaa.put10 U9 (w.heap.size + 1 + 1) (.int .i64 2) (.int .u64 (s0 : Nat)) (.int .u64 (s1 : Nat)) (.int .u64 (s2 : Nat)) (.int .u64 (s3 : Nat)) (.int .i64 0) (.int .i64 0) (.int .i64 0) (.int .i64 0) (.bool false) = U8 at *
  exact bodyPost_ret (v := .tuple #[.agg #[.int .i64 2, .int .u64 (s0 : Nat), .int .u64 (s1 : Nat), .int .u64 (s2 : Nat), .int .u64 (s3 : Nat), .int .i64 0, .int .i64 0, .int .i64 0, .int .i64 0, .bool false], .bool true]) (by simp [results, Try.results16, go_sem, z0, z1, z2, z3, z4, z5, z6, z7, z8, z9]) rfl ⟨by rw [clN_of h5], HB.out⟩
set_option maxRecDepth 10000 in
set_option maxHeartbeats 2000000 in
theorem rleaf_1 (hb : b < 256) : Calls Try.prog 16 #[tokI 1 b a0 a1 a2 a3 nt l m lz t, fgV fl] w (RetLf w (clN (csP fl (ofN (fun _ => b) 1)), true)) := by
  obtain ⟨hB, kT, kF, kR, kN⟩ := rleaf_start fl b a0 a1 a2 a3 nt l m lz t w 1
  unfold tokI
  have hfg : fgV fl = .agg #[.bool fl.c, .bool fl.d, .bool fl.m, .bool fl.o, .bool fl.l] := rfl
  rw [hfg]
  go_enter Try.func16, Try.ntmps16
  go_wp2_with fail
  generalize (((w.alloc (.cells #[.int .i64 1, .int .u8 (b : Nat), .int .u64 (a0 : Nat), .int .u64 (a1 : Nat), .int .u64 (a2 : Nat), .int .u64 (a3 : Nat), .bool nt, .int .i64 l, .int .i64 m, .bool lz, .int .i64 t] 42)).alloc (.cells #[.bool fl.c, .bool fl.d, .bool fl.m, .bool fl.o, .bool fl.l] 23)).alloc (.cells #[.int .i64 0, .int .u64 0, .int .u64 0, .int .u64 0, .int .u64 0, .int .i64 0, .int .i64 0, .int .i64 0, .int .i64 0, .bool false] 44)).alloc (.cells #[.int .i64 2, .int .u64 0, .int .u64 0, .int .u64 0, .int .u64 0, .int .i64 0, .int .i64 0, .int .i64 0, .int .i64 0, .bool false] 44) = V at *
  have HO : Calls Try.prog 32 #[.slice (some ⟨V.drew.heap.size, 0, none⟩) 1 1] (V.drew.alloc (.cells #[.int .u8 (b : Nat)] 5)) _ := rof_any _ 1 1 (fun _ => b) _ (rd_one V.drew b hb) (by decide)
  have t1 : V.drew.cell? ⟨w.heap.size, 1, none⟩ = some (.int .u8 (b : Nat)) := kT.cell 1 rfl
  have f0 : V.drew.cell? ⟨w.heap.size + 1, 0, none⟩ = some (.bool fl.c) := kF.cell 0 rfl
  have f1 : V.drew.cell? ⟨w.heap.size + 1, 1, none⟩ = some (.bool fl.d) := kF.cell 1 rfl
  have f2 : V.drew.cell? ⟨w.heap.size + 1, 2, none⟩ = some (.bool fl.m) := kF.cell 2 rfl
  have f3 : V.drew.cell? ⟨w.heap.size + 1, 3, none⟩ = some (.bool fl.o) := kF.cell 3 rfl
  have f4 : V.drew.cell? ⟨w.heap.size + 1, 4, none⟩ = some (.bool fl.l) := kF.cell 4 rfl
  have kFA := kF.alloc (.cells #[.int .u8 (b : Nat)] 5)
  have f0' := kFA.cell 0 rfl
  have f1' := kFA.cell 1 rfl
  have f2' := kFA.cell 2 rfl
  have f3' := kFA.cell 3 rfl
  have f4' := kFA.cell 4 rfl
  have kFD := kF.drew.alloc (.cells #[.int .u8 (b : Nat)] 5)
  have kND := kN.drew.alloc (.cells #[.int .u8 (b : Nat)] 5)
  have kRD := kR.drew.alloc (.cells #[.int .u8 (b : Nat)] 5)
  have hBD : Below w.heap.size w (V.drew.alloc (.cells #[.int .u8 (b : Nat)] 5)) := hB.drew.trans ((bel1 V.drew _).mono hB.drew.size)
  clear kT kF kN kR hB kFA
  go_region_law
    (first
      | (go_simp; go_at_call 32; refine HO.mono ?_; rintro e w1 ⟨⟨q0, q1, q2, q3, rfl, h4⟩, hb1⟩; have kF1 := kFD.below hb1; have kN1 := kND.below hb1; have kR1 := kRD.below hb1; have hB1 := hBD.trans (hb1.mono hBD.size); have HC := rcased_c h4 fl w1; rw [hfg] at HC; have u0 := kF1.cell 0 rfl; have u1 := kF1.cell 1 rfl; have u2 := kF1.cell 2 rfl; have u3 := kF1.cell 3 rfl; have u4 := kF1.cell 4 rfl; clear hb1 kF1)
      | (go_simp; go_at_call 31; refine HC.mono ?_; rintro e w2 ⟨⟨r0, r1, r2, r3, rfl, h5⟩, hb2⟩; have kN9 := kN1.below hb2; have kR9 := kR1.below hb2; have hB2 := hB1.trans (hb2.mono hB1.size); obtain ⟨y0, y1, y2, y3, y4, y5, y6, y7, y8, y9, v0, v1, v2, v3, v4, v5, v6, v7, v8, v9⟩ := kN9.ten; clear hb2))
  all_goals
    have kRU : Cl ((((w2.setCell ⟨w.heap.size + 1 + 1 + 1, 1, none⟩ (.int .u64 (r0 : Nat))).setCell ⟨w.heap.size + 1 + 1 + 1, 2, none⟩ (.int .u64 (r1 : Nat))).setCell ⟨w.heap.size + 1 + 1 + 1, 3, none⟩ (.int .u64 (r2 : Nat))).setCell ⟨w.heap.size + 1 + 1 + 1, 4, none⟩ (.int .u64 (r3 : Nat))) (w.heap.size + 1 + 1) 44 [.int .i64 0, .int .u64 0, .int .u64 0, .int .u64 0, .int .u64 0, .int .i64 0, .int .i64 0, .int .i64 0, .int .i64 0, .bool false] := ((((kR9.other (by omega) 1 (.int .u64 (r0 : Nat))).other (by omega) 2 (.int .u64 (r1 : Nat))).other (by omega) 3 (.int .u64 (r2 : Nat))).other (by omega) 4 (.int .u64 (r3 : Nat)))
    have kNU : Cl ((((w2.setCell ⟨w.heap.size + 1 + 1 + 1, 1, none⟩ (.int .u64 (r0 : Nat))).setCell ⟨w.heap.size + 1 + 1 + 1, 2, none⟩ (.int .u64 (r1 : Nat))).setCell ⟨w.heap.size + 1 + 1 + 1, 3, none⟩ (.int .u64 (r2 : Nat))).setCell ⟨w.heap.size + 1 + 1 + 1, 4, none⟩ (.int .u64 (r3 : Nat))) (w.heap.size + 1 + 1 + 1) 44 [.int .i64 2, .int .u64 (r0 : Nat), .int .u64 (r1 : Nat), .int .u64 (r2 : Nat), .int .u64 (r3 : Nat), .int .i64 0, .int .i64 0, .int .i64 0, .int .i64 0, .bool false] := ((((kN9.set 1 (.int .u64 (r0 : Nat))).set 2 (.int .u64 (r1 : Nat))).set 3 (.int .u64 (r2 : Nat))).set 4 (.int .u64 (r3 : Nat)))
    have hBU : Below w.heap.size w ((((w2.setCell ⟨w.heap.size + 1 + 1 + 1, 1, none⟩ (.int .u64 (r0 : Nat))).setCell ⟨w.heap.size + 1 + 1 + 1, 2, none⟩ (.int .u64 (r1 : Nat))).setCell ⟨w.heap.size + 1 + 1 + 1, 3, none⟩ (.int .u64 (r2 : Nat))).setCell ⟨w.heap.size + 1 + 1 + 1, 4, none⟩ (.int .u64 (r3 : Nat))) := ((((hB2.setCell (p := ⟨w.heap.size + 1 + 1 + 1, 1, none⟩) (by show w.heap.size ≤ w.heap.size + 1 + 1 + 1; omega) (.int .u64 (r0 : Nat))).setCell (p := ⟨w.heap.size + 1 + 1 + 1, 2, none⟩) (by show w.heap.size ≤ w.heap.size + 1 + 1 + 1; omega) (.int .u64 (r1 : Nat))).setCell (p := ⟨w.heap.size + 1 + 1 + 1, 3, none⟩) (by show w.heap.size ≤ w.heap.size + 1 + 1 + 1; omega) (.int .u64 (r2 : Nat))).setCell (p := ⟨w.heap.size + 1 + 1 + 1, 4, none⟩) (by show w.heap.size ≤ w.heap.size + 1 + 1 + 1; omega) (.int .u64 (r3 : Nat)))
    clear y0 y1 y2 y3 y4 y5 y6 y7 y8 y9 v0 v1 v2 v3 v4 v5 v6 v7 v8 v9 kR9 kN9 hB2
    generalize ((((w2.setCell ⟨w.heap.size + 1 + 1 + 1, 1, none⟩ (.int .u64 (r0 : Nat))).setCell ⟨w.heap.size + 1 + 1 + 1, 2, none⟩ (.int .u64 (r1 : Nat))).setCell ⟨w.heap.size + 1 + 1 + 1, 3, none⟩ (.int .u64 (r2 : Nat))).setCell ⟨w.heap.size + 1 + 1 + 1, 4, none⟩ (.int .u64 (r3 : Nat))) = U at *
    obtain ⟨n0, n1, n2, n3, n4, n5, n6, n7, n8, n9, _⟩ := kNU.ten
    obtain ⟨y0, y1, y2, y3, y4, y5, y6, y7, y8, y9, v0, v1, v2, v3, v4, v5, v6, v7, v8, v9⟩ := kRU.ten
    obtain ⟨z0, z1, z2, z3, z4, z5, z6, z7, z8, z9, _⟩ := (kRU.put10 (.int .i64 2) (.int .u64 (r0 : Nat)) (.int .u64 (r1 : Nat)) (.int .u64 (r2 : Nat)) (.int .u64 (r3 : Nat)) (.int .i64 0) (.int .i64 0) (.int .i64 0) (.int .i64 0) (.bool false)).ten
    have HB : Hid (Below w.heap.size w (Ytlmmiicibjfcdaa.put10 U (w.heap.size + 1 + 1) (.int .i64 2) (.int .u64 (r0 : Nat)) (.int .u64 (r1 : Nat)) (.int .u64 (r2 : Nat)) (.int .u64 (r3 : Nat)) (.int .i64 0) (.int .i64 0) (.int .i64 0) (.int .i64 0) (.bool false))) := below_put10 hBU (by omega) _ _ _ _ _ _ _ _ _ _
    clear hBU kRU kNU
    go_wp2
    clear y0 y1 y2 y3 y4 y5 y6 y7 y8 y9 v0 v1 v2 v3 v4 v5 v6 v7 v8 v9
    change bodyPost _ _ _ _ _ (Ytlmmiicibjfcdaa.put10 U (w.heap.size + 1 + 1) (.int .i64 2) (.int .u64 (r0 : Nat)) (.int .u64 (r1 : Nat)) (.int .u64 (r2 : Nat)) (.int .u64 (r3 : Nat)) (.int .i64 0) (.int .i64 0) (.int .i64 0) (.int .i64 0) (.bool false))
    generalize Ytlmmiicibjfcdaa.put10 U (w.heap.size + 1 + 1) (.int .i64 2) (.int .u64 (r0 : Nat)) (.int .u64 (r1 : Nat)) (.int .u64 (r2 : Nat)) (.int .u64 (r3 : Nat)) (.int .i64 0) (.int .i64 0) (.int .i64 0) (.int .i64 0) (.bool false) = U9 at *
    exact bodyPost_ret (v := .tuple #[.agg #[.int .i64 2, .int .u64 (r0 : Nat), .int .u64 (r1 : Nat), .int .u64 (r2 : Nat), .int .u64 (r3 : Nat), .int .i64 0, .int .i64 0, .int .i64 0, .int .i64 0, .bool false], .bool true]) (by simp [results, Try.results16, go_sem, z0, z1, z2, z3, z4, z5, z6, z7, z8, z9]) rfl ⟨by rw [clN_of h5], HB.out⟩
theorem rleaf_any (k : Int) {P : Nat → Bool} (hb : b < 256) (h4 : C4 P a0 a1 a2 a3) : Calls Try.prog 16 #[tokI k b a0 a1 a2 a3 nt l m lz t, fgV fl] w (RetLf w (leafS fl k b P nt)) := by
  unfold leafS
  split
  · rename_i h; subst h; exact rleaf_1 fl b a0 a1 a2 a3 nt l m lz t w hb
  rename_i h1
  split
  · rename_i h; subst h
    cases nt with
    | false => exact rleaf_2f fl b a0 a1 a2 a3 l m lz t w h4
    | true => exact rleaf_2t fl b a0 a1 a2 a3 l m lz t w h4
  rename_i h2
  split
  · rename_i h; subst h
    cases hd : fl.d with
    | false => exact rleaf_3f fl b a0 a1 a2 a3 nt l m lz t w hd
    | true => exact rleaf_3t fl b a0 a1 a2 a3 nt l m lz t w hd
  rename_i h3
  split
  · rename_i h; subst h; exact rleaf_8 fl b a0 a1 a2 a3 nt l m lz t w
  rename_i h8
  split
  · rename_i h; subst h; exact rleaf_9 fl b a0 a1 a2 a3 nt l m lz t w
  rename_i h9
  exact rleaf_0 fl b a0 a1 a2 a3 nt l m lz t w k (by simpa using h1) (by simpa using h2) (by simpa using h3) (by simpa using h8) (by simpa using h9)
end
end Go.Proofs.Ytlmmiicibjfcdaa
