/- Ported: Tvc. -/
import Derived.Test.YtobgmgpclcfkcaaTva
import Derived.Test.YtobgmgpclcfkcaaTvb
namespace Go.Proofs.Ytobgmgpclcfkcaa.T
open Go.RowKit

theorem and_lt {a : Nat} (ha : a < 18446744073709551616) (b : Nat) : a &&& b < 18446744073709551616 := Nat.lt_of_le_of_lt Nat.and_le_left ha
theorem or_lt {a b : Nat} (ha : a < 18446744073709551616) (hb : b < 18446744073709551616) : a ||| b < 18446744073709551616 := Nat.or_lt_two_pow (n := 64) ha hb
/-- The four words of a class. -/
structure C4 (P : Nat → Bool) (a b c d : Nat) : Prop where
  la : a < 18446744073709551616
  lb : b < 18446744073709551616
  lc : c < 18446744073709551616
  ld : d < 18446744073709551616
  ha : ∀ j, j < 64 → a.testBit j = P j
  hb : ∀ j, j < 64 → b.testBit j = P (64 + j)
  hc : ∀ j, j < 64 → c.testBit j = P (128 + j)
  hd : ∀ j, j < 64 → d.testBit j = P (192 + j)
theorem C4.congr {P Q : Nat → Bool} {a b c d : Nat} (h : C4 P a b c d) (hpq : ∀ b, b < 256 → P b = Q b) : C4 Q a b c d :=
  ⟨h.la, h.lb, h.lc, h.ld, fun j hj => by rw [h.ha j hj, hpq _ (by omega)], fun j hj => by rw [h.hb j hj, hpq _ (by omega)], fun j hj => by rw [h.hc j hj, hpq _ (by omega)], fun j hj => by rw [h.hd j hj, hpq _ (by omega)]⟩
theorem C4.or {P Q : Nat → Bool} {a b c d a' b' c' d' : Nat} (h : C4 P a b c d) (k : C4 Q a' b' c' d') : C4 (fun x => P x || Q x) (a ||| a') (b ||| b') (c ||| c') (d ||| d') :=
  ⟨or_lt h.la k.la, or_lt h.lb k.lb, or_lt h.lc k.lc, or_lt h.ld k.ld, fun j hj => by rw [Nat.testBit_or, h.ha j hj, k.ha j hj], fun j hj => by rw [Nat.testBit_or, h.hb j hj, k.hb j hj],
    fun j hj => by rw [Nat.testBit_or, h.hc j hj, k.hc j hj], fun j hj => by rw [Nat.testBit_or, h.hd j hj, k.hd j hj]⟩
theorem C4.and {P Q : Nat → Bool} {a b c d a' b' c' d' : Nat} (h : C4 P a b c d) (k : C4 Q a' b' c' d') : C4 (fun x => P x && Q x) (a &&& a') (b &&& b') (c &&& c') (d &&& d') :=
  ⟨and_lt h.la _, and_lt h.lb _, and_lt h.lc _, and_lt h.ld _, fun j hj => by rw [Nat.testBit_and, h.ha j hj, k.ha j hj], fun j hj => by rw [Nat.testBit_and, h.hb j hj, k.hb j hj],
    fun j hj => by rw [Nat.testBit_and, h.hc j hj, k.hc j hj], fun j hj => by rw [Nat.testBit_and, h.hd j hj, k.hd j hj]⟩
theorem xor_lt {a : Nat} (ha : a < 18446744073709551616) : 18446744073709551615 ^^^ a < 18446744073709551616 := Nat.xor_lt_two_pow (n := 64) (by decide) ha
theorem xor_bit (a : Nat) {j : Nat} (hj : j < 64) : (18446744073709551615 ^^^ a).testBit j = !a.testBit j := by
  rw [Nat.testBit_xor, show (18446744073709551615 : Nat) = 2 ^ 64 - 1 by decide, Nat.testBit_two_pow_sub_one, decide_eq_true hj]
  cases a.testBit j <;> rfl
theorem C4.not {P : Nat → Bool} {a b c d : Nat} (h : C4 P a b c d) : C4 (fun x => !P x) (18446744073709551615 ^^^ a) (18446744073709551615 ^^^ b) (18446744073709551615 ^^^ c) (18446744073709551615 ^^^ d) :=
  ⟨xor_lt h.la, xor_lt h.lb, xor_lt h.lc, xor_lt h.ld, fun j hj => by rw [xor_bit _ hj, h.ha j hj], fun j hj => by rw [xor_bit _ hj, h.hb j hj], fun j hj => by rw [xor_bit _ hj, h.hc j hj], fun j hj => by rw [xor_bit _ hj, h.hd j hj]⟩
theorem rhas_bit (x j : Nat) : (((x : Int) / 2 ^ j).tmod 2 == 1) = x.testBit j := by
  have e : (x : Int) / 2 ^ j = ((x / 2 ^ j : Nat) : Int) := by rw [Int.natCast_ediv, Int.natCast_pow]; rfl
  rw [e, Int.tmod_eq_emod_of_nonneg (Int.natCast_nonneg _), Nat.testBit_eq_decide_div_mod_eq, Bool.eq_iff_iff]
  simp
  omega
set_option maxHeartbeats 1000000 in
theorem rhas_at0 (a b c d x : Nat) (v : Bool) (w : World) (hq : (x : Int) / 64 = 0) (hv : ((((a : Int) / 2 ^ (x % 64)).tmod 2) == 1) = v) :
    Calls Try.prog 37 #[.agg #[.int .u64 (a : Nat), .int .u64 (b : Nat), .int .u64 (c : Nat), .int .u64 (d : Nat)], .int .u8 (x : Nat)] w fun e w' => e = .returned (.bool v) ∧ Below w.heap.size w w' := by
  go_enter Try.func37, Try.ntmps37
  go_wp2
  go_ret
  exact ⟨rfl, (Below.refl _ _).alloc (Nat.le_refl _) _⟩
set_option maxHeartbeats 1000000 in
theorem rhas_at1 (a b c d x : Nat) (v : Bool) (w : World) (hq : (x : Int) / 64 = 1) (hv : ((((b : Int) / 2 ^ (x % 64)).tmod 2) == 1) = v) :
    Calls Try.prog 37 #[.agg #[.int .u64 (a : Nat), .int .u64 (b : Nat), .int .u64 (c : Nat), .int .u64 (d : Nat)], .int .u8 (x : Nat)] w fun e w' => e = .returned (.bool v) ∧ Below w.heap.size w w' := by
  go_enter Try.func37, Try.ntmps37
  go_wp2
  go_ret
  exact ⟨rfl, (Below.refl _ _).alloc (Nat.le_refl _) _⟩
set_option maxHeartbeats 1000000 in
theorem rhas_at2 (a b c d x : Nat) (v : Bool) (w : World) (hq : (x : Int) / 64 = 2) (hv : ((((c : Int) / 2 ^ (x % 64)).tmod 2) == 1) = v) :
    Calls Try.prog 37 #[.agg #[.int .u64 (a : Nat), .int .u64 (b : Nat), .int .u64 (c : Nat), .int .u64 (d : Nat)], .int .u8 (x : Nat)] w fun e w' => e = .returned (.bool v) ∧ Below w.heap.size w w' := by
  go_enter Try.func37, Try.ntmps37
  go_wp2
  go_ret
  exact ⟨rfl, (Below.refl _ _).alloc (Nat.le_refl _) _⟩
set_option maxHeartbeats 1000000 in
theorem rhas_at3 (a b c d x : Nat) (v : Bool) (w : World) (hq : (x : Int) / 64 = 3) (hv : ((((d : Int) / 2 ^ (x % 64)).tmod 2) == 1) = v) :
    Calls Try.prog 37 #[.agg #[.int .u64 (a : Nat), .int .u64 (b : Nat), .int .u64 (c : Nat), .int .u64 (d : Nat)], .int .u8 (x : Nat)] w fun e w' => e = .returned (.bool v) ∧ Below w.heap.size w w' := by
  go_enter Try.func37, Try.ntmps37
  go_wp2
  go_ret
  exact ⟨rfl, (Below.refl _ _).alloc (Nat.le_refl _) _⟩
/-- rhas: whether it is in the class. -/
theorem rhas_c {P : Nat → Bool} {a b c d : Nat} (h : C4 P a b c d) (x : Nat) (w : World) (hx : x < 256) : Calls Try.prog 37 #[.agg #[.int .u64 (a : Nat), .int .u64 (b : Nat), .int .u64 (c : Nat), .int .u64 (d : Nat)], .int .u8 (x : Nat)] w fun e w' => e = .returned (.bool (P x)) ∧ Below w.heap.size w w' := by
  have hq : x / 64 = 0 ∨ x / 64 = 1 ∨ x / 64 = 2 ∨ x / 64 = 3 := by omega
  rcases hq with hq | hq | hq | hq
  · exact rhas_at0 a b c d x _ w (by omega) (by rw [rhas_bit, h.ha _ (by omega)]; congr 1; omega)
  · exact rhas_at1 a b c d x _ w (by omega) (by rw [rhas_bit, h.hb _ (by omega)]; congr 1; omega)
  · exact rhas_at2 a b c d x _ w (by omega) (by rw [rhas_bit, h.hc _ (by omega)]; congr 1; omega)
  · exact rhas_at3 a b c d x _ w (by omega) (by rw [rhas_bit, h.hd _ (by omega)]; congr 1; omega)
def debr : List Int := [0, 1, 56, 2, 57, 49, 28, 3, 61, 58, 42, 50, 38, 29, 17, 4, 62, 47, 59, 36, 45, 43, 51, 22, 53, 39, 33, 30, 24, 18, 12, 5, 63, 55, 48, 27, 60, 41, 37, 16, 46, 35, 44, 21, 52, 32, 23, 11, 54, 26, 40, 15, 34, 20, 31, 10, 25, 14, 19, 9, 13, 8, 7, 6]
/-- The listed table lies as it was laid. -/
structure TabZ (w : World) : Prop where
  lt : 0 < w.heap.size
  cell : ∀ i, i < 64 → w.cell? ⟨0, i, none⟩ = some (.int .u8 (debr.getD i 0))
theorem TabZ.below {w w' : World} (h : TabZ w) (hb : Below w.heap.size w w') : TabZ w' :=
  ⟨Nat.lt_of_lt_of_le h.lt hb.size, fun i hi => by rw [hb.cell (p := ⟨0, i, none⟩) h.lt]; exact h.cell i hi⟩
/-- A row: no word, or one, in a block of words. -/
def RowV (W : World) (v : Value) (x : Nat) : Prop := x < 4294967296 ∧ ((x = 0 ∧ ∃ ao cap, v = .slice ao 0 cap) ∨ ∃ b cap cur fz, v = .slice (some ⟨b, 0, none⟩) 1 cap ∧ W.heap[b]? = some (.cells cur 22 fz) ∧ cur[0]? = some (.int .u64 (x : Nat)))
theorem RowV.below {W W' : World} {v : Value} {x : Nat} (h : RowV W v x) (hb : Below W.heap.size W W') : RowV W' v x := by
  obtain ⟨h1, h2⟩ := h
  refine ⟨h1, h2.imp id ?_⟩
  rintro ⟨b, cap, cur, fz, e, hc, h0⟩
  exact ⟨b, cap, cur, fz, e, (hb.block b (Array.getElem?_eq_some_iff.1 hc).1).trans hc, h0⟩
theorem RowV.at_ {W W' : World} {v : Value} {x : Nat} (h : RowV W v x) (hb : ∀ (b : Nat) (cur : Array Value) (fz : Nat × Nat), W.heap[b]? = some (.cells cur 22 fz) → W'.heap[b]? = W.heap[b]?) : RowV W' v x := by
  obtain ⟨h1, h2⟩ := h
  refine ⟨h1, h2.imp id ?_⟩
  rintro ⟨b, cap, cur, fz, e, hc, h0⟩
  exact ⟨b, cap, cur, fz, e, (hb b cur fz hc).trans hc, h0⟩
theorem RowV.cell {W : World} {b : Nat} {cur : Array Value} {fz : Nat × Nat} {x : Value} (hc : W.heap[b]? = some (.cells cur 22 fz)) (h0 : cur[0]? = some x) : W.cell? ⟨b, 0, none⟩ = some x := by
  simp [World.cell?, hc, h0]
theorem RowV.nil (W : World) (ao : Option Addr) (cap : Nat) : RowV W (.slice ao 0 cap) 0 := ⟨by decide, .inl ⟨rfl, ao, cap, rfl⟩⟩
theorem RowV.own {W : World} {B x cap : Nat} {ao : Option Addr} (hx : x < 4294967296) (h : W.ownsRow B 22 1 (.slice ao 1 cap) 1 [.int .u64 (x : Nat)]) : RowV W (.slice ao 1 cap) x := by
  refine ⟨hx, .inr ?_⟩
  rcases h.2 with ⟨_, h0⟩ | ⟨g, cap', cur, e, hB, hc, hle, hm, hs, ht⟩
  · omega
  · refine ⟨g, cap', cur, (0, 0), e, hc, ?_⟩
    have : cur.toList[0]? = some (.int .u64 (x : Nat)) := by
      have h2 := congrArg (fun l => l[0]?) ht
      simpa using h2
    simpa using this
/-- The bits of a word, rising. -/
def come (P : Nat → Bool) (k : Nat) : List Nat := (List.range k).filter P
theorem come_mem {P : Nat → Bool} {n x : Nat} : x ∈ come P n ↔ x < n ∧ P x = true := by simp [come]
/-- A row that the call owns. -/
def OwR (W : World) (B : Nat) (v : Value) (x : Nat) : Prop := x < 4294967296 ∧ ((x = 0 ∧ ∃ ao, v = .slice ao 0 0) ∨ ∃ g cap cur, v = .slice (some ⟨g, 0, none⟩) 1 cap ∧ B ≤ g ∧ W.heap[g]? = some (.cells cur 22 (0, 0)) ∧ cur[0]? = some (.int .u64 (x : Nat)))
theorem OwR.row {W : World} {B x : Nat} {v : Value} (h : OwR W B v x) : RowV W v x :=
  ⟨h.1, h.2.imp (fun ⟨h1, ao, e⟩ => ⟨h1, ao, 0, e⟩) (fun ⟨g, cap, cur, e, _, hc, h0⟩ => ⟨g, cap, cur, _, e, hc, h0⟩)⟩
theorem OwR.below {W W' : World} {B x : Nat} {v : Value} (h : OwR W B v x) (hb : Below W.heap.size W W') : OwR W' B v x :=
  ⟨h.1, h.2.imp id fun ⟨g, cap, cur, e, hB, hc, h0⟩ => ⟨g, cap, cur, e, hB, (hb.block g (Array.getElem?_eq_some_iff.1 hc).1).trans hc, h0⟩⟩
theorem OwR.mono {W : World} {B B' x : Nat} {v : Value} (h : OwR W B v x) (hb : B' ≤ B) : OwR W B' v x :=
  ⟨h.1, h.2.imp id fun ⟨g, cap, cur, e, hB, hc, h0⟩ => ⟨g, cap, cur, e, Nat.le_trans hb hB, hc, h0⟩⟩
/-- The word of a set. -/
def bitsOf (P : Nat → Bool) : Nat → Nat
  | 0 => 0
  | n + 1 => bitsOf P n ||| (if P n = true then 2 ^ n else 0)
theorem bitsOf_bit (P : Nat → Bool) : ∀ n d, (bitsOf P n).testBit d = (decide (d < n) && P d)
  | 0, d => by simp [bitsOf]
  | n + 1, d => by
    rw [bitsOf, Nat.testBit_or, bitsOf_bit P n d]
    by_cases h : d = n
    · subst h
      cases hp : P d <;> simp [Nat.testBit_two_pow_self]
    · have e9 : decide (d < n) = decide (d < n + 1) := by rw [decide_eq_decide]; omega
      cases hp : P n
      · simp [e9]
      · rw [if_pos rfl, Nat.testBit_two_pow]
        have : ¬ n = d := fun e => h e.symm
        simp [this, e9]
/-- The word of a row of a table. -/
def wrd (N : Nat) (T : Tab) (i : Nat) : Nat := bitsOf (fun d => decide (i + d < N) && T i d) 25
theorem wrd_bit {N : Nat} (hN : N ≤ 25) (T : Tab) (i d : Nat) : (wrd N T i).testBit d = (decide (i + d < N) && T i d) := by
  unfold wrd
  rw [bitsOf_bit]
  by_cases h : d < 25
  · simp [h]
  · simp [h]
    intro _; omega
theorem wrd_congr {N : Nat} (hN : N ≤ 25) {T T' : Tab} (h : EqN N T T') (i : Nat) : wrd N T i = wrd N T' i := by
  apply Nat.eq_of_testBit_eq
  intro d
  rw [wrd_bit hN, wrd_bit hN]
  by_cases hd : i + d < N
  · rw [h i d hd]
  · simp [hd]
theorem mul_bit (y d e : Nat) : (y * 2 ^ d).testBit e = (decide (d ≤ e) && y.testBit (e - d)) := by
  rw [Nat.testBit_mul_two_pow]
/-- One width more. -/
def stp (f : Nat → Nat) (x d : Nat) : Nat := if x.testBit d = true then x else x ||| f d * 2 ^ d
def acS (f : Nat → Nat) (l : List Nat) : Nat := l.foldl (stp f) 1
/-- What holds behind some widths. -/
structure SI (N : Nat) (a : Tab) (k : Nat) (l : List Nat) (x : Nat) : Prop where
  zero : x.testBit 0 = true
  sound : ∀ e, x.testBit e = true → k + e < N ∧ tStar a k e = true
  clos : ∀ d, 0 < d → x.testBit d = true → ∀ e, k + (d + e) < N → tStar a (k + d) e = true → x.testBit (d + e) = true
  met : ∀ d ∈ l, x.testBit d = true
theorem SI.next {N : Nat} (hN : N ≤ 25) {a : Tab} {k : Nat} {l : List Nat} {x d : Nat} (h : SI N a k l x) (hd : (wrd N a k).testBit d = true) : SI N a k (l ++ [d]) (stp (fun d => wrd N (tStar a) (k + d)) x d) := by
  rw [wrd_bit hN, Bool.and_eq_true, decide_eq_true_eq] at hd
  unfold stp
  by_cases hx : x.testBit d = true
  · rw [if_pos hx]
    refine ⟨h.zero, h.sound, h.clos, fun e he => ?_⟩
    rcases List.mem_append.1 he with he | he
    · exact h.met e he
    · rw [List.mem_singleton.1 he]; exact hx
  · rw [if_neg hx]
    have hd0 : 0 < d := by
      rcases Nat.eq_zero_or_pos d with rfl | h0
      · exact absurd h.zero hx
      · exact h0
    have hbit : ∀ e, (x ||| wrd N (tStar a) (k + d) * 2 ^ d).testBit e = true ↔ x.testBit e = true ∨ (d ≤ e ∧ k + e < N ∧ tStar a (k + d) (e - d) = true) := by
      intro e
      rw [Nat.testBit_or, mul_bit, wrd_bit hN]
      simp only [Bool.or_eq_true, Bool.and_eq_true, decide_eq_true_eq]
      constructor
      · rintro (h1 | ⟨h1, h2, h3⟩)
        · exact .inl h1
        · exact .inr ⟨h1, by omega, h3⟩
      · rintro (h1 | ⟨h1, h2, h3⟩)
        · exact .inl h1
        · exact .inr ⟨h1, by omega, h3⟩
    refine ⟨(hbit 0).2 (.inl h.zero), fun e he => ?_, fun d' hd' hb e he hs => ?_, fun e he => ?_⟩
    · rcases (hbit e).1 he with h1 | ⟨h1, h2, h3⟩
      · exact h.sound e h1
      · refine ⟨h2, ?_⟩
        have := star_step hd.2 h3
        rwa [show d + (e - d) = e by omega] at this
    · rw [hbit]
      rcases (hbit d').1 hb with h1 | ⟨h1, h2, h3⟩
      · exact .inl (h.clos d' hd' h1 e he hs)
      · refine .inr ⟨by omega, he, ?_⟩
        have hs' : tStar a (k + d + (d' - d)) e = true := by rw [show k + d + (d' - d) = k + d' by omega]; exact hs
        have := star_trans h3 hs'
        rwa [show d' - d + e = d' + e - d by omega] at this
    · rcases List.mem_append.1 he with he | he
      · exact (hbit e).2 (.inl (h.met e he))
      · rw [List.mem_singleton.1 he, hbit]
        exact .inr ⟨Nat.le_refl _, hd.1, by rw [Nat.sub_self]; exact star_zero a _⟩
theorem SI.start {N : Nat} {a : Tab} {k : Nat} (hk : k < N) : SI N a k [] 1 := by
  have h1 : ∀ e, Nat.testBit 1 e = true → e = 0 := fun e he => by
    cases e with
    | zero => rfl
    | succ e => rw [Nat.testBit_succ] at he; simp at he
  exact ⟨rfl, fun e he => by rw [h1 e he]; exact ⟨by omega, star_zero a k⟩, fun d hd hb => by have := h1 d hb; omega, fun d hd => by cases hd⟩
theorem SI.fold {N : Nat} (hN : N ≤ 25) {a : Tab} {k : Nat} : ∀ (l pre : List Nat) (x : Nat), (∀ d ∈ l, (wrd N a k).testBit d = true) → SI N a k pre x → SI N a k (pre ++ l) (l.foldl (stp fun d => wrd N (tStar a) (k + d)) x)
  | [], pre, x, _, h => by simpa using h
  | d :: l, pre, x, hl, h => by
    have := SI.fold hN l (pre ++ [d]) _ (fun e he => hl e (by simp [he])) (h.next hN (hl d (by simp)))
    simpa using this
theorem SI.all {N : Nat} (hN : N ≤ 25) {a : Tab} {k : Nat} (hk : k < N) (l : List Nat) (hl : ∀ d ∈ l, (wrd N a k).testBit d = true) : SI N a k l (acS (fun d => wrd N (tStar a) (k + d)) l) := by
  have := SI.fold hN l [] 1 hl (SI.start (a := a) hk)
  simpa [acS] using this
section
variable {P : Program} {ops : Array Oper} {md : Region.Mode} {C : World → Prop}
end
def vals (M : Nat → Value) (n : Nat) : List Value := (List.range n).map M
theorem vals_len (M : Nat → Value) (n : Nat) : (vals M n).length = n := by simp [vals]
theorem vals_get (M : Nat → Value) {n i : Nat} (h : i < n) : (vals M n)[i]? = some (M i) := by simp [vals, h]
def updV (M : Nat → Value) (i : Nat) (v : Value) : Nat → Value := fun j => if j = i then v else M j
theorem vals_set (M : Nat → Value) (n i : Nat) (v : Value) : (vals M n).set i v = vals (updV M i v) n := by
  apply List.ext_getElem?
  intro q
  by_cases hq : q < n
  · rw [vals_get _ hq, List.getElem?_set]
    by_cases e : i = q
    · subst e; simp [vals_len, hq, updV]
    · rw [if_neg e, vals_get _ hq]; simp [updV, Ne.symm e]
  · rw [List.getElem?_eq_none (by simp [vals_len]; omega), List.getElem?_eq_none (by simp [vals_len]; omega)]
theorem RowV.slice {W : World} {v : Value} {x : Nat} (h : RowV W v x) : ∃ ao l cap, v = .slice ao l cap := by
  rcases h.2 with ⟨_, ao, cap, e⟩ | ⟨b, cap, _, _, e, _⟩
  · exact ⟨_, _, _, e⟩
  · exact ⟨_, _, _, e⟩
def fr74 (f : Value) (N tb : Nat) (k : Int) (u : Nat → Value) : Array Value := #[.int .i64 (N : Nat), f, u 2, u 3, u 4, .slice (some ⟨tb, 0, none⟩) N N, .int .i64 k, u 7, u 8, u 9, u 10, u 11, u 12, u 13, u 14, u 15, u 16, u 17, u 18, u 19, u 20, u 21]
def Fr74 (f : Value) (N tb : Nat) (k : Int) (tm : Array Value) : Prop := ∃ u, tm = fr74 f N tb k u
theorem Fr74.of {f : Value} {N tb : Nat} {k : Int} (tm : Array Value) (h : tm = fr74 f N tb k (nth tm.toList)) : Fr74 f N tb k tm := ⟨_, h⟩
attribute [local go_sem] Oper.semAt_some
theorem OwR.at_ {A B : World} {c x : Nat} {v : Value} (h : OwR A c v x) (hs : ∀ g, c ≤ g → g < A.heap.size → B.heap[g]? = A.heap[g]?) : OwR B c v x :=
  ⟨h.1, h.2.imp id fun ⟨g, cap, cur, e, hB, hc, h0⟩ => ⟨g, cap, cur, e, hB, (hs g hB (Array.getElem?_eq_some_iff.1 hc).1).trans hc, h0⟩⟩
def fr75 (p q h0 : Nat) (d : Int) (u : Nat → Value) : Array Value := #[u 0, u 1, .pointer (some ⟨p, 0, none⟩), .pointer (some ⟨q, 0, none⟩), u 4, .pointer (some ⟨h0, 0, none⟩), u 6, .pointer (some ⟨h0 + 1, 0, none⟩), .int .i64 d, u 9, u 10, u 11, u 12, u 13, u 14, u 15, u 16, u 17, u 18, u 19, u 20, u 21, u 22, u 23, u 24]
def Fr75 (p q h0 : Nat) (d : Int) (tm : Array Value) : Prop := ∃ u, tm = fr75 p q h0 d u
theorem Fr75.of {p q h0 : Nat} {d : Int} (tm : Array Value) (h : tm = fr75 p q h0 d (nth tm.toList)) : Fr75 p q h0 d tm := ⟨_, h⟩
def fr88 (p h0 : Nat) (d : Int) (u : Nat → Value) : Array Value := #[u 0, u 1, .pointer (some ⟨p, 0, none⟩), .pointer (some ⟨h0, 0, none⟩), .pointer (some ⟨h0 + 1, 0, none⟩), u 5, .pointer (some ⟨h0 + 1 + 1 + 1, 0, none⟩), .int .i64 d, u 8, u 9, u 10, u 11, u 12, u 13, u 14, u 15, u 16, u 17, u 18, u 19, u 20, u 21, u 22, u 23, u 24, u 25, u 26, u 27, u 28]
def Fr88 (p h0 : Nat) (d : Int) (tm : Array Value) : Prop := ∃ u, tm = fr88 p h0 d u
theorem Fr88.of {p h0 : Nat} {d : Int} (tm : Array Value) (h : tm = fr88 p h0 d (nth tm.toList)) : Fr88 p h0 d tm := ⟨_, h⟩
/-- Bytes that can be read. -/
def RdB (w : World) (ao : Option Addr) (n : Nat) (f : Nat → Nat) : Prop := (∀ i, i < n → f i < 256) ∧ (0 < n → ∃ bb off, ao = some ⟨bb, off, none⟩ ∧ bb < w.heap.size ∧ ∀ i, i < n → w.cell? ⟨bb, off + i, none⟩ = some (.int .u8 (f i : Nat)))
theorem RdB.below {w w' : World} {ao : Option Addr} {n : Nat} {f : Nat → Nat} (h : RdB w ao n f) (hb : Below w.heap.size w w') : RdB w' ao n f :=
  ⟨h.1, fun hn => by
    obtain ⟨bb, off, e, hlt, hc⟩ := h.2 hn
    exact ⟨bb, off, e, Nat.lt_of_lt_of_le hlt hb.size, fun i hi => by rw [hb.cell (p := ⟨bb, off + i, none⟩) hlt]; exact hc i hi⟩⟩
theorem beq_nat10 (x : Nat) : (((x : Nat) : Int) == 10) = (x == 10) := by
  rw [Bool.eq_iff_iff]; simp; omega
/-- The words of a node's class are words. -/
def wfN (q : Nd) : Prop := (0 ≤ q.c0 ∧ q.c0 < 18446744073709551616) ∧ (0 ≤ q.c1 ∧ q.c1 < 18446744073709551616) ∧ (0 ≤ q.c2 ∧ q.c2 < 18446744073709551616) ∧ (0 ≤ q.c3 ∧ q.c3 < 18446744073709551616)
theorem c4_cls {q : Nd} (h : wfN q) : C4 (clsP q) q.c0.toNat q.c1.toNat q.c2.toNat q.c3.toNat := by
  obtain ⟨h0, h1, h2, h3⟩ := h
  refine ⟨by omega, by omega, by omega, by omega, fun j hj => ?_, fun j hj => ?_, fun j hj => ?_, fun j hj => ?_⟩
  · unfold clsP; rw [if_pos hj]
  · unfold clsP; rw [if_neg (by omega), if_pos (by omega), Nat.add_sub_cancel_left]
  · unfold clsP; rw [if_neg (by omega), if_neg (by omega), if_pos (by omega), Nat.add_sub_cancel_left]
  · unfold clsP; rw [if_neg (by omega), if_neg (by omega), if_neg (by omega), Nat.add_sub_cancel_left]
theorem wrd_fun {N : Nat} (hN : N ≤ 25) {T T' : Tab} (h : EqN N T T') : wrd N T = wrd N T' := funext fun i => wrd_congr hN h i
def fr78 (N ta tb : Nat) (k : Int) (u : Nat → Value) : Array Value := #[.slice (some ⟨ta, 0, none⟩) N N, .int .i64 k, u 2, u 3, u 4, .slice (some ⟨tb, 0, none⟩) N N, u 6, u 7, u 8, u 9, u 10, u 11, u 12, u 13, u 14, u 15, u 16, u 17, u 18, u 19, u 20, u 21, u 22]
def Fr78 (N ta tb : Nat) (k : Int) (tm : Array Value) : Prop := ∃ u, tm = fr78 N ta tb k u
theorem Fr78.of {N ta tb : Nat} {k : Int} (tm : Array Value) (h : tm = fr78 N ta tb k (nth tm.toList)) : Fr78 N ta tb k tm := ⟨_, h⟩
/-- What Check answers. -/
def chkE (F : Nat → Nd) (n : Nat) : Int := match treeOf F n with
  | none => 50
  | some t => if anc t (true, true) = true then 0 else 51
def tNo : Tab := fun _ _ => false
/-- What the nodes of a tree mean in a text: nothing, if they may not be. -/
def mTab (f : Nat → Nat) (n : Nat) (mu : Bool) (F : Nat → Nd) (k : Nat) : Tab := match treeOf F k with
  | some t => if anc t (true, true) = true then mean f n mu t else tNo
  | none => tNo
/-- The least place ahead of j, and below r, from which on something ends at j, or -1. -/
def stK (T : Tab) (r j : Nat) : Int := match (List.range (min r j)).find? (fun i => T i (j - i)) with
  | some i => (i : Int)
  | none => -1
/-- The same, with some widths of row r. -/
def stP (T : Tab) (r : Nat) (S : List Nat) (j : Nat) : Int := if stK T r j = -1 ∧ (S.any fun d => decide (0 < d) && decide (r + d = j)) = true then (r : Int) else stK T r j
theorem stK_succ (T : Tab) (r j : Nat) : stK T (r + 1) j = if stK T r j = -1 ∧ r < j ∧ T r (j - r) = true then (r : Int) else stK T r j := by
  by_cases h : r < j
  · unfold stK
    rw [Nat.min_eq_left (by omega : r + 1 ≤ j), Nat.min_eq_left (by omega : r ≤ j), List.range_succ, List.find?_append]
    cases hf : (List.range r).find? (fun i => T i (j - i)) with
    | some i =>
      simp only [Option.some_or]
      rw [if_neg (by omega)]
    | none =>
      simp only [Option.none_or, h, true_and]
      cases ht : T r (j - r) with
      | true => simp [ht]
      | false => simp [ht]
  · rw [if_neg (by omega)]
    unfold stK
    rw [Nat.min_eq_right (by omega), Nat.min_eq_right (by omega)]
theorem stP_all {N : Nat} (hN : N ≤ 25) (T : Tab) (r : Nat) {j : Nat} (hj : j < N) : stP T r (come (wrd N T r).testBit 64) j = stK T (r + 1) j := by
  rw [stK_succ]
  unfold stP
  have e : ((come (wrd N T r).testBit 64).any fun d => decide (0 < d) && decide (r + d = j)) = true ↔ r < j ∧ T r (j - r) = true := by
    rw [List.any_eq_true]
    constructor
    · rintro ⟨d, hd, h⟩
      obtain ⟨_, hb⟩ := come_mem.1 hd
      rw [wrd_bit hN] at hb
      simp at hb h
      obtain ⟨h1, rfl⟩ := h
      exact ⟨by omega, by rw [Nat.add_sub_cancel_left]; exact hb.2⟩
    · rintro ⟨h1, h2⟩
      refine ⟨j - r, come_mem.2 ⟨by omega, ?_⟩, by simp; omega⟩
      rw [wrd_bit hN, h2]
      simp; omega
  simp only [e]
/-- The marks of the loops that have gone by. -/
structure Marks (W : World) (ms : List Nat) : Prop where
  nodup : ms.Nodup
  at_ : ∀ r ∈ ms, W.heap[r]? = some (.deferred (some []))
structure Alike (ms : List Nat) (A B : World) : Prop where
  os : B.os = A.os
  tape : B.tape = A.tape
  output : B.output = A.output
  size : B.heap.size = A.heap.size
  block : ∀ k, k ∉ ms → B.heap[k]? = A.heap[k]?
/-- From A to B only one block, and what is new, is other. -/
structure But1 (b : Nat) (A B : World) : Prop where
  os : B.os = A.os
  tape : B.tape = A.tape
  output : B.output = A.output
  size : A.heap.size ≤ B.heap.size
  block : ∀ k, k < A.heap.size → k ≠ b → B.heap[k]? = A.heap[k]?
theorem But1.refl (b : Nat) (A : World) : But1 b A A := ⟨rfl, rfl, rfl, Nat.le_refl _, fun _ _ _ => rfl⟩
theorem But1.trans {b : Nat} {A B C : World} (h : But1 b A B) (k : But1 b B C) : But1 b A C :=
  ⟨k.os.trans h.os, k.tape.trans h.tape, k.output.trans h.output, Nat.le_trans h.size k.size, fun i h1 h2 => (k.block i (Nat.lt_of_lt_of_le h1 h.size) h2).trans (h.block i h1 h2)⟩
theorem But1.set {b : Nat} {A B : World} (h : But1 b A B) (i : Nat) (v : Value) : But1 b A (B.setCell ⟨b, i, none⟩ v) :=
  by
  have hs : Below b B (B.setCell ⟨b, i, none⟩ v) := (Below.refl _ B).setCell (p := ⟨b, i, none⟩) (Nat.le_refl _) v
  exact ⟨hs.os.trans h.os, hs.tape.trans h.tape, hs.output.trans h.output, Nat.le_trans h.size hs.size, fun k h1 h2 => (Below.heap_setCell _ _ _ _ h2).trans (h.block k h1 h2)⟩
theorem But1.below {b B0 : Nat} {A B w : World} (h : But1 b A B) (hb : B0 ≤ b) (hw : Below B0 w A) (hsz : B0 ≤ w.heap.size) : Below B0 w B :=
  ⟨h.os.trans hw.os, h.tape.trans hw.tape, h.output.trans hw.output, Nat.le_trans hw.size h.size, fun k hk => (h.block k (Nat.lt_of_lt_of_le (Nat.lt_of_lt_of_le hk hsz) hw.size) (by omega)).trans (hw.block k hk)⟩
theorem Cl.but {b c : Nat} {A B : World} {t : TypeId} {vs : List Value} (h : Cl A c t vs) (hb : But1 b A B) (hc : c ≠ b) : Cl B c t vs := by
  unfold Cl; rw [hb.block c h.lt hc]; exact h
theorem TabZ.but {b : Nat} {A B : World} (h : TabZ A) (hb : But1 b A B) (hc : 0 ≠ b) : TabZ B :=
  ⟨Nat.lt_of_lt_of_le h.lt hb.size, fun i hi => by rw [← h.cell i hi]; simp only [World.cell?, hb.block 0 h.lt hc]⟩
theorem Cl.ne {A : World} {b c : Nat} {t t' : TypeId} {vs : List Value} {cur : Array Value} {fz : Nat × Nat} (h : Cl A b t vs) (h' : A.heap[c]? = some (.cells cur t' fz)) (ht : t ≠ t') : c ≠ b := fun e => by
  subst e
  unfold Cl at h
  rw [h'] at h
  injection h with h
  injection h with _ h
  exact ht h.symm
theorem Marks.but {A B : World} {ms : List Nat} {b : Nat} {t : TypeId} {vs : List Value} (h : Marks A ms) (hb : But1 b A B) (hA : Cl A b t vs) : Marks B ms :=
  ⟨h.nodup, fun r hr => by
    have := h.at_ r hr
    rw [hb.block r (Array.getElem?_eq_some_iff.1 this).1 (fun e => by subst e; unfold Cl at hA; rw [this] at hA; cases hA)]
    exact this⟩
theorem Marks.cons {A : World} {ms : List Nat} {r : Nat} (h : Marks A ms) (hr : A.heap[r]? = some (.deferred (some []))) (hl : ∀ k ∈ ms, k < r) : Marks A (r :: ms) :=
  ⟨List.nodup_cons.2 ⟨fun hk => by have := hl r hk; omega, h.nodup⟩, fun k hk => by
    rcases List.mem_cons.1 hk with rfl | hk
    · exact hr
    · exact h.at_ k hk⟩
theorem Marks.lt {A : World} {ms : List Nat} (h : Marks A ms) : ∀ k ∈ ms, k < A.heap.size := fun k hk => (Array.getElem?_eq_some_iff.1 (h.at_ k hk)).1
theorem Alike.below {A B w : World} {ms : List Nat} (ha : Alike ms A B) (hw : Below w.heap.size w A) (hm : ∀ r ∈ ms, w.heap.size ≤ r) : Below w.heap.size w B :=
  ⟨ha.os.trans hw.os, ha.tape.trans hw.tape, ha.output.trans hw.output, by rw [ha.size]; exact hw.size, fun k hk => (ha.block k fun h => by have := hm k h; omega).trans (hw.block k hk)⟩
/-- What nodes mean that Check takes. -/
theorem mTab_ok {f : Nat → Nat} {n : Nat} {mu : Bool} {F : Nat → Nd} {k : Nat} (h : chkE F k = 0) : ∃ t, treeOf F k = some t ∧ anc t (true, true) = true ∧ mTab f n mu F k = mean f n mu t ∧ snd F k = t ∧ t.ok = true ∧ t.size = k ∧ k ≤ 2048 := by
  unfold chkE at h
  split at h
  · omega
  · rename_i t ht
    have ha : anc t (true, true) = true := by
      cases hc : anc t (true, true) with
      | true => rfl
      | false => rw [hc] at h; simp at h
    obtain ⟨h1, h2, h3, _⟩ := treeOf_some ht
    refine ⟨t, ht, ha, ?_, by unfold snd; rw [ht]; rfl, h2, h1.symm, h3⟩
    unfold mTab; rw [ht]; dsimp only; rw [if_pos ha]
/-- A block that begins with n bytes. -/
def Byt (W : World) (g n : Nat) (f : Nat → Nat) : Prop := ∃ cur : Array Value, W.heap[g]? = some (.cells cur 5 (0, 0)) ∧ ∀ i, i < n → cur[i]? = some (.int .u8 (f i : Nat))
theorem Byt.lt {W : World} {g n : Nat} {f : Nat → Nat} (h : Byt W g n f) : g < W.heap.size := by
  obtain ⟨cur, h1, _⟩ := h
  exact (Array.getElem?_eq_some_iff.1 h1).1
theorem Byt.cell {W : World} {g n : Nat} {f : Nat → Nat} (h : Byt W g n f) {i : Nat} (hi : i < n) : W.cell? ⟨g, i, none⟩ = some (.int .u8 (f i : Nat)) := by
  obtain ⟨cur, h1, h2⟩ := h
  rw [cell_of_row W g i cur 5 (0, 0) h1]; exact h2 i hi
theorem Byt.frozen {W : World} {g n : Nat} {f : Nat → Nat} (h : Byt W g n f) (i : Nat) : W.frozen? ⟨g, i, none⟩ = false := by
  obtain ⟨cur, h1, h2⟩ := h
  exact frozen_of_row W g i _ 5 h1
theorem Byt.below {W W' : World} {g n : Nat} {f : Nat → Nat} (h : Byt W g n f) (hb : Below W.heap.size W W') : Byt W' g n f := by
  have hl := h.lt
  obtain ⟨cur, h1, h2⟩ := h
  exact ⟨cur, (hb.block g hl).trans h1, h2⟩
theorem Byt.rd {W : World} {g n : Nat} {f : Nat → Nat} (h : Byt W g n f) (hf : ∀ i, i < n → f i < 256) : RdB W (some ⟨g, 0, none⟩) n f :=
  ⟨hf, fun _ => ⟨g, 0, rfl, h.lt, fun i hi => by rw [Nat.zero_add]; exact h.cell hi⟩⟩
theorem Byt.set {W : World} {g n : Nat} {f : Nat → Nat} (h : Byt W g n f) {i : Nat} (hi : i < n) (x : Nat) : Byt (W.setCell ⟨g, i, none⟩ (.int .u8 (x : Nat))) g n (fun j => if j = i then x else f j) := by
  obtain ⟨cur, h1, h2⟩ := h
  have hs := heap_setCell_same W g i cur 5 (.int .u8 (x : Nat)) h1
  refine ⟨_, hs, fun j hj => ?_⟩
  by_cases e : j = i
  · subst e
    have hl := (Array.getElem?_eq_some_iff.1 (h2 j hj)).1
    simp [hl]
  · show _ = some (Value.int .u8 ((if j = i then x else f j : Nat) : Int))
    rw [if_neg e, ← h2 j hj]
    simp [Ne.symm e]
theorem Byt.congr {W : World} {g n : Nat} {f h : Nat → Nat} (k : Byt W g n f) (e : ∀ i, i < n → f i = h i) : Byt W g n h := by
  obtain ⟨cur, h1, h2⟩ := k
  exact ⟨cur, h1, fun i hi => by rw [← e i hi]; exact h2 i hi⟩
theorem But1.drew {b : Nat} {A B : World} (h : But1 b A B) : But1 b A B.drew := ⟨h.os, h.tape, h.output, h.size, h.block⟩
attribute [local go_sem] Oper.semAt_some
def fs17 (mu : Bool) (wv : Value) (h0 lb tt N ib : Nat) (r d : Int) (u : Nat → Value) : Array Value := #[u 0, .bool mu, wv, .pointer (some ⟨h0, 0, none⟩), u 4, u 5, u 6, .pointer (some ⟨lb, 0, none⟩), .pointer (some ⟨ib, 0, none⟩), u 9, .int .i64 d, u 11, u 12, u 13, u 14, u 15, u 16, u 17, u 18, u 19, u 20, u 21, .slice (some ⟨tt, 0, none⟩) N N, .int .i64 (N : Nat), .int .i64 r, u 25, u 26, u 27, u 28, u 29, u 30, u 31, u 32, u 33, u 34, u 35, u 36, u 37, u 38, u 39, u 40, u 41, u 42, u 43, u 44, u 45, u 46, u 47, u 48, u 49, u 50]
def Fs17 (mu : Bool) (wv : Value) (h0 lb tt N ib : Nat) (r d : Int) (tm : Array Value) : Prop := ∃ u, tm = fs17 mu wv h0 lb tt N ib r d u
theorem Fs17.of {mu : Bool} {wv : Value} {h0 lb tt N ib : Nat} {r d : Int} (tm : Array Value) (h : tm = fs17 mu wv h0 lb tt N ib r d (nth tm.toList)) : Fs17 mu wv h0 lb tt N ib r d tm := ⟨_, h⟩
/-- What stands between the rounds of the inner one. -/
structure SjI (V : World) (N tb r : Nat) (T : Tab) (l : List Nat) (i : Nat) (A : World) : Prop where
  row : Cl A tb 3 (ints (stP T r (l.take i)) N)
  but : But1 tb V A
def fr12 (mu : Bool) (wv : Value) (h0 lb tt N : Nat) (r : Int) (u : Nat → Value) : Array Value := #[u 0, .bool mu, wv, .pointer (some ⟨h0, 0, none⟩), u 4, u 5, u 6, .pointer (some ⟨lb, 0, none⟩), u 8, u 9, u 10, u 11, u 12, u 13, u 14, u 15, u 16, u 17, u 18, u 19, u 20, .slice (some ⟨tt, 0, none⟩) N N, .int .i64 (N : Nat), .int .i64 r, u 24, u 25, u 26, u 27, u 28, u 29, u 30, u 31, u 32, u 33, u 34, u 35, u 36, u 37, u 38, u 39, u 40, u 41, u 42, u 43, u 44, u 45, u 46, u 47]
def Fr12 (mu : Bool) (wv : Value) (h0 lb tt N : Nat) (r : Int) (tm : Array Value) : Prop := ∃ u, tm = fr12 mu wv h0 lb tt N r u
theorem Fr12.of {mu : Bool} {wv : Value} {h0 lb tt N : Nat} {r : Int} (tm : Array Value) (h : tm = fr12 mu wv h0 lb tt N r (nth tm.toList)) : Fr12 mu wv h0 lb tt N r tm := ⟨_, h⟩
def fs12 (mu : Bool) (wv : Value) (h0 lb tt N ib : Nat) (r d : Int) (u : Nat → Value) : Array Value := #[u 0, .bool mu, wv, .pointer (some ⟨h0, 0, none⟩), u 4, u 5, u 6, .pointer (some ⟨lb, 0, none⟩), .pointer (some ⟨ib, 0, none⟩), u 9, .int .i64 d, u 11, u 12, u 13, u 14, u 15, u 16, u 17, u 18, u 19, u 20, .slice (some ⟨tt, 0, none⟩) N N, .int .i64 (N : Nat), .int .i64 r, u 24, u 25, u 26, u 27, u 28, u 29, u 30, u 31, u 32, u 33, u 34, u 35, u 36, u 37, u 38, u 39, u 40, u 41, u 42, u 43, u 44, u 45, u 46, u 47]
def Fs12 (mu : Bool) (wv : Value) (h0 lb tt N ib : Nat) (r d : Int) (tm : Array Value) : Prop := ∃ u, tm = fs12 mu wv h0 lb tt N ib r d u
theorem Fs12.of {mu : Bool} {wv : Value} {h0 lb tt N ib : Nat} {r d : Int} (tm : Array Value) (h : tm = fs12 mu wv h0 lb tt N ib r d (nth tm.toList)) : Fs12 mu wv h0 lb tt N ib r d tm := ⟨_, h⟩

def bools (p : Nat → Bool) (n : Nat) : List Value := (List.range n).map fun j => Value.bool (p j)
theorem bools_len (p : Nat → Bool) (n : Nat) : (bools p n).length = n := by simp [bools]
theorem bools_get (p : Nat → Bool) {n i : Nat} (h : i < n) : (bools p n)[i]? = some (.bool (p i)) := by simp [bools, h]
theorem bools_congr {p q : Nat → Bool} {n : Nat} (h : ∀ i, i < n → p i = q i) : bools p n = bools q n := by
  unfold bools
  apply List.map_congr_left
  intro i hi
  rw [h i (List.mem_range.1 hi)]
/-- A row of a table, by the places at which spans end. -/
def spB (T : Tab) (i j : Nat) : Bool := decide (i ≤ j) && T i (j - i)
def spP (r : Nat) (S : List Nat) (j : Nat) : Bool := S.any fun d => decide (r + d = j)
theorem spP_all {N : Nat} (hN : N ≤ 25) (T : Tab) (r : Nat) {j : Nat} (hj : j < N) : spP r (come (wrd N T r).testBit 64) j = spB T r j := by
  unfold spP spB
  rw [Bool.eq_iff_iff, List.any_eq_true, Bool.and_eq_true, decide_eq_true_eq]
  constructor
  · rintro ⟨d, hd, h⟩
    obtain ⟨_, hb⟩ := come_mem.1 hd
    rw [wrd_bit hN] at hb
    simp at hb h
    subst h
    exact ⟨by omega, by rw [Nat.add_sub_cancel_left]; exact hb.2⟩
  · rintro ⟨h1, h2⟩
    refine ⟨j - r, come_mem.2 ⟨by omega, ?_⟩, by simp; omega⟩
    rw [wrd_bit hN, h2]
    simp; omega
theorem b_bool : (Try.prog.info? 4).map (fun i => (i.zero, i.size, i.bytes)) = some (some (.bool false), 1, 1) := by kernel_rfl
theorem b_brow : (Try.prog.info? 57).map (fun i => (i.zero, i.size, i.bytes)) = some (some (.slice none 0 0), 1, 24) := by kernel_rfl
theorem make_any {P : Program} {st e : TypeId} {z : Value} {bt : Nat} (n : Nat) (hn : n ≤ 25) (hu : P.underlying st = some (.slice e)) (hi : (P.info? e).map (fun i => (i.zero, i.size, i.bytes)) = some (some z, 1, bt)) (hb : bt ≤ 24) (hz : z.cells = #[z]) (w : World) : (Instr.makeSlice st (.int .i64 (n : Nat)) (.int .i64 (n : Nat))).run P w = .ok (.slice (some ⟨w.heap.size, 0, none⟩) n n) (w.alloc (.cells (vals (fun _ => z) n).toArray e)) := by
  obtain ⟨i, hi, hz', hs, hbt⟩ := info_parts hi
  have := run_make (P := P) w st e i _ hu hi hz' .i64 .i64 (n : Int) (n : Int) (by omega) (by omega) (by rw [hbt]; have h9 : bt * n ≤ 24 * 25 := Nat.mul_le_mul hb hn; have h8 : ((bt * n : Nat) : Int) ≤ ((24 * 25 : Nat) : Int) := Int.ofNat_le.2 h9; rw [Int.natCast_mul] at h8; omega) (by omega)
  rw [this, hs]
  have e : madeCells #[z] (n * 1) = (vals (fun _ => z) n).toArray := by
    apply Array.ext_getElem?
    intro q
    rw [Nat.mul_one]
    by_cases hq : q < n
    · have hs : q < (madeCells #[z] n).size := by rw [size_madeCells]; exact hq
      rw [Array.getElem?_eq_getElem hs, List.getElem?_toArray, vals_get _ hq]
      simp [madeCells, Array.getElem_map, Nat.mod_one]
    · rw [Array.getElem?_eq_none (by rw [size_madeCells]; omega), Array.getElem?_eq_none (by simp [vals_len]; omega)]
  rw [Nat.mul_one] at e
  simp [hz, e]
/-- The rows of a table of bools up to a place. -/
def BRows (W : World) (B tb N r : Nat) (T : Tab) : Prop := ∃ M : Nat → Value, Cl W tb 57 (vals M N) ∧ ∀ i, i < r → ∃ b, B ≤ b ∧ M i = .slice (some ⟨b, 0, none⟩) N N ∧ Cl W b 4 (bools (spB T i) N)
theorem BRows.below {W W' : World} {B tb N r : Nat} {T : Tab} (h : BRows W B tb N r T) (hb : Below W.heap.size W W') : BRows W' B tb N r T := by
  obtain ⟨M, h1, h2⟩ := h
  refine ⟨M, h1.below hb, fun i hi => ?_⟩
  obtain ⟨b, h3, h4, h5⟩ := h2 i hi
  exact ⟨b, h3, h4, h5.below hb⟩
theorem BRows.lt {W : World} {B tb N r : Nat} {T : Tab} (h : BRows W B tb N r T) : tb < W.heap.size := by
  obtain ⟨M, h1, _⟩ := h
  exact h1.lt
/-- What stands between the rounds of the inner one. -/
structure SqI (V : World) (N rb r : Nat) (l : List Nat) (i : Nat) (A : World) : Prop where
  row : Cl A rb 4 (bools (spP r (l.take i)) N)
  but : But1 rb V A
end Go.Proofs.Ytobgmgpclcfkcaa.T
