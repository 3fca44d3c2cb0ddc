/- Two classes held against each other. Tokens of any fields held against each other: the run. The reference's Of, Range, Full, Digit; Word, Space: the walks. The reference's Union; Word, Space: the walks. -/
import Derived.Test.YtkbeiadbolihiaaDoorM03It
import Derived.ChangeKeysEq
import Derived.Laws.StructEq
import Derived.Test.YtkbeiadbolihiaaDoorM01Bu
import Derived.Test.YtkbeiadbolihiaaDoorM02Ia
import Derived.Deep.RegionWith
namespace Go.Proofs.YtkbeiadbolihiaaDoor
open Go.RowKit
theorem part0 (x y z t : Value) (w : World) : (part 22 #[x, y, z, t] (0 * Tryd.prog.cellsOf 22)).run Tryd.prog w = .ok x w := by kernel_rfl
theorem part1 (x y z t : Value) (w : World) : (part 22 #[x, y, z, t] (1 * Tryd.prog.cellsOf 22)).run Tryd.prog w = .ok y w := by kernel_rfl
theorem part2 (x y z t : Value) (w : World) : (part 22 #[x, y, z, t] (2 * Tryd.prog.cellsOf 22)).run Tryd.prog w = .ok z w := by kernel_rfl
theorem part3 (x y z t : Value) (w : World) : (part 22 #[x, y, z, t] (3 * Tryd.prog.cellsOf 22)).run Tryd.prog w = .ok t w := by kernel_rfl
theorem eq24 (m : Nat) (x y : Int) (w : World) : (Op.equalIn (m + 1) 22 (.int .u64 x) (.int .u64 y)).run Tryd.prog w = .ok (x == y) w := by
  simp [Op.equalIn, run_underlying Tryd.underlying22]
/-- Two arrays held against each other. -/
theorem eql4 (a b c d a' b' c' d' : Int) (w : World) : (Go.binOp .eql 24 (.agg #[.int .u64 a, .int .u64 b, .int .u64 c, .int .u64 d]) (.agg #[.int .u64 a', .int .u64 b', .int .u64 c', .int .u64 d'])).run Tryd.prog w = .ok (.bool (a == a' && b == b' && c == c' && d == d')) w := by
  obtain ⟨j, hj, _⟩ := Option.map_eq_some_iff.1 (show (Tryd.prog.info? 22).map (·.size) = some 1 by kernel_rfl)
  have h : (Op.equalIn (9999 + 1) 24 (.agg #[.int .u64 a, .int .u64 b, .int .u64 c, .int .u64 d]) (.agg #[.int .u64 a', .int .u64 b', .int .u64 c', .int .u64 d'])).run Tryd.prog w = .ok (a == a' && b == b' && c == c' && d == d') w := by
    rw [run_equalIn_array w 9999 _ _ Tryd.underlying24 hj, show List.range 4 = [0, 1, 2, 3] from rfl]
    simp only [Op.eqItems, Sem.run_bind, part0, Result.andThen_ok, eq24 9998]
    cases a == a'
    · simp only [Bool.not_false, if_true, Sem.run_pure, Bool.false_and]
    simp only [Bool.not_true, Bool.false_eq_true, if_false, Sem.run_bind, part1, Result.andThen_ok, eq24 9998, Bool.true_and]
    cases b == b'
    · simp only [Bool.not_false, if_true, Sem.run_pure, Bool.false_and]
    simp only [Bool.not_true, Bool.false_eq_true, if_false, Sem.run_bind, part2, Result.andThen_ok, eq24 9998, Bool.true_and]
    cases c == c'
    · simp only [Bool.not_false, if_true, Sem.run_pure, Bool.false_and]
    simp only [Bool.not_true, Bool.false_eq_true, if_false, Sem.run_bind, part3, Result.andThen_ok, eq24 9998, Bool.true_and]
    cases d == d'
    · simp only [Bool.not_false, if_true, Sem.run_pure]
    simp only [Bool.not_true, Bool.false_eq_true, if_false, Sem.run_pure]
  simp only [binOp]
  simp only [Op.equal, Op.maxDepth, Sem.run_bind, h, Result.andThen_ok]
  simp
/-- Whether two classes have the same bytes. -/
def eqC (P Q : Nat → Bool) : Bool := (List.range 256).all fun x => P x == Q x
theorem eqC_iff (P Q : Nat → Bool) : eqC P Q = true ↔ ∀ x, x < 256 → P x = Q x := by
  unfold eqC
  simp
theorem eq4_iff {P Q : Nat → Bool} {a b c d a' b' c' d' : Nat} (h : C4 P a b c d) (k : C4 Q a' b' c' d') : ((a : Int) == a' && (b : Int) == b' && (c : Int) == c' && (d : Int) == d') = eqC P Q := by
  rw [Bool.eq_iff_iff, eqC_iff]
  simp only [Bool.and_eq_true, beq_iff_eq, Int.ofNat_inj]
  constructor
  · rintro ⟨⟨⟨rfl, rfl⟩, rfl⟩, rfl⟩ x hx
    by_cases h0 : x < 64
    · rw [← h.ha x h0, k.ha x h0]
    by_cases h1 : x < 128
    · have e : 64 + (x - 64) = x := by omega
      rw [← e, ← h.hb (x - 64) (by omega), k.hb (x - 64) (by omega)]
    by_cases h2 : x < 192
    · have e : 128 + (x - 128) = x := by omega
      rw [← e, ← h.hc (x - 128) (by omega), k.hc (x - 128) (by omega)]
    · have e : 192 + (x - 192) = x := by omega
      rw [← e, ← h.hd (x - 192) (by omega), k.hd (x - 192) (by omega)]
  · intro e
    obtain ⟨h1, h2, h3, h4⟩ := (h.congr e).uniq k
    exact ⟨⟨⟨h1, h2⟩, h3⟩, h4⟩
end Go.Proofs.YtkbeiadbolihiaaDoor
namespace Go.Proofs.YtkbeiadbolihiaaDoor
open Go.RowKit
/-- A token of any fields. -/
def tokI (k : Int) (b a0 a1 a2 a3 : Nat) (nt : Bool) (l m : Int) (lz : Bool) (at_ : Int) : Value := .agg #[.int .i64 k, .int .u8 (b : Nat), .int .u64 (a0 : Nat), .int .u64 (a1 : Nat), .int .u64 (a2 : Nat), .int .u64 (a3 : Nat), .bool nt, .int .i64 l, .int .i64 m, .bool lz, .int .i64 at_]
theorem f26 : Tryd.prog.fieldsOf 26 = #[{ name := "Kind", type := 3, offset := 0, embedded := false, tag := "", pkgPath := "", byteOffset := 0 }, { name := "Byte", type := 5, offset := 1, embedded := false, tag := "", pkgPath := "", byteOffset := 8 }, { name := "Class", type := 24, offset := 2, embedded := false, tag := "", pkgPath := "", byteOffset := 16 }, { name := "Not", type := 4, offset := 6, embedded := false, tag := "", pkgPath := "", byteOffset := 48 }, { name := "Least", type := 3, offset := 7, embedded := false, tag := "", pkgPath := "", byteOffset := 56 }, { name := "Most", type := 3, offset := 8, embedded := false, tag := "", pkgPath := "", byteOffset := 64 }, { name := "Lazy", type := 4, offset := 9, embedded := false, tag := "", pkgPath := "", byteOffset := 72 }, { name := "At", type := 3, offset := 10, embedded := false, tag := "", pkgPath := "", byteOffset := 80 }] := by kernel_rfl
theorem eql4i (n : Nat) (a b c d a' b' c' d' : Int) (w : World) : (Op.equalIn (n + 1 + 1) 24 (.agg #[.int .u64 a, .int .u64 b, .int .u64 c, .int .u64 d]) (.agg #[.int .u64 a', .int .u64 b', .int .u64 c', .int .u64 d'])).run Tryd.prog w = .ok (a == a' && b == b' && c == c' && d == d') w := by
  obtain ⟨j, hj, _⟩ := Option.map_eq_some_iff.1 (show (Tryd.prog.info? 22).map (·.size) = some 1 by kernel_rfl)
  rw [run_equalIn_array w (n + 1) _ _ Tryd.underlying24 hj, show List.range 4 = [0, 1, 2, 3] from rfl]
  simp only [Op.eqItems, Sem.run_bind, part0, Result.andThen_ok, eq24 n]
  cases a == a'
  · simp only [Bool.not_false, if_true, Sem.run_pure, Bool.false_and]
  simp only [Bool.not_true, Bool.false_eq_true, if_false, Sem.run_bind, part1, Result.andThen_ok, eq24 n, Bool.true_and]
  cases b == b'
  · simp only [Bool.not_false, if_true, Sem.run_pure, Bool.false_and]
  simp only [Bool.not_true, Bool.false_eq_true, if_false, Sem.run_bind, part2, Result.andThen_ok, eq24 n, Bool.true_and]
  cases c == c'
  · simp only [Bool.not_false, if_true, Sem.run_pure, Bool.false_and]
  simp only [Bool.not_true, Bool.false_eq_true, if_false, Sem.run_bind, part3, Result.andThen_ok, eq24 n, Bool.true_and]
  cases d == d'
  · simp only [Bool.not_false, if_true, Sem.run_pure]
  simp only [Bool.not_true, Bool.false_eq_true, if_false, Sem.run_pure]
/-- Whether two tokens are the same. -/
def eqT (k : Int) (b a0 a1 a2 a3 : Nat) (nt : Bool) (l m : Int) (lz : Bool) (t : Int) (k' : Int) (b' a0' a1' a2' a3' : Nat) (nt' : Bool) (l' m' : Int) (lz' : Bool) (t' : Int) : Bool :=
  k == k' && (b : Int) == b' && ((a0 : Int) == a0' && (a1 : Int) == a1' && (a2 : Int) == a2' && (a3 : Int) == a3') && nt == nt' && l == l' && m == m' && lz == lz' && t == t'
theorem equal26 (k : Int) (b a0 a1 a2 a3 : Nat) (nt : Bool) (l m : Int) (lz : Bool) (t : Int) (k' : Int) (b' a0' a1' a2' a3' : Nat) (nt' : Bool) (l' m' : Int) (lz' : Bool) (t' : Int) (w : World) :
    (Op.equal 26 (tokI k b a0 a1 a2 a3 nt l m lz t) (tokI k' b' a0' a1' a2' a3' nt' l' m' lz' t')).run Tryd.prog w = .ok (eqT k b a0 a1 a2 a3 nt l m lz t k' b' a0' a1' a2' a3' nt' l' m' lz' t') w := by
  unfold tokI Op.equal Op.maxDepth
  rw [run_equalIn_struct w 9999 26 _ _ (by kernel_rfl) (by kernel_rfl), f26]
  have q0 : ∀ (x0 x1 x2 x3 x4 x5 x6 x7 x8 x9 x10 : Value) w, (part 3 #[x0, x1, x2, x3, x4, x5, x6, x7, x8, x9, x10] 0).run Tryd.prog w = .ok x0 w := fun _ _ _ _ _ _ _ _ _ _ _ w => by kernel_rfl
  have q1 : ∀ (x0 x1 x2 x3 x4 x5 x6 x7 x8 x9 x10 : Value) w, (part 5 #[x0, x1, x2, x3, x4, x5, x6, x7, x8, x9, x10] 1).run Tryd.prog w = .ok x1 w := fun _ _ _ _ _ _ _ _ _ _ _ w => by kernel_rfl
  have q2 : ∀ (x0 x1 x2 x3 x4 x5 x6 x7 x8 x9 x10 : Value) w, (part 24 #[x0, x1, x2, x3, x4, x5, x6, x7, x8, x9, x10] 2).run Tryd.prog w = .ok (.agg #[x2, x3, x4, x5]) w := fun _ _ _ _ _ _ _ _ _ _ _ w => by kernel_rfl
  have q3 : ∀ (x0 x1 x2 x3 x4 x5 x6 x7 x8 x9 x10 : Value) w, (part 4 #[x0, x1, x2, x3, x4, x5, x6, x7, x8, x9, x10] 6).run Tryd.prog w = .ok x6 w := fun _ _ _ _ _ _ _ _ _ _ _ w => by kernel_rfl
  have q4 : ∀ (x0 x1 x2 x3 x4 x5 x6 x7 x8 x9 x10 : Value) w, (part 3 #[x0, x1, x2, x3, x4, x5, x6, x7, x8, x9, x10] 7).run Tryd.prog w = .ok x7 w := fun _ _ _ _ _ _ _ _ _ _ _ w => by kernel_rfl
  have q5 : ∀ (x0 x1 x2 x3 x4 x5 x6 x7 x8 x9 x10 : Value) w, (part 3 #[x0, x1, x2, x3, x4, x5, x6, x7, x8, x9, x10] 8).run Tryd.prog w = .ok x8 w := fun _ _ _ _ _ _ _ _ _ _ _ w => by kernel_rfl
  have q6 : ∀ (x0 x1 x2 x3 x4 x5 x6 x7 x8 x9 x10 : Value) w, (part 4 #[x0, x1, x2, x3, x4, x5, x6, x7, x8, x9, x10] 9).run Tryd.prog w = .ok x9 w := fun _ _ _ _ _ _ _ _ _ _ _ w => by kernel_rfl
  have q7 : ∀ (x0 x1 x2 x3 x4 x5 x6 x7 x8 x9 x10 : Value) w, (part 3 #[x0, x1, x2, x3, x4, x5, x6, x7, x8, x9, x10] 10).run Tryd.prog w = .ok x10 w := fun _ _ _ _ _ _ _ _ _ _ _ w => by kernel_rfl
  have e3 : ∀ (x y : Int) w, (Op.equalIn 9999 3 (.int .i64 x) (.int .i64 y)).run Tryd.prog w = .ok (x == y) w := fun x y w => by
    rw [run_equalIn_int w 9998 3 _ _ _ _ Tryd.underlying3]
  have e5 : ∀ (x y : Int) w, (Op.equalIn 9999 5 (.int .u8 x) (.int .u8 y)).run Tryd.prog w = .ok (x == y) w := fun x y w => by
    rw [run_equalIn_int w 9998 5 _ _ _ _ Tryd.underlying5]
  have e4 : ∀ (x y : Bool) w, (Op.equalIn 9999 4 (.bool x) (.bool y)).run Tryd.prog w = .ok (x == y) w := fun x y w => by
    rw [run_equalIn_bool' w 9998 4 _ _ Tryd.underlying4]
  have e24 := eql4i 9997 (a0 : Int) a1 a2 a3 a0' a1' a2' a3'
  unfold eqT
  generalize ((a0 : Int) == a0' && (a1 : Int) == a1' && (a2 : Int) == a2' && (a3 : Int) == a3') = c at *
  cases h1 : (k == k')
  · simp [Op.eqFields, q0, q1, q2, q3, q4, q5, q6, q7, e3, e4, e5, e24, h1]
  cases h2 : ((b : Int) == b')
  · simp [Op.eqFields, q0, q1, q2, q3, q4, q5, q6, q7, e3, e4, e5, e24, h1, h2]
  cases c with
  | false => simp [Op.eqFields, q0, q1, q2, q3, q4, q5, q6, q7, e3, e4, e5, e24, h1, h2]
  | true =>
  cases h4 : (nt == nt')
  · simp [Op.eqFields, q0, q1, q2, q3, q4, q5, q6, q7, e3, e4, e5, e24, h1, h2, h4]
  cases h5 : (l == l')
  · simp [Op.eqFields, q0, q1, q2, q3, q4, q5, q6, q7, e3, e4, e5, e24, h1, h2, h4, h5]
  cases h6 : (m == m')
  · simp [Op.eqFields, q0, q1, q2, q3, q4, q5, q6, q7, e3, e4, e5, e24, h1, h2, h4, h5, h6]
  cases h7 : (lz == lz')
  · simp [Op.eqFields, q0, q1, q2, q3, q4, q5, q6, q7, e3, e4, e5, e24, h1, h2, h4, h5, h6, h7]
  cases h8 : (t == t')
  · simp [Op.eqFields, q0, q1, q2, q3, q4, q5, q6, q7, e3, e4, e5, e24, h1, h2, h4, h5, h6, h7, h8]
  simp [Op.eqFields, q0, q1, q2, q3, q4, q5, q6, q7, e3, e4, e5, e24, h1, h2, h4, h5, h6, h7, h8]
end Go.Proofs.YtkbeiadbolihiaaDoor
namespace Go.Proofs.YtkbeiadbolihiaaDoor
open Go.RowKit
set_option maxRecDepth 10000 in
set_option maxHeartbeats 1000000 in
theorem rrange_any (lo hi : Nat) (w : World) (hl : lo < 256) (hh : hi < 256) :
    Calls Tryd.prog 32 #[.int .u8 (lo : Nat), .int .u8 (hi : Nat)] w (RetC w (rg lo (hi + 1 - lo))) := by
  have hW0 := Way.start w
  rw [← rg_zero lo] at hW0
  go_enter Tryd.func32, Tryd.ntmps32
  go_wp2
  go_loopw [6] (fun i wr => ∃ k : Nat, k ≤ hi + 1 - lo ∧ i = .int .i64 ((lo + k : Nat) : Int) ∧ Way w (rg lo k) wr) (fun i _ => hi + 1 - (intOf i).toNat)
  case atStart => exact ⟨0, by omega, rfl, hW0⟩
  case round =>
    obtain ⟨k, hk, rfl, hW⟩ := hrel
    obtain ⟨a, b, c, d, h4, hx⟩ := hW.ex
    obtain ⟨c0, c1, c2, c3, f0, f1, f2, f3⟩ := hx.cells
    by_cases hlt : k < hi + 1 - lo
    · have hw := rwith_c h4 (lo + k) wr (by omega)
      rw [← rg_succ] at hw
      obtain ⟨q, hq⟩ : ∃ q, q = lo + k := ⟨_, rfl⟩
      rw [← hq] at hw ⊢
      have hki : (q : Int) ≤ (hi : Int) := by omega
      have hq8 : (q : Int) < 256 := by omega
      have HQ : Hid (q = lo + k) := hq
      clear hq
      go_wp2_with (go_at_call 49; refine hw.mono ?_; rintro e w' ⟨⟨a', b', c', d', rfl, h4'⟩, hb'⟩; have hW' := hW.next hb' h4'; obtain ⟨g0, g1, g2, g3, e0, e1, e2, e3⟩ := (hx.below hb').cells)
      have hq := HQ.out
      exact ⟨⟨k + 1, by omega, by rw [hq]; go_num, hW'⟩, by simp [intOf]; omega⟩
    · obtain rfl : k = hi + 1 - lo := by omega
      have hki : ¬ (((lo + (hi + 1 - lo) : Nat) : Int) ≤ (hi : Int)) := by omega
      obtain ⟨p', q', r', s', hy⟩ := hW.res
      obtain ⟨y0, y1, y2, y3, v0, v1, v2, v3⟩ := hy.cells
      obtain ⟨z0, z1, z2, z3, _⟩ := (hy.set (.int .u64 (a : Nat)) (.int .u64 (b : Nat)) (.int .u64 (c : Nat)) (.int .u64 (d : Nat))).cells
      have HW : Hid (Way w (rg lo (hi + 1 - lo)) wr) := hW
      generalize lo + (hi + 1 - lo) = Q at *
      go_wp2
      exact bodyPost_ret (v := .agg #[.int .u64 (a : Nat), .int .u64 (b : Nat), .int .u64 (c : Nat), .int .u64 (d : Nat)]) (by simp [results, Tryd.results32, go_sem, z0, z1, z2, z3]) rfl ⟨⟨a, b, c, d, rfl, h4⟩, below_put4 HW.out.bel (Nat.le_refl _) _ _ _ _⟩
set_option maxHeartbeats 1000000 in
theorem rfull_any (w : World) : Calls Tryd.prog 21 #[] w (RetC w (rg 0 256)) := by
  go_enter Tryd.func21, Tryd.ntmps21
  go_wp2_with (go_at_call 32; refine (rrange_any 0 255 _ (by decide) (by decide)).mono ?_; rintro e w' ⟨⟨a, b, c, d, rfl, h4⟩, hb⟩; have hb' : Below (w.heap.size + 1) _ w' := (by simpa using hb); have hy := res_cells hb'; obtain ⟨y0, y1, y2, y3, v0, v1, v2, v3⟩ := hy.cells)
  obtain ⟨z0, z1, z2, z3, _⟩ := (hy.set (.int .u64 (a : Nat)) (.int .u64 (b : Nat)) (.int .u64 (c : Nat)) (.int .u64 (d : Nat))).cells
  exact bodyPost_ret (v := .agg #[.int .u64 (a : Nat), .int .u64 (b : Nat), .int .u64 (c : Nat), .int .u64 (d : Nat)]) (by simp [results, Tryd.results21, go_sem, z0, z1, z2, z3]) rfl (res_put h4 hb')
theorem Way.drew {w wr : World} {P : Nat → Bool} (h : Way w P wr) : Way w P wr.drew := by
  obtain ⟨⟨a, b, c, d, h4, hx⟩, ⟨p, q, r, s, hy⟩, hb⟩ := h
  exact ⟨⟨a, b, c, d, h4, hx.drew⟩, ⟨p, q, r, s, hy.drew⟩, hb.drew⟩
end Go.Proofs.YtkbeiadbolihiaaDoor
namespace Go.Proofs.YtkbeiadbolihiaaDoor
open Go.RowKit
theorem Way2.drew {w wr : World} {p q r s : Nat} (h : Way2 w p q r s wr) : Way2 w p q r s wr.drew := by
  obtain ⟨hx, ⟨a, b, c, d, hy⟩, hb⟩ := h
  exact ⟨hx.drew, ⟨a, b, c, d, hy.drew⟩, hb.drew⟩
end Go.Proofs.YtkbeiadbolihiaaDoor
