/- Two classes held against each other. -/
import Derived.Test.YtlmmiicibjfcdaaUn
import Derived.ChangeKeysEq
namespace Go.Proofs.Ytlmmiicibjfcdaa
open Go.RowKit
theorem part0 (x y z t : Value) (w : World) : (part 38 #[x, y, z, t] (0 * Try.prog.cellsOf 38)).run Try.prog w = .ok x w := by kernel_rfl
theorem part1 (x y z t : Value) (w : World) : (part 38 #[x, y, z, t] (1 * Try.prog.cellsOf 38)).run Try.prog w = .ok y w := by kernel_rfl
theorem part2 (x y z t : Value) (w : World) : (part 38 #[x, y, z, t] (2 * Try.prog.cellsOf 38)).run Try.prog w = .ok z w := by kernel_rfl
theorem part3 (x y z t : Value) (w : World) : (part 38 #[x, y, z, t] (3 * Try.prog.cellsOf 38)).run Try.prog w = .ok t w := by kernel_rfl
theorem eq24 (m : Nat) (x y : Int) (w : World) : (Op.equalIn (m + 1) 38 (.int .u64 x) (.int .u64 y)).run Try.prog w = .ok (x == y) w := by
  simp [Op.equalIn, run_underlying Try.underlying38]
/-- Two arrays held against each other. -/
theorem eql4 (a b c d a' b' c' d' : Int) (w : World) : (Go.binOp .eql 40 (.agg #[.int .u64 a, .int .u64 b, .int .u64 c, .int .u64 d]) (.agg #[.int .u64 a', .int .u64 b', .int .u64 c', .int .u64 d'])).run Try.prog w = .ok (.bool (a == a' && b == b' && c == c' && d == d')) w := by
  obtain ⟨j, hj, _⟩ := Option.map_eq_some_iff.1 (show (Try.prog.info? 38).map (·.size) = some 1 by kernel_rfl)
  have h : (Op.equalIn (9999 + 1) 40 (.agg #[.int .u64 a, .int .u64 b, .int .u64 c, .int .u64 d]) (.agg #[.int .u64 a', .int .u64 b', .int .u64 c', .int .u64 d'])).run Try.prog w = .ok (a == a' && b == b' && c == c' && d == d') w := by
    rw [run_equalIn_array w 9999 _ _ Try.underlying40 hj, show List.range 4 = [0, 1, 2, 3] from rfl]
    simp only [Op.eqItems, Sem.run_bind, part0, Result.andThen_ok, eq24 9998]
    cases a == a'
    · simp only [Bool.not_false, if_true, Sem.run_pure, Bool.false_and]
    simp only [Bool.not_true, Bool.false_eq_true, if_false, Sem.run_bind, part1, Result.andThen_ok, eq24 9998, Bool.true_and]
    cases b == b'
    · simp only [Bool.not_false, if_true, Sem.run_pure, Bool.false_and]
    simp only [Bool.not_true, Bool.false_eq_true, if_false, Sem.run_bind, part2, Result.andThen_ok, eq24 9998, Bool.true_and]
    cases c == c'
    · simp only [Bool.not_false, if_true, Sem.run_pure, Bool.false_and]
    simp only [Bool.not_true, Bool.false_eq_true, if_false, Sem.run_bind, part3, Result.andThen_ok, eq24 9998, Bool.true_and]
    cases d == d'
    · simp only [Bool.not_false, if_true, Sem.run_pure]
    simp only [Bool.not_true, Bool.false_eq_true, if_false, Sem.run_pure]
  simp only [binOp]
  simp only [Op.equal, Op.maxDepth, Sem.run_bind, h, Result.andThen_ok]
  simp
/-- Whether two classes have the same bytes. -/
def eqC (P Q : Nat → Bool) : Bool := (List.range 256).all fun x => P x == Q x
theorem eqC_iff (P Q : Nat → Bool) : eqC P Q = true ↔ ∀ x, x < 256 → P x = Q x := by
  unfold eqC
  simp
theorem eq4_iff {P Q : Nat → Bool} {a b c d a' b' c' d' : Nat} (h : C4 P a b c d) (k : C4 Q a' b' c' d') : ((a : Int) == a' && (b : Int) == b' && (c : Int) == c' && (d : Int) == d') = eqC P Q := by
  rw [Bool.eq_iff_iff, eqC_iff]
  simp only [Bool.and_eq_true, beq_iff_eq, Int.ofNat_inj]
  constructor
  · rintro ⟨⟨⟨rfl, rfl⟩, rfl⟩, rfl⟩ x hx
    by_cases h0 : x < 64
    · rw [← h.ha x h0, k.ha x h0]
    by_cases h1 : x < 128
    · have e : 64 + (x - 64) = x := by omega
      rw [← e, ← h.hb (x - 64) (by omega), k.hb (x - 64) (by omega)]
    by_cases h2 : x < 192
    · have e : 128 + (x - 128) = x := by omega
      rw [← e, ← h.hc (x - 128) (by omega), k.hc (x - 128) (by omega)]
    · have e : 192 + (x - 192) = x := by omega
      rw [← e, ← h.hd (x - 192) (by omega), k.hd (x - 192) (by omega)]
  · intro e
    obtain ⟨h1, h2, h3, h4⟩ := (h.congr e).uniq k
    exact ⟨⟨⟨h1, h2⟩, h3⟩, h4⟩
end Go.Proofs.Ytlmmiicibjfcdaa
