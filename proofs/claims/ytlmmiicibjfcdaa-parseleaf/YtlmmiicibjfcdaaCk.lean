/- Tokens of any fields held against each other: the run. -/
import Derived.Test.YtlmmiicibjfcdaaEq
import Derived.Laws.StructEq
namespace Go.Proofs.Ytlmmiicibjfcdaa
open Go.RowKit
/-- A token of any fields. -/
def tokI (k : Int) (b a0 a1 a2 a3 : Nat) (nt : Bool) (l m : Int) (lz : Bool) (at_ : Int) : Value := .agg #[.int .i64 k, .int .u8 (b : Nat), .int .u64 (a0 : Nat), .int .u64 (a1 : Nat), .int .u64 (a2 : Nat), .int .u64 (a3 : Nat), .bool nt, .int .i64 l, .int .i64 m, .bool lz, .int .i64 at_]
theorem f26 : Try.prog.fieldsOf 42 = #[{ name := "Kind", type := 3, offset := 0, embedded := false, tag := "", pkgPath := "", byteOffset := 0 }, { name := "Byte", type := 5, offset := 1, embedded := false, tag := "", pkgPath := "", byteOffset := 8 }, { name := "Class", type := 40, offset := 2, embedded := false, tag := "", pkgPath := "", byteOffset := 16 }, { name := "Not", type := 4, offset := 6, embedded := false, tag := "", pkgPath := "", byteOffset := 48 }, { name := "Least", type := 3, offset := 7, embedded := false, tag := "", pkgPath := "", byteOffset := 56 }, { name := "Most", type := 3, offset := 8, embedded := false, tag := "", pkgPath := "", byteOffset := 64 }, { name := "Lazy", type := 4, offset := 9, embedded := false, tag := "", pkgPath := "", byteOffset := 72 }, { name := "At", type := 3, offset := 10, embedded := false, tag := "", pkgPath := "", byteOffset := 80 }] := by kernel_rfl
theorem eql4i (n : Nat) (a b c d a' b' c' d' : Int) (w : World) : (Op.equalIn (n + 1 + 1) 40 (.agg #[.int .u64 a, .int .u64 b, .int .u64 c, .int .u64 d]) (.agg #[.int .u64 a', .int .u64 b', .int .u64 c', .int .u64 d'])).run Try.prog w = .ok (a == a' && b == b' && c == c' && d == d') w := by
  obtain ⟨j, hj, _⟩ := Option.map_eq_some_iff.1 (show (Try.prog.info? 38).map (·.size) = some 1 by kernel_rfl)
  rw [run_equalIn_array w (n + 1) _ _ Try.underlying40 hj, show List.range 4 = [0, 1, 2, 3] from rfl]
  simp only [Op.eqItems, Sem.run_bind, part0, Result.andThen_ok, eq24 n]
  cases a == a'
  · simp only [Bool.not_false, if_true, Sem.run_pure, Bool.false_and]
  simp only [Bool.not_true, Bool.false_eq_true, if_false, Sem.run_bind, part1, Result.andThen_ok, eq24 n, Bool.true_and]
  cases b == b'
  · simp only [Bool.not_false, if_true, Sem.run_pure, Bool.false_and]
  simp only [Bool.not_true, Bool.false_eq_true, if_false, Sem.run_bind, part2, Result.andThen_ok, eq24 n, Bool.true_and]
  cases c == c'
  · simp only [Bool.not_false, if_true, Sem.run_pure, Bool.false_and]
  simp only [Bool.not_true, Bool.false_eq_true, if_false, Sem.run_bind, part3, Result.andThen_ok, eq24 n, Bool.true_and]
  cases d == d'
  · simp only [Bool.not_false, if_true, Sem.run_pure]
  simp only [Bool.not_true, Bool.false_eq_true, if_false, Sem.run_pure]
/-- Whether two tokens are the same. -/
def eqT (k : Int) (b a0 a1 a2 a3 : Nat) (nt : Bool) (l m : Int) (lz : Bool) (t : Int) (k' : Int) (b' a0' a1' a2' a3' : Nat) (nt' : Bool) (l' m' : Int) (lz' : Bool) (t' : Int) : Bool :=
  k == k' && (b : Int) == b' && ((a0 : Int) == a0' && (a1 : Int) == a1' && (a2 : Int) == a2' && (a3 : Int) == a3') && nt == nt' && l == l' && m == m' && lz == lz' && t == t'
theorem equal26 (k : Int) (b a0 a1 a2 a3 : Nat) (nt : Bool) (l m : Int) (lz : Bool) (t : Int) (k' : Int) (b' a0' a1' a2' a3' : Nat) (nt' : Bool) (l' m' : Int) (lz' : Bool) (t' : Int) (w : World) :
    (Op.equal 42 (tokI k b a0 a1 a2 a3 nt l m lz t) (tokI k' b' a0' a1' a2' a3' nt' l' m' lz' t')).run Try.prog w = .ok (eqT k b a0 a1 a2 a3 nt l m lz t k' b' a0' a1' a2' a3' nt' l' m' lz' t') w := by
  unfold tokI Op.equal Op.maxDepth
  rw [run_equalIn_struct w 9999 42 _ _ (by kernel_rfl) (by kernel_rfl), f26]
  have q0 : ∀ (x0 x1 x2 x3 x4 x5 x6 x7 x8 x9 x10 : Value) w, (part 3 #[x0, x1, x2, x3, x4, x5, x6, x7, x8, x9, x10] 0).run Try.prog w = .ok x0 w := fun _ _ _ _ _ _ _ _ _ _ _ w => by kernel_rfl
  have q1 : ∀ (x0 x1 x2 x3 x4 x5 x6 x7 x8 x9 x10 : Value) w, (part 5 #[x0, x1, x2, x3, x4, x5, x6, x7, x8, x9, x10] 1).run Try.prog w = .ok x1 w := fun _ _ _ _ _ _ _ _ _ _ _ w => by kernel_rfl
  have q2 : ∀ (x0 x1 x2 x3 x4 x5 x6 x7 x8 x9 x10 : Value) w, (part 40 #[x0, x1, x2, x3, x4, x5, x6, x7, x8, x9, x10] 2).run Try.prog w = .ok (.agg #[x2, x3, x4, x5]) w := fun _ _ _ _ _ _ _ _ _ _ _ w => by kernel_rfl
  have q3 : ∀ (x0 x1 x2 x3 x4 x5 x6 x7 x8 x9 x10 : Value) w, (part 4 #[x0, x1, x2, x3, x4, x5, x6, x7, x8, x9, x10] 6).run Try.prog w = .ok x6 w := fun _ _ _ _ _ _ _ _ _ _ _ w => by kernel_rfl
  have q4 : ∀ (x0 x1 x2 x3 x4 x5 x6 x7 x8 x9 x10 : Value) w, (part 3 #[x0, x1, x2, x3, x4, x5, x6, x7, x8, x9, x10] 7).run Try.prog w = .ok x7 w := fun _ _ _ _ _ _ _ _ _ _ _ w => by kernel_rfl
  have q5 : ∀ (x0 x1 x2 x3 x4 x5 x6 x7 x8 x9 x10 : Value) w, (part 3 #[x0, x1, x2, x3, x4, x5, x6, x7, x8, x9, x10] 8).run Try.prog w = .ok x8 w := fun _ _ _ _ _ _ _ _ _ _ _ w => by kernel_rfl
  have q6 : ∀ (x0 x1 x2 x3 x4 x5 x6 x7 x8 x9 x10 : Value) w, (part 4 #[x0, x1, x2, x3, x4, x5, x6, x7, x8, x9, x10] 9).run Try.prog w = .ok x9 w := fun _ _ _ _ _ _ _ _ _ _ _ w => by kernel_rfl
  have q7 : ∀ (x0 x1 x2 x3 x4 x5 x6 x7 x8 x9 x10 : Value) w, (part 3 #[x0, x1, x2, x3, x4, x5, x6, x7, x8, x9, x10] 10).run Try.prog w = .ok x10 w := fun _ _ _ _ _ _ _ _ _ _ _ w => by kernel_rfl
  have e3 : ∀ (x y : Int) w, (Op.equalIn 9999 3 (.int .i64 x) (.int .i64 y)).run Try.prog w = .ok (x == y) w := fun x y w => by
    rw [run_equalIn_int w 9998 3 _ _ _ _ Try.underlying3]
  have e5 : ∀ (x y : Int) w, (Op.equalIn 9999 5 (.int .u8 x) (.int .u8 y)).run Try.prog w = .ok (x == y) w := fun x y w => by
    rw [run_equalIn_int w 9998 5 _ _ _ _ Try.underlying5]
  have e4 : ∀ (x y : Bool) w, (Op.equalIn 9999 4 (.bool x) (.bool y)).run Try.prog w = .ok (x == y) w := fun x y w => by
    rw [run_equalIn_bool' w 9998 4 _ _ Try.underlying4]
  have e24 := eql4i 9997 (a0 : Int) a1 a2 a3 a0' a1' a2' a3'
  unfold eqT
  generalize ((a0 : Int) == a0' && (a1 : Int) == a1' && (a2 : Int) == a2' && (a3 : Int) == a3') = c at *
  cases h1 : (k == k')
  · simp [Op.eqFields, q0, q1, q2, q3, q4, q5, q6, q7, e3, e4, e5, e24, h1]
  cases h2 : ((b : Int) == b')
  · simp [Op.eqFields, q0, q1, q2, q3, q4, q5, q6, q7, e3, e4, e5, e24, h1, h2]
  cases c with
  | false => simp [Op.eqFields, q0, q1, q2, q3, q4, q5, q6, q7, e3, e4, e5, e24, h1, h2]
  | true =>
  cases h4 : (nt == nt')
  · simp [Op.eqFields, q0, q1, q2, q3, q4, q5, q6, q7, e3, e4, e5, e24, h1, h2, h4]
  cases h5 : (l == l')
  · simp [Op.eqFields, q0, q1, q2, q3, q4, q5, q6, q7, e3, e4, e5, e24, h1, h2, h4, h5]
  cases h6 : (m == m')
  · simp [Op.eqFields, q0, q1, q2, q3, q4, q5, q6, q7, e3, e4, e5, e24, h1, h2, h4, h5, h6]
  cases h7 : (lz == lz')
  · simp [Op.eqFields, q0, q1, q2, q3, q4, q5, q6, q7, e3, e4, e5, e24, h1, h2, h4, h5, h6, h7]
  cases h8 : (t == t')
  · simp [Op.eqFields, q0, q1, q2, q3, q4, q5, q6, q7, e3, e4, e5, e24, h1, h2, h4, h5, h6, h7, h8]
  simp [Op.eqFields, q0, q1, q2, q3, q4, q5, q6, q7, e3, e4, e5, e24, h1, h2, h4, h5, h6, h7, h8]
end Go.Proofs.Ytlmmiicibjfcdaa
