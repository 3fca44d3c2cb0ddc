/- strconv.Itoa at this program, laid by its numbers. Tokens of any fields held against each other: the run. -/
import Derived.Shelf.Strconv.Itoa3
import Derived.Shelf.LaysM
import Derived.Lib.AppendIntMem
import Derived.Test.YtkbeiadbolihiaaDoorChecked
import Derived.Test.YtkbeiadbolihiaaDoorM02Str
import Derived.Test.YtkbeiadbolihiaaDoorM04Tx
import Derived.Laws.StructEq
namespace Go.Proofs.YtkbeiadbolihiaaDoor
open Go.Shelf Go.RowKit
def Tryd.laysM171_ren : Go.Shelf.Ren := ⟨fun | 171 => 58 | 243 => 68 | 246 => 78 | 283 => 88 | 284 => 89 | 285 => 90 | 286 => 91 | 129 => 93 | 317 => 92 | 318 => 94 | 319 => 95 | 320 => 96 | 337 => 97 | 338 => 56 | n => n, fun | 3 => 3 | 9 => 9 | 2 => 2 | 4 => 4 | 171 => 108 | 0 => 0 | 53 => 22 | 37 => 34 | 5 => 5 | 173 => 110 | 212 => 114 | 51 => 115 | 20 => 20 | 213 => 116 | 46 => 73 | 232 => 120 | 233 => 90 | n => n, fun | 17 => 2 | 18 => 3 | 19 => 0 | n => n⟩
theorem Tryd.laysM171 : Go.Proofs.LaysM.n171 Tryd.prog Tryd.laysM171_ren := {
  mixed := by kernel_rfl
  f129 := Tryd.func93.trans (congrArg some (by kernel_rfl))
  f171 := Tryd.func58.trans (congrArg some (by kernel_rfl))
  f243 := Tryd.func68.trans (congrArg some (by kernel_rfl))
  f246 := Tryd.func78.trans (congrArg some (by kernel_rfl))
  f283 := Tryd.func88.trans (congrArg some (by kernel_rfl))
  f284 := Tryd.func89.trans (congrArg some (by kernel_rfl))
  f285 := Tryd.func90.trans (congrArg some (by kernel_rfl))
  f286 := Tryd.func91.trans (congrArg some (by kernel_rfl))
  f317 := Tryd.func92.trans (congrArg some (by kernel_rfl))
  f318 := Tryd.func94.trans (congrArg some (by kernel_rfl))
  f319 := Tryd.func95.trans (congrArg some (by kernel_rfl))
  f320 := Tryd.func96.trans (congrArg some (by kernel_rfl))
  f337 := Tryd.func97.trans (congrArg some (by kernel_rfl))
  f338 := Tryd.func56.trans (congrArg some (by kernel_rfl))
  t0 := Tryd.underlying0
  a0 := Tryd.isAgg0
  z0 := Tryd.sizeOf0
  v0 := Tryd.zeroValue0
  t2 := Tryd.underlying2
  a2 := Tryd.isAgg2
  z2 := Tryd.sizeOf2
  v2 := Tryd.zeroValue2
  t3 := Tryd.underlying3
  a3 := Tryd.isAgg3
  z3 := Tryd.sizeOf3
  v3 := Tryd.zeroValue3
  t4 := Tryd.underlying4
  a4 := Tryd.isAgg4
  z4 := Tryd.sizeOf4
  v4 := Tryd.zeroValue4
  t5 := Tryd.underlying5
  a5 := Tryd.isAgg5
  z5 := Tryd.sizeOf5
  v5 := Tryd.zeroValue5
  t9 := Tryd.underlying9
  a9 := Tryd.isAgg9
  z9 := Tryd.sizeOf9
  v9 := Tryd.zeroValue9
  t20 := Tryd.underlying20
  a20 := Tryd.isAgg20
  z20 := Tryd.sizeOf20
  v20 := Tryd.zeroValue20
  t37 := Tryd.underlying34
  a37 := Tryd.isAgg34
  z37 := Tryd.sizeOf34
  v37 := Tryd.zeroValue34
  t46 := Tryd.underlying73
  a46 := Tryd.isAgg73
  z46 := Tryd.sizeOf73
  v46 := Tryd.zeroValue73
  t51 := Tryd.underlying115
  a51 := Tryd.isAgg115
  z51 := Tryd.sizeOf115
  v51 := Tryd.zeroValue115
  t53 := Tryd.underlying22
  a53 := Tryd.isAgg22
  z53 := Tryd.sizeOf22
  v53 := Tryd.zeroValue22
  t171 := Tryd.underlying108
  a171 := Tryd.isAgg108
  z171 := Tryd.sizeOf108
  v171 := Tryd.zeroValue108
  t173 := Tryd.underlying110
  a173 := Tryd.isAgg110
  z173 := Tryd.sizeOf110
  v173 := Tryd.zeroValue110
  t212 := Tryd.underlying114
  a212 := Tryd.isAgg114
  z212 := Tryd.sizeOf114
  v212 := Tryd.zeroValue114
  t213 := Tryd.underlying116
  a213 := Tryd.isAgg116
  z213 := Tryd.sizeOf116
  t232 := Tryd.underlying120
  a232 := Tryd.isAgg120
  z232 := Tryd.sizeOf120
  v232 := Tryd.zeroValue120
  t233 := Tryd.underlying90
  a233 := Tryd.isAgg90
  z233 := Tryd.sizeOf90
  v233 := Tryd.zeroValue90
  g17 := by kernel_rfl
  g18 := by kernel_rfl
  g19 := by kernel_rfl
  i0 := by kernel_rfl
  i2 := by kernel_rfl
  i3 := by kernel_rfl
  i4 := by kernel_rfl
  i5 := by kernel_rfl
  i9 := by kernel_rfl
  i20 := by kernel_rfl
  i37 := by kernel_rfl
  i46 := by kernel_rfl
  i51 := by kernel_rfl
  i53 := by kernel_rfl
  i171 := by kernel_rfl
  i173 := by kernel_rfl
  i212 := by kernel_rfl
  i232 := by kernel_rfl
  i233 := by kernel_rfl
  m17 := by kernel_rfl
  m18 := by kernel_rfl
  m19 := by kernel_rfl }
open Go.RowKit Go.Sort Go.Lib in
theorem Tryd.strconv_Itoa (n : Int) (h0 : -9223372036854775808 ≤ n) (h1 : n ≤ 9223372036854775807) (w : World) (htab : Lib.TabIs Tryd.prog w "internal/strconv.uint64pow10" .u64 Lib.pow10Tab) :
    Calls Tryd.prog 58 #[.int .i64 n] w fun e w' => e = .returned (.string ⟨(Lib.itoa n).toArray⟩) ∧ ∃ k os, w' = grow (w.drewN k) os := Any.strconv_Itoa Tryd.laysM171 n h0 h1 w htab
/-- The table of powers of ten is as the text lays it. -/
def Pow (w : World) : Prop := Lib.TabIs Tryd.prog w "internal/strconv.uint64pow10" .u64 Lib.pow10Tab
theorem itoa_any (n : Nat) (hn : n ≤ 1000) (w : World) (hT : Pow w) : Calls Tryd.prog 58 #[.int .i64 (n : Nat)] w (RetS w (Lib.decDigits n)) := by
  refine (Tryd.strconv_Itoa n (by omega) (by omega) w hT).mono ?_
  rintro e w' ⟨rfl, k, os, rfl⟩
  refine ⟨?_, Lib.below_grow _ w (Nat.le_refl _) k os⟩
  rw [Lib.itoa, if_neg (by omega)]
  simp
end Go.Proofs.YtkbeiadbolihiaaDoor
namespace Go.Proofs.YtkbeiadbolihiaaDoor
open Go.RowKit
/-- A token of any fields. -/
def tokI (k : Int) (b a0 a1 a2 a3 : Nat) (nt : Bool) (l m : Int) (lz : Bool) (at_ : Int) : Value := .agg #[.int .i64 k, .int .u8 (b : Nat), .int .u64 (a0 : Nat), .int .u64 (a1 : Nat), .int .u64 (a2 : Nat), .int .u64 (a3 : Nat), .bool nt, .int .i64 l, .int .i64 m, .bool lz, .int .i64 at_]
theorem f26 : Tryd.prog.fieldsOf 26 = #[{ name := "Kind", type := 3, offset := 0, embedded := false, tag := "", pkgPath := "", byteOffset := 0 }, { name := "Byte", type := 5, offset := 1, embedded := false, tag := "", pkgPath := "", byteOffset := 8 }, { name := "Class", type := 24, offset := 2, embedded := false, tag := "", pkgPath := "", byteOffset := 16 }, { name := "Not", type := 4, offset := 6, embedded := false, tag := "", pkgPath := "", byteOffset := 48 }, { name := "Least", type := 3, offset := 7, embedded := false, tag := "", pkgPath := "", byteOffset := 56 }, { name := "Most", type := 3, offset := 8, embedded := false, tag := "", pkgPath := "", byteOffset := 64 }, { name := "Lazy", type := 4, offset := 9, embedded := false, tag := "", pkgPath := "", byteOffset := 72 }, { name := "At", type := 3, offset := 10, embedded := false, tag := "", pkgPath := "", byteOffset := 80 }] := by kernel_rfl
theorem eql4i (n : Nat) (a b c d a' b' c' d' : Int) (w : World) : (Op.equalIn (n + 1 + 1) 24 (.agg #[.int .u64 a, .int .u64 b, .int .u64 c, .int .u64 d]) (.agg #[.int .u64 a', .int .u64 b', .int .u64 c', .int .u64 d'])).run Tryd.prog w = .ok (a == a' && b == b' && c == c' && d == d') w := by
  obtain ⟨j, hj, _⟩ := Option.map_eq_some_iff.1 (show (Tryd.prog.info? 22).map (·.size) = some 1 by kernel_rfl)
  rw [run_equalIn_array w (n + 1) _ _ Tryd.underlying24 hj, show List.range 4 = [0, 1, 2, 3] from rfl]
  simp only [Op.eqItems, Sem.run_bind, part0, Result.andThen_ok, eq24 n]
  cases a == a'
  · simp only [Bool.not_false, if_true, Sem.run_pure, Bool.false_and]
  simp only [Bool.not_true, Bool.false_eq_true, if_false, Sem.run_bind, part1, Result.andThen_ok, eq24 n, Bool.true_and]
  cases b == b'
  · simp only [Bool.not_false, if_true, Sem.run_pure, Bool.false_and]
  simp only [Bool.not_true, Bool.false_eq_true, if_false, Sem.run_bind, part2, Result.andThen_ok, eq24 n, Bool.true_and]
  cases c == c'
  · simp only [Bool.not_false, if_true, Sem.run_pure, Bool.false_and]
  simp only [Bool.not_true, Bool.false_eq_true, if_false, Sem.run_bind, part3, Result.andThen_ok, eq24 n, Bool.true_and]
  cases d == d'
  · simp only [Bool.not_false, if_true, Sem.run_pure]
  simp only [Bool.not_true, Bool.false_eq_true, if_false, Sem.run_pure]
/-- Whether two tokens are the same. -/
def eqT (k : Int) (b a0 a1 a2 a3 : Nat) (nt : Bool) (l m : Int) (lz : Bool) (t : Int) (k' : Int) (b' a0' a1' a2' a3' : Nat) (nt' : Bool) (l' m' : Int) (lz' : Bool) (t' : Int) : Bool :=
  k == k' && (b : Int) == b' && ((a0 : Int) == a0' && (a1 : Int) == a1' && (a2 : Int) == a2' && (a3 : Int) == a3') && nt == nt' && l == l' && m == m' && lz == lz' && t == t'
theorem equal26 (k : Int) (b a0 a1 a2 a3 : Nat) (nt : Bool) (l m : Int) (lz : Bool) (t : Int) (k' : Int) (b' a0' a1' a2' a3' : Nat) (nt' : Bool) (l' m' : Int) (lz' : Bool) (t' : Int) (w : World) :
    (Op.equal 26 (tokI k b a0 a1 a2 a3 nt l m lz t) (tokI k' b' a0' a1' a2' a3' nt' l' m' lz' t')).run Tryd.prog w = .ok (eqT k b a0 a1 a2 a3 nt l m lz t k' b' a0' a1' a2' a3' nt' l' m' lz' t') w := by
  unfold tokI Op.equal Op.maxDepth
  rw [run_equalIn_struct w 9999 26 _ _ (by kernel_rfl) (by kernel_rfl), f26]
  have q0 : ∀ (x0 x1 x2 x3 x4 x5 x6 x7 x8 x9 x10 : Value) w, (part 3 #[x0, x1, x2, x3, x4, x5, x6, x7, x8, x9, x10] 0).run Tryd.prog w = .ok x0 w := fun _ _ _ _ _ _ _ _ _ _ _ w => by kernel_rfl
  have q1 : ∀ (x0 x1 x2 x3 x4 x5 x6 x7 x8 x9 x10 : Value) w, (part 5 #[x0, x1, x2, x3, x4, x5, x6, x7, x8, x9, x10] 1).run Tryd.prog w = .ok x1 w := fun _ _ _ _ _ _ _ _ _ _ _ w => by kernel_rfl
  have q2 : ∀ (x0 x1 x2 x3 x4 x5 x6 x7 x8 x9 x10 : Value) w, (part 24 #[x0, x1, x2, x3, x4, x5, x6, x7, x8, x9, x10] 2).run Tryd.prog w = .ok (.agg #[x2, x3, x4, x5]) w := fun _ _ _ _ _ _ _ _ _ _ _ w => by kernel_rfl
  have q3 : ∀ (x0 x1 x2 x3 x4 x5 x6 x7 x8 x9 x10 : Value) w, (part 4 #[x0, x1, x2, x3, x4, x5, x6, x7, x8, x9, x10] 6).run Tryd.prog w = .ok x6 w := fun _ _ _ _ _ _ _ _ _ _ _ w => by kernel_rfl
  have q4 : ∀ (x0 x1 x2 x3 x4 x5 x6 x7 x8 x9 x10 : Value) w, (part 3 #[x0, x1, x2, x3, x4, x5, x6, x7, x8, x9, x10] 7).run Tryd.prog w = .ok x7 w := fun _ _ _ _ _ _ _ _ _ _ _ w => by kernel_rfl
  have q5 : ∀ (x0 x1 x2 x3 x4 x5 x6 x7 x8 x9 x10 : Value) w, (part 3 #[x0, x1, x2, x3, x4, x5, x6, x7, x8, x9, x10] 8).run Tryd.prog w = .ok x8 w := fun _ _ _ _ _ _ _ _ _ _ _ w => by kernel_rfl
  have q6 : ∀ (x0 x1 x2 x3 x4 x5 x6 x7 x8 x9 x10 : Value) w, (part 4 #[x0, x1, x2, x3, x4, x5, x6, x7, x8, x9, x10] 9).run Tryd.prog w = .ok x9 w := fun _ _ _ _ _ _ _ _ _ _ _ w => by kernel_rfl
  have q7 : ∀ (x0 x1 x2 x3 x4 x5 x6 x7 x8 x9 x10 : Value) w, (part 3 #[x0, x1, x2, x3, x4, x5, x6, x7, x8, x9, x10] 10).run Tryd.prog w = .ok x10 w := fun _ _ _ _ _ _ _ _ _ _ _ w => by kernel_rfl
  have e3 : ∀ (x y : Int) w, (Op.equalIn 9999 3 (.int .i64 x) (.int .i64 y)).run Tryd.prog w = .ok (x == y) w := fun x y w => by
    rw [run_equalIn_int w 9998 3 _ _ _ _ Tryd.underlying3]
  have e5 : ∀ (x y : Int) w, (Op.equalIn 9999 5 (.int .u8 x) (.int .u8 y)).run Tryd.prog w = .ok (x == y) w := fun x y w => by
    rw [run_equalIn_int w 9998 5 _ _ _ _ Tryd.underlying5]
  have e4 : ∀ (x y : Bool) w, (Op.equalIn 9999 4 (.bool x) (.bool y)).run Tryd.prog w = .ok (x == y) w := fun x y w => by
    rw [run_equalIn_bool' w 9998 4 _ _ Tryd.underlying4]
  have e24 := eql4i 9997 (a0 : Int) a1 a2 a3 a0' a1' a2' a3'
  unfold eqT
  generalize ((a0 : Int) == a0' && (a1 : Int) == a1' && (a2 : Int) == a2' && (a3 : Int) == a3') = c at *
  cases h1 : (k == k')
  · simp [Op.eqFields, q0, q1, q2, q3, q4, q5, q6, q7, e3, e4, e5, e24, h1]
  cases h2 : ((b : Int) == b')
  · simp [Op.eqFields, q0, q1, q2, q3, q4, q5, q6, q7, e3, e4, e5, e24, h1, h2]
  cases c with
  | false => simp [Op.eqFields, q0, q1, q2, q3, q4, q5, q6, q7, e3, e4, e5, e24, h1, h2]
  | true =>
  cases h4 : (nt == nt')
  · simp [Op.eqFields, q0, q1, q2, q3, q4, q5, q6, q7, e3, e4, e5, e24, h1, h2, h4]
  cases h5 : (l == l')
  · simp [Op.eqFields, q0, q1, q2, q3, q4, q5, q6, q7, e3, e4, e5, e24, h1, h2, h4, h5]
  cases h6 : (m == m')
  · simp [Op.eqFields, q0, q1, q2, q3, q4, q5, q6, q7, e3, e4, e5, e24, h1, h2, h4, h5, h6]
  cases h7 : (lz == lz')
  · simp [Op.eqFields, q0, q1, q2, q3, q4, q5, q6, q7, e3, e4, e5, e24, h1, h2, h4, h5, h6, h7]
  cases h8 : (t == t')
  · simp [Op.eqFields, q0, q1, q2, q3, q4, q5, q6, q7, e3, e4, e5, e24, h1, h2, h4, h5, h6, h7, h8]
  simp [Op.eqFields, q0, q1, q2, q3, q4, q5, q6, q7, e3, e4, e5, e24, h1, h2, h4, h5, h6, h7, h8]
end Go.Proofs.YtkbeiadbolihiaaDoor
