/- Two classes held against each other. Tokens of any fields held against each other: the run. A region that draws its order, all of whose operations but a forced last row are quiet in a class of worlds: one walk in the text's order serves every order. The reference's Of, Range, Full, Digit; Word, Space: the walks. The reference's Union; Word, Space: the walks. Word, Space and the reference's: the walks. -/
import Derived.ChangeKeysEq
import Derived.Laws.StructEq
import Derived.StillTail
import Derived.Deep.QuietTactic
import Derived.BigQuiet
import Derived.Deep.RegionWith
import Derived.Test.YtlmmiicibjfcdaaQ00
namespace Go.Proofs.Ytlmmiicibjfcdaa
open Go.RowKit
theorem part0 (x y z t : Value) (w : World) : (part 38 #[x, y, z, t] (0 * Try.prog.cellsOf 38)).run Try.prog w = .ok x w := by kernel_rfl
theorem part1 (x y z t : Value) (w : World) : (part 38 #[x, y, z, t] (1 * Try.prog.cellsOf 38)).run Try.prog w = .ok y w := by kernel_rfl
theorem part2 (x y z t : Value) (w : World) : (part 38 #[x, y, z, t] (2 * Try.prog.cellsOf 38)).run Try.prog w = .ok z w := by kernel_rfl
theorem part3 (x y z t : Value) (w : World) : (part 38 #[x, y, z, t] (3 * Try.prog.cellsOf 38)).run Try.prog w = .ok t w := by kernel_rfl
theorem eq24 (m : Nat) (x y : Int) (w : World) : (Op.equalIn (m + 1) 38 (.int .u64 x) (.int .u64 y)).run Try.prog w = .ok (x == y) w := by
  simp [Op.equalIn, run_underlying Try.underlying38]
/-- Two arrays held against each other. -/
theorem eql4 (a b c d a' b' c' d' : Int) (w : World) : (Go.binOp .eql 40 (.agg #[.int .u64 a, .int .u64 b, .int .u64 c, .int .u64 d]) (.agg #[.int .u64 a', .int .u64 b', .int .u64 c', .int .u64 d'])).run Try.prog w = .ok (.bool (a == a' && b == b' && c == c' && d == d')) w := by
  obtain ⟨j, hj, _⟩ := Option.map_eq_some_iff.1 (show (Try.prog.info? 38).map (·.size) = some 1 by kernel_rfl)
  have h : (Op.equalIn (9999 + 1) 40 (.agg #[.int .u64 a, .int .u64 b, .int .u64 c, .int .u64 d]) (.agg #[.int .u64 a', .int .u64 b', .int .u64 c', .int .u64 d'])).run Try.prog w = .ok (a == a' && b == b' && c == c' && d == d') w := by
    rw [run_equalIn_array w 9999 _ _ Try.underlying40 hj, show List.range 4 = [0, 1, 2, 3] from rfl]
    simp only [Op.eqItems, Sem.run_bind, part0, Result.andThen_ok, eq24 9998]
    cases a == a'
    · simp only [Bool.not_false, if_true, Sem.run_pure, Bool.false_and]
    simp only [Bool.not_true, Bool.false_eq_true, if_false, Sem.run_bind, part1, Result.andThen_ok, eq24 9998, Bool.true_and]
    cases b == b'
    · simp only [Bool.not_false, if_true, Sem.run_pure, Bool.false_and]
    simp only [Bool.not_true, Bool.false_eq_true, if_false, Sem.run_bind, part2, Result.andThen_ok, eq24 9998, Bool.true_and]
    cases c == c'
    · simp only [Bool.not_false, if_true, Sem.run_pure, Bool.false_and]
    simp only [Bool.not_true, Bool.false_eq_true, if_false, Sem.run_bind, part3, Result.andThen_ok, eq24 9998, Bool.true_and]
    cases d == d'
    · simp only [Bool.not_false, if_true, Sem.run_pure]
    simp only [Bool.not_true, Bool.false_eq_true, if_false, Sem.run_pure]
  simp only [binOp]
  simp only [Op.equal, Op.maxDepth, Sem.run_bind, h, Result.andThen_ok]
  simp
/-- Whether two classes have the same bytes. -/
def eqC (P Q : Nat → Bool) : Bool := (List.range 256).all fun x => P x == Q x
theorem eqC_iff (P Q : Nat → Bool) : eqC P Q = true ↔ ∀ x, x < 256 → P x = Q x := by
  unfold eqC
  simp
theorem eq4_iff {P Q : Nat → Bool} {a b c d a' b' c' d' : Nat} (h : C4 P a b c d) (k : C4 Q a' b' c' d') : ((a : Int) == a' && (b : Int) == b' && (c : Int) == c' && (d : Int) == d') = eqC P Q := by
  rw [Bool.eq_iff_iff, eqC_iff]
  simp only [Bool.and_eq_true, beq_iff_eq, Int.ofNat_inj]
  constructor
  · rintro ⟨⟨⟨rfl, rfl⟩, rfl⟩, rfl⟩ x hx
    by_cases h0 : x < 64
    · rw [← h.ha x h0, k.ha x h0]
    by_cases h1 : x < 128
    · have e : 64 + (x - 64) = x := by omega
      rw [← e, ← h.hb (x - 64) (by omega), k.hb (x - 64) (by omega)]
    by_cases h2 : x < 192
    · have e : 128 + (x - 128) = x := by omega
      rw [← e, ← h.hc (x - 128) (by omega), k.hc (x - 128) (by omega)]
    · have e : 192 + (x - 192) = x := by omega
      rw [← e, ← h.hd (x - 192) (by omega), k.hd (x - 192) (by omega)]
  · intro e
    obtain ⟨h1, h2, h3, h4⟩ := (h.congr e).uniq k
    exact ⟨⟨⟨h1, h2⟩, h3⟩, h4⟩
end Go.Proofs.Ytlmmiicibjfcdaa
namespace Go.Proofs.Ytlmmiicibjfcdaa
open Go.RowKit
/-- A token of any fields. -/
def tokI (k : Int) (b a0 a1 a2 a3 : Nat) (nt : Bool) (l m : Int) (lz : Bool) (at_ : Int) : Value := .agg #[.int .i64 k, .int .u8 (b : Nat), .int .u64 (a0 : Nat), .int .u64 (a1 : Nat), .int .u64 (a2 : Nat), .int .u64 (a3 : Nat), .bool nt, .int .i64 l, .int .i64 m, .bool lz, .int .i64 at_]
theorem f26 : Try.prog.fieldsOf 42 = #[{ name := "Kind", type := 3, offset := 0, embedded := false, tag := "", pkgPath := "", byteOffset := 0 }, { name := "Byte", type := 5, offset := 1, embedded := false, tag := "", pkgPath := "", byteOffset := 8 }, { name := "Class", type := 40, offset := 2, embedded := false, tag := "", pkgPath := "", byteOffset := 16 }, { name := "Not", type := 4, offset := 6, embedded := false, tag := "", pkgPath := "", byteOffset := 48 }, { name := "Least", type := 3, offset := 7, embedded := false, tag := "", pkgPath := "", byteOffset := 56 }, { name := "Most", type := 3, offset := 8, embedded := false, tag := "", pkgPath := "", byteOffset := 64 }, { name := "Lazy", type := 4, offset := 9, embedded := false, tag := "", pkgPath := "", byteOffset := 72 }, { name := "At", type := 3, offset := 10, embedded := false, tag := "", pkgPath := "", byteOffset := 80 }] := by kernel_rfl
theorem eql4i (n : Nat) (a b c d a' b' c' d' : Int) (w : World) : (Op.equalIn (n + 1 + 1) 40 (.agg #[.int .u64 a, .int .u64 b, .int .u64 c, .int .u64 d]) (.agg #[.int .u64 a', .int .u64 b', .int .u64 c', .int .u64 d'])).run Try.prog w = .ok (a == a' && b == b' && c == c' && d == d') w := by
  obtain ⟨j, hj, _⟩ := Option.map_eq_some_iff.1 (show (Try.prog.info? 38).map (·.size) = some 1 by kernel_rfl)
  rw [run_equalIn_array w (n + 1) _ _ Try.underlying40 hj, show List.range 4 = [0, 1, 2, 3] from rfl]
  simp only [Op.eqItems, Sem.run_bind, part0, Result.andThen_ok, eq24 n]
  cases a == a'
  · simp only [Bool.not_false, if_true, Sem.run_pure, Bool.false_and]
  simp only [Bool.not_true, Bool.false_eq_true, if_false, Sem.run_bind, part1, Result.andThen_ok, eq24 n, Bool.true_and]
  cases b == b'
  · simp only [Bool.not_false, if_true, Sem.run_pure, Bool.false_and]
  simp only [Bool.not_true, Bool.false_eq_true, if_false, Sem.run_bind, part2, Result.andThen_ok, eq24 n, Bool.true_and]
  cases c == c'
  · simp only [Bool.not_false, if_true, Sem.run_pure, Bool.false_and]
  simp only [Bool.not_true, Bool.false_eq_true, if_false, Sem.run_bind, part3, Result.andThen_ok, eq24 n, Bool.true_and]
  cases d == d'
  · simp only [Bool.not_false, if_true, Sem.run_pure]
  simp only [Bool.not_true, Bool.false_eq_true, if_false, Sem.run_pure]
/-- Whether two tokens are the same. -/
def eqT (k : Int) (b a0 a1 a2 a3 : Nat) (nt : Bool) (l m : Int) (lz : Bool) (t : Int) (k' : Int) (b' a0' a1' a2' a3' : Nat) (nt' : Bool) (l' m' : Int) (lz' : Bool) (t' : Int) : Bool :=
  k == k' && (b : Int) == b' && ((a0 : Int) == a0' && (a1 : Int) == a1' && (a2 : Int) == a2' && (a3 : Int) == a3') && nt == nt' && l == l' && m == m' && lz == lz' && t == t'
theorem equal26 (k : Int) (b a0 a1 a2 a3 : Nat) (nt : Bool) (l m : Int) (lz : Bool) (t : Int) (k' : Int) (b' a0' a1' a2' a3' : Nat) (nt' : Bool) (l' m' : Int) (lz' : Bool) (t' : Int) (w : World) :
    (Op.equal 42 (tokI k b a0 a1 a2 a3 nt l m lz t) (tokI k' b' a0' a1' a2' a3' nt' l' m' lz' t')).run Try.prog w = .ok (eqT k b a0 a1 a2 a3 nt l m lz t k' b' a0' a1' a2' a3' nt' l' m' lz' t') w := by
  unfold tokI Op.equal Op.maxDepth
  rw [run_equalIn_struct w 9999 42 _ _ (by kernel_rfl) (by kernel_rfl), f26]
  have q0 : ∀ (x0 x1 x2 x3 x4 x5 x6 x7 x8 x9 x10 : Value) w, (part 3 #[x0, x1, x2, x3, x4, x5, x6, x7, x8, x9, x10] 0).run Try.prog w = .ok x0 w := fun _ _ _ _ _ _ _ _ _ _ _ w => by kernel_rfl
  have q1 : ∀ (x0 x1 x2 x3 x4 x5 x6 x7 x8 x9 x10 : Value) w, (part 5 #[x0, x1, x2, x3, x4, x5, x6, x7, x8, x9, x10] 1).run Try.prog w = .ok x1 w := fun _ _ _ _ _ _ _ _ _ _ _ w => by kernel_rfl
  have q2 : ∀ (x0 x1 x2 x3 x4 x5 x6 x7 x8 x9 x10 : Value) w, (part 40 #[x0, x1, x2, x3, x4, x5, x6, x7, x8, x9, x10] 2).run Try.prog w = .ok (.agg #[x2, x3, x4, x5]) w := fun _ _ _ _ _ _ _ _ _ _ _ w => by kernel_rfl
  have q3 : ∀ (x0 x1 x2 x3 x4 x5 x6 x7 x8 x9 x10 : Value) w, (part 4 #[x0, x1, x2, x3, x4, x5, x6, x7, x8, x9, x10] 6).run Try.prog w = .ok x6 w := fun _ _ _ _ _ _ _ _ _ _ _ w => by kernel_rfl
  have q4 : ∀ (x0 x1 x2 x3 x4 x5 x6 x7 x8 x9 x10 : Value) w, (part 3 #[x0, x1, x2, x3, x4, x5, x6, x7, x8, x9, x10] 7).run Try.prog w = .ok x7 w := fun _ _ _ _ _ _ _ _ _ _ _ w => by kernel_rfl
  have q5 : ∀ (x0 x1 x2 x3 x4 x5 x6 x7 x8 x9 x10 : Value) w, (part 3 #[x0, x1, x2, x3, x4, x5, x6, x7, x8, x9, x10] 8).run Try.prog w = .ok x8 w := fun _ _ _ _ _ _ _ _ _ _ _ w => by kernel_rfl
  have q6 : ∀ (x0 x1 x2 x3 x4 x5 x6 x7 x8 x9 x10 : Value) w, (part 4 #[x0, x1, x2, x3, x4, x5, x6, x7, x8, x9, x10] 9).run Try.prog w = .ok x9 w := fun _ _ _ _ _ _ _ _ _ _ _ w => by kernel_rfl
  have q7 : ∀ (x0 x1 x2 x3 x4 x5 x6 x7 x8 x9 x10 : Value) w, (part 3 #[x0, x1, x2, x3, x4, x5, x6, x7, x8, x9, x10] 10).run Try.prog w = .ok x10 w := fun _ _ _ _ _ _ _ _ _ _ _ w => by kernel_rfl
  have e3 : ∀ (x y : Int) w, (Op.equalIn 9999 3 (.int .i64 x) (.int .i64 y)).run Try.prog w = .ok (x == y) w := fun x y w => by
    rw [run_equalIn_int w 9998 3 _ _ _ _ Try.underlying3]
  have e5 : ∀ (x y : Int) w, (Op.equalIn 9999 5 (.int .u8 x) (.int .u8 y)).run Try.prog w = .ok (x == y) w := fun x y w => by
    rw [run_equalIn_int w 9998 5 _ _ _ _ Try.underlying5]
  have e4 : ∀ (x y : Bool) w, (Op.equalIn 9999 4 (.bool x) (.bool y)).run Try.prog w = .ok (x == y) w := fun x y w => by
    rw [run_equalIn_bool' w 9998 4 _ _ Try.underlying4]
  have e24 := eql4i 9997 (a0 : Int) a1 a2 a3 a0' a1' a2' a3'
  unfold eqT
  generalize ((a0 : Int) == a0' && (a1 : Int) == a1' && (a2 : Int) == a2' && (a3 : Int) == a3') = c at *
  cases h1 : (k == k')
  · simp [Op.eqFields, q0, q1, q2, q3, q4, q5, q6, q7, e3, e4, e5, e24, h1]
  cases h2 : ((b : Int) == b')
  · simp [Op.eqFields, q0, q1, q2, q3, q4, q5, q6, q7, e3, e4, e5, e24, h1, h2]
  cases c with
  | false => simp [Op.eqFields, q0, q1, q2, q3, q4, q5, q6, q7, e3, e4, e5, e24, h1, h2]
  | true =>
  cases h4 : (nt == nt')
  · simp [Op.eqFields, q0, q1, q2, q3, q4, q5, q6, q7, e3, e4, e5, e24, h1, h2, h4]
  cases h5 : (l == l')
  · simp [Op.eqFields, q0, q1, q2, q3, q4, q5, q6, q7, e3, e4, e5, e24, h1, h2, h4, h5]
  cases h6 : (m == m')
  · simp [Op.eqFields, q0, q1, q2, q3, q4, q5, q6, q7, e3, e4, e5, e24, h1, h2, h4, h5, h6]
  cases h7 : (lz == lz')
  · simp [Op.eqFields, q0, q1, q2, q3, q4, q5, q6, q7, e3, e4, e5, e24, h1, h2, h4, h5, h6, h7]
  cases h8 : (t == t')
  · simp [Op.eqFields, q0, q1, q2, q3, q4, q5, q6, q7, e3, e4, e5, e24, h1, h2, h4, h5, h6, h7, h8]
  simp [Op.eqFields, q0, q1, q2, q3, q4, q5, q6, q7, e3, e4, e5, e24, h1, h2, h4, h5, h6, h7, h8]
end Go.Proofs.Ytlmmiicibjfcdaa
namespace Go.Proofs.Ytlmmiicibjfcdaa
open Go

section
variable {P : Program} {ops : Array Oper} {md : Region.Mode} {C : World → Prop}

/-- The operations below n come up in whatever order, each quiet in the class; behind f of them L holds. -/
def headQ (P : Program) (md : Region.Mode) (ops : Array Oper) (C : World → Prop) (n : Nat) (L : Array Bool → Act → Prop) : Nat → Array Bool → Act → Prop
  | 0, done, a => L done a
  | f + 1, done, a => Region.ready md ops done ≠ [] ∧ ∀ i ∈ Region.ready md ops done, i < n ∧ qOp P ops C i (headQ P md ops C n L f (done.setIfInBounds i true)) a

theorem any_of_headQ {n g : Nat} {L : Array Bool → Act → Prop} {Q : Exit → Act → World → Prop} (hL : ∀ done a w, C w → L done a → wpAny P md ops Q g done a w) :
    ∀ (f : Nat) (done : Array Bool) (a : Act) (w : World), C w → headQ P md ops C n L f done a → wpAny P md ops Q (f + g) done a w := by
  intro f
  induction f with
  | zero => intro done a w hw h; rw [Nat.zero_add]; exact hL done a w hw h
  | succ f ih =>
    intro done a w hw h
    rw [show f + 1 + g = (f + g) + 1 by omega]
    exact ⟨fun h0 => absurd h0 h.1, fun i hi => wpOp_of_qOp hw (fun a' w' hw' h' => ih _ a' w' hw' h') (h.2 i hi).2⟩

/-- One that may come up now and is quiet may be taken first. -/
theorem headQ_first {n i : Nat} {oi : Oper} {v : Value} {L : Array Bool → Act → Prop} (hi : ops[i]? = some oi) (hsel : ∀ (j : Nat) (o : Oper) cs b, ops[j]? = some o → o.op ≠ .select cs b)
    (hs : Region.sinkB md ops n = true) (hc : Region.chainB md ops n = true) (hn : n < ops.size) (hin : i < n)
    (hend : ∀ done a, L done a → ∀ j ∈ Region.ready md ops done, n ≤ j) :
    ∀ (f : Nat) (done : Array Bool) (a : Act), HeadInv md ops n done →
      (∀ j oj, ops[j]? = some oj → j ≠ i → done.getD j true = false → (∀ e ∈ oj.after, Region.binds md e = true → e.on ≠ i) → oi.apart ops oj = true) →
      i ∈ Region.ready md ops done → YieldsIn P ops C oi v a → headQ P md ops C n L f (done.setIfInBounds i true) (a.put oi.dst v) → headQ P md ops C n L (f + 1) done a := by
  intro f
  induction f with
  | zero =>
    intro done a inv _ hr hy H
    refine ⟨fun h => (by rw [h] at hr; cases hr), fun j hj => ?_⟩
    have hjn : j < n := Nat.lt_of_not_le fun h => tail_waits hs hc hn inv _ i rfl hin (mem_ready.1 hr).1 j h hj
    refine ⟨hjn, ?_⟩
    by_cases hji : j = i
    · subst hji; exact hy.qOp hi H
    · exact absurd (hend _ _ H j (ready_mono hj hji)) (by omega)
  | succ f ih =>
    intro done a inv hfree hr hy H
    have hun := (mem_ready.1 hr).1
    refine ⟨fun h => (by rw [h] at hr; cases hr), fun j hj => ?_⟩
    have hjn : j < n := Nat.lt_of_not_le fun h => tail_waits hs hc hn inv _ i rfl hin hun j h hj
    refine ⟨hjn, ?_⟩
    by_cases hji : j = i
    · subst hji; exact hy.qOp hi H
    · obtain ⟨hjun, oj, hoj, hall⟩ := mem_ready.1 hj
      have hnot : ∀ e ∈ oj.after, Region.binds md e = true → e.on ≠ i := fun e he hb heq => by
        have := hall e he hb
        rw [heq, getD_both hun] at this
        cases this
      have h2 := qOp_put hoj (hfree j oj hoj hji hjun hnot) (fun cs b => hsel i oi cs b hi) (fun cs b => hsel j oj cs b hoj) hy (H.2 j (ready_mono hj hji)).2
      refine qOp_mono (fun a' h3 => ih (done.setIfInBounds j true) a' (inv.set hj hjn) (fun k ok hk hki hu hno => hfree k ok hk hki ?_ hno) (ready_mono hr (Ne.symm hji)) h3.1 ?_) h2
      · by_cases hjk : j = k
        · subst hjk; exact hjun
        · rw [getD_set_ne true hjk] at hu; exact hu
      · rw [Array.setIfInBounds_comm _ _ hji]; exact h3.2

theorem headQ_lex {n g : Nat} {Lq : Act → Prop} (hsel : Region.noSelect ops = true) (hs : Region.sinkB md ops n = true) (hc : Region.chainB md ops n = true) (hn : n < ops.size) :
    ∀ (l : List Oper) (k : Nat) (done : Array Bool) (a : Act), (∀ j, j < l.length → l[j]? = ops[k + j]?) → k + l.length = n → HeadInv md ops n done →
      Region.lexHead md ops g l.length k done = true → wpQuiet P ops C Lq l a → headQ P md ops C n (fun d a' => Region.seqB md ops g n d = true ∧ Lq a') l.length done a := by
  intro l
  induction l with
  | nil =>
    intro k done a _ hk _ hB h
    obtain rfl : k = n := by simpa using hk
    exact ⟨by simpa [Region.lexHead] using hB, h⟩
  | cons o l ih =>
    intro k done a hl hk inv hB h
    have h0 : ops[k]? = some o := by simpa using (hl 0 (by simp)).symm
    simp only [List.length_cons, Region.lexHead, Bool.and_eq_true] at hB
    simp only [List.length_cons] at hk
    have hr : k ∈ Region.ready md ops done := by simpa using hB.1.1
    obtain ⟨v, hy, hK⟩ := yieldsIn_of_qOp (i := k) (K := wpQuiet P ops C Lq l) h0 (by unfold qOp; simp only [h0]; exact h)
    refine headQ_first h0 (Region.noSelect_spec hsel) hs hc hn (by omega) (fun d a' hL => seqB_ready hL.1) l.length done a inv (Region.free_spec h0 hB.1.2) hr hy ?_
    exact ih (k + 1) _ _ (fun j hj => by have := hl (j + 1) (by simp; omega); simpa [Nat.add_assoc, Nat.add_comm 1 j] using this) (by omega) (inv.set hr (by omega)) hB.2 hK

/-- THE LAW: the first n operations quiet in C, in the text's order; then the last ones one after another, from whatever world of C. -/
theorem wp_region_quiet_tail {id : Nat} {Q : Exit → Act → World → Prop} {a : Act} {w : World} {l : List Oper} (n : Nat) (C : World → Prop) (hm : P.follows .mixedOrders = true) (hB : Region.lexTailB .any l.toArray n = true)
    (hC : C { w with drawn := w.drawn + 1 })
    (h : wpQuiet P l.toArray C (fun a' => ∀ w', C w' → wpList P l.toArray Q (l.drop n) a' w') (l.take n) a) : (Code.region id l.toArray true).wp P Q a w := by
  simp only [Region.lexTailB, Bool.and_eq_true, decide_eq_true_eq] at hB
  obtain ⟨⟨⟨⟨hsel, hn⟩, hs⟩, hc⟩, hlex⟩ := hB
  have hn' : n < l.length := by simpa using hn
  have htl : (l.take n).length = n := by simp; omega
  have hdl : (l.drop n).length = l.toArray.size - n := by simp
  have inv0 : HeadInv .any l.toArray n (Array.replicate l.toArray.size false) :=
    ⟨by simp, fun j oj _ hl => (by rw [getD_replicate_false] at hl; cases hl), fun t _ ht => getD_in (by simpa using ht) (getD_replicate_false _ _)⟩
  have H := headQ_lex (md := .any) (g := l.toArray.size - n) hsel hs hc hn (l.take n) 0 _ a
    (fun j hj => by have hj' : j < n := by rw [htl] at hj; exact hj
                    simp [hj']) (by simpa using htl) inv0 (by rw [htl]; exact hlex) h
  have := any_of_headQ (Q := Q) (g := l.toArray.size - n) (fun d a' w' hw' hL => by
    have := wpAny_of_seq (md := .any) (Q' := Q) (l.drop n) n d a' w' (fun j => by simp [List.getElem?_drop]) (by rw [hdl]; exact hL.1) (hL.2 w' hw')
    rwa [hdl] at this) _ _ _ _ hC H
  rw [htl, show n + (l.toArray.size - n) = l.toArray.size by omega] at this
  exact wp_region_any hm this
end
open Go.RowKit
/-- u, but all that was there in W is as it was. -/
def near (W u : World) : World := { u with os := W.os, tape := W.tape, output := W.output, heap := W.heap ++ u.heap.extract W.heap.size }
theorem near_below (W u : World) : Below W.heap.size W (near W u) := by
  refine ⟨rfl, rfl, rfl, ?_, fun k hk => ?_⟩
  · show W.heap.size ≤ (W.heap ++ u.heap.extract W.heap.size).size
    rw [Array.size_append]; omega
  · show (W.heap ++ u.heap.extract W.heap.size)[k]? = _
    rw [Array.getElem?_append_left hk]
theorem near_self {W w : World} (h : Below W.heap.size W w) : near W w = w := by
  have e : W.heap ++ w.heap.extract W.heap.size = w.heap := by
    apply Array.ext_getElem?
    intro i
    by_cases hi : i < W.heap.size
    · rw [Array.getElem?_append_left hi, h.block i hi]
    · rw [Array.getElem?_append_right (by omega), Array.getElem?_extract]
      have := h.size
      by_cases h2 : i < w.heap.size
      · rw [if_pos (by omega), show W.heap.size + (i - W.heap.size) = i by omega]
      · rw [if_neg (by omega), Array.getElem?_eq_none (by omega)]
  unfold near
  rw [e, ← h.os, ← h.tape, ← h.output]
theorem Near.cell {W : World} {b o : Nat} {v : Value} (hc : W.cell? ⟨b, o, none⟩ = some v) (hb : b < W.heap.size) : ∀ u : World, (near W u).cell? ⟨b, o, none⟩ = some v := fun u => by
  rw [(near_below W u).cell (p := ⟨b, o, none⟩) hb]; exact hc
theorem Near.frozen {W : World} {b o : Nat} {v : Bool} (hc : W.frozen? ⟨b, o, none⟩ = v) (hb : b < W.heap.size) : ∀ u : World, (near W u).frozen? ⟨b, o, none⟩ = v := fun u => by
  rw [(near_below W u).frozen (p := ⟨b, o, none⟩) hb]; exact hc
theorem Near.start (W : World) : ∃ u : World, { W with drawn := W.drawn + 1 } = near W u := ⟨W.drew, (near_self (Below.refl _ _).drew).symm⟩
theorem Near.call {P : Program} {f : FuncId} {args : Array Value} {W : World} {u : World} {v : Value} (h : Calls P f args (near W u) fun e w' => e = .returned v ∧ Below (near W u).heap.size (near W u) w') :
    Calls P f args (near W u) fun e w' => e = .returned v ∧ ∃ u' : World, w' = near W u' :=
  h.mono fun _ w' h => ⟨h.1, w', (near_self ((near_below W u).trans (h.2.mono (near_below W u).size))).symm⟩
theorem Near.same {P : Program} {f : FuncId} {args : Array Value} {W : World} {u : World} {v : Value} (h : Calls P f args (near W u) fun e w' => e = .returned v ∧ w' = near W u) :
    Calls P f args (near W u) fun e w' => e = .returned v ∧ ∃ u' : World, w' = near W u' :=
  h.mono fun _ _ h => ⟨h.1, u, h.2⟩
end Go.Proofs.Ytlmmiicibjfcdaa
namespace Go.Proofs.Ytlmmiicibjfcdaa
open Go.RowKit
set_option maxRecDepth 10000 in
set_option maxHeartbeats 1000000 in
theorem rrange_any (lo hi : Nat) (w : World) (hl : lo < 256) (hh : hi < 256) :
    Calls Try.prog 59 #[.int .u8 (lo : Nat), .int .u8 (hi : Nat)] w (RetC w (rg lo (hi + 1 - lo))) := by
  have hW0 := Way.start w
  rw [← rg_zero lo] at hW0
  go_enter Try.func59, Try.ntmps59
  go_wp2
  go_loopw [6] (fun i wr => ∃ k : Nat, k ≤ hi + 1 - lo ∧ i = .int .i64 ((lo + k : Nat) : Int) ∧ Way w (rg lo k) wr) (fun i _ => hi + 1 - (intOf i).toNat)
  case atStart => exact ⟨0, by omega, rfl, hW0⟩
  case round =>
    obtain ⟨k, hk, rfl, hW⟩ := hrel
    obtain ⟨a, b, c, d, h4, hx⟩ := hW.ex
    obtain ⟨c0, c1, c2, c3, f0, f1, f2, f3⟩ := hx.cells
    by_cases hlt : k < hi + 1 - lo
    · have hw := rwith_c h4 (lo + k) wr (by omega)
      rw [← rg_succ] at hw
      obtain ⟨q, hq⟩ : ∃ q, q = lo + k := ⟨_, rfl⟩
      rw [← hq] at hw ⊢
      have hki : (q : Int) ≤ (hi : Int) := by omega
      have hq8 : (q : Int) < 256 := by omega
      have HQ : Hid (q = lo + k) := hq
      clear hq
      go_wp2_with (go_at_call 58; refine hw.mono ?_; rintro e w' ⟨⟨a', b', c', d', rfl, h4'⟩, hb'⟩; have hW' := hW.next hb' h4'; obtain ⟨g0, g1, g2, g3, e0, e1, e2, e3⟩ := (hx.below hb').cells)
      have hq := HQ.out
      exact ⟨⟨k + 1, by omega, by rw [hq]; go_num, hW'⟩, by simp [intOf]; omega⟩
    · obtain rfl : k = hi + 1 - lo := by omega
      have hki : ¬ (((lo + (hi + 1 - lo) : Nat) : Int) ≤ (hi : Int)) := by omega
      obtain ⟨p', q', r', s', hy⟩ := hW.res
      obtain ⟨y0, y1, y2, y3, v0, v1, v2, v3⟩ := hy.cells
      obtain ⟨z0, z1, z2, z3, _⟩ := (hy.set (.int .u64 (a : Nat)) (.int .u64 (b : Nat)) (.int .u64 (c : Nat)) (.int .u64 (d : Nat))).cells
      have HW : Hid (Way w (rg lo (hi + 1 - lo)) wr) := hW
      generalize lo + (hi + 1 - lo) = Q at *
      go_wp2
      exact bodyPost_ret (v := .agg #[.int .u64 (a : Nat), .int .u64 (b : Nat), .int .u64 (c : Nat), .int .u64 (d : Nat)]) (by simp [results, Try.results59, go_sem, z0, z1, z2, z3]) rfl ⟨⟨a, b, c, d, rfl, h4⟩, below_put4 HW.out.bel (Nat.le_refl _) _ _ _ _⟩
set_option maxHeartbeats 1000000 in
theorem rfull_any (w : World) : Calls Try.prog 34 #[] w (RetC w (rg 0 256)) := by
  go_enter Try.func34, Try.ntmps34
  go_wp2_with (go_at_call 59; refine (rrange_any 0 255 _ (by decide) (by decide)).mono ?_; rintro e w' ⟨⟨a, b, c, d, rfl, h4⟩, hb⟩; have hb' : Below (w.heap.size + 1) _ w' := (by simpa using hb); have hy := res_cells hb'; obtain ⟨y0, y1, y2, y3, v0, v1, v2, v3⟩ := hy.cells)
  obtain ⟨z0, z1, z2, z3, _⟩ := (hy.set (.int .u64 (a : Nat)) (.int .u64 (b : Nat)) (.int .u64 (c : Nat)) (.int .u64 (d : Nat))).cells
  exact bodyPost_ret (v := .agg #[.int .u64 (a : Nat), .int .u64 (b : Nat), .int .u64 (c : Nat), .int .u64 (d : Nat)]) (by simp [results, Try.results34, go_sem, z0, z1, z2, z3]) rfl (res_put h4 hb')
theorem Way.drew {w wr : World} {P : Nat → Bool} (h : Way w P wr) : Way w P wr.drew := by
  obtain ⟨⟨a, b, c, d, h4, hx⟩, ⟨p, q, r, s, hy⟩, hb⟩ := h
  exact ⟨⟨a, b, c, d, h4, hx.drew⟩, ⟨p, q, r, s, hy.drew⟩, hb.drew⟩
end Go.Proofs.Ytlmmiicibjfcdaa
namespace Go.Proofs.Ytlmmiicibjfcdaa
open Go.RowKit
theorem Way2.drew {w wr : World} {p q r s : Nat} (h : Way2 w p q r s wr) : Way2 w p q r s wr.drew := by
  obtain ⟨hx, ⟨a, b, c, d, hy⟩, hb⟩ := h
  exact ⟨hx.drew, ⟨a, b, c, d, hy.drew⟩, hb.drew⟩
end Go.Proofs.Ytlmmiicibjfcdaa
namespace Go.Proofs.Ytlmmiicibjfcdaa
open Go.RowKit
theorem rd_one (W : World) (k : Nat) (hk : k < 256) : Rd (W.alloc (.cells #[.int .u8 (k : Nat)] 5)) (some ⟨W.heap.size, 0, none⟩) 1 (fun _ => k) := by
  refine ⟨fun _ _ => hk, fun _ => ⟨W.heap.size, 0, rfl, by simp, fun i hi => ?_⟩⟩
  obtain rfl : i = 0 := by omega
  rw [cell_of_row _ W.heap.size (0 + 0) _ 5 (0, 0) (heap_alloc_new W _)]
  rfl
/-- Classes in a new block. -/
theorem rdc_four (W : World) (a0 b0 c0 d0 a1 b1 c1 d1 a2 b2 c2 d2 a3 b3 c3 d3 : Nat) : RdC (W.alloc (.cells #[.int .u64 (a0 : Nat), .int .u64 (b0 : Nat), .int .u64 (c0 : Nat), .int .u64 (d0 : Nat), .int .u64 (a1 : Nat), .int .u64 (b1 : Nat), .int .u64 (c1 : Nat), .int .u64 (d1 : Nat), .int .u64 (a2 : Nat), .int .u64 (b2 : Nat), .int .u64 (c2 : Nat), .int .u64 (d2 : Nat), .int .u64 (a3 : Nat), .int .u64 (b3 : Nat), .int .u64 (c3 : Nat), .int .u64 (d3 : Nat)] 40)) (some ⟨W.heap.size, 0, none⟩) 4 (fun i j => if i = 0 then (if j = 0 then a0 else if j = 1 then b0 else if j = 2 then c0 else d0) else if i = 1 then (if j = 0 then a1 else if j = 1 then b1 else if j = 2 then c1 else d1) else if i = 2 then (if j = 0 then a2 else if j = 1 then b2 else if j = 2 then c2 else d2) else (if j = 0 then a3 else if j = 1 then b3 else if j = 2 then c3 else d3)) := by
  refine ⟨fun _ => ⟨W.heap.size, 0, rfl, by simp, fun i hi j hj => ?_⟩⟩
  rw [cell_of_row _ W.heap.size (0 + i * 4 + j) _ 40 (0, 0) (heap_alloc_new W _)]
  have h1 : i = 0 ∨ i = 1 ∨ i = 2 ∨ i = 3 := by omega
  have h2 : j = 0 ∨ j = 1 ∨ j = 2 ∨ j = 3 := by omega
  rcases h1 with rfl | rfl | rfl | rfl <;> rcases h2 with rfl | rfl | rfl | rfl <;> rfl
theorem rdc_two (W : World) (a0 b0 c0 d0 a1 b1 c1 d1 : Nat) : RdC (W.alloc (.cells #[.int .u64 (a0 : Nat), .int .u64 (b0 : Nat), .int .u64 (c0 : Nat), .int .u64 (d0 : Nat), .int .u64 (a1 : Nat), .int .u64 (b1 : Nat), .int .u64 (c1 : Nat), .int .u64 (d1 : Nat)] 40)) (some ⟨W.heap.size, 0, none⟩) 2 (fun i j => if i = 0 then (if j = 0 then a0 else if j = 1 then b0 else if j = 2 then c0 else d0) else (if j = 0 then a1 else if j = 1 then b1 else if j = 2 then c1 else d1)) := by
  refine ⟨fun _ => ⟨W.heap.size, 0, rfl, by simp, fun i hi j hj => ?_⟩⟩
  rw [cell_of_row _ W.heap.size (0 + i * 4 + j) _ 40 (0, 0) (heap_alloc_new W _)]
  have h1 : i = 0 ∨ i = 1 := by omega
  have h2 : j = 0 ∨ j = 1 ∨ j = 2 ∨ j = 3 := by omega
  rcases h1 with rfl | rfl <;> rcases h2 with rfl | rfl | rfl | rfl <;> rfl
/-- Letters, digits and _; and what is blank. -/
def wordP : Nat → Bool := unN (fun i => if i = 0 then rg 97 26 else if i = 1 then rg 65 26 else if i = 2 then rg 48 10 else ofN (fun _ => 95) 1) 4
def spaceP : Nat → Bool := unN (fun i => if i = 0 then rg 9 5 else ofN (fun _ => 32) 1) 2
theorem space_ins : ins (rg 9 5) 32 = spaceP := by
  funext x
  simp [spaceP, unN, ofN, ins]
set_option maxHeartbeats 2000000 in
theorem word_any (w : World) : Calls Try.prog 115 #[] w (RetC w wordP) := by
  have t : Below (w.heap.size + 1) (w.alloc (.cells #[.int .u64 0, .int .u64 0, .int .u64 0, .int .u64 0] 40)) (w.alloc (.cells #[.int .u64 0, .int .u64 0, .int .u64 0, .int .u64 0] 40)) := Below.refl _ _
  go_enter Try.func115, Try.ntmps115
  go_wp2_with fail
  refine (range_any 97 122 _ (by decide) (by decide)).mono ?_
  rintro e w0 ⟨⟨a0, b0, c0, d0, rfl, h0⟩, q⟩
  replace t := t.trans (q.mono (by simp))
  clear q
  go_wp2_with fail
  refine (range_any 65 90 _ (by decide) (by decide)).mono ?_
  rintro e w1 ⟨⟨a1, b1, c1, d1, rfl, h1⟩, q⟩
  replace t := t.trans (q.mono (by have := t.size; simpa using this))
  clear q
  go_wp2_with fail
  refine (digit_any _).mono ?_
  rintro e w2 ⟨⟨a2, b2, c2, d2, rfl, h2⟩, q⟩
  replace t := t.trans (q.mono (by have := t.size; simpa using this))
  clear q
  go_wp2_with fail
  refine (of_any _ 1 1 (fun _ => 95) _ (rd_one w2 95 (by decide)) (by decide)).mono ?_
  rintro e w3 ⟨⟨a3, b3, c3, d3, rfl, h3⟩, q⟩
  replace t := (t.alloc (by have := t.size; simpa using this) _).trans (q.mono (by have := t.size; simp at this; simp; omega))
  clear q
  go_wp2_with fail
  refine (union_any _ 4 4 _ (fun i => if i = 0 then rg 97 26 else if i = 1 then rg 65 26 else if i = 2 then rg 48 10 else ofN (fun _ => 95) 1) _ (rdc_four w3 a0 b0 c0 d0 a1 b1 c1 d1 a2 b2 c2 d2 a3 b3 c3 d3) (fun i hi => ?_) (by decide)).mono ?_
  · have hi4 : i = 0 ∨ i = 1 ∨ i = 2 ∨ i = 3 := by omega
    rcases hi4 with rfl | rfl | rfl | rfl
    · exact h0
    · exact h1
    · exact h2
    · exact h3
  rintro e w4 ⟨⟨a, b, c, d, rfl, h4⟩, q⟩
  replace t := (t.alloc (by have := t.size; simpa using this) _).trans (q.mono (by have := t.size; simp at this; simp; omega))
  clear q h0 h1 h2 h3
  have hy := res_cells t
  obtain ⟨y0, y1, y2, y3, v0, v1, v2, v3⟩ := hy.cells
  obtain ⟨z0, z1, z2, z3, _⟩ := (hy.set (.int .u64 (a : Nat)) (.int .u64 (b : Nat)) (.int .u64 (c : Nat)) (.int .u64 (d : Nat))).cells
  go_wp2
  exact bodyPost_ret (v := .agg #[.int .u64 (a : Nat), .int .u64 (b : Nat), .int .u64 (c : Nat), .int .u64 (d : Nat)]) (by simp [results, Try.results115, go_sem, z0, z1, z2, z3]) rfl (res_put h4 t)
set_option maxHeartbeats 2000000 in
theorem space_any (w : World) : Calls Try.prog 116 #[] w (RetC w spaceP) := by
  have t : Below (w.heap.size + 1) (w.alloc (.cells #[.int .u64 0, .int .u64 0, .int .u64 0, .int .u64 0] 40)) (w.alloc (.cells #[.int .u64 0, .int .u64 0, .int .u64 0, .int .u64 0] 40)) := Below.refl _ _
  go_enter Try.func116, Try.ntmps116
  go_wp2_with fail
  refine (range_any 9 13 _ (by decide) (by decide)).mono ?_
  rintro e w0 ⟨⟨a0, b0, c0, d0, rfl, h0⟩, q⟩
  replace t := t.trans (q.mono (by simp))
  clear q
  go_wp2_with fail
  refine (of_any _ 1 1 (fun _ => 32) _ (rd_one w0 32 (by decide)) (by decide)).mono ?_
  rintro e w1 ⟨⟨a1, b1, c1, d1, rfl, h1⟩, q⟩
  replace t := (t.alloc (by have := t.size; simpa using this) _).trans (q.mono (by have := t.size; simp at this; simp; omega))
  clear q
  go_wp2_with fail
  refine (union_any _ 2 2 _ (fun i => if i = 0 then rg 9 5 else ofN (fun _ => 32) 1) _ (rdc_two w1 a0 b0 c0 d0 a1 b1 c1 d1) (fun i hi => ?_) (by decide)).mono ?_
  · have hi4 : i = 0 ∨ i = 1 := by omega
    rcases hi4 with rfl | rfl
    · exact h0
    · exact h1
  rintro e w4 ⟨⟨a, b, c, d, rfl, h4⟩, q⟩
  replace t := (t.alloc (by have := t.size; simpa using this) _).trans (q.mono (by have := t.size; simp at this; simp; omega))
  clear q h0 h1
  have hy := res_cells t
  obtain ⟨y0, y1, y2, y3, v0, v1, v2, v3⟩ := hy.cells
  obtain ⟨z0, z1, z2, z3, _⟩ := (hy.set (.int .u64 (a : Nat)) (.int .u64 (b : Nat)) (.int .u64 (c : Nat)) (.int .u64 (d : Nat))).cells
  go_wp2
  exact bodyPost_ret (v := .agg #[.int .u64 (a : Nat), .int .u64 (b : Nat), .int .u64 (c : Nat), .int .u64 (d : Nat)]) (by simp [results, Try.results116, go_sem, z0, z1, z2, z3]) rfl (res_put h4 t)
end Go.Proofs.Ytlmmiicibjfcdaa
