/- Trees as the reference takes them. -/
import Derived.WalkKit
import Derived.WalkSpells
import Derived.WalkLawsBesides
import Derived.ChangeKeysEq
import Derived.Laws.StructEq
import Derived.Deep.QuietTactic
import Derived.BigQuiet
import Derived.Deep.RegionWith
import Derived.Laws.AppendOwn
import Derived.Laws.OwnMore
import Derived.Lib.SliceRun
import Derived.Deep.RegionHeld3
import Derived.Deep.AppendLies
import Derived.Deep.DeepCutAuto
import Derived.WalkMore
import Derived.Test.YtlmmiicibjfcdaaChecked
import Derived.Test.YtlmmiicibjfcdaaQ22
namespace Go.Proofs.Ytlmmiicibjfcdaa.T
open Go.RowKit
theorem below2 (w : World) (o o' : Obj) : Below w.heap.size w ((w.alloc o).alloc o') := ((Below.refl _ _).alloc (Nat.le_refl _) _).alloc (by simp) _
theorem below1 (w : World) (o : Obj) : Below w.heap.size w (w.alloc o) := (Below.refl _ _).alloc (Nat.le_refl _) _
/-- A node as a value. -/
def ndV (n : Nd) : Value := .agg #[.int .i64 n.k, .int .u64 n.c0, .int .u64 n.c1, .int .u64 n.c2, .int .u64 n.c3, .int .i64 n.a, .int .i64 n.b, .int .i64 n.l, .int .i64 n.m, .bool n.z]
def ndL (n : Nd) : List Value := [.int .i64 n.k, .int .u64 n.c0, .int .u64 n.c1, .int .u64 n.c2, .int .u64 n.c3, .int .i64 n.a, .int .i64 n.b, .int .i64 n.l, .int .i64 n.m, .bool n.z]
theorem part0 (x y z t : Value) (w : World) : (part 38 #[x, y, z, t] (0 * Try.prog.cellsOf 38)).run Try.prog w = .ok x w := by kernel_rfl
theorem part1 (x y z t : Value) (w : World) : (part 38 #[x, y, z, t] (1 * Try.prog.cellsOf 38)).run Try.prog w = .ok y w := by kernel_rfl
theorem part2 (x y z t : Value) (w : World) : (part 38 #[x, y, z, t] (2 * Try.prog.cellsOf 38)).run Try.prog w = .ok z w := by kernel_rfl
theorem part3 (x y z t : Value) (w : World) : (part 38 #[x, y, z, t] (3 * Try.prog.cellsOf 38)).run Try.prog w = .ok t w := by kernel_rfl
theorem eq25 (m : Nat) (x y : Int) (w : World) : (Op.equalIn (m + 1) 38 (.int .u64 x) (.int .u64 y)).run Try.prog w = .ok (x == y) w := by
  simp [Op.equalIn, run_underlying Try.underlying38]
theorem eql4i (n : Nat) (a b c d a' b' c' d' : Int) (w : World) : (Op.equalIn (n + 1 + 1) 40 (.agg #[.int .u64 a, .int .u64 b, .int .u64 c, .int .u64 d]) (.agg #[.int .u64 a', .int .u64 b', .int .u64 c', .int .u64 d'])).run Try.prog w = .ok (a == a' && b == b' && c == c' && d == d') w := by
  obtain ⟨j, hj, _⟩ := Option.map_eq_some_iff.1 (show (Try.prog.info? 38).map (·.size) = some 1 by kernel_rfl)
  rw [run_equalIn_array w (n + 1) _ _ Try.underlying40 hj, show List.range 4 = [0, 1, 2, 3] from rfl]
  simp only [Op.eqItems, Sem.run_bind, part0, Result.andThen_ok, eq25 n]
  cases a == a'
  · simp only [Bool.not_false, if_true, Sem.run_pure, Bool.false_and]
  simp only [Bool.not_true, Bool.false_eq_true, if_false, Sem.run_bind, part1, Result.andThen_ok, eq25 n, Bool.true_and]
  cases b == b'
  · simp only [Bool.not_false, if_true, Sem.run_pure, Bool.false_and]
  simp only [Bool.not_true, Bool.false_eq_true, if_false, Sem.run_bind, part2, Result.andThen_ok, eq25 n, Bool.true_and]
  cases c == c'
  · simp only [Bool.not_false, if_true, Sem.run_pure, Bool.false_and]
  simp only [Bool.not_true, Bool.false_eq_true, if_false, Sem.run_bind, part3, Result.andThen_ok, eq25 n, Bool.true_and]
  cases d == d'
  · simp only [Bool.not_false, if_true, Sem.run_pure]
  simp only [Bool.not_true, Bool.false_eq_true, if_false, Sem.run_pure]
theorem f29 : Try.prog.fieldsOf 44 = #[{ name := "Kind", type := 3, offset := 0, embedded := false, tag := "", pkgPath := "", byteOffset := 0 }, { name := "Class", type := 40, offset := 1, embedded := false, tag := "", pkgPath := "", byteOffset := 8 }, { name := "A", type := 3, offset := 5, embedded := false, tag := "", pkgPath := "", byteOffset := 40 }, { name := "B", type := 3, offset := 6, embedded := false, tag := "", pkgPath := "", byteOffset := 48 }, { name := "Least", type := 3, offset := 7, embedded := false, tag := "", pkgPath := "", byteOffset := 56 }, { name := "Most", type := 3, offset := 8, embedded := false, tag := "", pkgPath := "", byteOffset := 64 }, { name := "Lazy", type := 4, offset := 9, embedded := false, tag := "", pkgPath := "", byteOffset := 72 }] := by kernel_rfl
theorem equal29 (n m : Nd) (w : World) : (Op.equal 44 (ndV n) (ndV m)).run Try.prog w = .ok (n.eq m) w := by
  unfold ndV Op.equal Op.maxDepth
  rw [run_equalIn_struct w 9999 44 _ _ (by kernel_rfl) (by kernel_rfl), f29]
  have q0 : ∀ (x0 x1 x2 x3 x4 x5 x6 x7 x8 x9 : Value) w, (part 3 #[x0, x1, x2, x3, x4, x5, x6, x7, x8, x9] 0).run Try.prog w = .ok x0 w := fun _ _ _ _ _ _ _ _ _ _ w => by kernel_rfl
  have q2 : ∀ (x0 x1 x2 x3 x4 x5 x6 x7 x8 x9 : Value) w, (part 3 #[x0, x1, x2, x3, x4, x5, x6, x7, x8, x9] 5).run Try.prog w = .ok x5 w := fun _ _ _ _ _ _ _ _ _ _ w => by kernel_rfl
  have q3 : ∀ (x0 x1 x2 x3 x4 x5 x6 x7 x8 x9 : Value) w, (part 3 #[x0, x1, x2, x3, x4, x5, x6, x7, x8, x9] 6).run Try.prog w = .ok x6 w := fun _ _ _ _ _ _ _ _ _ _ w => by kernel_rfl
  have q4 : ∀ (x0 x1 x2 x3 x4 x5 x6 x7 x8 x9 : Value) w, (part 3 #[x0, x1, x2, x3, x4, x5, x6, x7, x8, x9] 7).run Try.prog w = .ok x7 w := fun _ _ _ _ _ _ _ _ _ _ w => by kernel_rfl
  have q5 : ∀ (x0 x1 x2 x3 x4 x5 x6 x7 x8 x9 : Value) w, (part 3 #[x0, x1, x2, x3, x4, x5, x6, x7, x8, x9] 8).run Try.prog w = .ok x8 w := fun _ _ _ _ _ _ _ _ _ _ w => by kernel_rfl
  have q6 : ∀ (x0 x1 x2 x3 x4 x5 x6 x7 x8 x9 : Value) w, (part 4 #[x0, x1, x2, x3, x4, x5, x6, x7, x8, x9] 9).run Try.prog w = .ok x9 w := fun _ _ _ _ _ _ _ _ _ _ w => by kernel_rfl
  have q1 : ∀ (x0 x1 x2 x3 x4 x5 x6 x7 x8 x9 : Value) w, (part 40 #[x0, x1, x2, x3, x4, x5, x6, x7, x8, x9] 1).run Try.prog w = .ok (.agg #[x1, x2, x3, x4]) w := fun _ _ _ _ _ _ _ _ _ _ w => by kernel_rfl
  have e3 : ∀ (x y : Int) w, (Op.equalIn 9999 3 (.int .i64 x) (.int .i64 y)).run Try.prog w = .ok (x == y) w := fun x y w => by
    rw [run_equalIn_int w 9998 3 _ _ _ _ Try.underlying3]
  have e4 : ∀ (x y : Bool) w, (Op.equalIn 9999 4 (.bool x) (.bool y)).run Try.prog w = .ok (x == y) w := fun x y w => by
    rw [run_equalIn_bool' w 9998 4 _ _ Try.underlying4]
  have e27 := eql4i 9997 n.c0 n.c1 n.c2 n.c3 m.c0 m.c1 m.c2 m.c3
  unfold Nd.eq
  generalize (n.c0 == m.c0 && n.c1 == m.c1 && n.c2 == m.c2 && n.c3 == m.c3) = c at *
  cases h1 : (n.k == m.k)
  · simp [Op.eqFields, q0, q2, q3, q4, q5, q6, q1, e3, e4, e27, h1]
  cases c with
  | false => simp [Op.eqFields, q0, q2, q3, q4, q5, q6, q1, e3, e4, e27, h1]
  | true =>
  cases h3 : (n.a == m.a)
  · simp [Op.eqFields, q0, q2, q3, q4, q5, q6, q1, e3, e4, e27, h1, h3]
  cases h4 : (n.b == m.b)
  · simp [Op.eqFields, q0, q2, q3, q4, q5, q6, q1, e3, e4, e27, h1, h3, h4]
  cases h5 : (n.l == m.l)
  · simp [Op.eqFields, q0, q2, q3, q4, q5, q6, q1, e3, e4, e27, h1, h3, h4, h5]
  cases h6 : (n.m == m.m)
  · simp [Op.eqFields, q0, q2, q3, q4, q5, q6, q1, e3, e4, e27, h1, h3, h4, h5, h6]
  cases h7 : (n.z == m.z)
  · simp [Op.eqFields, q0, q2, q3, q4, q5, q6, q1, e3, e4, e27, h1, h3, h4, h5, h6, h7]
  simp [Op.eqFields, q0, q2, q3, q4, q5, q6, q1, e3, e4, e27, h1, h3, h4, h5, h6, h7]
theorem run_neq29 (n m : Nd) (w : World) : (Go.binOp BinOp.neq 44 (ndV n) (ndV m)).run Try.prog w = .ok (.bool (!n.eq m)) w := by
  have h := equal29 n m w
  unfold ndV at *
  simp only [binOp]
  simp [h]
/-- A block of cells that may be written. -/
def Cl (w : World) (b : Nat) (t : TypeId) (vs : List Value) : Prop := w.heap[b]? = some (.cells vs.toArray t (0, 0))
section
variable {w w' : World} {b : Nat} {t : TypeId} {vs : List Value}
theorem Cl.lt (h : Cl w b t vs) : b < w.heap.size := (Array.getElem?_eq_some_iff.1 h).1
theorem Cl.new (w : World) (t : TypeId) (vs : List Value) : Cl (w.alloc (.cells vs.toArray t)) w.heap.size t vs := heap_alloc_new w _
theorem Cl.below (h : Cl w b t vs) (hb : Below w.heap.size w w') : Cl w' b t vs := by unfold Cl; rw [hb.block b h.lt]; exact h
theorem Cl.alloc (h : Cl w b t vs) (o : Obj) : Cl (w.alloc o) b t vs := h.below ((Below.refl _ _).alloc (Nat.le_refl _) o)
theorem Cl.drew (h : Cl w b t vs) : Cl w.drew b t vs := h.below (Below.refl _ _).drew
theorem Cl.cell (h : Cl w b t vs) (i : Nat) {v : Value} (hi : vs[i]? = some v) : w.cell? ⟨b, i, none⟩ = some v := by
  rw [cell_of_row w b i _ t (0, 0) h]
  simpa using hi
theorem Cl.frozen (h : Cl w b t vs) (i : Nat) : w.frozen? ⟨b, i, none⟩ = false := frozen_of_row w b i _ t h
theorem Cl.set (h : Cl w b t vs) (i : Nat) (v : Value) : Cl (w.setCell ⟨b, i, none⟩ v) b t (vs.set i v) := by
  have := heap_setCell_same w b i vs.toArray t v h
  simpa [Cl] using this
theorem Cl.other (h : Cl w b t vs) {k : Nat} (hk : k ≠ b) (i : Nat) (v : Value) : Cl (w.setCell ⟨k, i, none⟩ v) b t vs := by
  unfold Cl at *
  rw [Below.heap_setCell _ _ _ _ (Ne.symm hk)]
  exact h
/-- The ten cells of a node. -/
theorem Cl.ten {x0 x1 x2 x3 x4 x5 x6 x7 x8 x9 : Value} (h : Cl w b t [x0, x1, x2, x3, x4, x5, x6, x7, x8, x9]) : (w.cell? ⟨b, 0, none⟩ = some x0 ∧ w.cell? ⟨b, 1, none⟩ = some x1 ∧ w.cell? ⟨b, 2, none⟩ = some x2 ∧ w.cell? ⟨b, 3, none⟩ = some x3 ∧ w.cell? ⟨b, 4, none⟩ = some x4 ∧ w.cell? ⟨b, 5, none⟩ = some x5 ∧ w.cell? ⟨b, 6, none⟩ = some x6 ∧ w.cell? ⟨b, 7, none⟩ = some x7 ∧ w.cell? ⟨b, 8, none⟩ = some x8 ∧ w.cell? ⟨b, 9, none⟩ = some x9) ∧ (w.frozen? ⟨b, 0, none⟩ = false ∧ w.frozen? ⟨b, 1, none⟩ = false ∧ w.frozen? ⟨b, 2, none⟩ = false ∧ w.frozen? ⟨b, 3, none⟩ = false ∧ w.frozen? ⟨b, 4, none⟩ = false ∧ w.frozen? ⟨b, 5, none⟩ = false ∧ w.frozen? ⟨b, 6, none⟩ = false ∧ w.frozen? ⟨b, 7, none⟩ = false ∧ w.frozen? ⟨b, 8, none⟩ = false ∧ w.frozen? ⟨b, 9, none⟩ = false) :=
  ⟨⟨h.cell 0 rfl, h.cell 1 rfl, h.cell 2 rfl, h.cell 3 rfl, h.cell 4 rfl, h.cell 5 rfl, h.cell 6 rfl, h.cell 7 rfl, h.cell 8 rfl, h.cell 9 rfl⟩, h.frozen 0, h.frozen 1, h.frozen 2, h.frozen 3, h.frozen 4, h.frozen 5, h.frozen 6, h.frozen 7, h.frozen 8, h.frozen 9⟩
theorem Cl.one {x0 : Value} (h : Cl w b t [x0]) : w.cell? ⟨b, 0, none⟩ = some x0 ∧ w.frozen? ⟨b, 0, none⟩ = false := ⟨h.cell 0 rfl, h.frozen 0⟩
theorem Cl.two {x0 x1 : Value} (h : Cl w b t [x0, x1]) : (w.cell? ⟨b, 0, none⟩ = some x0 ∧ w.cell? ⟨b, 1, none⟩ = some x1) ∧ w.frozen? ⟨b, 0, none⟩ = false ∧ w.frozen? ⟨b, 1, none⟩ = false := ⟨⟨h.cell 0 rfl, h.cell 1 rfl⟩, h.frozen 0, h.frozen 1⟩
end
/-- The cells of a slice of nodes can be read. -/
def RdN (w : World) (ao : Option Addr) (n : Nat) (F : Nat → Nd) : Prop := 0 < n → ∃ bb off, ao = some ⟨bb, off, none⟩ ∧ bb < w.heap.size ∧ ∀ i, i < n → w.cell? ⟨bb, off + i * 10, none⟩ = some (.int .i64 (F i).k) ∧ w.cell? ⟨bb, off + i * 10 + 1, none⟩ = some (.int .u64 (F i).c0) ∧ w.cell? ⟨bb, off + i * 10 + 2, none⟩ = some (.int .u64 (F i).c1) ∧ w.cell? ⟨bb, off + i * 10 + 3, none⟩ = some (.int .u64 (F i).c2) ∧ w.cell? ⟨bb, off + i * 10 + 4, none⟩ = some (.int .u64 (F i).c3) ∧ w.cell? ⟨bb, off + i * 10 + 5, none⟩ = some (.int .i64 (F i).a) ∧ w.cell? ⟨bb, off + i * 10 + 6, none⟩ = some (.int .i64 (F i).b) ∧ w.cell? ⟨bb, off + i * 10 + 7, none⟩ = some (.int .i64 (F i).l) ∧ w.cell? ⟨bb, off + i * 10 + 8, none⟩ = some (.int .i64 (F i).m) ∧ w.cell? ⟨bb, off + i * 10 + 9, none⟩ = some (.bool (F i).z)
theorem RdN.below {w w' : World} {ao : Option Addr} {n : Nat} {F : Nat → Nd} (h : RdN w ao n F) (hb : Below w.heap.size w w') : RdN w' ao n F := by
  intro hn
  obtain ⟨bb, off, e, hlt, hc⟩ := h hn
  refine ⟨bb, off, e, Nat.lt_of_lt_of_le hlt hb.size, fun i hi => ?_⟩
  have := hc i hi
  simpa only [hb.cell (p := ⟨bb, _, none⟩) hlt] using this
theorem RdN.congr {w : World} {ao : Option Addr} {n : Nat} {F G : Nat → Nd} (h : RdN w ao n F) (e : ∀ i, i < n → F i = G i) : RdN w ao n G := by
  intro hn
  obtain ⟨bb, off, ea, hlt, hc⟩ := h hn
  exact ⟨bb, off, ea, hlt, fun i hi => by rw [← e i hi]; exact hc i hi⟩

/-- The cells of a slice of numbers can be read. -/
def RdI (w : World) (ao : Option Addr) (n : Nat) (f : Nat → Int) : Prop := 0 < n → ∃ bb off, ao = some ⟨bb, off, none⟩ ∧ bb < w.heap.size ∧ ∀ i, i < n → w.cell? ⟨bb, off + i, none⟩ = some (.int .i64 (f i))
theorem RdI.below {w w' : World} {ao : Option Addr} {n : Nat} {f : Nat → Int} (h : RdI w ao n f) (hb : Below w.heap.size w w') : RdI w' ao n f := by
  intro hn
  obtain ⟨bb, off, e, hlt, hc⟩ := h hn
  refine ⟨bb, off, e, Nat.lt_of_lt_of_le hlt hb.size, fun i hi => ?_⟩
  rw [hb.cell (p := ⟨bb, _, none⟩) hlt]
  exact hc i hi
theorem ofF_top (y : Tre) (r : List Tre) : (ofF (y :: r))[sizeF r + y.size - 1]? = some y := by
  have := y.size_pos
  unfold ofF
  rw [List.getElem?_append_right (by unfold sizeF; omega)]
  have e : sizeF r + y.size - 1 - (ofF r).length = y.size - 1 := by unfold sizeF; omega
  rw [e, Tre.subs_last]
theorem stepT_lf (ts : List Tre) (p : Nat) (n : Nd) (h : n.k ≠ 3 ∧ n.k ≠ 4 ∧ n.k ≠ 5) : stepT ts p n = if Tre.lf n = true then some (.leaf n :: ts) else none := by
  unfold stepT
  rw [if_neg (by omega), if_neg (by omega)]
theorem lf_1 {n : Nd} (h : n.k = 1 ∨ n.k = 6 ∨ n.k = 7) : Tre.lf n = n.eq ⟨n.k, 0, 0, 0, 0, 0, 0, 0, 0, false⟩ := by
  have h2 : (n.k == 2) = false := by simp; omega
  have h1 : (n.k == 1 || n.k == 6 || n.k == 7) = true := by simp; omega
  unfold Tre.lf
  rw [h1, h2]
  simp
theorem lf_2 {n : Nd} (h : n.k = 2) : Tre.lf n = n.eq ⟨2, n.c0, n.c1, n.c2, n.c3, 0, 0, 0, 0, false⟩ := by
  have h2 : (n.k == 2) = true := by simp [h]
  have h1 : (n.k == 1 || n.k == 6 || n.k == 7) = false := by simp [h]
  unfold Tre.lf
  rw [h1, h2]
  simp
def bareN (n : Nd) : Nd := if n.k = 2 then ⟨2, n.c0, n.c1, n.c2, n.c3, 0, 0, 0, 0, false⟩ else if n.k = 3 ∨ n.k = 4 then ⟨n.k, 0, 0, 0, 0, n.a, n.b, 0, 0, false⟩ else if n.k = 5 then ⟨5, 0, 0, 0, 0, n.a, 0, n.l, n.m, n.z⟩ else ⟨n.k, 0, 0, 0, 0, 0, 0, 0, 0, false⟩
theorem below3 (w : World) (o o' o'' : Obj) : Below w.heap.size w (((w.alloc o).alloc o').alloc o'') := (below2 w o o').alloc (by simp; omega) _
set_option maxRecDepth 10000 in
set_option maxHeartbeats 1000000 in
theorem bare_any (n : Nd) (w : World) : Calls Try.prog 78 #[ndV n] w fun e w' => e = .returned (ndV (bareN n)) ∧ Below w.heap.size w w' := by
  obtain ⟨k, c0, c1, c2, c3, a, b, l, m, z⟩ := n
  by_cases h2 : k = 2
  · subst h2
    have e : bareN ⟨2, c0, c1, c2, c3, a, b, l, m, z⟩ = ⟨2, c0, c1, c2, c3, 0, 0, 0, 0, false⟩ := by simp [bareN]
    rw [e]
    unfold ndV
    dsimp only
    go_enter Try.func78, Try.ntmps78
    go_wp2
    exact bodyPost_ret (by simp [results, Try.results78, go_sem]) rfl ⟨rfl, below3 _ _ _ _⟩
  by_cases h3 : k = 3
  · subst h3
    have e : bareN ⟨3, c0, c1, c2, c3, a, b, l, m, z⟩ = ⟨3, 0, 0, 0, 0, a, b, 0, 0, false⟩ := by simp [bareN]
    rw [e]
    unfold ndV
    dsimp only
    go_enter Try.func78, Try.ntmps78
    go_wp2
    exact bodyPost_ret (by simp [results, Try.results78, go_sem]) rfl ⟨rfl, below3 _ _ _ _⟩
  by_cases h4 : k = 4
  · subst h4
    have e : bareN ⟨4, c0, c1, c2, c3, a, b, l, m, z⟩ = ⟨4, 0, 0, 0, 0, a, b, 0, 0, false⟩ := by simp [bareN]
    rw [e]
    unfold ndV
    dsimp only
    go_enter Try.func78, Try.ntmps78
    go_wp2
    exact bodyPost_ret (by simp [results, Try.results78, go_sem]) rfl ⟨rfl, below3 _ _ _ _⟩
  by_cases h5 : k = 5
  · subst h5
    have e : bareN ⟨5, c0, c1, c2, c3, a, b, l, m, z⟩ = ⟨5, 0, 0, 0, 0, a, 0, l, m, z⟩ := by simp [bareN]
    rw [e]
    unfold ndV
    dsimp only
    go_enter Try.func78, Try.ntmps78
    go_wp2
    exact bodyPost_ret (by simp [results, Try.results78, go_sem]) rfl ⟨rfl, below3 _ _ _ _⟩
  have e : bareN ⟨k, c0, c1, c2, c3, a, b, l, m, z⟩ = ⟨k, 0, 0, 0, 0, 0, 0, 0, 0, false⟩ := by simp [bareN, h2, h3, h4, h5]
  rw [e]
  unfold ndV
  dsimp only
  have e2 : (k == 2) = false := by simpa using h2
  have e3 : (k == 3) = false := by simpa using h3
  have e4 : (k == 4) = false := by simpa using h4
  have e5 : (k == 5) = false := by simpa using h5
  clear h2 h3 h4 h5
  go_enter Try.func78, Try.ntmps78
  go_wp2
  exact bodyPost_ret (by simp [results, Try.results78, go_sem]) rfl ⟨rfl, below3 _ _ _ _⟩
/-- A node is its kind's own, by the reference's test, just as the scan has it. -/
theorem bare_lf {n : Nd} (h : 1 ≤ n.k ∧ n.k ≤ 7) (h3 : n.k ≠ 3 ∧ n.k ≠ 4 ∧ n.k ≠ 5) : n.eq (bareN n) = Tre.lf n := by
  unfold bareN
  by_cases h2 : n.k = 2
  · rw [if_pos h2, lf_2 h2]
  · rw [if_neg h2, if_neg (by omega), if_neg h3.2.2, lf_1 (by omega)]

/-- Numbers as cells. -/
def ints (f : Nat → Int) (n : Nat) : List Value := (List.range n).map fun i => Value.int .i64 (f i)
def updI (f : Nat → Int) (i : Nat) (v : Int) : Nat → Int := fun j => if j = i then v else f j
theorem ints_length (f : Nat → Int) (n : Nat) : (ints f n).length = n := by simp [ints]
theorem ints_get (f : Nat → Int) {n i : Nat} (h : i < n) : (ints f n)[i]? = some (.int .i64 (f i)) := by simp [ints, h]
theorem ints_congr {f g : Nat → Int} {n : Nat} (h : ∀ i, i < n → f i = g i) : ints f n = ints g n := by
  apply List.ext_getElem?
  intro j
  by_cases hj : j < n
  · rw [ints_get _ hj, ints_get _ hj, h j hj]
  · rw [List.getElem?_eq_none (by simp [ints_length]; omega), List.getElem?_eq_none (by simp [ints_length]; omega)]
theorem scan_none {F : Nat → Nd} {k : Nat} (h : scanT F k = none) : ∀ j, k ≤ j → scanT F j = none := by
  intro j hj
  induction j with
  | zero => have : k = 0 := by omega
            subst this; exact h
  | succ j ih =>
    by_cases e : k = j + 1
    · subst e; exact h
    · simp [scanT, ih (by omega)]
theorem b_int : (Try.prog.info? 3).map (fun i => (i.zero, i.size, i.bytes)) = some (some (.int .i64 0), 1, 8) := by kernel_rfl
theorem info_parts {P : Program} {t : TypeId} {z : Value} {s b : Nat} (h : (P.info? t).map (fun i => (i.zero, i.size, i.bytes)) = some (some z, s, b)) : ∃ i, P.info? t = some i ∧ i.zero = some z ∧ i.size = s ∧ i.bytes = b := by
  obtain ⟨i, hi, h⟩ := Option.map_eq_some_iff.1 h
  simp at h
  exact ⟨i, hi, h.1, h.2.1, h.2.2⟩
/-- The cells of n nodes. -/
def ndsL (F : Nat → Nd) : Nat → List Value
  | 0 => []
  | n + 1 => ndsL F n ++ ndL (F n)
theorem ndL_len (x : Nd) : (ndL x).length = 10 := rfl
theorem ndsL_len (F : Nat → Nd) : ∀ n, (ndsL F n).length = n * 10
  | 0 => by simp [ndsL]
  | n + 1 => by rw [ndsL, List.length_append, ndsL_len F n, ndL_len]; omega
theorem ndsL_get (F : Nat → Nd) : ∀ (n i j : Nat), i < n → j < 10 → (ndsL F n)[i * 10 + j]? = (ndL (F i))[j]?
  | 0, i, j, h, _ => by omega
  | n + 1, i, j, h, hj => by
    have hl := ndsL_len F n
    rw [ndsL]
    by_cases hi : i < n
    · rw [List.getElem?_append_left (by omega)]; exact ndsL_get F n i j hi hj
    · have : i = n := by omega
      subst this
      rw [List.getElem?_append_right (by omega), hl]
      congr 1; omega
theorem ndsL_congr {F G : Nat → Nd} : ∀ {n : Nat}, (∀ i, i < n → F i = G i) → ndsL F n = ndsL G n
  | 0, _ => rfl
  | n + 1, h => by rw [ndsL, ndsL, ndsL_congr (fun i hi => h i (by omega)), h n (by omega)]
theorem ten {j : Nat} (h : j < 10) : j = 0 ∨ j = 1 ∨ j = 2 ∨ j = 3 ∨ j = 4 ∨ j = 5 ∨ j = 6 ∨ j = 7 ∨ j = 8 ∨ j = 9 := by omega
/-- All cells of nodes that can be read, by one number. -/
theorem RdN.cells {w : World} {ao : Option Addr} {n : Nat} {F : Nat → Nd} (h : RdN w ao n F) (hn : 0 < n) : ∃ bb off, ao = some ⟨bb, off, none⟩ ∧ bb < w.heap.size ∧ ∀ j u, (ndsL F n)[j]? = some u → w.cell? ⟨bb, off + j, none⟩ = some u := by
  obtain ⟨bb, off, e, hlt, hc⟩ := h hn
  refine ⟨bb, off, e, hlt, fun j u hu => ?_⟩
  have hj := (List.getElem?_eq_some_iff.1 hu).1
  rw [ndsL_len] at hj
  have hd : j = j / 10 * 10 + j % 10 := by omega
  obtain ⟨c0, c1, c2, c3, c4, c5, c6, c7, c8, c9⟩ := hc (j / 10) (by omega)
  rw [hd, ndsL_get F n _ _ (by omega) (by omega)] at hu
  rw [hd, ← Nat.add_assoc]
  rcases ten (show j % 10 < 10 by omega) with e | e | e | e | e | e | e | e | e | e <;> rw [e] at hu ⊢ <;> simp [ndL] at hu <;> subst hu <;> simpa using by assumption
theorem ownsRow_at {W W' : World} {base e size k : Nat} {v : Value} {xs : List Value} (h : W.ownsRow base e size v k xs) (hs : ∀ g, base ≤ g → g < W.heap.size → W'.heap[g]? = W.heap[g]?) : W'.ownsRow base e size v k xs :=
  ⟨h.1, h.2.imp id fun ⟨g, cap, cur, hv, hg, hc, r⟩ => ⟨g, cap, cur, hv, hg, (hs g hg (Array.getElem?_eq_some_iff.1 hc).1).trans hc, r⟩⟩
theorem ownsRow_below {W W' : World} {base e size k : Nat} {v : Value} {xs : List Value} (h : W.ownsRow base e size v k xs) (hb : Below W.heap.size W W') : W'.ownsRow base e size v k xs := ownsRow_at h fun g _ hg => hb.block g hg
theorem ownsRow_own {W : World} {base e size k : Nat} {v : Value} {xs : List Value} (h : W.ownsRow base e size v k xs) : ∀ g, v.ownBlock = some g → base ≤ g := by
  intro g hg
  rcases h.2 with ⟨rfl, _⟩ | ⟨g', cap, cur, rfl, hb, _⟩
  · cases hg
  · simp [Value.ownBlock] at hg; omega
theorem ownsRow_slice {W : World} {base e size k : Nat} {v : Value} {xs : List Value} (h : W.ownsRow base e size v k xs) : ∃ ao cap, v = .slice ao k cap := by
  rcases h.2 with ⟨h, h0⟩ | ⟨g, cap, cur, h, _⟩
  · exact ⟨none, 0, by rw [h, h0]⟩
  · exact ⟨_, cap, h⟩
theorem row_cell {W : World} {base e size n cap : Nat} {ao : Option Addr} {xs : List Value} (h : W.ownsRow base e size (.slice ao n cap) n xs) (hn : 0 < n) :
    ∃ g, ao = some ⟨g, 0, none⟩ ∧ g < W.heap.size ∧ base ≤ g ∧ (∀ j u, xs[j]? = some u → W.cell? ⟨g, j, none⟩ = some u) ∧ ∀ j, W.frozen? ⟨g, j, none⟩ = false := by
  rcases h.2 with ⟨_, h0⟩ | ⟨g, cap', cur, hv, hg, hc, _, _, _, hx⟩
  · omega
  · cases hv
    refine ⟨g, rfl, (Array.getElem?_eq_some_iff.1 hc).1, hg, fun j u hj => ?_, fun j => frozen_of_row W g j cur e hc⟩
    rw [← hx, List.getElem?_take] at hj
    split at hj
    · rw [cell_of_row W g j _ e (0, 0) hc]
      simpa using hj
    · cases hj
/-- Nodes in a block of the call's own. -/
abbrev OwN (w : World) (B : Nat) (ao : Option Addr) (n cap : Nat) (F : Nat → Nd) : Prop := w.ownsRow B 44 10 (.slice ao n cap) n (ndsL F n)
theorem OwN.cells {w : World} {B : Nat} {ao : Option Addr} {n cap : Nat} {F : Nat → Nd} (h : OwN w B ao n cap F) (hn : 0 < n) : ∃ g, ao = some ⟨g, 0, none⟩ ∧ g < w.heap.size ∧ B ≤ g ∧ (∀ i j u, i < n → j < 10 → (ndL (F i))[j]? = some u → w.cell? ⟨g, i * 10 + j, none⟩ = some u) ∧ ∀ j, w.frozen? ⟨g, j, none⟩ = false := by
  obtain ⟨g, e, hl, hB, hc, hf⟩ := row_cell h hn
  exact ⟨g, e, hl, hB, fun i j u hi hj hu => hc _ _ (by rw [ndsL_get F n i j hi hj]; exact hu), hf⟩
/-- What a call answers that makes a tree. -/
def RetT (w : World) (n : Nat) (F : Nat → Nd) (e : Ending) (w' : World) : Prop := ∃ ao cap, e = .returned (.agg #[.slice ao n cap]) ∧ OwN w' w.heap.size ao n cap F ∧ Below w.heap.size w w'
theorem RetT.congr {w : World} {n : Nat} {F G : Nat → Nd} {e : Ending} {w' : World} (h : RetT w n F e w') (hg : ∀ i, i < n → F i = G i) : RetT w n G e w' := by
  obtain ⟨ao, cap, he, ho, hb⟩ := h
  exact ⟨ao, cap, he, by unfold OwN; rw [← ndsL_congr hg]; exact ho, hb⟩
theorem ints_snoc (f : Nat → Int) (n : Nat) : ints f (n + 1) = ints f n ++ [.int .i64 (f n)] := by simp [ints, List.range_succ]
theorem Cl.belowB {w w' : World} {b B : Nat} {t : TypeId} {vs : List Value} (h : Cl w b t vs) (hb : Below B w w') (hlt : b < B) : Cl w' b t vs := by unfold Cl; rw [hb.block b hlt]; exact h
/-- How great a subtree is. -/
def szF (t : Tre) (p : Nat) : Int := ((t.subs[p]?).getD t).size
/-- What Sizes answers. -/
def RetSz (w : World) (F : Nat → Nd) (n : Nat) (e : Ending) (w' : World) : Prop :=
  (∃ v, e = .returned (.tuple #[v, .bool (treeOf F n).isSome]) ∧ ∀ t, treeOf F n = some t → ∃ ao cap, v = .slice ao n cap ∧ w'.ownsRow w.heap.size 3 1 (.slice ao n cap) n (ints (szF t) n)) ∧ Below w.heap.size w w'
theorem step_bare {ts ts' : List Tre} {p : Nat} {n : Nd} (h : stepT ts p n = some ts') (hp : sizeF ts = p) (ho : ∀ t ∈ ts, t.ok = true) : n.eq (bareN n) = true := by
  obtain ⟨_, ho', u, r, rfl, _, hnd⟩ := stepT_inv h hp ho
  have hok := ho' u (by simp)
  rw [Nd.eq_iff]
  cases u with
  | leaf m =>
    simp only [Tre.nd] at hnd
    subst hnd
    have hk := lf_kind hok
    have := bare_lf (n := n) (by omega) (by omega)
    rw [← Nd.eq_iff, this]
    exact hok
  | two k x y =>
    simp [Tre.ok] at hok
    rw [hnd]
    rcases hok.1.1 with rfl | rfl <;> simp [Tre.nd, bareN]
  | rep x l m z =>
    rw [hnd]
    simp [Tre.nd, bareN]
theorem step_leaf' {ts : List Tre} {p : Nat} {n : Nd} (hk : 1 ≤ n.k ∧ n.k ≤ 7) (h3 : n.k ≠ 3 ∧ n.k ≠ 4 ∧ n.k ≠ 5) (hb : n.eq (bareN n) = true) : stepT ts p n = some (.leaf n :: ts) := by
  rw [stepT_lf ts p n h3, if_pos]
  rw [← bare_lf hk h3]; exact hb
theorem step_rep' {ts : List Tre} {p : Nat} {n : Nd} (hk : n.k = 5) (hb : n.eq (bareN n) = true) : stepT ts p n = match ts with
    | x :: r => if Tre.mayR n.l n.m = true ∧ n.a = (p : Int) - 1 then some (.rep x n.l n.m n.z :: r) else none
    | [] => none := by
  have e : n = ⟨5, 0, 0, 0, 0, n.a, 0, n.l, n.m, n.z⟩ := by
    have := Nd.eq_iff.1 hb
    unfold bareN at this
    rw [if_neg (by omega), if_neg (by omega), if_pos hk] at this
    exact this
  unfold stepT
  rw [if_neg (by omega), if_pos hk]
  cases ts with
  | nil => rfl
  | cons x r =>
    have q : n.eq ((Tre.rep x n.l n.m n.z).nd p) = decide (n.a = (p : Int) - 1) := by
      rw [Bool.eq_iff_iff, Nd.eq_iff]
      simp only [Tre.nd, decide_eq_true_eq]
      constructor
      · intro h; rw [h]
      · intro h; rw [← h]; exact e
    simp only [q, Bool.and_eq_true, decide_eq_true_eq]
theorem step_two' {ts : List Tre} {p : Nat} {n : Nd} (hk : n.k = 3 ∨ n.k = 4) (hb : n.eq (bareN n) = true) : stepT ts p n = match ts with
    | y :: x :: r => if n.a = (p : Int) - 1 - y.size ∧ n.b = (p : Int) - 1 then some (.two n.k x y :: r) else none
    | _ => none := by
  have e : n = ⟨n.k, 0, 0, 0, 0, n.a, n.b, 0, 0, false⟩ := by
    have := Nd.eq_iff.1 hb
    unfold bareN at this
    rw [if_neg (by omega), if_pos hk] at this
    exact this
  unfold stepT
  rw [if_pos hk]
  match ts with
  | [] => rfl
  | [_] => rfl
  | y :: x :: r =>
    have q : n.eq ((Tre.two n.k x y).nd p) = decide (n.a = (p : Int) - 1 - y.size ∧ n.b = (p : Int) - 1) := by
      rw [Bool.eq_iff_iff, Nd.eq_iff]
      simp only [Tre.nd, decide_eq_true_eq]
      constructor
      · intro h; rw [h]; exact ⟨rfl, rfl⟩
      · rintro ⟨h1, h2⟩; rw [← h1, ← h2]; exact e
    simp only [q, decide_eq_true_eq]

theorem ofF_top' (x : Tre) (r : List Tre) {k : Nat} (h : sizeF (x :: r) = k) : (ofF (x :: r))[k - 1]? = some x := by
  have := ofF_top x r
  rw [sizeF_cons] at h
  rw [← h]; exact this
theorem two_short {ts : List Tre} {k : Nat} {q : Nd} (hk : q.k = 3 ∨ q.k = 4) (hb : q.eq (bareN q) = true) (hs : sizeF ts = k) (h2 : k < 2) : stepT ts k q = none := by
  rw [step_two' hk hb]
  match ts, hs with
  | [], _ => rfl
  | [_], _ => rfl
  | y :: x :: r, hs =>
    rw [sizeF_cons, sizeF_cons] at hs
    have := y.size_pos
    have := x.size_pos
    omega
theorem two_no {y : Tre} {r : List Tre} {k : Nat} {q : Nd} (hk : q.k = 3 ∨ q.k = 4) (hb : q.eq (bareN q) = true) (hs : sizeF (y :: r) = k) (h : (y.size : Int) ≥ k ∨ q.b ≠ (k : Int) - 1 ∨ q.a ≠ (k : Int) - 1 - y.size) : stepT (y :: r) k q = none := by
  rw [step_two' hk hb]
  cases r with
  | nil => rfl
  | cons x r =>
    rw [sizeF_cons, sizeF_cons] at hs
    have := x.size_pos
    dsimp only
    rw [if_neg]
    omega
theorem two_yes {y : Tre} {r : List Tre} {k : Nat} {q : Nd} (hk : q.k = 3 ∨ q.k = 4) (hb : q.eq (bareN q) = true) (hs : sizeF (y :: r) = k) (h1 : ¬ (y.size : Int) ≥ k) (h2 : q.b = (k : Int) - 1) (h3 : q.a = (k : Int) - 1 - y.size) : ∃ x r', r = x :: r' ∧ stepT (y :: r) k q = some (.two q.k x y :: r') ∧ (ofF (y :: r))[k - 1 - y.size]? = some x := by
  cases r with
  | nil =>
    rw [sizeF_cons] at hs
    simp [sizeF, ofF] at hs
    omega
  | cons x r =>
    refine ⟨x, r, rfl, ?_, ?_⟩
    · rw [step_two' hk hb]
      dsimp only
      rw [if_pos ⟨h3, h2⟩]
    · rw [sizeF_cons] at hs
      have := ofF_top' x r (k := sizeF (x :: r)) rfl
      have hx : 0 < sizeF (x :: r) := by rw [sizeF_cons]; have := x.size_pos; omega
      simp only [ofF] at this ⊢
      rw [List.getElem?_append_left (by simp only [sizeF, ofF] at hs hx; omega)]
      rw [show k - 1 - y.size = sizeF (x :: r) - 1 by omega]
      exact this
theorem row_mono {W : World} {b b' e s n : Nat} {v : Value} {xs : List Value} (h : W.ownsRow b e s v n xs) (hb : b' ≤ b) : W.ownsRow b' e s v n xs := by
  obtain ⟨h1, h2⟩ := h
  refine ⟨h1, ?_⟩
  rcases h2 with h2 | ⟨g, cap, cur, e, hg, r⟩
  · exact .inl h2
  · exact .inr ⟨g, cap, cur, e, by omega, r⟩
/-- What the round's first test comes to. -/
def C8 (wr : World) (ts : List Tre) (k : Nat) (q : Nd) (c : Value) (wx : World) : Prop := ∃ b, c = .bool b ∧ (b = true → stepT ts k q = none) ∧ (b = false → 1 ≤ q.k ∧ q.k ≤ 7 ∧ q.eq (bareN q) = true) ∧ Cl wx wr.heap.size 44 (ndL q) ∧ Below wr.heap.size wr wx
/-- What a repeat's test comes to. -/
def C12 (W : World) (ts : List Tre) (k : Nat) (q : Nd) (c : Value) (wx : World) : Prop := ∃ b, c = .bool b ∧ (b = true → stepT ts k q = none) ∧ (b = false → ∃ x r, ts = x :: r ∧ stepT ts k q = some (.rep x q.l q.m q.z :: r)) ∧ wx = W
/-- What the test of two comes to. -/
def C16 (W : World) (ts : List Tre) (k : Nat) (q : Nd) (c : Value) (wx : World) : Prop := ∃ b, c = .bool b ∧ (b = true → stepT ts k q = none) ∧ (b = false → ∃ y r, ts = y :: r ∧ (y.size : Int) < k ∧ q.b = (k : Int) - 1 ∧ q.a = (k : Int) - 1 - y.size) ∧ Below W.heap.size W wx
end Go.Proofs.Ytlmmiicibjfcdaa.T
