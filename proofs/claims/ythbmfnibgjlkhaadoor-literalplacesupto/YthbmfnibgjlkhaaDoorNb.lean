/- Nodes as values, held against each other; blocks of cells; slices of nodes that can be read. -/
import Derived.WalkKit
import Derived.WalkSpells
import Derived.WalkLawsBesides
import Derived.ChangeKeysEq
import Derived.Laws.StructEq
import Derived.Deep.QuietTactic
import Derived.BigQuiet
import Derived.Deep.RegionWith
import Derived.Test.YthbmfnibgjlkhaaDoorChecked
import Derived.Test.YthbmfnibgjlkhaaDoorTm
namespace Go.Proofs.YthbmfnibgjlkhaaDoor
open Go.RowKit
theorem below2 (w : World) (o o' : Obj) : Below w.heap.size w ((w.alloc o).alloc o') := ((Below.refl _ _).alloc (Nat.le_refl _) _).alloc (by simp) _
theorem below1 (w : World) (o : Obj) : Below w.heap.size w (w.alloc o) := (Below.refl _ _).alloc (Nat.le_refl _) _
/-- A node as a value. -/
def ndV (n : Nd) : Value := .agg #[.int .i64 n.k, .int .u64 n.c0, .int .u64 n.c1, .int .u64 n.c2, .int .u64 n.c3, .int .i64 n.a, .int .i64 n.b, .int .i64 n.l, .int .i64 n.m, .bool n.z]
def ndL (n : Nd) : List Value := [.int .i64 n.k, .int .u64 n.c0, .int .u64 n.c1, .int .u64 n.c2, .int .u64 n.c3, .int .i64 n.a, .int .i64 n.b, .int .i64 n.l, .int .i64 n.m, .bool n.z]
theorem part0 (x y z t : Value) (w : World) : (part 22 #[x, y, z, t] (0 * Tryd.prog.cellsOf 22)).run Tryd.prog w = .ok x w := by kernel_rfl
theorem part1 (x y z t : Value) (w : World) : (part 22 #[x, y, z, t] (1 * Tryd.prog.cellsOf 22)).run Tryd.prog w = .ok y w := by kernel_rfl
theorem part2 (x y z t : Value) (w : World) : (part 22 #[x, y, z, t] (2 * Tryd.prog.cellsOf 22)).run Tryd.prog w = .ok z w := by kernel_rfl
theorem part3 (x y z t : Value) (w : World) : (part 22 #[x, y, z, t] (3 * Tryd.prog.cellsOf 22)).run Tryd.prog w = .ok t w := by kernel_rfl
theorem eq25 (m : Nat) (x y : Int) (w : World) : (Op.equalIn (m + 1) 22 (.int .u64 x) (.int .u64 y)).run Tryd.prog w = .ok (x == y) w := by
  simp [Op.equalIn, run_underlying Tryd.underlying22]
theorem eql4i (n : Nat) (a b c d a' b' c' d' : Int) (w : World) : (Op.equalIn (n + 1 + 1) 24 (.agg #[.int .u64 a, .int .u64 b, .int .u64 c, .int .u64 d]) (.agg #[.int .u64 a', .int .u64 b', .int .u64 c', .int .u64 d'])).run Tryd.prog w = .ok (a == a' && b == b' && c == c' && d == d') w := by
  obtain ⟨j, hj, _⟩ := Option.map_eq_some_iff.1 (show (Tryd.prog.info? 22).map (·.size) = some 1 by kernel_rfl)
  rw [run_equalIn_array w (n + 1) _ _ Tryd.underlying24 hj, show List.range 4 = [0, 1, 2, 3] from rfl]
  simp only [Op.eqItems, Sem.run_bind, part0, Result.andThen_ok, eq25 n]
  cases a == a'
  · simp only [Bool.not_false, if_true, Sem.run_pure, Bool.false_and]
  simp only [Bool.not_true, Bool.false_eq_true, if_false, Sem.run_bind, part1, Result.andThen_ok, eq25 n, Bool.true_and]
  cases b == b'
  · simp only [Bool.not_false, if_true, Sem.run_pure, Bool.false_and]
  simp only [Bool.not_true, Bool.false_eq_true, if_false, Sem.run_bind, part2, Result.andThen_ok, eq25 n, Bool.true_and]
  cases c == c'
  · simp only [Bool.not_false, if_true, Sem.run_pure, Bool.false_and]
  simp only [Bool.not_true, Bool.false_eq_true, if_false, Sem.run_bind, part3, Result.andThen_ok, eq25 n, Bool.true_and]
  cases d == d'
  · simp only [Bool.not_false, if_true, Sem.run_pure]
  simp only [Bool.not_true, Bool.false_eq_true, if_false, Sem.run_pure]
theorem f29 : Tryd.prog.fieldsOf 82 = #[{ name := "Kind", type := 3, offset := 0, embedded := false, tag := "", pkgPath := "", byteOffset := 0 }, { name := "Class", type := 24, offset := 1, embedded := false, tag := "", pkgPath := "", byteOffset := 8 }, { name := "A", type := 3, offset := 5, embedded := false, tag := "", pkgPath := "", byteOffset := 40 }, { name := "B", type := 3, offset := 6, embedded := false, tag := "", pkgPath := "", byteOffset := 48 }, { name := "Least", type := 3, offset := 7, embedded := false, tag := "", pkgPath := "", byteOffset := 56 }, { name := "Most", type := 3, offset := 8, embedded := false, tag := "", pkgPath := "", byteOffset := 64 }, { name := "Lazy", type := 4, offset := 9, embedded := false, tag := "", pkgPath := "", byteOffset := 72 }] := by kernel_rfl
theorem equal29 (n m : Nd) (w : World) : (Op.equal 82 (ndV n) (ndV m)).run Tryd.prog w = .ok (n.eq m) w := by
  unfold ndV Op.equal Op.maxDepth
  rw [run_equalIn_struct w 9999 82 _ _ (by kernel_rfl) (by kernel_rfl), f29]
  have q0 : ∀ (x0 x1 x2 x3 x4 x5 x6 x7 x8 x9 : Value) w, (part 3 #[x0, x1, x2, x3, x4, x5, x6, x7, x8, x9] 0).run Tryd.prog w = .ok x0 w := fun _ _ _ _ _ _ _ _ _ _ w => by kernel_rfl
  have q2 : ∀ (x0 x1 x2 x3 x4 x5 x6 x7 x8 x9 : Value) w, (part 3 #[x0, x1, x2, x3, x4, x5, x6, x7, x8, x9] 5).run Tryd.prog w = .ok x5 w := fun _ _ _ _ _ _ _ _ _ _ w => by kernel_rfl
  have q3 : ∀ (x0 x1 x2 x3 x4 x5 x6 x7 x8 x9 : Value) w, (part 3 #[x0, x1, x2, x3, x4, x5, x6, x7, x8, x9] 6).run Tryd.prog w = .ok x6 w := fun _ _ _ _ _ _ _ _ _ _ w => by kernel_rfl
  have q4 : ∀ (x0 x1 x2 x3 x4 x5 x6 x7 x8 x9 : Value) w, (part 3 #[x0, x1, x2, x3, x4, x5, x6, x7, x8, x9] 7).run Tryd.prog w = .ok x7 w := fun _ _ _ _ _ _ _ _ _ _ w => by kernel_rfl
  have q5 : ∀ (x0 x1 x2 x3 x4 x5 x6 x7 x8 x9 : Value) w, (part 3 #[x0, x1, x2, x3, x4, x5, x6, x7, x8, x9] 8).run Tryd.prog w = .ok x8 w := fun _ _ _ _ _ _ _ _ _ _ w => by kernel_rfl
  have q6 : ∀ (x0 x1 x2 x3 x4 x5 x6 x7 x8 x9 : Value) w, (part 4 #[x0, x1, x2, x3, x4, x5, x6, x7, x8, x9] 9).run Tryd.prog w = .ok x9 w := fun _ _ _ _ _ _ _ _ _ _ w => by kernel_rfl
  have q1 : ∀ (x0 x1 x2 x3 x4 x5 x6 x7 x8 x9 : Value) w, (part 24 #[x0, x1, x2, x3, x4, x5, x6, x7, x8, x9] 1).run Tryd.prog w = .ok (.agg #[x1, x2, x3, x4]) w := fun _ _ _ _ _ _ _ _ _ _ w => by kernel_rfl
  have e3 : ∀ (x y : Int) w, (Op.equalIn 9999 3 (.int .i64 x) (.int .i64 y)).run Tryd.prog w = .ok (x == y) w := fun x y w => by
    rw [run_equalIn_int w 9998 3 _ _ _ _ Tryd.underlying3]
  have e4 : ∀ (x y : Bool) w, (Op.equalIn 9999 4 (.bool x) (.bool y)).run Tryd.prog w = .ok (x == y) w := fun x y w => by
    rw [run_equalIn_bool' w 9998 4 _ _ Tryd.underlying4]
  have e27 := eql4i 9997 n.c0 n.c1 n.c2 n.c3 m.c0 m.c1 m.c2 m.c3
  unfold Nd.eq
  generalize (n.c0 == m.c0 && n.c1 == m.c1 && n.c2 == m.c2 && n.c3 == m.c3) = c at *
  cases h1 : (n.k == m.k)
  · simp [Op.eqFields, q0, q2, q3, q4, q5, q6, q1, e3, e4, e27, h1]
  cases c with
  | false => simp [Op.eqFields, q0, q2, q3, q4, q5, q6, q1, e3, e4, e27, h1]
  | true =>
  cases h3 : (n.a == m.a)
  · simp [Op.eqFields, q0, q2, q3, q4, q5, q6, q1, e3, e4, e27, h1, h3]
  cases h4 : (n.b == m.b)
  · simp [Op.eqFields, q0, q2, q3, q4, q5, q6, q1, e3, e4, e27, h1, h3, h4]
  cases h5 : (n.l == m.l)
  · simp [Op.eqFields, q0, q2, q3, q4, q5, q6, q1, e3, e4, e27, h1, h3, h4, h5]
  cases h6 : (n.m == m.m)
  · simp [Op.eqFields, q0, q2, q3, q4, q5, q6, q1, e3, e4, e27, h1, h3, h4, h5, h6]
  cases h7 : (n.z == m.z)
  · simp [Op.eqFields, q0, q2, q3, q4, q5, q6, q1, e3, e4, e27, h1, h3, h4, h5, h6, h7]
  simp [Op.eqFields, q0, q2, q3, q4, q5, q6, q1, e3, e4, e27, h1, h3, h4, h5, h6, h7]
theorem run_eql29 (n m : Nd) (w : World) : (Go.binOp BinOp.eql 82 (ndV n) (ndV m)).run Tryd.prog w = .ok (.bool (n.eq m)) w := by
  have h := equal29 n m w
  unfold ndV at *
  simp only [binOp]
  simp [h]
theorem run_neq29 (n m : Nd) (w : World) : (Go.binOp BinOp.neq 82 (ndV n) (ndV m)).run Tryd.prog w = .ok (.bool (!n.eq m)) w := by
  have h := equal29 n m w
  unfold ndV at *
  simp only [binOp]
  simp [h]
/-- A block of cells that may be written. -/
def Cl (w : World) (b : Nat) (t : TypeId) (vs : List Value) : Prop := w.heap[b]? = some (.cells vs.toArray t (0, 0))
section
variable {w w' : World} {b : Nat} {t : TypeId} {vs : List Value}
theorem Cl.lt (h : Cl w b t vs) : b < w.heap.size := (Array.getElem?_eq_some_iff.1 h).1
theorem Cl.new (w : World) (t : TypeId) (vs : List Value) : Cl (w.alloc (.cells vs.toArray t)) w.heap.size t vs := heap_alloc_new w _
theorem Cl.below (h : Cl w b t vs) (hb : Below w.heap.size w w') : Cl w' b t vs := by unfold Cl; rw [hb.block b h.lt]; exact h
theorem Cl.alloc (h : Cl w b t vs) (o : Obj) : Cl (w.alloc o) b t vs := h.below ((Below.refl _ _).alloc (Nat.le_refl _) o)
theorem Cl.drew (h : Cl w b t vs) : Cl w.drew b t vs := h.below (Below.refl _ _).drew
theorem Cl.cell (h : Cl w b t vs) (i : Nat) {v : Value} (hi : vs[i]? = some v) : w.cell? ⟨b, i, none⟩ = some v := by
  rw [cell_of_row w b i _ t (0, 0) h]
  simpa using hi
theorem Cl.frozen (h : Cl w b t vs) (i : Nat) : w.frozen? ⟨b, i, none⟩ = false := frozen_of_row w b i _ t h
theorem Cl.set (h : Cl w b t vs) (i : Nat) (v : Value) : Cl (w.setCell ⟨b, i, none⟩ v) b t (vs.set i v) := by
  have := heap_setCell_same w b i vs.toArray t v h
  simpa [Cl] using this
theorem Cl.other (h : Cl w b t vs) {k : Nat} (hk : k ≠ b) (i : Nat) (v : Value) : Cl (w.setCell ⟨k, i, none⟩ v) b t vs := by
  unfold Cl at *
  rw [Below.heap_setCell _ _ _ _ (Ne.symm hk)]
  exact h
/-- The ten cells of a node. -/
theorem Cl.ten {x0 x1 x2 x3 x4 x5 x6 x7 x8 x9 : Value} (h : Cl w b t [x0, x1, x2, x3, x4, x5, x6, x7, x8, x9]) : (w.cell? ⟨b, 0, none⟩ = some x0 ∧ w.cell? ⟨b, 1, none⟩ = some x1 ∧ w.cell? ⟨b, 2, none⟩ = some x2 ∧ w.cell? ⟨b, 3, none⟩ = some x3 ∧ w.cell? ⟨b, 4, none⟩ = some x4 ∧ w.cell? ⟨b, 5, none⟩ = some x5 ∧ w.cell? ⟨b, 6, none⟩ = some x6 ∧ w.cell? ⟨b, 7, none⟩ = some x7 ∧ w.cell? ⟨b, 8, none⟩ = some x8 ∧ w.cell? ⟨b, 9, none⟩ = some x9) ∧ (w.frozen? ⟨b, 0, none⟩ = false ∧ w.frozen? ⟨b, 1, none⟩ = false ∧ w.frozen? ⟨b, 2, none⟩ = false ∧ w.frozen? ⟨b, 3, none⟩ = false ∧ w.frozen? ⟨b, 4, none⟩ = false ∧ w.frozen? ⟨b, 5, none⟩ = false ∧ w.frozen? ⟨b, 6, none⟩ = false ∧ w.frozen? ⟨b, 7, none⟩ = false ∧ w.frozen? ⟨b, 8, none⟩ = false ∧ w.frozen? ⟨b, 9, none⟩ = false) :=
  ⟨⟨h.cell 0 rfl, h.cell 1 rfl, h.cell 2 rfl, h.cell 3 rfl, h.cell 4 rfl, h.cell 5 rfl, h.cell 6 rfl, h.cell 7 rfl, h.cell 8 rfl, h.cell 9 rfl⟩, h.frozen 0, h.frozen 1, h.frozen 2, h.frozen 3, h.frozen 4, h.frozen 5, h.frozen 6, h.frozen 7, h.frozen 8, h.frozen 9⟩
theorem Cl.one {x0 : Value} (h : Cl w b t [x0]) : w.cell? ⟨b, 0, none⟩ = some x0 ∧ w.frozen? ⟨b, 0, none⟩ = false := ⟨h.cell 0 rfl, h.frozen 0⟩
theorem Cl.two {x0 x1 : Value} (h : Cl w b t [x0, x1]) : (w.cell? ⟨b, 0, none⟩ = some x0 ∧ w.cell? ⟨b, 1, none⟩ = some x1) ∧ w.frozen? ⟨b, 0, none⟩ = false ∧ w.frozen? ⟨b, 1, none⟩ = false := ⟨⟨h.cell 0 rfl, h.cell 1 rfl⟩, h.frozen 0, h.frozen 1⟩
end
/-- The cells of a slice of nodes can be read. -/
def RdN (w : World) (ao : Option Addr) (n : Nat) (F : Nat → Nd) : Prop := 0 < n → ∃ bb off, ao = some ⟨bb, off, none⟩ ∧ bb < w.heap.size ∧ ∀ i, i < n → w.cell? ⟨bb, off + i * 10, none⟩ = some (.int .i64 (F i).k) ∧ w.cell? ⟨bb, off + i * 10 + 1, none⟩ = some (.int .u64 (F i).c0) ∧ w.cell? ⟨bb, off + i * 10 + 2, none⟩ = some (.int .u64 (F i).c1) ∧ w.cell? ⟨bb, off + i * 10 + 3, none⟩ = some (.int .u64 (F i).c2) ∧ w.cell? ⟨bb, off + i * 10 + 4, none⟩ = some (.int .u64 (F i).c3) ∧ w.cell? ⟨bb, off + i * 10 + 5, none⟩ = some (.int .i64 (F i).a) ∧ w.cell? ⟨bb, off + i * 10 + 6, none⟩ = some (.int .i64 (F i).b) ∧ w.cell? ⟨bb, off + i * 10 + 7, none⟩ = some (.int .i64 (F i).l) ∧ w.cell? ⟨bb, off + i * 10 + 8, none⟩ = some (.int .i64 (F i).m) ∧ w.cell? ⟨bb, off + i * 10 + 9, none⟩ = some (.bool (F i).z)
theorem RdN.below {w w' : World} {ao : Option Addr} {n : Nat} {F : Nat → Nd} (h : RdN w ao n F) (hb : Below w.heap.size w w') : RdN w' ao n F := by
  intro hn
  obtain ⟨bb, off, e, hlt, hc⟩ := h hn
  refine ⟨bb, off, e, Nat.lt_of_lt_of_le hlt hb.size, fun i hi => ?_⟩
  have := hc i hi
  simpa only [hb.cell (p := ⟨bb, _, none⟩) hlt] using this
theorem RdN.congr {w : World} {ao : Option Addr} {n : Nat} {F G : Nat → Nd} (h : RdN w ao n F) (e : ∀ i, i < n → F i = G i) : RdN w ao n G := by
  intro hn
  obtain ⟨bb, off, ea, hlt, hc⟩ := h hn
  exact ⟨bb, off, ea, hlt, fun i hi => by rw [← e i hi]; exact hc i hi⟩
end Go.Proofs.YthbmfnibgjlkhaaDoor
