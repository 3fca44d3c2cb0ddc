/- Nodes as values, held against each other; blocks of cells; slices of nodes that can be read. startAt, mayRepeat: the walks. startOf: the walk. startOf as a step of the scan. starts: the walk. Lists of nodes in memory of the call's own; slices.Clone of nodes. -/
import Derived.WalkKit
import Derived.WalkSpells
import Derived.WalkLawsBesides
import Derived.ChangeKeysEq
import Derived.Laws.StructEq
import Derived.Deep.QuietTactic
import Derived.BigQuiet
import Derived.Deep.RegionWith
import Derived.Test.YtiiecppkabdkgabDoorChecked
import Derived.Test.YtiiecppkabdkgabDoorTm
import Derived.Laws.AppendOwn
import Derived.Laws.OwnMore
import Derived.Lib.SliceRun
namespace Go.Proofs.YtiiecppkabdkgabDoor
open Go.RowKit
theorem below2 (w : World) (o o' : Obj) : Below w.heap.size w ((w.alloc o).alloc o') := ((Below.refl _ _).alloc (Nat.le_refl _) _).alloc (by simp) _
theorem below1 (w : World) (o : Obj) : Below w.heap.size w (w.alloc o) := (Below.refl _ _).alloc (Nat.le_refl _) _
/-- A node as a value. -/
def ndV (n : Nd) : Value := .agg #[.int .i64 n.k, .int .u64 n.c0, .int .u64 n.c1, .int .u64 n.c2, .int .u64 n.c3, .int .i64 n.a, .int .i64 n.b, .int .i64 n.l, .int .i64 n.m, .bool n.z]
def ndL (n : Nd) : List Value := [.int .i64 n.k, .int .u64 n.c0, .int .u64 n.c1, .int .u64 n.c2, .int .u64 n.c3, .int .i64 n.a, .int .i64 n.b, .int .i64 n.l, .int .i64 n.m, .bool n.z]
theorem part0 (x y z t : Value) (w : World) : (part 39 #[x, y, z, t] (0 * Tryd.prog.cellsOf 39)).run Tryd.prog w = .ok x w := by kernel_rfl
theorem part1 (x y z t : Value) (w : World) : (part 39 #[x, y, z, t] (1 * Tryd.prog.cellsOf 39)).run Tryd.prog w = .ok y w := by kernel_rfl
theorem part2 (x y z t : Value) (w : World) : (part 39 #[x, y, z, t] (2 * Tryd.prog.cellsOf 39)).run Tryd.prog w = .ok z w := by kernel_rfl
theorem part3 (x y z t : Value) (w : World) : (part 39 #[x, y, z, t] (3 * Tryd.prog.cellsOf 39)).run Tryd.prog w = .ok t w := by kernel_rfl
theorem eq25 (m : Nat) (x y : Int) (w : World) : (Op.equalIn (m + 1) 39 (.int .u64 x) (.int .u64 y)).run Tryd.prog w = .ok (x == y) w := by
  simp [Op.equalIn, run_underlying Tryd.underlying39]
theorem eql4i (n : Nat) (a b c d a' b' c' d' : Int) (w : World) : (Op.equalIn (n + 1 + 1) 41 (.agg #[.int .u64 a, .int .u64 b, .int .u64 c, .int .u64 d]) (.agg #[.int .u64 a', .int .u64 b', .int .u64 c', .int .u64 d'])).run Tryd.prog w = .ok (a == a' && b == b' && c == c' && d == d') w := by
  obtain ⟨j, hj, _⟩ := Option.map_eq_some_iff.1 (show (Tryd.prog.info? 39).map (·.size) = some 1 by kernel_rfl)
  rw [run_equalIn_array w (n + 1) _ _ Tryd.underlying41 hj, show List.range 4 = [0, 1, 2, 3] from rfl]
  simp only [Op.eqItems, Sem.run_bind, part0, Result.andThen_ok, eq25 n]
  cases a == a'
  · simp only [Bool.not_false, if_true, Sem.run_pure, Bool.false_and]
  simp only [Bool.not_true, Bool.false_eq_true, if_false, Sem.run_bind, part1, Result.andThen_ok, eq25 n, Bool.true_and]
  cases b == b'
  · simp only [Bool.not_false, if_true, Sem.run_pure, Bool.false_and]
  simp only [Bool.not_true, Bool.false_eq_true, if_false, Sem.run_bind, part2, Result.andThen_ok, eq25 n, Bool.true_and]
  cases c == c'
  · simp only [Bool.not_false, if_true, Sem.run_pure, Bool.false_and]
  simp only [Bool.not_true, Bool.false_eq_true, if_false, Sem.run_bind, part3, Result.andThen_ok, eq25 n, Bool.true_and]
  cases d == d'
  · simp only [Bool.not_false, if_true, Sem.run_pure]
  simp only [Bool.not_true, Bool.false_eq_true, if_false, Sem.run_pure]
theorem f29 : Tryd.prog.fieldsOf 43 = #[{ name := "Kind", type := 3, offset := 0, embedded := false, tag := "", pkgPath := "", byteOffset := 0 }, { name := "Class", type := 41, offset := 1, embedded := false, tag := "", pkgPath := "", byteOffset := 8 }, { name := "A", type := 3, offset := 5, embedded := false, tag := "", pkgPath := "", byteOffset := 40 }, { name := "B", type := 3, offset := 6, embedded := false, tag := "", pkgPath := "", byteOffset := 48 }, { name := "Least", type := 3, offset := 7, embedded := false, tag := "", pkgPath := "", byteOffset := 56 }, { name := "Most", type := 3, offset := 8, embedded := false, tag := "", pkgPath := "", byteOffset := 64 }, { name := "Lazy", type := 4, offset := 9, embedded := false, tag := "", pkgPath := "", byteOffset := 72 }] := by kernel_rfl
theorem equal29 (n m : Nd) (w : World) : (Op.equal 43 (ndV n) (ndV m)).run Tryd.prog w = .ok (n.eq m) w := by
  unfold ndV Op.equal Op.maxDepth
  rw [run_equalIn_struct w 9999 43 _ _ (by kernel_rfl) (by kernel_rfl), f29]
  have q0 : ∀ (x0 x1 x2 x3 x4 x5 x6 x7 x8 x9 : Value) w, (part 3 #[x0, x1, x2, x3, x4, x5, x6, x7, x8, x9] 0).run Tryd.prog w = .ok x0 w := fun _ _ _ _ _ _ _ _ _ _ w => by kernel_rfl
  have q2 : ∀ (x0 x1 x2 x3 x4 x5 x6 x7 x8 x9 : Value) w, (part 3 #[x0, x1, x2, x3, x4, x5, x6, x7, x8, x9] 5).run Tryd.prog w = .ok x5 w := fun _ _ _ _ _ _ _ _ _ _ w => by kernel_rfl
  have q3 : ∀ (x0 x1 x2 x3 x4 x5 x6 x7 x8 x9 : Value) w, (part 3 #[x0, x1, x2, x3, x4, x5, x6, x7, x8, x9] 6).run Tryd.prog w = .ok x6 w := fun _ _ _ _ _ _ _ _ _ _ w => by kernel_rfl
  have q4 : ∀ (x0 x1 x2 x3 x4 x5 x6 x7 x8 x9 : Value) w, (part 3 #[x0, x1, x2, x3, x4, x5, x6, x7, x8, x9] 7).run Tryd.prog w = .ok x7 w := fun _ _ _ _ _ _ _ _ _ _ w => by kernel_rfl
  have q5 : ∀ (x0 x1 x2 x3 x4 x5 x6 x7 x8 x9 : Value) w, (part 3 #[x0, x1, x2, x3, x4, x5, x6, x7, x8, x9] 8).run Tryd.prog w = .ok x8 w := fun _ _ _ _ _ _ _ _ _ _ w => by kernel_rfl
  have q6 : ∀ (x0 x1 x2 x3 x4 x5 x6 x7 x8 x9 : Value) w, (part 4 #[x0, x1, x2, x3, x4, x5, x6, x7, x8, x9] 9).run Tryd.prog w = .ok x9 w := fun _ _ _ _ _ _ _ _ _ _ w => by kernel_rfl
  have q1 : ∀ (x0 x1 x2 x3 x4 x5 x6 x7 x8 x9 : Value) w, (part 41 #[x0, x1, x2, x3, x4, x5, x6, x7, x8, x9] 1).run Tryd.prog w = .ok (.agg #[x1, x2, x3, x4]) w := fun _ _ _ _ _ _ _ _ _ _ w => by kernel_rfl
  have e3 : ∀ (x y : Int) w, (Op.equalIn 9999 3 (.int .i64 x) (.int .i64 y)).run Tryd.prog w = .ok (x == y) w := fun x y w => by
    rw [run_equalIn_int w 9998 3 _ _ _ _ Tryd.underlying3]
  have e4 : ∀ (x y : Bool) w, (Op.equalIn 9999 4 (.bool x) (.bool y)).run Tryd.prog w = .ok (x == y) w := fun x y w => by
    rw [run_equalIn_bool' w 9998 4 _ _ Tryd.underlying4]
  have e27 := eql4i 9997 n.c0 n.c1 n.c2 n.c3 m.c0 m.c1 m.c2 m.c3
  unfold Nd.eq
  generalize (n.c0 == m.c0 && n.c1 == m.c1 && n.c2 == m.c2 && n.c3 == m.c3) = c at *
  cases h1 : (n.k == m.k)
  · simp [Op.eqFields, q0, q2, q3, q4, q5, q6, q1, e3, e4, e27, h1]
  cases c with
  | false => simp [Op.eqFields, q0, q2, q3, q4, q5, q6, q1, e3, e4, e27, h1]
  | true =>
  cases h3 : (n.a == m.a)
  · simp [Op.eqFields, q0, q2, q3, q4, q5, q6, q1, e3, e4, e27, h1, h3]
  cases h4 : (n.b == m.b)
  · simp [Op.eqFields, q0, q2, q3, q4, q5, q6, q1, e3, e4, e27, h1, h3, h4]
  cases h5 : (n.l == m.l)
  · simp [Op.eqFields, q0, q2, q3, q4, q5, q6, q1, e3, e4, e27, h1, h3, h4, h5]
  cases h6 : (n.m == m.m)
  · simp [Op.eqFields, q0, q2, q3, q4, q5, q6, q1, e3, e4, e27, h1, h3, h4, h5, h6]
  cases h7 : (n.z == m.z)
  · simp [Op.eqFields, q0, q2, q3, q4, q5, q6, q1, e3, e4, e27, h1, h3, h4, h5, h6, h7]
  simp [Op.eqFields, q0, q2, q3, q4, q5, q6, q1, e3, e4, e27, h1, h3, h4, h5, h6, h7]
theorem run_eql29 (n m : Nd) (w : World) : (Go.binOp BinOp.eql 43 (ndV n) (ndV m)).run Tryd.prog w = .ok (.bool (n.eq m)) w := by
  have h := equal29 n m w
  unfold ndV at *
  simp only [binOp]
  simp [h]
theorem run_neq29 (n m : Nd) (w : World) : (Go.binOp BinOp.neq 43 (ndV n) (ndV m)).run Tryd.prog w = .ok (.bool (!n.eq m)) w := by
  have h := equal29 n m w
  unfold ndV at *
  simp only [binOp]
  simp [h]
/-- A block of cells that may be written. -/
def Cl (w : World) (b : Nat) (t : TypeId) (vs : List Value) : Prop := w.heap[b]? = some (.cells vs.toArray t (0, 0))
section
variable {w w' : World} {b : Nat} {t : TypeId} {vs : List Value}
theorem Cl.lt (h : Cl w b t vs) : b < w.heap.size := (Array.getElem?_eq_some_iff.1 h).1
theorem Cl.new (w : World) (t : TypeId) (vs : List Value) : Cl (w.alloc (.cells vs.toArray t)) w.heap.size t vs := heap_alloc_new w _
theorem Cl.below (h : Cl w b t vs) (hb : Below w.heap.size w w') : Cl w' b t vs := by unfold Cl; rw [hb.block b h.lt]; exact h
theorem Cl.alloc (h : Cl w b t vs) (o : Obj) : Cl (w.alloc o) b t vs := h.below ((Below.refl _ _).alloc (Nat.le_refl _) o)
theorem Cl.drew (h : Cl w b t vs) : Cl w.drew b t vs := h.below (Below.refl _ _).drew
theorem Cl.cell (h : Cl w b t vs) (i : Nat) {v : Value} (hi : vs[i]? = some v) : w.cell? ⟨b, i, none⟩ = some v := by
  rw [cell_of_row w b i _ t (0, 0) h]
  simpa using hi
theorem Cl.frozen (h : Cl w b t vs) (i : Nat) : w.frozen? ⟨b, i, none⟩ = false := frozen_of_row w b i _ t h
theorem Cl.set (h : Cl w b t vs) (i : Nat) (v : Value) : Cl (w.setCell ⟨b, i, none⟩ v) b t (vs.set i v) := by
  have := heap_setCell_same w b i vs.toArray t v h
  simpa [Cl] using this
theorem Cl.other (h : Cl w b t vs) {k : Nat} (hk : k ≠ b) (i : Nat) (v : Value) : Cl (w.setCell ⟨k, i, none⟩ v) b t vs := by
  unfold Cl at *
  rw [Below.heap_setCell _ _ _ _ (Ne.symm hk)]
  exact h
/-- The ten cells of a node. -/
theorem Cl.ten {x0 x1 x2 x3 x4 x5 x6 x7 x8 x9 : Value} (h : Cl w b t [x0, x1, x2, x3, x4, x5, x6, x7, x8, x9]) : (w.cell? ⟨b, 0, none⟩ = some x0 ∧ w.cell? ⟨b, 1, none⟩ = some x1 ∧ w.cell? ⟨b, 2, none⟩ = some x2 ∧ w.cell? ⟨b, 3, none⟩ = some x3 ∧ w.cell? ⟨b, 4, none⟩ = some x4 ∧ w.cell? ⟨b, 5, none⟩ = some x5 ∧ w.cell? ⟨b, 6, none⟩ = some x6 ∧ w.cell? ⟨b, 7, none⟩ = some x7 ∧ w.cell? ⟨b, 8, none⟩ = some x8 ∧ w.cell? ⟨b, 9, none⟩ = some x9) ∧ (w.frozen? ⟨b, 0, none⟩ = false ∧ w.frozen? ⟨b, 1, none⟩ = false ∧ w.frozen? ⟨b, 2, none⟩ = false ∧ w.frozen? ⟨b, 3, none⟩ = false ∧ w.frozen? ⟨b, 4, none⟩ = false ∧ w.frozen? ⟨b, 5, none⟩ = false ∧ w.frozen? ⟨b, 6, none⟩ = false ∧ w.frozen? ⟨b, 7, none⟩ = false ∧ w.frozen? ⟨b, 8, none⟩ = false ∧ w.frozen? ⟨b, 9, none⟩ = false) :=
  ⟨⟨h.cell 0 rfl, h.cell 1 rfl, h.cell 2 rfl, h.cell 3 rfl, h.cell 4 rfl, h.cell 5 rfl, h.cell 6 rfl, h.cell 7 rfl, h.cell 8 rfl, h.cell 9 rfl⟩, h.frozen 0, h.frozen 1, h.frozen 2, h.frozen 3, h.frozen 4, h.frozen 5, h.frozen 6, h.frozen 7, h.frozen 8, h.frozen 9⟩
theorem Cl.one {x0 : Value} (h : Cl w b t [x0]) : w.cell? ⟨b, 0, none⟩ = some x0 ∧ w.frozen? ⟨b, 0, none⟩ = false := ⟨h.cell 0 rfl, h.frozen 0⟩
theorem Cl.two {x0 x1 : Value} (h : Cl w b t [x0, x1]) : (w.cell? ⟨b, 0, none⟩ = some x0 ∧ w.cell? ⟨b, 1, none⟩ = some x1) ∧ w.frozen? ⟨b, 0, none⟩ = false ∧ w.frozen? ⟨b, 1, none⟩ = false := ⟨⟨h.cell 0 rfl, h.cell 1 rfl⟩, h.frozen 0, h.frozen 1⟩
end
/-- The cells of a slice of nodes can be read. -/
def RdN (w : World) (ao : Option Addr) (n : Nat) (F : Nat → Nd) : Prop := 0 < n → ∃ bb off, ao = some ⟨bb, off, none⟩ ∧ bb < w.heap.size ∧ ∀ i, i < n → w.cell? ⟨bb, off + i * 10, none⟩ = some (.int .i64 (F i).k) ∧ w.cell? ⟨bb, off + i * 10 + 1, none⟩ = some (.int .u64 (F i).c0) ∧ w.cell? ⟨bb, off + i * 10 + 2, none⟩ = some (.int .u64 (F i).c1) ∧ w.cell? ⟨bb, off + i * 10 + 3, none⟩ = some (.int .u64 (F i).c2) ∧ w.cell? ⟨bb, off + i * 10 + 4, none⟩ = some (.int .u64 (F i).c3) ∧ w.cell? ⟨bb, off + i * 10 + 5, none⟩ = some (.int .i64 (F i).a) ∧ w.cell? ⟨bb, off + i * 10 + 6, none⟩ = some (.int .i64 (F i).b) ∧ w.cell? ⟨bb, off + i * 10 + 7, none⟩ = some (.int .i64 (F i).l) ∧ w.cell? ⟨bb, off + i * 10 + 8, none⟩ = some (.int .i64 (F i).m) ∧ w.cell? ⟨bb, off + i * 10 + 9, none⟩ = some (.bool (F i).z)
theorem RdN.below {w w' : World} {ao : Option Addr} {n : Nat} {F : Nat → Nd} (h : RdN w ao n F) (hb : Below w.heap.size w w') : RdN w' ao n F := by
  intro hn
  obtain ⟨bb, off, e, hlt, hc⟩ := h hn
  refine ⟨bb, off, e, Nat.lt_of_lt_of_le hlt hb.size, fun i hi => ?_⟩
  have := hc i hi
  simpa only [hb.cell (p := ⟨bb, _, none⟩) hlt] using this
theorem RdN.congr {w : World} {ao : Option Addr} {n : Nat} {F G : Nat → Nd} (h : RdN w ao n F) (e : ∀ i, i < n → F i = G i) : RdN w ao n G := by
  intro hn
  obtain ⟨bb, off, ea, hlt, hc⟩ := h hn
  exact ⟨bb, off, ea, hlt, fun i hi => by rw [← e i hi]; exact hc i hi⟩
end Go.Proofs.YtiiecppkabdkgabDoor
namespace Go.Proofs.YtiiecppkabdkgabDoor
open Go.RowKit
/-- The cells of a slice of numbers can be read. -/
def RdI (w : World) (ao : Option Addr) (n : Nat) (f : Nat → Int) : Prop := 0 < n → ∃ bb off, ao = some ⟨bb, off, none⟩ ∧ bb < w.heap.size ∧ ∀ i, i < n → w.cell? ⟨bb, off + i, none⟩ = some (.int .i64 (f i))
theorem RdI.below {w w' : World} {ao : Option Addr} {n : Nat} {f : Nat → Int} (h : RdI w ao n f) (hb : Below w.heap.size w w') : RdI w' ao n f := by
  intro hn
  obtain ⟨bb, off, e, hlt, hc⟩ := h hn
  refine ⟨bb, off, e, Nat.lt_of_lt_of_le hlt hb.size, fun i hi => ?_⟩
  rw [hb.cell (p := ⟨bb, _, none⟩) hlt]
  exact hc i hi
/-- Where the subtree of a place starts; below 0 where there is no place. -/
def stA (f : Nat → Int) (x : Int) : Int := if x < 0 then -1 else f x.toNat
set_option maxHeartbeats 400000 in
theorem startAt_any (ao : Option Addr) (n cap : Nat) (f : Nat → Int) (x : Int) (w : World) (hr : RdI w ao n f) (hx : x < n) : Calls Tryd.prog 57 #[.slice ao n cap, .int .i64 x] w fun e w' => e = .returned (.int .i64 (stA f x)) ∧ w' = w := by
  by_cases h : x < 0
  · have e : stA f x = -1 := by simp [stA, h]
    rw [e]
    clear hr
    go_enter Tryd.func57, Tryd.ntmps57
    go_wp2
    go_ret
    exact ⟨rfl, rfl⟩
  · have e : stA f x = f x.toNat := by simp [stA, h]
    rw [e]
    obtain ⟨k, rfl⟩ : ∃ k : Nat, x = (k : Int) := ⟨x.toNat, by omega⟩
    obtain ⟨bb, off, rfl, _, hc⟩ := hr (by omega)
    have hk := hc k (by omega)
    have hkn : k < n := by omega
    rw [Int.toNat_natCast]
    generalize f k = y at *
    clear hc hr e
    go_enter Tryd.func57, Tryd.ntmps57
    go_wp2
    go_ret
    exact ⟨rfl, rfl⟩
set_option maxHeartbeats 400000 in
theorem mayRepeat_any (l m : Int) (w : World) : Calls Tryd.prog 58 #[.int .i64 l, .int .i64 m] w fun e w' => e = .returned (.bool (Tre.mayR l m)) ∧ w' = w := by
  by_cases h : m = -1
  · subst h
    by_cases h0 : 0 ≤ l
    · by_cases h1 : l ≤ 1000
      · have e : Tre.mayR l (-1) = true := by simp [Tre.mayR, h0, h1]
        rw [e]
        go_enter Tryd.func58, Tryd.ntmps58
        go_wp2
        go_ret
        exact ⟨rfl, rfl⟩
      · have e : Tre.mayR l (-1) = false := by simp [Tre.mayR, h1]
        rw [e]
        go_enter Tryd.func58, Tryd.ntmps58
        go_wp2
        go_ret
        exact ⟨rfl, rfl⟩
    · have e : Tre.mayR l (-1) = false := by simp [Tre.mayR, h0]
      rw [e]
      go_enter Tryd.func58, Tryd.ntmps58
      go_wp2
      go_ret
      exact ⟨rfl, rfl⟩
  · have hm : (m == -1) = false := by simpa using h
    by_cases h0 : 0 ≤ l
    · by_cases h1 : l ≤ m
      · by_cases h2 : m ≤ 1000
        · have e : Tre.mayR l m = true := by simp [Tre.mayR, h0, h1, h2]; omega
          rw [e]
          go_enter Tryd.func58, Tryd.ntmps58
          go_wp2
          go_ret
          exact ⟨rfl, rfl⟩
        · have e : Tre.mayR l m = false := by simp [Tre.mayR, h2, h]
          rw [e]
          go_enter Tryd.func58, Tryd.ntmps58
          go_wp2
          go_ret
          exact ⟨rfl, rfl⟩
      · have e : Tre.mayR l m = false := by simp [Tre.mayR, h1, h]
        rw [e]
        go_enter Tryd.func58, Tryd.ntmps58
        go_wp2
        go_ret
        exact ⟨rfl, rfl⟩
    · have e : Tre.mayR l m = false := by simp [Tre.mayR, h0]
      rw [e]
      go_enter Tryd.func58, Tryd.ntmps58
      go_wp2
      go_ret
      exact ⟨rfl, rfl⟩
end Go.Proofs.YtiiecppkabdkgabDoor
namespace Go.Proofs.YtiiecppkabdkgabDoor
open Go.RowKit
/-- What startOf answers. -/
def RetSo (w : World) (s : Int) (b : Bool) (e : Ending) (w' : World) : Prop := (∃ s' : Int, (b = true → s' = s) ∧ e = .returned (.tuple #[.int .i64 s', .bool b])) ∧ Below w.heap.size w w'
theorem quiet2 {P : Program} {f : FuncId} {args : Array Value} {w : World} {k n : Nat} {v : Value}
    (h : Calls P f args (w.drewN (k + n)) fun e w' => e = .returned v ∧ w' = w.drewN (k + n)) :
    Calls P f args (w.drewN (k + n)) fun e w' => e = .returned v ∧ ∃ m, w' = w.drewN (k + m) :=
  h.mono fun _ _ h => ⟨h.1, n, h.2⟩
set_option maxRecDepth 10000 in
set_option maxHeartbeats 1000000 in
theorem startOf_1 (c0 c1 c2 c3 a b l m : Int) (z : Bool) (ao : Option Addr) (p cap : Nat) (w : World) :
    Calls Tryd.prog 42 #[.agg #[.int .i64 1, .int .u64 c0, .int .u64 c1, .int .u64 c2, .int .u64 c3, .int .i64 a, .int .i64 b, .int .i64 l, .int .i64 m, .bool z], .slice ao p cap] w (RetSo w p (Nd.eq ⟨1, c0, c1, c2, c3, a, b, l, m, z⟩ ⟨1, 0, 0, 0, 0, 0, 0, 0, 0, false⟩)) := by
  have he := run_eql29 ⟨1, c0, c1, c2, c3, a, b, l, m, z⟩ ⟨1, 0, 0, 0, 0, 0, 0, 0, 0, false⟩
  unfold ndV at he
  dsimp only at he
  generalize Nd.eq ⟨1, c0, c1, c2, c3, a, b, l, m, z⟩ ⟨1, 0, 0, 0, 0, 0, 0, 0, 0, false⟩ = r at *
  have hp : (p : Int) ≥ 0 := by omega
  go_enter Tryd.func42, Tryd.ntmps42
  go_wp2
  go_quiet (fail)
  go_wp2
  go_ret2
  exact ⟨⟨_, fun _ => rfl, rfl⟩, below_drewN (below2 _ _ _) _⟩
set_option maxRecDepth 10000 in
set_option maxHeartbeats 1000000 in
theorem startOf_6 (c0 c1 c2 c3 a b l m : Int) (z : Bool) (ao : Option Addr) (p cap : Nat) (w : World) :
    Calls Tryd.prog 42 #[.agg #[.int .i64 6, .int .u64 c0, .int .u64 c1, .int .u64 c2, .int .u64 c3, .int .i64 a, .int .i64 b, .int .i64 l, .int .i64 m, .bool z], .slice ao p cap] w (RetSo w p (Nd.eq ⟨6, c0, c1, c2, c3, a, b, l, m, z⟩ ⟨6, 0, 0, 0, 0, 0, 0, 0, 0, false⟩)) := by
  have he := run_eql29 ⟨6, c0, c1, c2, c3, a, b, l, m, z⟩ ⟨6, 0, 0, 0, 0, 0, 0, 0, 0, false⟩
  unfold ndV at he
  dsimp only at he
  generalize Nd.eq ⟨6, c0, c1, c2, c3, a, b, l, m, z⟩ ⟨6, 0, 0, 0, 0, 0, 0, 0, 0, false⟩ = r at *
  have hp : (p : Int) ≥ 0 := by omega
  go_enter Tryd.func42, Tryd.ntmps42
  go_wp2
  go_quiet (fail)
  go_wp2
  go_ret2
  exact ⟨⟨_, fun _ => rfl, rfl⟩, below_drewN (below2 _ _ _) _⟩
set_option maxRecDepth 10000 in
set_option maxHeartbeats 1000000 in
theorem startOf_7 (c0 c1 c2 c3 a b l m : Int) (z : Bool) (ao : Option Addr) (p cap : Nat) (w : World) :
    Calls Tryd.prog 42 #[.agg #[.int .i64 7, .int .u64 c0, .int .u64 c1, .int .u64 c2, .int .u64 c3, .int .i64 a, .int .i64 b, .int .i64 l, .int .i64 m, .bool z], .slice ao p cap] w (RetSo w p (Nd.eq ⟨7, c0, c1, c2, c3, a, b, l, m, z⟩ ⟨7, 0, 0, 0, 0, 0, 0, 0, 0, false⟩)) := by
  have he := run_eql29 ⟨7, c0, c1, c2, c3, a, b, l, m, z⟩ ⟨7, 0, 0, 0, 0, 0, 0, 0, 0, false⟩
  unfold ndV at he
  dsimp only at he
  generalize Nd.eq ⟨7, c0, c1, c2, c3, a, b, l, m, z⟩ ⟨7, 0, 0, 0, 0, 0, 0, 0, 0, false⟩ = r at *
  have hp : (p : Int) ≥ 0 := by omega
  go_enter Tryd.func42, Tryd.ntmps42
  go_wp2
  go_quiet (fail)
  go_wp2
  go_ret2
  exact ⟨⟨_, fun _ => rfl, rfl⟩, below_drewN (below2 _ _ _) _⟩
set_option maxRecDepth 10000 in
set_option maxHeartbeats 1000000 in
theorem startOf_2 (c0 c1 c2 c3 a b l m : Int) (z : Bool) (ao : Option Addr) (p cap : Nat) (w : World) :
    Calls Tryd.prog 42 #[.agg #[.int .i64 2, .int .u64 c0, .int .u64 c1, .int .u64 c2, .int .u64 c3, .int .i64 a, .int .i64 b, .int .i64 l, .int .i64 m, .bool z], .slice ao p cap] w (RetSo w p (Nd.eq ⟨2, c0, c1, c2, c3, a, b, l, m, z⟩ ⟨2, c0, c1, c2, c3, 0, 0, 0, 0, false⟩)) := by
  have he := run_eql29 ⟨2, c0, c1, c2, c3, a, b, l, m, z⟩ ⟨2, c0, c1, c2, c3, 0, 0, 0, 0, false⟩
  unfold ndV at he
  dsimp only at he
  generalize Nd.eq ⟨2, c0, c1, c2, c3, a, b, l, m, z⟩ ⟨2, c0, c1, c2, c3, 0, 0, 0, 0, false⟩ = r at *
  have hp : (p : Int) ≥ 0 := by omega
  go_enter Tryd.func42, Tryd.ntmps42
  go_wp2
  go_quiet (fail)
  go_wp2
  go_ret2
  exact ⟨⟨_, fun _ => rfl, rfl⟩, below_drewN (below2 _ _ _) _⟩
set_option maxRecDepth 10000 in
set_option maxHeartbeats 1000000 in
theorem startOf_no (k c0 c1 c2 c3 a b l m : Int) (z : Bool) (ao : Option Addr) (p cap : Nat) (w : World) (hk : ¬ (1 ≤ k ∧ k ≤ 7)) :
    Calls Tryd.prog 42 #[.agg #[.int .i64 k, .int .u64 c0, .int .u64 c1, .int .u64 c2, .int .u64 c3, .int .i64 a, .int .i64 b, .int .i64 l, .int .i64 m, .bool z], .slice ao p cap] w (RetSo w p false) := by
  have k1 : (k == 1) = false := by simp; omega
  have k2 : (k == 2) = false := by simp; omega
  have k3 : (k == 3) = false := by simp; omega
  have k4 : (k == 4) = false := by simp; omega
  have k5 : (k == 5) = false := by simp; omega
  have k6 : (k == 6) = false := by simp; omega
  have k7 : (k == 7) = false := by simp; omega
  have hf : decide False = false := rfl
  clear hk
  go_enter Tryd.func42, Tryd.ntmps42
  go_wp2
  go_quiet (fail)
  go_wp2
  go_ret2
  exact ⟨⟨_, fun h => (Bool.false_ne_true h).elim, rfl⟩, below_drewN (below2 _ _ _) _⟩
set_option maxRecDepth 10000 in
set_option maxHeartbeats 1000000 in
theorem startOf_3 (c0 c1 c2 c3 a b l m : Int) (z : Bool) (ao : Option Addr) (p cap : Nat) (f : Nat → Int) (w : World) (hr : RdI w ao p f) (hp : (p : Int) ≤ 2048) (s1 s : Int) (hx : s1 = stA f (p - 1)) (hs : s = stA f (s1 - 1)) (hxp : s1 ≤ p) (hx0 : -1 ≤ s1) (hs0 : 0 ≤ s) :
    Calls Tryd.prog 42 #[.agg #[.int .i64 3, .int .u64 c0, .int .u64 c1, .int .u64 c2, .int .u64 c3, .int .i64 a, .int .i64 b, .int .i64 l, .int .i64 m, .bool z], .slice ao p cap] w (RetSo w s (Nd.eq ⟨3, c0, c1, c2, c3, a, b, l, m, z⟩ ⟨3, 0, 0, 0, 0, s1 - 1, p - 1, 0, 0, false⟩)) := by
  have he := run_eql29 ⟨3, c0, c1, c2, c3, a, b, l, m, z⟩ ⟨3, 0, 0, 0, 0, s1 - 1, p - 1, 0, 0, false⟩
  unfold ndV at he
  dsimp only at he
  generalize Nd.eq ⟨3, c0, c1, c2, c3, a, b, l, m, z⟩ ⟨3, 0, 0, 0, 0, s1 - 1, p - 1, 0, 0, false⟩ = r at *
  have H1 : Hid (∀ W, Below w.heap.size w W → Calls Tryd.prog 57 #[.slice ao p cap, .int .i64 (p - 1)] W fun e w' => e = .returned (.int .i64 s1) ∧ w' = W) := fun W hW => hx ▸ startAt_any ao p cap f _ W (hr.below hW) (by omega)
  have H2 : Hid (∀ W, Below w.heap.size w W → Calls Tryd.prog 57 #[.slice ao p cap, .int .i64 (s1 - 1)] W fun e w' => e = .returned (.int .i64 s) ∧ w' = W) := fun W hW => hs ▸ startAt_any ao p cap f _ W (hr.below hW) (by omega)
  clear hr hx hs
  have m1 : Hid True := trivial
  go_enter Tryd.func42, Tryd.ntmps42
  go_wp2_with (go_at_call 57; first | (clear m1; refine (H1.out _ ?_).mono ?_; exact below2 _ _ _; rintro e W ⟨rfl, rfl⟩) | (refine (H2.out _ ?_).mono ?_; exact below2 _ _ _; rintro e W ⟨rfl, rfl⟩))
  go_quiet (fail)
  go_wp2
  go_ret2
  exact ⟨⟨_, fun _ => rfl, rfl⟩, below_drewN (below2 _ _ _) _⟩
set_option maxRecDepth 10000 in
set_option maxHeartbeats 1000000 in
theorem startOf_3n (c0 c1 c2 c3 a b l m : Int) (z : Bool) (ao : Option Addr) (p cap : Nat) (f : Nat → Int) (w : World) (hr : RdI w ao p f) (hp : (p : Int) ≤ 2048) (s1 s : Int) (hx : s1 = stA f (p - 1)) (hs : s = stA f (s1 - 1)) (hxp : s1 ≤ p) (hx0 : -1 ≤ s1) (hs0 : s < 0) :
    Calls Tryd.prog 42 #[.agg #[.int .i64 3, .int .u64 c0, .int .u64 c1, .int .u64 c2, .int .u64 c3, .int .i64 a, .int .i64 b, .int .i64 l, .int .i64 m, .bool z], .slice ao p cap] w (RetSo w s (false)) := by
  have hs1 : decide (s ≥ 0) = false := by simp; omega
  have H1 : Hid (∀ W, Below w.heap.size w W → Calls Tryd.prog 57 #[.slice ao p cap, .int .i64 (p - 1)] W fun e w' => e = .returned (.int .i64 s1) ∧ w' = W) := fun W hW => hx ▸ startAt_any ao p cap f _ W (hr.below hW) (by omega)
  have H2 : Hid (∀ W, Below w.heap.size w W → Calls Tryd.prog 57 #[.slice ao p cap, .int .i64 (s1 - 1)] W fun e w' => e = .returned (.int .i64 s) ∧ w' = W) := fun W hW => hs ▸ startAt_any ao p cap f _ W (hr.below hW) (by omega)
  clear hr hx hs
  have m1 : Hid True := trivial
  go_enter Tryd.func42, Tryd.ntmps42
  go_wp2_with (go_at_call 57; first | (clear m1; refine (H1.out _ ?_).mono ?_; exact below2 _ _ _; rintro e W ⟨rfl, rfl⟩) | (refine (H2.out _ ?_).mono ?_; exact below2 _ _ _; rintro e W ⟨rfl, rfl⟩))
  go_quiet (fail)
  go_wp2
  go_ret2
  exact ⟨⟨_, fun h => (Bool.false_ne_true h).elim, rfl⟩, below_drewN (below2 _ _ _) _⟩
set_option maxRecDepth 10000 in
set_option maxHeartbeats 1000000 in
theorem startOf_4 (c0 c1 c2 c3 a b l m : Int) (z : Bool) (ao : Option Addr) (p cap : Nat) (f : Nat → Int) (w : World) (hr : RdI w ao p f) (hp : (p : Int) ≤ 2048) (s1 s : Int) (hx : s1 = stA f (p - 1)) (hs : s = stA f (s1 - 1)) (hxp : s1 ≤ p) (hx0 : -1 ≤ s1) (hs0 : 0 ≤ s) :
    Calls Tryd.prog 42 #[.agg #[.int .i64 4, .int .u64 c0, .int .u64 c1, .int .u64 c2, .int .u64 c3, .int .i64 a, .int .i64 b, .int .i64 l, .int .i64 m, .bool z], .slice ao p cap] w (RetSo w s (Nd.eq ⟨4, c0, c1, c2, c3, a, b, l, m, z⟩ ⟨4, 0, 0, 0, 0, s1 - 1, p - 1, 0, 0, false⟩)) := by
  have he := run_eql29 ⟨4, c0, c1, c2, c3, a, b, l, m, z⟩ ⟨4, 0, 0, 0, 0, s1 - 1, p - 1, 0, 0, false⟩
  unfold ndV at he
  dsimp only at he
  generalize Nd.eq ⟨4, c0, c1, c2, c3, a, b, l, m, z⟩ ⟨4, 0, 0, 0, 0, s1 - 1, p - 1, 0, 0, false⟩ = r at *
  have H1 : Hid (∀ W, Below w.heap.size w W → Calls Tryd.prog 57 #[.slice ao p cap, .int .i64 (p - 1)] W fun e w' => e = .returned (.int .i64 s1) ∧ w' = W) := fun W hW => hx ▸ startAt_any ao p cap f _ W (hr.below hW) (by omega)
  have H2 : Hid (∀ W, Below w.heap.size w W → Calls Tryd.prog 57 #[.slice ao p cap, .int .i64 (s1 - 1)] W fun e w' => e = .returned (.int .i64 s) ∧ w' = W) := fun W hW => hs ▸ startAt_any ao p cap f _ W (hr.below hW) (by omega)
  clear hr hx hs
  have m1 : Hid True := trivial
  go_enter Tryd.func42, Tryd.ntmps42
  go_wp2_with (go_at_call 57; first | (clear m1; refine (H1.out _ ?_).mono ?_; exact below2 _ _ _; rintro e W ⟨rfl, rfl⟩) | (refine (H2.out _ ?_).mono ?_; exact below2 _ _ _; rintro e W ⟨rfl, rfl⟩))
  go_quiet (fail)
  go_wp2
  go_ret2
  exact ⟨⟨_, fun _ => rfl, rfl⟩, below_drewN (below2 _ _ _) _⟩
set_option maxRecDepth 10000 in
set_option maxHeartbeats 1000000 in
theorem startOf_4n (c0 c1 c2 c3 a b l m : Int) (z : Bool) (ao : Option Addr) (p cap : Nat) (f : Nat → Int) (w : World) (hr : RdI w ao p f) (hp : (p : Int) ≤ 2048) (s1 s : Int) (hx : s1 = stA f (p - 1)) (hs : s = stA f (s1 - 1)) (hxp : s1 ≤ p) (hx0 : -1 ≤ s1) (hs0 : s < 0) :
    Calls Tryd.prog 42 #[.agg #[.int .i64 4, .int .u64 c0, .int .u64 c1, .int .u64 c2, .int .u64 c3, .int .i64 a, .int .i64 b, .int .i64 l, .int .i64 m, .bool z], .slice ao p cap] w (RetSo w s (false)) := by
  have hs1 : decide (s ≥ 0) = false := by simp; omega
  have H1 : Hid (∀ W, Below w.heap.size w W → Calls Tryd.prog 57 #[.slice ao p cap, .int .i64 (p - 1)] W fun e w' => e = .returned (.int .i64 s1) ∧ w' = W) := fun W hW => hx ▸ startAt_any ao p cap f _ W (hr.below hW) (by omega)
  have H2 : Hid (∀ W, Below w.heap.size w W → Calls Tryd.prog 57 #[.slice ao p cap, .int .i64 (s1 - 1)] W fun e w' => e = .returned (.int .i64 s) ∧ w' = W) := fun W hW => hs ▸ startAt_any ao p cap f _ W (hr.below hW) (by omega)
  clear hr hx hs
  have m1 : Hid True := trivial
  go_enter Tryd.func42, Tryd.ntmps42
  go_wp2_with (go_at_call 57; first | (clear m1; refine (H1.out _ ?_).mono ?_; exact below2 _ _ _; rintro e W ⟨rfl, rfl⟩) | (refine (H2.out _ ?_).mono ?_; exact below2 _ _ _; rintro e W ⟨rfl, rfl⟩))
  go_quiet (fail)
  go_wp2
  go_ret2
  exact ⟨⟨_, fun h => (Bool.false_ne_true h).elim, rfl⟩, below_drewN (below2 _ _ _) _⟩
set_option maxRecDepth 10000 in
set_option maxHeartbeats 1000000 in
theorem startOf_5 (c0 c1 c2 c3 a b l m : Int) (z : Bool) (ao : Option Addr) (p cap : Nat) (f : Nat → Int) (w : World) (hr : RdI w ao p f) (hp : (p : Int) ≤ 2048) (s : Int) (hs : s = stA f (p - 1)) (hm : Tre.mayR l m = true) (hs0 : 0 ≤ s) :
    Calls Tryd.prog 42 #[.agg #[.int .i64 5, .int .u64 c0, .int .u64 c1, .int .u64 c2, .int .u64 c3, .int .i64 a, .int .i64 b, .int .i64 l, .int .i64 m, .bool z], .slice ao p cap] w (RetSo w s (Nd.eq ⟨5, c0, c1, c2, c3, a, b, l, m, z⟩ ⟨5, 0, 0, 0, 0, p - 1, 0, l, m, z⟩)) := by
  have he := run_eql29 ⟨5, c0, c1, c2, c3, a, b, l, m, z⟩ ⟨5, 0, 0, 0, 0, p - 1, 0, l, m, z⟩
  unfold ndV at he
  dsimp only at he
  generalize Nd.eq ⟨5, c0, c1, c2, c3, a, b, l, m, z⟩ ⟨5, 0, 0, 0, 0, p - 1, 0, l, m, z⟩ = r at *
  have H1 : Hid (∀ W, Below w.heap.size w W → Calls Tryd.prog 57 #[.slice ao p cap, .int .i64 (p - 1)] W fun e w' => e = .returned (.int .i64 s) ∧ w' = W) := fun W hW => hs ▸ startAt_any ao p cap f _ W (hr.below hW) (by omega)
  have H2 : Hid (∀ W, Calls Tryd.prog 58 #[.int .i64 l, .int .i64 m] W fun e w' => e = .returned (.bool true) ∧ w' = W) := fun W => hm ▸ mayRepeat_any l m W
  have hB : Hid (∀ o1 o2, Below w.heap.size w ((w.alloc o1).alloc o2)) := fun _ _ => below2 _ _ _
  clear hr hs hm
  go_enter Tryd.func42, Tryd.ntmps42
  go_wp2
  go_region
  go_wp2
  go_quiet (first | (go_at_call 57; refine quiet2 (H1.out _ ?_); exact below_drewN (below2 _ _ _) _) | (go_at_call 58; exact quiet2 (H2.out _)))
  go_wp2
  go_quiet (fail)
  go_wp2
  go_ret2
  exact ⟨⟨_, fun _ => rfl, rfl⟩, below_drewN (below_drewN (below2 _ _ _).drew _) _⟩
set_option maxRecDepth 10000 in
set_option maxHeartbeats 1000000 in
theorem startOf_5n (c0 c1 c2 c3 a b l m : Int) (z : Bool) (ao : Option Addr) (p cap : Nat) (f : Nat → Int) (w : World) (hr : RdI w ao p f) (hp : (p : Int) ≤ 2048) (s : Int) (hs : s = stA f (p - 1)) (hm : Tre.mayR l m = true) (hs0 : s < 0) :
    Calls Tryd.prog 42 #[.agg #[.int .i64 5, .int .u64 c0, .int .u64 c1, .int .u64 c2, .int .u64 c3, .int .i64 a, .int .i64 b, .int .i64 l, .int .i64 m, .bool z], .slice ao p cap] w (RetSo w s (false)) := by
  have hs1 : decide (s ≥ 0) = false := by simp; omega
  have H1 : Hid (∀ W, Below w.heap.size w W → Calls Tryd.prog 57 #[.slice ao p cap, .int .i64 (p - 1)] W fun e w' => e = .returned (.int .i64 s) ∧ w' = W) := fun W hW => hs ▸ startAt_any ao p cap f _ W (hr.below hW) (by omega)
  have H2 : Hid (∀ W, Calls Tryd.prog 58 #[.int .i64 l, .int .i64 m] W fun e w' => e = .returned (.bool true) ∧ w' = W) := fun W => hm ▸ mayRepeat_any l m W
  have hB : Hid (∀ o1 o2, Below w.heap.size w ((w.alloc o1).alloc o2)) := fun _ _ => below2 _ _ _
  clear hr hs hm
  go_enter Tryd.func42, Tryd.ntmps42
  go_wp2
  go_region
  go_wp2
  go_quiet (first | (go_at_call 57; refine quiet2 (H1.out _ ?_); exact below_drewN (below2 _ _ _) _) | (go_at_call 58; exact quiet2 (H2.out _)))
  go_wp2
  go_quiet (fail)
  go_wp2
  go_ret2
  exact ⟨⟨_, fun h => (Bool.false_ne_true h).elim, rfl⟩, below_drewN (below_drewN (below2 _ _ _).drew _) _⟩
set_option maxRecDepth 10000 in
set_option maxHeartbeats 1000000 in
theorem startOf_5m (c0 c1 c2 c3 a b l m : Int) (z : Bool) (ao : Option Addr) (p cap : Nat) (f : Nat → Int) (w : World) (hr : RdI w ao p f) (hp : (p : Int) ≤ 2048) (s : Int) (hs : s = stA f (p - 1)) (hm : Tre.mayR l m = false) :
    Calls Tryd.prog 42 #[.agg #[.int .i64 5, .int .u64 c0, .int .u64 c1, .int .u64 c2, .int .u64 c3, .int .i64 a, .int .i64 b, .int .i64 l, .int .i64 m, .bool z], .slice ao p cap] w (RetSo w s (false)) := by
  have H1 : Hid (∀ W, Below w.heap.size w W → Calls Tryd.prog 57 #[.slice ao p cap, .int .i64 (p - 1)] W fun e w' => e = .returned (.int .i64 s) ∧ w' = W) := fun W hW => hs ▸ startAt_any ao p cap f _ W (hr.below hW) (by omega)
  have H2 : Hid (∀ W, Calls Tryd.prog 58 #[.int .i64 l, .int .i64 m] W fun e w' => e = .returned (.bool false) ∧ w' = W) := fun W => hm ▸ mayRepeat_any l m W
  have hB : Hid (∀ o1 o2, Below w.heap.size w ((w.alloc o1).alloc o2)) := fun _ _ => below2 _ _ _
  clear hr hs hm
  go_enter Tryd.func42, Tryd.ntmps42
  go_wp2
  go_region
  go_wp2
  go_quiet (first | (go_at_call 57; refine quiet2 (H1.out _ ?_); exact below_drewN (below2 _ _ _) _) | (go_at_call 58; exact quiet2 (H2.out _)))
  go_wp2
  go_quiet (fail)
  go_wp2
  go_ret2
  exact ⟨⟨_, fun h => (Bool.false_ne_true h).elim, rfl⟩, below_drewN (below_drewN (below2 _ _ _).drew _) _⟩
end Go.Proofs.YtiiecppkabdkgabDoor
namespace Go.Proofs.YtiiecppkabdkgabDoor
open Go.RowKit
theorem ofF_top (y : Tre) (r : List Tre) : (ofF (y :: r))[sizeF r + y.size - 1]? = some y := by
  have := y.size_pos
  unfold ofF
  rw [List.getElem?_append_right (by unfold sizeF; omega)]
  have e : sizeF r + y.size - 1 - (ofF r).length = y.size - 1 := by unfold sizeF; omega
  rw [e, Tre.subs_last]
theorem ofF_next (y x : Tre) (r : List Tre) : (ofF (y :: x :: r))[sizeF r + x.size - 1]? = some x := by
  have := x.size_pos
  have h : sizeF (x :: r) = (ofF (x :: r)).length := rfl
  rw [sizeF_cons] at h
  rw [ofF, List.getElem?_append_left (by omega)]
  exact ofF_top x r
/-- What startOf answers, by the scan. -/
def RetSt (w : World) (ts : List Tre) (p : Nat) (n : Nd) (e : Ending) (w' : World) : Prop := (∃ s' : Int, e = .returned (.tuple #[.int .i64 s', .bool (stepT ts p n).isSome]) ∧ ∀ u r, stepT ts p n = some (u :: r) → s' = (p : Int) + 1 - u.size) ∧ Below w.heap.size w w'
theorem RetSo.st {w : World} {s : Int} {b : Bool} {e : Ending} {w' : World} {ts : List Tre} {p : Nat} {n : Nd} (h : RetSo w s b e w') (hb : (stepT ts p n).isSome = b) (hs : ∀ u r, stepT ts p n = some (u :: r) → s = (p : Int) + 1 - u.size) : RetSt w ts p n e w' := by
  obtain ⟨⟨s', h1, h2⟩, h3⟩ := h
  refine ⟨⟨s', by rw [hb]; exact h2, fun u r hu => ?_⟩, h3⟩
  rw [h1 (by rw [← hb, hu]; rfl)]
  exact hs u r hu
theorem stepT_lf (ts : List Tre) (p : Nat) (n : Nd) (h : n.k ≠ 3 ∧ n.k ≠ 4 ∧ n.k ≠ 5) : stepT ts p n = if Tre.lf n = true then some (.leaf n :: ts) else none := by
  unfold stepT
  rw [if_neg (by omega), if_neg (by omega)]
theorem lf_1 {n : Nd} (h : n.k = 1 ∨ n.k = 6 ∨ n.k = 7) : Tre.lf n = n.eq ⟨n.k, 0, 0, 0, 0, 0, 0, 0, 0, false⟩ := by
  have h2 : (n.k == 2) = false := by simp; omega
  have h1 : (n.k == 1 || n.k == 6 || n.k == 7) = true := by simp; omega
  unfold Tre.lf
  rw [h1, h2]
  simp
theorem lf_2 {n : Nd} (h : n.k = 2) : Tre.lf n = n.eq ⟨2, n.c0, n.c1, n.c2, n.c3, 0, 0, 0, 0, false⟩ := by
  have h2 : (n.k == 2) = true := by simp [h]
  have h1 : (n.k == 1 || n.k == 6 || n.k == 7) = false := by simp [h]
  unfold Tre.lf
  rw [h1, h2]
  simp
theorem startOf_any (n : Nd) (ts : List Tre) (ao : Option Addr) (p cap : Nat) (f : Nat → Int) (w : World) (hr : RdI w ao p f) (hp : p ≤ 2048) (hsz : sizeF ts = p) (hf : ∀ i u, (ofF ts)[i]? = some u → f i = (i : Int) + 1 - u.size) :
    Calls Tryd.prog 42 #[ndV n, .slice ao p cap] w (RetSt w ts p n) := by
  have hpi : (p : Int) ≤ 2048 := by omega
  by_cases hk : 1 ≤ n.k ∧ n.k ≤ 7
  · have hlf : ∀ u r, n.k ≠ 3 ∧ n.k ≠ 4 ∧ n.k ≠ 5 → stepT ts p n = some (u :: r) → (p : Int) = (p : Int) + 1 - u.size := by
      intro u r h hu
      rw [stepT_lf ts p n h] at hu
      split at hu
      · obtain ⟨rfl, _⟩ := List.cons.inj (Option.some.inj hu)
        simp [Tre.size]
      · cases hu
    have hls : n.k ≠ 3 ∧ n.k ≠ 4 ∧ n.k ≠ 5 → (stepT ts p n).isSome = Tre.lf n := by
      intro h
      rw [stepT_lf ts p n h]
      cases Tre.lf n <;> rfl
    obtain ⟨k, c0, c1, c2, c3, a, b, l, m, z⟩ := n
    dsimp only at hk hlf hls
    have h34 : k = 3 ∨ k = 4 → Calls Tryd.prog 42 #[ndV ⟨k, c0, c1, c2, c3, a, b, l, m, z⟩, .slice ao p cap] w (RetSt w ts p ⟨k, c0, c1, c2, c3, a, b, l, m, z⟩) := by
      intro h3
      have hno : ∀ s1 s : Int, s1 = stA f (p - 1) → s = stA f (s1 - 1) → s1 ≤ p → -1 ≤ s1 → s < 0 → (stepT ts p ⟨k, c0, c1, c2, c3, a, b, l, m, z⟩) = none → Calls Tryd.prog 42 #[ndV ⟨k, c0, c1, c2, c3, a, b, l, m, z⟩, .slice ao p cap] w (RetSt w ts p ⟨k, c0, c1, c2, c3, a, b, l, m, z⟩) := by
        intro s1 s e1 e2 h1 h2 h4 h5
        rcases h3 with rfl | rfl
        · exact (startOf_3n c0 c1 c2 c3 a b l m z ao p cap f w hr hpi s1 s e1 e2 h1 h2 h4).mono fun e w' h => h.st (by rw [h5]; rfl) (fun u r hu => by rw [h5] at hu; cases hu)
        · exact (startOf_4n c0 c1 c2 c3 a b l m z ao p cap f w hr hpi s1 s e1 e2 h1 h2 h4).mono fun e w' h => h.st (by rw [h5]; rfl) (fun u r hu => by rw [h5] at hu; cases hu)
      match ts, hsz, hf, hno with
      | [], hsz, hf, hno =>
        have : p = 0 := by rw [← hsz]; rfl
        subst this
        exact hno (-1) (-1) (by simp [stA]) (by simp [stA]) (by omega) (by omega) (by omega) (by unfold stepT; rw [if_pos h3])
      | [y], hsz, hf, hno =>
        have sy := y.size_pos
        rw [sizeF_cons] at hsz
        have hz : sizeF [] = 0 := rfl
        have e1 := hf _ _ (ofF_top y [])
        have e2 : stA f (p - 1) = 0 := by
          unfold stA
          rw [if_neg (by omega), show ((p : Int) - 1).toNat = sizeF [] + y.size - 1 by omega, e1]; omega
        exact hno 0 (-1) e2.symm (by simp [stA]) (by omega) (by omega) (by omega) (by unfold stepT; rw [if_pos h3])
      | y :: x :: r, hsz, hf, _ =>
        have sy := y.size_pos
        have sx := x.size_pos
        rw [sizeF_cons, sizeF_cons] at hsz
        have e1 := hf _ _ (ofF_top y (x :: r))
        rw [sizeF_cons] at e1
        have e2 := hf _ _ (ofF_next y x r)
        have g1 : stA f (p - 1) = (p : Int) - y.size := by
          unfold stA
          rw [if_neg (by omega), show ((p : Int) - 1).toNat = sizeF r + x.size + y.size - 1 by omega, e1]; omega
        have g2 : stA f ((p : Int) - y.size - 1) = sizeF r := by
          unfold stA
          rw [if_neg (by omega), show ((p : Int) - y.size - 1).toNat = sizeF r + x.size - 1 by omega, e2]; omega
        have e4 : stepT (y :: x :: r) p ⟨k, c0, c1, c2, c3, a, b, l, m, z⟩ = if Nd.eq ⟨k, c0, c1, c2, c3, a, b, l, m, z⟩ ⟨k, 0, 0, 0, 0, (p : Int) - y.size - 1, p - 1, 0, 0, false⟩ = true then some (.two k x y :: r) else none := by
          have ey : (Tre.two k x y).nd p = ⟨k, 0, 0, 0, 0, (p : Int) - y.size - 1, p - 1, 0, 0, false⟩ := by simp only [Tre.nd, Nd.mk.injEq, true_and, and_true]; omega
          unfold stepT
          rw [if_pos h3]
          show (if Nd.eq _ ((Tre.two k x y).nd p) = true then some (Tre.two k x y :: r) else none) = _
          rw [ey]
        have hb : (stepT (y :: x :: r) p ⟨k, c0, c1, c2, c3, a, b, l, m, z⟩).isSome = Nd.eq ⟨k, c0, c1, c2, c3, a, b, l, m, z⟩ ⟨k, 0, 0, 0, 0, (p : Int) - y.size - 1, p - 1, 0, 0, false⟩ := by
          rw [e4]
          cases Nd.eq ⟨k, c0, c1, c2, c3, a, b, l, m, z⟩ ⟨k, 0, 0, 0, 0, (p : Int) - y.size - 1, p - 1, 0, 0, false⟩ <;> rfl
        have hs : ∀ u r', stepT (y :: x :: r) p ⟨k, c0, c1, c2, c3, a, b, l, m, z⟩ = some (u :: r') → ((sizeF r : Nat) : Int) = (p : Int) + 1 - u.size := by
          intro u r' hu
          rw [e4] at hu
          split at hu
          · obtain ⟨rfl, _⟩ := List.cons.inj (Option.some.inj hu)
            simp only [Tre.size]; omega
          · cases hu
        rcases h3 with rfl | rfl
        · exact (startOf_3 c0 c1 c2 c3 a b l m z ao p cap f w hr hpi _ _ g1.symm g2.symm (by omega) (by omega) (by omega)).mono fun e w' h => h.st hb hs
        · exact (startOf_4 c0 c1 c2 c3 a b l m z ao p cap f w hr hpi _ _ g1.symm g2.symm (by omega) (by omega) (by omega)).mono fun e w' h => h.st hb hs
    have hc : k = 1 ∨ k = 2 ∨ k = 3 ∨ k = 4 ∨ k = 5 ∨ k = 6 ∨ k = 7 := by omega
    rcases hc with rfl | rfl | rfl | rfl | rfl | rfl | rfl
    · exact (startOf_1 c0 c1 c2 c3 a b l m z ao p cap w).mono fun e w' h => h.st (by rw [hls (by decide)]; exact lf_1 (.inl rfl)) (fun u r => hlf u r (by decide))
    · exact (startOf_2 c0 c1 c2 c3 a b l m z ao p cap w).mono fun e w' h => h.st (by rw [hls (by decide)]; exact lf_2 rfl) (fun u r => hlf u r (by decide))
    · exact h34 (.inl rfl)
    · exact h34 (.inr rfl)
    · clear h34 hlf hls
      cases hm : Tre.mayR l m with
      | false =>
        have h5 : stepT ts p ⟨5, c0, c1, c2, c3, a, b, l, m, z⟩ = none := by
          unfold stepT
          rw [if_neg (by simp), if_pos rfl]
          split
          · rw [if_neg (by simp [hm])]
          · rfl
        exact (startOf_5m c0 c1 c2 c3 a b l m z ao p cap f w hr hpi _ rfl hm).mono fun e w' h => h.st (by rw [h5]; rfl) (fun u r hu => by rw [h5] at hu; cases hu)
      | true =>
        match ts, hsz, hf with
        | [], hsz, hf =>
          have : p = 0 := by rw [← hsz]; rfl
          subst this
          have h5 : stepT [] 0 ⟨5, c0, c1, c2, c3, a, b, l, m, z⟩ = none := by
            unfold stepT
            rw [if_neg (by simp), if_pos rfl]
          exact (startOf_5n c0 c1 c2 c3 a b l m z ao 0 cap f w hr hpi (-1) (by simp [stA]) hm (by omega)).mono fun e w' h => h.st (by rw [h5]; rfl) (fun u r hu => by rw [h5] at hu; cases hu)
        | x :: r, hsz, hf =>
          have sx := x.size_pos
          rw [sizeF_cons] at hsz
          have e1 := hf _ _ (ofF_top x r)
          have g1 : stA f (p - 1) = sizeF r := by
            unfold stA
            rw [if_neg (by omega), show ((p : Int) - 1).toNat = sizeF r + x.size - 1 by omega, e1]; omega
          have e4 : stepT (x :: r) p ⟨5, c0, c1, c2, c3, a, b, l, m, z⟩ = if Nd.eq ⟨5, c0, c1, c2, c3, a, b, l, m, z⟩ ⟨5, 0, 0, 0, 0, p - 1, 0, l, m, z⟩ = true then some (.rep x l m z :: r) else none := by
            unfold stepT
            rw [if_neg (by simp), if_pos rfl]
            simp only [Tre.nd, hm, Bool.true_and]
          have hb : (stepT (x :: r) p ⟨5, c0, c1, c2, c3, a, b, l, m, z⟩).isSome = Nd.eq ⟨5, c0, c1, c2, c3, a, b, l, m, z⟩ ⟨5, 0, 0, 0, 0, p - 1, 0, l, m, z⟩ := by
            rw [e4]
            cases Nd.eq ⟨5, c0, c1, c2, c3, a, b, l, m, z⟩ ⟨5, 0, 0, 0, 0, p - 1, 0, l, m, z⟩ <;> rfl
          exact (startOf_5 c0 c1 c2 c3 a b l m z ao p cap f w hr hpi _ g1.symm hm (by omega)).mono fun e w' h => h.st hb (by
            intro u r' hu
            rw [e4] at hu
            split at hu
            · obtain ⟨rfl, _⟩ := List.cons.inj (Option.some.inj hu)
              simp only [Tre.size]; omega
            · cases hu)
    · exact (startOf_6 c0 c1 c2 c3 a b l m z ao p cap w).mono fun e w' h => h.st (by rw [hls (by decide)]; exact lf_1 (.inr (.inl rfl))) (fun u r => hlf u r (by decide))
    · exact (startOf_7 c0 c1 c2 c3 a b l m z ao p cap w).mono fun e w' h => h.st (by rw [hls (by decide)]; exact lf_1 (.inr (.inr rfl))) (fun u r => hlf u r (by decide))
  · have h5 : stepT ts p n = none := by
      rw [stepT_lf ts p n (by omega), if_neg]
      intro h
      have := lf_kind h
      omega
    obtain ⟨k, c0, c1, c2, c3, a, b, l, m, z⟩ := n
    exact (startOf_no k c0 c1 c2 c3 a b l m z ao p cap w hk).mono fun e w' h => h.st (by rw [h5]; rfl) (fun u r hu => by rw [h5] at hu; cases hu)
end Go.Proofs.YtiiecppkabdkgabDoor
namespace Go.Proofs.YtiiecppkabdkgabDoor
open Go.RowKit
/-- Numbers as cells. -/
def ints (f : Nat → Int) (n : Nat) : List Value := (List.range n).map fun i => Value.int .i64 (f i)
def updI (f : Nat → Int) (i : Nat) (v : Int) : Nat → Int := fun j => if j = i then v else f j
theorem ints_length (f : Nat → Int) (n : Nat) : (ints f n).length = n := by simp [ints]
theorem ints_get (f : Nat → Int) {n i : Nat} (h : i < n) : (ints f n)[i]? = some (.int .i64 (f i)) := by simp [ints, h]
theorem ints_set (f : Nat → Int) (n i : Nat) (v : Int) : (ints f n).set i (.int .i64 v) = ints (updI f i v) n := by
  apply List.ext_getElem?
  intro j
  rw [List.getElem?_set]
  by_cases hj : j < n
  · rw [ints_get _ hj, ints_get _ hj]
    by_cases h : i = j
    · subst h; simp [updI, ints_length, hj]
    · rw [if_neg h]; simp [updI, Ne.symm h]
  · rw [List.getElem?_eq_none (by simp [ints_length]; omega), List.getElem?_eq_none (by simp [ints_length]; omega)]
    by_cases h : i = j
    · rw [if_pos h, if_neg (by simp [ints_length]; omega)]
    · rw [if_neg h]
theorem ints_congr {f g : Nat → Int} {n : Nat} (h : ∀ i, i < n → f i = g i) : ints f n = ints g n := by
  apply List.ext_getElem?
  intro j
  by_cases hj : j < n
  · rw [ints_get _ hj, ints_get _ hj, h j hj]
  · rw [List.getElem?_eq_none (by simp [ints_length]; omega), List.getElem?_eq_none (by simp [ints_length]; omega)]
theorem made_ints (n : Nat) : madeCells #[Value.int .i64 0] n = (ints (fun _ => 0) n).toArray := by
  apply Array.toList_inj.1
  rw [toList_madeCells_one]
  apply List.ext_getElem?
  intro j
  by_cases hj : j < n
  · simp [ints_get _ hj, hj]
  · rw [List.getElem?_eq_none (by simp; omega), List.getElem?_eq_none (by simp [ints_length]; omega)]
theorem rdI_of {w : World} {b n m : Nat} {f : Nat → Int} (h : Cl w b 3 (ints f n)) (hm : m ≤ n) : RdI w (some ⟨b, 0, none⟩) m f := by
  intro _
  refine ⟨b, 0, rfl, h.lt, fun i hi => ?_⟩
  rw [Nat.zero_add]
  exact h.cell i (ints_get f (by omega))
/-- Where a subtree starts. -/
def stF (t : Tre) (p : Nat) : Int := (p : Int) + 1 - ((t.subs[p]?).getD t).size
theorem scan_none {F : Nat → Nd} {k : Nat} (h : scanT F k = none) : ∀ j, k ≤ j → scanT F j = none := by
  intro j hj
  induction j with
  | zero => have : k = 0 := by omega
            subst this; exact h
  | succ j ih =>
    by_cases e : k = j + 1
    · subst e; exact h
    · simp [scanT, ih (by omega)]
/-- What starts answers. -/
def RetSts (w : World) (F : Nat → Nd) (n : Nat) (e : Ending) (w' : World) : Prop :=
  (∃ v, e = .returned (.tuple #[v, .bool (treeOf F n).isSome]) ∧ ∀ t, treeOf F n = some t → ∃ b, v = .slice (some ⟨b, 0, none⟩) n n ∧ w.heap.size ≤ b ∧ Cl w' b 3 (ints (stF t) n)) ∧ Below w.heap.size w w'
theorem slice_to50 (ao : Option Addr) (n cap x : Nat) (hx : x ≤ cap) (w : World) : (Instr.slice 38 (.slice ao n cap) none (some (.int .i64 (x : Nat))) none).run Tryd.prog w = .ok (.slice ao x cap) w := by
  have hxc : (x : Int) ≤ (cap : Int) := by omega
  by_cases h : cap = 0
  · subst h
    obtain rfl : x = 0 := by omega
    simp [go_sem, Tryd.underlying38]
  · simp [go_sem, Tryd.underlying38, hxc, h]
theorem b_int : (Tryd.prog.info? 3).map (fun i => (i.zero, i.size, i.bytes)) = some (some (.int .i64 0), 1, 8) := by kernel_rfl
theorem info_parts {P : Program} {t : TypeId} {z : Value} {s b : Nat} (h : (P.info? t).map (fun i => (i.zero, i.size, i.bytes)) = some (some z, s, b)) : ∃ i, P.info? t = some i ∧ i.zero = some z ∧ i.size = s ∧ i.bytes = b := by
  obtain ⟨i, hi, h⟩ := Option.map_eq_some_iff.1 h
  simp at h
  exact ⟨i, hi, h.1, h.2.1, h.2.2⟩
theorem make_ints (n : Nat) (hn : n ≤ 2048) (w : World) : (Instr.makeSlice 38 (.int .i64 (n : Nat)) (.int .i64 (n : Nat))).run Tryd.prog w = .ok (.slice (some ⟨w.heap.size, 0, none⟩) n n) (w.alloc (.cells (ints (fun _ => 0) n).toArray 3)) := by
  obtain ⟨i, hi, hz, hs, hb⟩ := info_parts b_int
  have := run_make (P := Tryd.prog) w 38 3 i (.int .i64 0) Tryd.underlying38 hi hz .i64 .i64 (n : Int) (n : Int) (by omega) (by omega) (by rw [hb]; omega) (by omega)
  rw [this, hs]
  simp [← made_ints, Value.cells]
set_option maxRecDepth 10000 in
set_option maxHeartbeats 1000000 in
theorem starts_any (ao : Option Addr) (n cap : Nat) (F : Nat → Nd) (w : World) (hr : RdN w ao n F) (hm : (n : Int) ≤ 9223372036854775807) : Calls Tryd.prog 35 #[.slice ao n cap] w (RetSts w F n) := by
  by_cases h0 : n = 0
  · subst h0
    have e : treeOf F 0 = none := by simp [treeOf, scanT]
    have hR : ∀ v, RetSts w F 0 (.returned (.tuple #[v, .bool false])) w := fun v => ⟨⟨v, by rw [e]; rfl, fun t ht => by rw [e] at ht; cases ht⟩, Below.refl _ _⟩
    clear hr
    go_enter Tryd.func35, Tryd.ntmps35
    go_wp2
    go_ret2
    exact hR _
  by_cases h1 : n > 2048
  · have e : treeOf F n = none := by simp [treeOf, h1]
    have hR : ∀ v, RetSts w F n (.returned (.tuple #[v, .bool false])) w := fun v => ⟨⟨v, by rw [e]; rfl, fun t ht => by rw [e] at ht; cases ht⟩, Below.refl _ _⟩
    have hz : ((n : Int) == 0) = false := by simp; omega
    have hg : (n : Int) > 2048 := by omega
    clear hr
    go_enter Tryd.func35, Tryd.ntmps35
    go_wp2
    go_ret2
    exact hR _
  have hz : ((n : Int) == 0) = false := by simp; omega
  have hg : ¬ (n : Int) > 2048 := by omega
  have hmk := make_ints n (by omega)
  have k0 := Cl.new w 3 (ints (fun _ => 0) n)
  have hB0 := below1 w (.cells (ints (fun _ => 0) n).toArray 3)
  go_enter Tryd.func35, Tryd.ntmps35
  go_wp2
  go_loopw [22] (fun i wr => ∃ (k : Nat) (ts : List Tre) (f : Nat → Int), k ≤ n ∧ i = .int .i64 (k : Nat) ∧ scanT F k = some ts ∧ (∀ p u, (ofF ts)[p]? = some u → f p = (p : Int) + 1 - u.size) ∧ Cl wr w.heap.size 3 (ints f n) ∧ Below w.heap.size w wr) (fun i _ => n - (intOf i).toNat)
  case atStart => exact ⟨0, [], fun _ => 0, Nat.zero_le _, rfl, rfl, fun p u h => by simp [ofF] at h, k0, hB0⟩
  case round =>
    obtain ⟨k, ts, f, hk, rfl, hsc, hf, hc, hb⟩ := hrel
    clear k0 hB0 hmk
    by_cases hlt : k < n
    · obtain ⟨bb, off, rfl, hbb, hcs⟩ := hr (by omega)
      obtain ⟨hs1, hs2, hs3⟩ := scanT_inv hsc
      obtain ⟨c0, c1, c2, c3, c4, c5, c6, c7, c8, c9⟩ := hcs k hlt
      rw [← hb.cell (p := ⟨bb, _, none⟩) hbb] at c0 c1 c2 c3 c4 c5 c6 c7 c8 c9
      have hki : (k : Int) < (n : Int) := by omega
      have hsl := slice_to50 (some ⟨w.heap.size, 0, none⟩) n n k (by omega)
      have HS : Hid (∀ W, Below wr.heap.size wr W → Calls Tryd.prog 42 #[ndV (F k), .slice (some ⟨w.heap.size, 0, none⟩) k n] W (RetSt W ts k (F k))) := fun W hW => startOf_any (F k) ts _ k n f W ((rdI_of hc (by omega)).below hW) (by omega) hs1 hf
      have HN : Hid (∀ u r, stepT ts k (F k) = some (u :: r) → scanT F (k + 1) = some (u :: r) ∧ ∀ p v, (ofF (u :: r))[p]? = some v → updI f k ((k : Int) + 1 - u.size) p = (p : Int) + 1 - v.size) := by
        intro u r hu
        have e1 : scanT F (k + 1) = some (u :: r) := by simp only [scanT, hsc]; exact hu
        refine ⟨e1, fun p v hv => ?_⟩
        obtain ⟨g1, g2, u', r', e', g4, g5⟩ := stepT_inv hu hs1 hs2
        obtain ⟨rfl, rfl⟩ := List.cons.inj e'
        rw [g4, List.getElem?_append] at hv
        unfold sizeF at hs1
        split at hv
        · rw [updI, if_neg (by omega)]; exact hf p v hv
        · have : p = k := by
            rcases Nat.lt_or_ge (p - (ofF ts).length) 1 with h | h
            · omega
            · rw [List.getElem?_eq_none (by simpa using h)] at hv; cases hv
          subst this
          simp [hs1] at hv
          subst hv
          simp [updI]
      unfold ndV at HS
      clear hr hcs hs1 hs2 hs3 hf
      cases hst : stepT ts k (F k) with
      | none =>
        have e : treeOf F n = none := by
          have : scanT F (k + 1) = none := by simp only [scanT, hsc]; exact hst
          unfold treeOf
          rw [scan_none this n (by omega)]
          split <;> rfl
        have hR : Hid (∀ v W, Below w.heap.size w W → RetSts w F n (.returned (.tuple #[v, .bool false])) W) := fun v W hW => ⟨⟨v, by rw [e]; rfl, fun t ht => by rw [e] at ht; cases ht⟩, hW⟩
        unfold RetSt at HS
        rw [hst] at HS
        clear hst HN hsc e
        generalize F k = q at *
        go_wp2
        go_region_with (go_at_call 42; refine (HS.out _ ?_).mono ?_; exact (below1 _ _).drew; rintro e W' ⟨⟨s', rfl, _⟩, hb'⟩)
        all_goals
          go_wp2
          go_ret2
          exact hR.out _ _ (hb.trans ((((below1 _ _).drew.trans (hb'.mono (by simp))).mono hb.size)))
      | some ts' =>
        obtain ⟨u, r, rfl⟩ : ∃ u r, ts' = u :: r := by
          obtain ⟨_, _, u, r, h, _⟩ := stepT_inv hst (scanT_inv hsc).1 (scanT_inv hsc).2.1
          exact ⟨u, r, h⟩
        obtain ⟨e1, e2⟩ := HN.out u r hst
        have HX : Hid (∀ W, Cl W w.heap.size 3 (ints (updI f k ((k : Int) + 1 - u.size)) n) → Below w.heap.size w W → ∃ (k' : Nat) (ts : List Tre) (f : Nat → Int), k' ≤ n ∧ (Value.int .i64 ((k : Int) + 1)) = .int .i64 (k' : Nat) ∧ scanT F k' = some ts ∧ (∀ p u, (ofF ts)[p]? = some u → f p = (p : Int) + 1 - u.size) ∧ Cl W w.heap.size 3 (ints f n) ∧ Below w.heap.size w W) := fun W h1 h2 => ⟨k + 1, _, _, hlt, by simp, e1, e2, h1, h2⟩
        unfold RetSt at HS
        rw [hst] at HS
        have HU : Hid (∀ s' : Int, (∀ u1 r1, some (u :: r) = some (u1 :: r1) → s' = (k : Int) + 1 - u1.size) → s' = (k : Int) + 1 - u.size) := fun s' h => h u r rfl
        clear hst HN hsc e1 e2
        generalize F k = q at *
        go_wp2
        go_region_with (go_at_call 42; refine (HS.out _ ?_).mono ?_; exact (below1 _ _).drew; rintro e W' ⟨⟨s', rfl, hs'⟩, hb'⟩; replace hs' := HU.out _ hs')
        all_goals
          have hc' : Cl W' w.heap.size 3 (ints f n) := ((hc.alloc _).drew).below (hb'.mono (by simp))
          have hb2 : Below w.heap.size w W' := hb.trans ((((below1 _ _).drew.trans (hb'.mono (by simp))).mono hb.size))
          have d0 := hc'.cell k (ints_get f hlt)
          have d1 := hc'.frozen k
          have hcx := hc'.set k (.int .i64 ((k : Int) + 1 - u.size))
          rw [ints_set] at hcx
          have hbx := hb2.setCell (p := ⟨w.heap.size, k, none⟩) (Nat.le_refl _) (.int .i64 ((k : Int) + 1 - u.size))
          have HY := HX.out _ hcx hbx
          clear hc hb hc' hb2 hcx hbx HX hb' HS HU c0 c1 c2 c3 c4 c5 c6 c7 c8 c9 hsl
          generalize ((k : Int) + 1 - u.size) = v at *
          subst hs'
          have HZ : Hid _ := HY
          clear HY
          go_wp2
          go_roundw
          case rel => exact HZ.out
          case measure => simp [intOf]; omega
    · obtain rfl : k = n := by omega
      have hki : ¬ (k : Int) < (k : Int) := by omega
      obtain ⟨hs1, hs2, hs3⟩ := scanT_inv hsc
      have d0 := hc.cell (k - 1) (ints_get f (by omega))
      have hR : Hid (∀ W, Cl W w.heap.size 3 (ints f k) → Below w.heap.size w W → RetSts w F k (.returned (.tuple #[.slice (some ⟨w.heap.size, 0, none⟩) k k, .bool (f (k - 1) == 0)])) W) := by
        intro W h1 h2
        have hb0 : (treeOf F k).isSome = (f (k - 1) == 0) := by
          unfold treeOf
          rw [if_neg (by omega), hsc]
          match ts, hs1, hf with
          | [], hs1, hf => exact absurd (show 0 = k from hs1) (by omega)
          | [t], hs1, hf =>
            have e := hf _ _ (ofF_top t [])
            rw [sizeF_cons] at hs1
            rw [hs1] at e
            rw [e]
            have hz : sizeF [] = 0 := rfl
            have := t.size_pos
            simp
            omega
          | t :: y :: r, hs1, hf =>
            have e := hf _ _ (ofF_top t (y :: r))
            rw [sizeF_cons] at hs1
            rw [hs1] at e
            rw [e]
            have h2 := sizeF_cons y r
            have := t.size_pos
            have := y.size_pos
            simp
            omega
        refine ⟨⟨_, by rw [hb0], fun t ht => ⟨_, rfl, Nat.le_refl _, ?_⟩⟩, h2⟩
        have e : ts = [t] := by
          unfold treeOf at ht
          rw [if_neg (by omega), hsc] at ht
          split at ht
          · rename_i t' h'
            rw [Option.some.inj h', Option.some.inj ht]
          · cases ht
        subst e
        have e2 : ofF [t] = t.subs := by simp [ofF]
        rw [e2] at hf
        rw [ints_congr (g := f)]
        · exact h1
        · intro i hi
          have hl : i < t.subs.length := by rw [← e2]; exact (show i < sizeF [t] by omega)
          rw [hf i _ (List.getElem?_eq_getElem hl), stF, List.getElem?_eq_getElem hl]
          rfl
      have hk1 : ((k : Int) - 1).toNat = k - 1 := by omega
      have hk2 : (0 : Int) ≤ (k : Int) - 1 := by omega
      have hk3 : (k : Int) - 1 < (k : Int) := by omega
      clear hs1 hs2 hs3 hsc hf hr
      generalize f (k - 1) = y at *
      go_wp2
      go_quiet (fail)
      go_wp2
      go_ret2
      exact hR.out _ (hc.below (below_drewN (Below.refl _ _) _)) (below_drewN hb _)
end Go.Proofs.YtiiecppkabdkgabDoor
namespace Go.Proofs.YtiiecppkabdkgabDoor
open Go.RowKit
/-- The cells of n nodes. -/
def ndsL (F : Nat → Nd) : Nat → List Value
  | 0 => []
  | n + 1 => ndsL F n ++ ndL (F n)
theorem ndL_len (x : Nd) : (ndL x).length = 10 := rfl
theorem ndsL_len (F : Nat → Nd) : ∀ n, (ndsL F n).length = n * 10
  | 0 => by simp [ndsL]
  | n + 1 => by rw [ndsL, List.length_append, ndsL_len F n, ndL_len]; omega
theorem ndsL_get (F : Nat → Nd) : ∀ (n i j : Nat), i < n → j < 10 → (ndsL F n)[i * 10 + j]? = (ndL (F i))[j]?
  | 0, i, j, h, _ => by omega
  | n + 1, i, j, h, hj => by
    have hl := ndsL_len F n
    rw [ndsL]
    by_cases hi : i < n
    · rw [List.getElem?_append_left (by omega)]; exact ndsL_get F n i j hi hj
    · have : i = n := by omega
      subst this
      rw [List.getElem?_append_right (by omega), hl]
      congr 1; omega
theorem ndsL_congr {F G : Nat → Nd} : ∀ {n : Nat}, (∀ i, i < n → F i = G i) → ndsL F n = ndsL G n
  | 0, _ => rfl
  | n + 1, h => by rw [ndsL, ndsL, ndsL_congr (fun i hi => h i (by omega)), h n (by omega)]
/-- One list of nodes behind another. -/
def catF (n : Nat) (F G : Nat → Nd) : Nat → Nd := fun i => if i < n then F i else G (i - n)
theorem ndsL_cat (n : Nat) (F G : Nat → Nd) : ∀ m, ndsL (catF n F G) (n + m) = ndsL F n ++ ndsL G m
  | 0 => by
    rw [ndsL, List.append_nil]
    exact ndsL_congr fun i hi => by simp only [Nat.add_zero] at hi; simp [catF, hi]
  | m + 1 => by
    rw [← Nat.add_assoc, ndsL, ndsL_cat n F G m, ndsL, List.append_assoc]
    congr 2
    simp only [catF]
    rw [if_neg (by omega), Nat.add_sub_cancel_left]
theorem ndsL_one (x : Nd) : ndsL (fun _ => x) 1 = ndL x := by simp [ndsL]
theorem ndsL_oneCell (F : Nat → Nd) : ∀ n, ∀ u ∈ ndsL F n, u.oneCell' = true
  | 0, u, h => by simp [ndsL] at h
  | n + 1, u, h => by
    rw [ndsL, List.mem_append] at h
    rcases h with h | h
    · exact ndsL_oneCell F n u h
    · simp [ndL] at h
      rcases h with rfl | rfl | rfl | rfl | rfl | rfl | rfl | rfl | rfl | rfl <;> rfl
theorem ten {j : Nat} (h : j < 10) : j = 0 ∨ j = 1 ∨ j = 2 ∨ j = 3 ∨ j = 4 ∨ j = 5 ∨ j = 6 ∨ j = 7 ∨ j = 8 ∨ j = 9 := by omega
/-- All cells of nodes that can be read, by one number. -/
theorem RdN.cells {w : World} {ao : Option Addr} {n : Nat} {F : Nat → Nd} (h : RdN w ao n F) (hn : 0 < n) : ∃ bb off, ao = some ⟨bb, off, none⟩ ∧ bb < w.heap.size ∧ ∀ j u, (ndsL F n)[j]? = some u → w.cell? ⟨bb, off + j, none⟩ = some u := by
  obtain ⟨bb, off, e, hlt, hc⟩ := h hn
  refine ⟨bb, off, e, hlt, fun j u hu => ?_⟩
  have hj := (List.getElem?_eq_some_iff.1 hu).1
  rw [ndsL_len] at hj
  have hd : j = j / 10 * 10 + j % 10 := by omega
  obtain ⟨c0, c1, c2, c3, c4, c5, c6, c7, c8, c9⟩ := hc (j / 10) (by omega)
  rw [hd, ndsL_get F n _ _ (by omega) (by omega)] at hu
  rw [hd, ← Nat.add_assoc]
  rcases ten (show j % 10 < 10 by omega) with e | e | e | e | e | e | e | e | e | e <;> rw [e] at hu ⊢ <;> simp [ndL] at hu <;> subst hu <;> simpa using by assumption
theorem ownsRow_at {W W' : World} {base e size k : Nat} {v : Value} {xs : List Value} (h : W.ownsRow base e size v k xs) (hs : ∀ g, base ≤ g → g < W.heap.size → W'.heap[g]? = W.heap[g]?) : W'.ownsRow base e size v k xs :=
  ⟨h.1, h.2.imp id fun ⟨g, cap, cur, hv, hg, hc, r⟩ => ⟨g, cap, cur, hv, hg, (hs g hg (Array.getElem?_eq_some_iff.1 hc).1).trans hc, r⟩⟩
theorem ownsRow_below {W W' : World} {base e size k : Nat} {v : Value} {xs : List Value} (h : W.ownsRow base e size v k xs) (hb : Below W.heap.size W W') : W'.ownsRow base e size v k xs := ownsRow_at h fun g _ hg => hb.block g hg
theorem ownsRow_own {W : World} {base e size k : Nat} {v : Value} {xs : List Value} (h : W.ownsRow base e size v k xs) : ∀ g, v.ownBlock = some g → base ≤ g := by
  intro g hg
  rcases h.2 with ⟨rfl, _⟩ | ⟨g', cap, cur, rfl, hb, _⟩
  · cases hg
  · simp [Value.ownBlock] at hg; omega
theorem ownsRow_slice {W : World} {base e size k : Nat} {v : Value} {xs : List Value} (h : W.ownsRow base e size v k xs) : ∃ ao cap, v = .slice ao k cap := by
  rcases h.2 with ⟨h, h0⟩ | ⟨g, cap, cur, h, _⟩
  · exact ⟨none, 0, by rw [h, h0]⟩
  · exact ⟨_, cap, h⟩
theorem ownsRow_base {W : World} {base base' e size k : Nat} {v : Value} {xs : List Value} (h : W.ownsRow base e size v k xs) (hb : base' ≤ base) : W.ownsRow base' e size v k xs :=
  ⟨h.1, h.2.imp id fun ⟨g, cap, cur, hv, hg, r⟩ => ⟨g, cap, cur, hv, Nat.le_trans hb hg, r⟩⟩
theorem row_cell {W : World} {base e size n cap : Nat} {ao : Option Addr} {xs : List Value} (h : W.ownsRow base e size (.slice ao n cap) n xs) (hn : 0 < n) :
    ∃ g, ao = some ⟨g, 0, none⟩ ∧ g < W.heap.size ∧ base ≤ g ∧ (∀ j u, xs[j]? = some u → W.cell? ⟨g, j, none⟩ = some u) ∧ ∀ j, W.frozen? ⟨g, j, none⟩ = false := by
  rcases h.2 with ⟨_, h0⟩ | ⟨g, cap', cur, hv, hg, hc, _, _, _, hx⟩
  · omega
  · cases hv
    refine ⟨g, rfl, (Array.getElem?_eq_some_iff.1 hc).1, hg, fun j u hj => ?_, fun j => frozen_of_row W g j cur e hc⟩
    rw [← hx, List.getElem?_take] at hj
    split at hj
    · rw [cell_of_row W g j _ e (0, 0) hc]
      simpa using hj
    · cases hj
/-- Nodes in a block of the call's own. -/
abbrev OwN (w : World) (B : Nat) (ao : Option Addr) (n cap : Nat) (F : Nat → Nd) : Prop := w.ownsRow B 43 10 (.slice ao n cap) n (ndsL F n)
theorem OwN.cells {w : World} {B : Nat} {ao : Option Addr} {n cap : Nat} {F : Nat → Nd} (h : OwN w B ao n cap F) (hn : 0 < n) : ∃ g, ao = some ⟨g, 0, none⟩ ∧ g < w.heap.size ∧ B ≤ g ∧ (∀ i j u, i < n → j < 10 → (ndL (F i))[j]? = some u → w.cell? ⟨g, i * 10 + j, none⟩ = some u) ∧ ∀ j, w.frozen? ⟨g, j, none⟩ = false := by
  obtain ⟨g, e, hl, hB, hc, hf⟩ := row_cell h hn
  exact ⟨g, e, hl, hB, fun i j u hi hj hu => hc _ _ (by rw [ndsL_get F n i j hi hj]; exact hu), hf⟩
theorem OwN.rd {w : World} {B : Nat} {ao : Option Addr} {n cap : Nat} {F : Nat → Nd} (h : OwN w B ao n cap F) : RdN w ao n F := by
  intro hn
  obtain ⟨g, e, hl, _, hc, _⟩ := h.cells hn
  refine ⟨g, 0, e, hl, fun i hi => ?_⟩
  simp only [Nat.zero_add]
  exact ⟨hc i 0 _ hi (by omega) rfl, hc i 1 _ hi (by omega) rfl, hc i 2 _ hi (by omega) rfl, hc i 3 _ hi (by omega) rfl, hc i 4 _ hi (by omega) rfl, hc i 5 _ hi (by omega) rfl, hc i 6 _ hi (by omega) rfl, hc i 7 _ hi (by omega) rfl, hc i 8 _ hi (by omega) rfl, hc i 9 _ hi (by omega) rfl⟩
/-- What a call answers that makes nodes. -/
def RetN (w : World) (n : Nat) (F : Nat → Nd) (e : Ending) (w' : World) : Prop := ∃ ao cap, e = .returned (.slice ao n cap) ∧ OwN w' w.heap.size ao n cap F ∧ Below w.heap.size w w'
theorem b_node : (Tryd.prog.info? 43).map (fun i => (i.zero, i.size, i.bytes)) = some (some (.agg #[.int .i64 0, .int .u64 0, .int .u64 0, .int .u64 0, .int .u64 0, .int .i64 0, .int .i64 0, .int .i64 0, .int .i64 0, .bool false]), 10, 80) := by kernel_rfl
/-- A slice that came: nil, or with an address. -/
def Shp (ao : Option Addr) (n cap : Nat) : Prop := (ao = none ∧ n = 0 ∧ cap = 0) ∨ ∃ a, ao = some a
end Go.Proofs.YtiiecppkabdkgabDoor
