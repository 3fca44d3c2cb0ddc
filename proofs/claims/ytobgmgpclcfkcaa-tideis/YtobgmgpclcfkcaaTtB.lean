/- Ported: TtB. -/
import Derived.Test.YtobgmgpclcfkcaaTtA
namespace Go.Proofs.Ytobgmgpclcfkcaa.T
open Go.RowKit
theorem below2 (w : World) (o o' : Obj) : Below w.heap.size w ((w.alloc o).alloc o') := ((Below.refl _ _).alloc (Nat.le_refl _) _).alloc (by simp) _
theorem below1 (w : World) (o : Obj) : Below w.heap.size w (w.alloc o) := (Below.refl _ _).alloc (Nat.le_refl _) _
/-- A node as a value. -/
def ndV (n : Nd) : Value := .agg #[.int .i64 n.k, .int .u64 n.c0, .int .u64 n.c1, .int .u64 n.c2, .int .u64 n.c3, .int .i64 n.a, .int .i64 n.b, .int .i64 n.l, .int .i64 n.m, .bool n.z]
def ndL (n : Nd) : List Value := [.int .i64 n.k, .int .u64 n.c0, .int .u64 n.c1, .int .u64 n.c2, .int .u64 n.c3, .int .i64 n.a, .int .i64 n.b, .int .i64 n.l, .int .i64 n.m, .bool n.z]
theorem part0 (x y z t : Value) (w : World) : (part 22 #[x, y, z, t] (0 * Try.prog.cellsOf 22)).run Try.prog w = .ok x w := by kernel_rfl
theorem part1 (x y z t : Value) (w : World) : (part 22 #[x, y, z, t] (1 * Try.prog.cellsOf 22)).run Try.prog w = .ok y w := by kernel_rfl
theorem part2 (x y z t : Value) (w : World) : (part 22 #[x, y, z, t] (2 * Try.prog.cellsOf 22)).run Try.prog w = .ok z w := by kernel_rfl
theorem part3 (x y z t : Value) (w : World) : (part 22 #[x, y, z, t] (3 * Try.prog.cellsOf 22)).run Try.prog w = .ok t w := by kernel_rfl
theorem eq25 (m : Nat) (x y : Int) (w : World) : (Op.equalIn (m + 1) 22 (.int .u64 x) (.int .u64 y)).run Try.prog w = .ok (x == y) w := by
  simp [Op.equalIn, run_underlying Try.underlying22]
theorem eql4i (n : Nat) (a b c d a' b' c' d' : Int) (w : World) : (Op.equalIn (n + 1 + 1) 24 (.agg #[.int .u64 a, .int .u64 b, .int .u64 c, .int .u64 d]) (.agg #[.int .u64 a', .int .u64 b', .int .u64 c', .int .u64 d'])).run Try.prog w = .ok (a == a' && b == b' && c == c' && d == d') w := by
  obtain ⟨j, hj, _⟩ := Option.map_eq_some_iff.1 (show (Try.prog.info? 22).map (·.size) = some 1 by kernel_rfl)
  rw [run_equalIn_array w (n + 1) _ _ Try.underlying24 hj, show List.range 4 = [0, 1, 2, 3] from rfl]
  simp only [Op.eqItems, Sem.run_bind, part0, Result.andThen_ok, eq25 n]
  cases a == a'
  · simp only [Bool.not_false, if_true, Sem.run_pure, Bool.false_and]
  simp only [Bool.not_true, Bool.false_eq_true, if_false, Sem.run_bind, part1, Result.andThen_ok, eq25 n, Bool.true_and]
  cases b == b'
  · simp only [Bool.not_false, if_true, Sem.run_pure, Bool.false_and]
  simp only [Bool.not_true, Bool.false_eq_true, if_false, Sem.run_bind, part2, Result.andThen_ok, eq25 n, Bool.true_and]
  cases c == c'
  · simp only [Bool.not_false, if_true, Sem.run_pure, Bool.false_and]
  simp only [Bool.not_true, Bool.false_eq_true, if_false, Sem.run_bind, part3, Result.andThen_ok, eq25 n, Bool.true_and]
  cases d == d'
  · simp only [Bool.not_false, if_true, Sem.run_pure]
  simp only [Bool.not_true, Bool.false_eq_true, if_false, Sem.run_pure]
theorem f29 : Try.prog.fieldsOf 70 = #[{ name := "Kind", type := 3, offset := 0, embedded := false, tag := "", pkgPath := "", byteOffset := 0 }, { name := "Class", type := 24, offset := 1, embedded := false, tag := "", pkgPath := "", byteOffset := 8 }, { name := "A", type := 3, offset := 5, embedded := false, tag := "", pkgPath := "", byteOffset := 40 }, { name := "B", type := 3, offset := 6, embedded := false, tag := "", pkgPath := "", byteOffset := 48 }, { name := "Least", type := 3, offset := 7, embedded := false, tag := "", pkgPath := "", byteOffset := 56 }, { name := "Most", type := 3, offset := 8, embedded := false, tag := "", pkgPath := "", byteOffset := 64 }, { name := "Lazy", type := 4, offset := 9, embedded := false, tag := "", pkgPath := "", byteOffset := 72 }] := by kernel_rfl
theorem equal29 (n m : Nd) (w : World) : (Op.equal 70 (ndV n) (ndV m)).run Try.prog w = .ok (n.eq m) w := by
  unfold ndV Op.equal Op.maxDepth
  rw [run_equalIn_struct w 9999 70 _ _ (by kernel_rfl) (by kernel_rfl), f29]
  have q0 : ∀ (x0 x1 x2 x3 x4 x5 x6 x7 x8 x9 : Value) w, (part 3 #[x0, x1, x2, x3, x4, x5, x6, x7, x8, x9] 0).run Try.prog w = .ok x0 w := fun _ _ _ _ _ _ _ _ _ _ w => by kernel_rfl
  have q2 : ∀ (x0 x1 x2 x3 x4 x5 x6 x7 x8 x9 : Value) w, (part 3 #[x0, x1, x2, x3, x4, x5, x6, x7, x8, x9] 5).run Try.prog w = .ok x5 w := fun _ _ _ _ _ _ _ _ _ _ w => by kernel_rfl
  have q3 : ∀ (x0 x1 x2 x3 x4 x5 x6 x7 x8 x9 : Value) w, (part 3 #[x0, x1, x2, x3, x4, x5, x6, x7, x8, x9] 6).run Try.prog w = .ok x6 w := fun _ _ _ _ _ _ _ _ _ _ w => by kernel_rfl
  have q4 : ∀ (x0 x1 x2 x3 x4 x5 x6 x7 x8 x9 : Value) w, (part 3 #[x0, x1, x2, x3, x4, x5, x6, x7, x8, x9] 7).run Try.prog w = .ok x7 w := fun _ _ _ _ _ _ _ _ _ _ w => by kernel_rfl
  have q5 : ∀ (x0 x1 x2 x3 x4 x5 x6 x7 x8 x9 : Value) w, (part 3 #[x0, x1, x2, x3, x4, x5, x6, x7, x8, x9] 8).run Try.prog w = .ok x8 w := fun _ _ _ _ _ _ _ _ _ _ w => by kernel_rfl
  have q6 : ∀ (x0 x1 x2 x3 x4 x5 x6 x7 x8 x9 : Value) w, (part 4 #[x0, x1, x2, x3, x4, x5, x6, x7, x8, x9] 9).run Try.prog w = .ok x9 w := fun _ _ _ _ _ _ _ _ _ _ w => by kernel_rfl
  have q1 : ∀ (x0 x1 x2 x3 x4 x5 x6 x7 x8 x9 : Value) w, (part 24 #[x0, x1, x2, x3, x4, x5, x6, x7, x8, x9] 1).run Try.prog w = .ok (.agg #[x1, x2, x3, x4]) w := fun _ _ _ _ _ _ _ _ _ _ w => by kernel_rfl
  have e3 : ∀ (x y : Int) w, (Op.equalIn 9999 3 (.int .i64 x) (.int .i64 y)).run Try.prog w = .ok (x == y) w := fun x y w => by
    rw [run_equalIn_int w 9998 3 _ _ _ _ Try.underlying3]
  have e4 : ∀ (x y : Bool) w, (Op.equalIn 9999 4 (.bool x) (.bool y)).run Try.prog w = .ok (x == y) w := fun x y w => by
    rw [run_equalIn_bool' w 9998 4 _ _ Try.underlying4]
  have e27 := eql4i 9997 n.c0 n.c1 n.c2 n.c3 m.c0 m.c1 m.c2 m.c3
  unfold Nd.eq
  generalize (n.c0 == m.c0 && n.c1 == m.c1 && n.c2 == m.c2 && n.c3 == m.c3) = c at *
  cases h1 : (n.k == m.k)
  · simp [Op.eqFields, q0, q2, q3, q4, q5, q6, q1, e3, e4, e27, h1]
  cases c with
  | false => simp [Op.eqFields, q0, q2, q3, q4, q5, q6, q1, e3, e4, e27, h1]
  | true =>
  cases h3 : (n.a == m.a)
  · simp [Op.eqFields, q0, q2, q3, q4, q5, q6, q1, e3, e4, e27, h1, h3]
  cases h4 : (n.b == m.b)
  · simp [Op.eqFields, q0, q2, q3, q4, q5, q6, q1, e3, e4, e27, h1, h3, h4]
  cases h5 : (n.l == m.l)
  · simp [Op.eqFields, q0, q2, q3, q4, q5, q6, q1, e3, e4, e27, h1, h3, h4, h5]
  cases h6 : (n.m == m.m)
  · simp [Op.eqFields, q0, q2, q3, q4, q5, q6, q1, e3, e4, e27, h1, h3, h4, h5, h6]
  cases h7 : (n.z == m.z)
  · simp [Op.eqFields, q0, q2, q3, q4, q5, q6, q1, e3, e4, e27, h1, h3, h4, h5, h6, h7]
  simp [Op.eqFields, q0, q2, q3, q4, q5, q6, q1, e3, e4, e27, h1, h3, h4, h5, h6, h7]
theorem run_eql29 (n m : Nd) (w : World) : (Go.binOp BinOp.eql 70 (ndV n) (ndV m)).run Try.prog w = .ok (.bool (n.eq m)) w := by
  have h := equal29 n m w
  unfold ndV at *
  simp only [binOp]
  simp [h]
theorem run_neq29 (n m : Nd) (w : World) : (Go.binOp BinOp.neq 70 (ndV n) (ndV m)).run Try.prog w = .ok (.bool (!n.eq m)) w := by
  have h := equal29 n m w
  unfold ndV at *
  simp only [binOp]
  simp [h]
/-- A block of cells that may be written. -/
def Cl (w : World) (b : Nat) (t : TypeId) (vs : List Value) : Prop := w.heap[b]? = some (.cells vs.toArray t (0, 0))
section
variable {w w' : World} {b : Nat} {t : TypeId} {vs : List Value}
theorem Cl.lt (h : Cl w b t vs) : b < w.heap.size := (Array.getElem?_eq_some_iff.1 h).1
theorem Cl.new (w : World) (t : TypeId) (vs : List Value) : Cl (w.alloc (.cells vs.toArray t)) w.heap.size t vs := heap_alloc_new w _
theorem Cl.below (h : Cl w b t vs) (hb : Below w.heap.size w w') : Cl w' b t vs := by unfold Cl; rw [hb.block b h.lt]; exact h
theorem Cl.alloc (h : Cl w b t vs) (o : Obj) : Cl (w.alloc o) b t vs := h.below ((Below.refl _ _).alloc (Nat.le_refl _) o)
theorem Cl.drew (h : Cl w b t vs) : Cl w.drew b t vs := h.below (Below.refl _ _).drew
theorem Cl.cell (h : Cl w b t vs) (i : Nat) {v : Value} (hi : vs[i]? = some v) : w.cell? ⟨b, i, none⟩ = some v := by
  rw [cell_of_row w b i _ t (0, 0) h]
  simpa using hi
theorem Cl.frozen (h : Cl w b t vs) (i : Nat) : w.frozen? ⟨b, i, none⟩ = false := frozen_of_row w b i _ t h
theorem Cl.set (h : Cl w b t vs) (i : Nat) (v : Value) : Cl (w.setCell ⟨b, i, none⟩ v) b t (vs.set i v) := by
  have := heap_setCell_same w b i vs.toArray t v h
  simpa [Cl] using this
theorem Cl.other (h : Cl w b t vs) {k : Nat} (hk : k ≠ b) (i : Nat) (v : Value) : Cl (w.setCell ⟨k, i, none⟩ v) b t vs := by
  unfold Cl at *
  rw [Below.heap_setCell _ _ _ _ (Ne.symm hk)]
  exact h
/-- The ten cells of a node. -/
theorem Cl.ten {x0 x1 x2 x3 x4 x5 x6 x7 x8 x9 : Value} (h : Cl w b t [x0, x1, x2, x3, x4, x5, x6, x7, x8, x9]) : (w.cell? ⟨b, 0, none⟩ = some x0 ∧ w.cell? ⟨b, 1, none⟩ = some x1 ∧ w.cell? ⟨b, 2, none⟩ = some x2 ∧ w.cell? ⟨b, 3, none⟩ = some x3 ∧ w.cell? ⟨b, 4, none⟩ = some x4 ∧ w.cell? ⟨b, 5, none⟩ = some x5 ∧ w.cell? ⟨b, 6, none⟩ = some x6 ∧ w.cell? ⟨b, 7, none⟩ = some x7 ∧ w.cell? ⟨b, 8, none⟩ = some x8 ∧ w.cell? ⟨b, 9, none⟩ = some x9) ∧ (w.frozen? ⟨b, 0, none⟩ = false ∧ w.frozen? ⟨b, 1, none⟩ = false ∧ w.frozen? ⟨b, 2, none⟩ = false ∧ w.frozen? ⟨b, 3, none⟩ = false ∧ w.frozen? ⟨b, 4, none⟩ = false ∧ w.frozen? ⟨b, 5, none⟩ = false ∧ w.frozen? ⟨b, 6, none⟩ = false ∧ w.frozen? ⟨b, 7, none⟩ = false ∧ w.frozen? ⟨b, 8, none⟩ = false ∧ w.frozen? ⟨b, 9, none⟩ = false) :=
  ⟨⟨h.cell 0 rfl, h.cell 1 rfl, h.cell 2 rfl, h.cell 3 rfl, h.cell 4 rfl, h.cell 5 rfl, h.cell 6 rfl, h.cell 7 rfl, h.cell 8 rfl, h.cell 9 rfl⟩, h.frozen 0, h.frozen 1, h.frozen 2, h.frozen 3, h.frozen 4, h.frozen 5, h.frozen 6, h.frozen 7, h.frozen 8, h.frozen 9⟩
theorem Cl.one {x0 : Value} (h : Cl w b t [x0]) : w.cell? ⟨b, 0, none⟩ = some x0 ∧ w.frozen? ⟨b, 0, none⟩ = false := ⟨h.cell 0 rfl, h.frozen 0⟩
theorem Cl.two {x0 x1 : Value} (h : Cl w b t [x0, x1]) : (w.cell? ⟨b, 0, none⟩ = some x0 ∧ w.cell? ⟨b, 1, none⟩ = some x1) ∧ w.frozen? ⟨b, 0, none⟩ = false ∧ w.frozen? ⟨b, 1, none⟩ = false := ⟨⟨h.cell 0 rfl, h.cell 1 rfl⟩, h.frozen 0, h.frozen 1⟩
end
/-- The cells of a slice of nodes can be read. -/
def RdN (w : World) (ao : Option Addr) (n : Nat) (F : Nat → Nd) : Prop := 0 < n → ∃ bb off, ao = some ⟨bb, off, none⟩ ∧ bb < w.heap.size ∧ ∀ i, i < n → w.cell? ⟨bb, off + i * 10, none⟩ = some (.int .i64 (F i).k) ∧ w.cell? ⟨bb, off + i * 10 + 1, none⟩ = some (.int .u64 (F i).c0) ∧ w.cell? ⟨bb, off + i * 10 + 2, none⟩ = some (.int .u64 (F i).c1) ∧ w.cell? ⟨bb, off + i * 10 + 3, none⟩ = some (.int .u64 (F i).c2) ∧ w.cell? ⟨bb, off + i * 10 + 4, none⟩ = some (.int .u64 (F i).c3) ∧ w.cell? ⟨bb, off + i * 10 + 5, none⟩ = some (.int .i64 (F i).a) ∧ w.cell? ⟨bb, off + i * 10 + 6, none⟩ = some (.int .i64 (F i).b) ∧ w.cell? ⟨bb, off + i * 10 + 7, none⟩ = some (.int .i64 (F i).l) ∧ w.cell? ⟨bb, off + i * 10 + 8, none⟩ = some (.int .i64 (F i).m) ∧ w.cell? ⟨bb, off + i * 10 + 9, none⟩ = some (.bool (F i).z)
theorem RdN.below {w w' : World} {ao : Option Addr} {n : Nat} {F : Nat → Nd} (h : RdN w ao n F) (hb : Below w.heap.size w w') : RdN w' ao n F := by
  intro hn
  obtain ⟨bb, off, e, hlt, hc⟩ := h hn
  refine ⟨bb, off, e, Nat.lt_of_lt_of_le hlt hb.size, fun i hi => ?_⟩
  have := hc i hi
  simpa only [hb.cell (p := ⟨bb, _, none⟩) hlt] using this
theorem RdN.congr {w : World} {ao : Option Addr} {n : Nat} {F G : Nat → Nd} (h : RdN w ao n F) (e : ∀ i, i < n → F i = G i) : RdN w ao n G := by
  intro hn
  obtain ⟨bb, off, ea, hlt, hc⟩ := h hn
  exact ⟨bb, off, ea, hlt, fun i hi => by rw [← e i hi]; exact hc i hi⟩
/-- The cells of a slice of numbers can be read. -/
def RdI (w : World) (ao : Option Addr) (n : Nat) (f : Nat → Int) : Prop := 0 < n → ∃ bb off, ao = some ⟨bb, off, none⟩ ∧ bb < w.heap.size ∧ ∀ i, i < n → w.cell? ⟨bb, off + i, none⟩ = some (.int .i64 (f i))
theorem RdI.below {w w' : World} {ao : Option Addr} {n : Nat} {f : Nat → Int} (h : RdI w ao n f) (hb : Below w.heap.size w w') : RdI w' ao n f := by
  intro hn
  obtain ⟨bb, off, e, hlt, hc⟩ := h hn
  refine ⟨bb, off, e, Nat.lt_of_lt_of_le hlt hb.size, fun i hi => ?_⟩
  rw [hb.cell (p := ⟨bb, _, none⟩) hlt]
  exact hc i hi
/-- Where the subtree of a place starts; below 0 where there is no place. -/
def stA (f : Nat → Int) (x : Int) : Int := if x < 0 then -1 else f x.toNat
set_option maxHeartbeats 400000 in
theorem startAt_any (ao : Option Addr) (n cap : Nat) (f : Nat → Int) (x : Int) (w : World) (hr : RdI w ao n f) (hx : x < n) : Calls Try.prog 74 #[.slice ao n cap, .int .i64 x] w fun e w' => e = .returned (.int .i64 (stA f x)) ∧ w' = w := by
  by_cases h : x < 0
  · have e : stA f x = -1 := by simp [stA, h]
    rw [e]
    clear hr
    go_enter Try.func74, Try.ntmps74
    go_wp2
    go_ret
    exact ⟨rfl, rfl⟩
  · have e : stA f x = f x.toNat := by simp [stA, h]
    rw [e]
    obtain ⟨k, rfl⟩ : ∃ k : Nat, x = (k : Int) := ⟨x.toNat, by omega⟩
    obtain ⟨bb, off, rfl, _, hc⟩ := hr (by omega)
    have hk := hc k (by omega)
    have hkn : k < n := by omega
    rw [Int.toNat_natCast]
    generalize f k = y at *
    clear hc hr e
    go_enter Try.func74, Try.ntmps74
    go_wp2
    go_ret
    exact ⟨rfl, rfl⟩
set_option maxHeartbeats 400000 in
theorem mayRepeat_any (l m : Int) (w : World) : Calls Try.prog 75 #[.int .i64 l, .int .i64 m] w fun e w' => e = .returned (.bool (Tre.mayR l m)) ∧ w' = w := by
  by_cases h : m = -1
  · subst h
    by_cases h0 : 0 ≤ l
    · by_cases h1 : l ≤ 1000
      · have e : Tre.mayR l (-1) = true := by simp [Tre.mayR, h0, h1]
        rw [e]
        go_enter Try.func75, Try.ntmps75
        go_wp2
        go_ret
        exact ⟨rfl, rfl⟩
      · have e : Tre.mayR l (-1) = false := by simp [Tre.mayR, h1]
        rw [e]
        go_enter Try.func75, Try.ntmps75
        go_wp2
        go_ret
        exact ⟨rfl, rfl⟩
    · have e : Tre.mayR l (-1) = false := by simp [Tre.mayR, h0]
      rw [e]
      go_enter Try.func75, Try.ntmps75
      go_wp2
      go_ret
      exact ⟨rfl, rfl⟩
  · have hm : (m == -1) = false := by simpa using h
    by_cases h0 : 0 ≤ l
    · by_cases h1 : l ≤ m
      · by_cases h2 : m ≤ 1000
        · have e : Tre.mayR l m = true := by simp [Tre.mayR, h0, h1, h2]; omega
          rw [e]
          go_enter Try.func75, Try.ntmps75
          go_wp2
          go_ret
          exact ⟨rfl, rfl⟩
        · have e : Tre.mayR l m = false := by simp [Tre.mayR, h2, h]
          rw [e]
          go_enter Try.func75, Try.ntmps75
          go_wp2
          go_ret
          exact ⟨rfl, rfl⟩
      · have e : Tre.mayR l m = false := by simp [Tre.mayR, h1, h]
        rw [e]
        go_enter Try.func75, Try.ntmps75
        go_wp2
        go_ret
        exact ⟨rfl, rfl⟩
    · have e : Tre.mayR l m = false := by simp [Tre.mayR, h0]
      rw [e]
      go_enter Try.func75, Try.ntmps75
      go_wp2
      go_ret
      exact ⟨rfl, rfl⟩
end Go.Proofs.Ytobgmgpclcfkcaa.T
