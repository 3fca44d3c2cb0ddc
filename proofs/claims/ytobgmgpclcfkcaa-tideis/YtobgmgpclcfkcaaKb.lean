/- Tides and their states as values and in memory; held against each other; Check, CheckState, New, of the program and of the reference: the walks. -/
import Derived.Test.YtobgmgpclcfkcaaKa
import Derived.ChangeKeysEq
import Derived.Laws.StructEq
namespace Go.Proofs.Ytobgmgpclcfkcaa
open Go.RowKit Go.Shelf
theorem part0 (x y z t : Value) (w : World) : (part 22 #[x, y, z, t] (0 * Try.prog.cellsOf 22)).run Try.prog w = .ok x w := by kernel_rfl
theorem part1 (x y z t : Value) (w : World) : (part 22 #[x, y, z, t] (1 * Try.prog.cellsOf 22)).run Try.prog w = .ok y w := by kernel_rfl
theorem part2 (x y z t : Value) (w : World) : (part 22 #[x, y, z, t] (2 * Try.prog.cellsOf 22)).run Try.prog w = .ok z w := by kernel_rfl
theorem part3 (x y z t : Value) (w : World) : (part 22 #[x, y, z, t] (3 * Try.prog.cellsOf 22)).run Try.prog w = .ok t w := by kernel_rfl
theorem eq22 (m : Nat) (x y : Int) (w : World) : (Op.equalIn (m + 1) 22 (.int .u64 x) (.int .u64 y)).run Try.prog w = .ok (x == y) w := by
  simp [Op.equalIn, run_underlying Try.underlying22]
theorem eql4i (n : Nat) (a b c d a' b' c' d' : Int) (w : World) : (Op.equalIn (n + 1 + 1) 24 (.agg #[.int .u64 a, .int .u64 b, .int .u64 c, .int .u64 d]) (.agg #[.int .u64 a', .int .u64 b', .int .u64 c', .int .u64 d'])).run Try.prog w = .ok (a == a' && b == b' && c == c' && d == d') w := by
  obtain ⟨j, hj, _⟩ := Option.map_eq_some_iff.1 (show (Try.prog.info? 22).map (·.size) = some 1 by kernel_rfl)
  rw [run_equalIn_array w (n + 1) _ _ Try.underlying24 hj, show List.range 4 = [0, 1, 2, 3] from rfl]
  simp only [Op.eqItems, Sem.run_bind, part0, Result.andThen_ok, eq22 n]
  cases a == a'
  · simp only [Bool.not_false, if_true, Sem.run_pure, Bool.false_and]
  simp only [Bool.not_true, Bool.false_eq_true, if_false, Sem.run_bind, part1, Result.andThen_ok, eq22 n, Bool.true_and]
  cases b == b'
  · simp only [Bool.not_false, if_true, Sem.run_pure, Bool.false_and]
  simp only [Bool.not_true, Bool.false_eq_true, if_false, Sem.run_bind, part2, Result.andThen_ok, eq22 n, Bool.true_and]
  cases c == c'
  · simp only [Bool.not_false, if_true, Sem.run_pure, Bool.false_and]
  simp only [Bool.not_true, Bool.false_eq_true, if_false, Sem.run_bind, part3, Result.andThen_ok, eq22 n, Bool.true_and]
  cases d == d'
  · simp only [Bool.not_false, if_true, Sem.run_pure]
  simp only [Bool.not_true, Bool.false_eq_true, if_false, Sem.run_pure]
/-- Two classes held against each other. -/
theorem eql4 (a b c d a' b' c' d' : Int) (w : World) : (Go.binOp .eql 24 (.agg #[.int .u64 a, .int .u64 b, .int .u64 c, .int .u64 d]) (.agg #[.int .u64 a', .int .u64 b', .int .u64 c', .int .u64 d'])).run Try.prog w = .ok (.bool (a == a' && b == b' && c == c' && d == d')) w := by
  have h := eql4i 9998 a b c d a' b' c' d' w
  simp only [binOp]
  simp only [Op.equal, Op.maxDepth, Sem.run_bind, h, Result.andThen_ok]
  simp
theorem f28 : Try.prog.fieldsOf 28 = #[{ name := "Age", type := 3, offset := 0, embedded := false, tag := "", pkgPath := "", byteOffset := 0 }] := by kernel_rfl
/-- A state as a value. -/
@[reducible] def stV (g : Int) : Value := .agg #[.int .i64 g]
theorem equal28 (g h : Int) (w : World) : (Op.equal 28 (stV g) (stV h)).run Try.prog w = .ok (g == h) w := by
  unfold Op.equal Op.maxDepth
  rw [run_equalIn_struct w 9999 28 _ _ (by kernel_rfl) (by kernel_rfl), f28]
  have q0 : ∀ (x0 : Value) w, (part 3 #[x0] 0).run Try.prog w = .ok x0 w := fun _ w => by kernel_rfl
  have e3 : ∀ (x y : Int) w, (Op.equalIn 9999 3 (.int .i64 x) (.int .i64 y)).run Try.prog w = .ok (x == y) w := fun x y w => by
    rw [run_equalIn_int w 9998 3 _ _ _ _ Try.underlying3]
  cases h1 : (g == h)
  · simp [Op.eqFields, q0, e3, h1]
  · simp [Op.eqFields, q0, e3, h1]
theorem eql28 (g h : Int) (w : World) : (Go.binOp BinOp.eql 28 (.agg #[.int .i64 g]) (.agg #[.int .i64 h])).run Try.prog w = .ok (.bool (g == h)) w := by
  have h := equal28 g h w
  simp only [binOp]
  simp [h]
theorem neq28 (g h : Int) (w : World) : (Go.binOp BinOp.neq 28 (.agg #[.int .i64 g]) (.agg #[.int .i64 h])).run Try.prog w = .ok (.bool (!(g == h))) w := by
  have h := equal28 g h w
  simp only [binOp]
  simp [h]
/-- A tide as a value. -/
@[reducible] def tdV (a b c d : Nat) (lo : Int) : Value := .agg #[.int .u64 (a : Nat), .int .u64 (b : Nat), .int .u64 (c : Nat), .int .u64 (d : Nat), .int .i64 lo]
def TdAt (w : World) (p a b c d : Nat) (lo : Int) : Prop := Cl w p 26 [.int .u64 (a : Nat), .int .u64 (b : Nat), .int .u64 (c : Nat), .int .u64 (d : Nat), .int .i64 lo]
def StAt (w : World) (p : Nat) (g : Int) : Prop := Cl w p 28 [.int .i64 g]
@[reducible] def tdO (a b c d : Nat) (lo : Int) : Obj := .cells #[.int .u64 (a : Nat), .int .u64 (b : Nat), .int .u64 (c : Nat), .int .u64 (d : Nat), .int .i64 lo] 26
@[reducible] def stO (g : Int) : Obj := .cells #[.int .i64 g] 28
section
variable {w w' : World} {p a b c d : Nat} {lo g : Int}
theorem TdAt.cells (h : TdAt w p a b c d lo) : (w.cell? ⟨p, 0, none⟩ = some (.int .u64 (a : Nat)) ∧ w.cell? ⟨p, 1, none⟩ = some (.int .u64 (b : Nat)) ∧ w.cell? ⟨p, 2, none⟩ = some (.int .u64 (c : Nat)) ∧ w.cell? ⟨p, 3, none⟩ = some (.int .u64 (d : Nat)) ∧ w.cell? ⟨p, 4, none⟩ = some (.int .i64 lo)) ∧
    w.frozen? ⟨p, 0, none⟩ = false ∧ w.frozen? ⟨p, 1, none⟩ = false ∧ w.frozen? ⟨p, 2, none⟩ = false ∧ w.frozen? ⟨p, 3, none⟩ = false ∧ w.frozen? ⟨p, 4, none⟩ = false :=
  ⟨⟨Cl.cell h 0 rfl, Cl.cell h 1 rfl, Cl.cell h 2 rfl, Cl.cell h 3 rfl, Cl.cell h 4 rfl⟩, Cl.frozen h 0, Cl.frozen h 1, Cl.frozen h 2, Cl.frozen h 3, Cl.frozen h 4⟩
theorem StAt.cells (h : StAt w p g) : w.cell? ⟨p, 0, none⟩ = some (.int .i64 g) ∧ w.frozen? ⟨p, 0, none⟩ = false := ⟨Cl.cell h 0 rfl, Cl.frozen h 0⟩
theorem TdAt.below (h : TdAt w p a b c d lo) (hb : Below w.heap.size w w') : TdAt w' p a b c d lo := Cl.below h hb
theorem StAt.below (h : StAt w p g) (hb : Below w.heap.size w w') : StAt w' p g := Cl.below h hb
theorem TdAt.alloc (h : TdAt w p a b c d lo) (o : Obj) : TdAt (w.alloc o) p a b c d lo := Cl.alloc h o
theorem StAt.alloc (h : StAt w p g) (o : Obj) : StAt (w.alloc o) p g := Cl.alloc h o
theorem TdAt.lt (h : TdAt w p a b c d lo) : p < w.heap.size := Cl.lt h
theorem StAt.lt (h : StAt w p g) : p < w.heap.size := Cl.lt h
theorem TdAt.new (w : World) (a b c d : Nat) (lo : Int) : TdAt (w.alloc (tdO a b c d lo)) w.heap.size a b c d lo := Cl.new w 26 [.int .u64 (a : Nat), .int .u64 (b : Nat), .int .u64 (c : Nat), .int .u64 (d : Nat), .int .i64 lo]
theorem StAt.new (w : World) (g : Int) : StAt (w.alloc (stO g)) w.heap.size g := Cl.new w 28 [.int .i64 g]
theorem StAt.set (h : StAt w p g) (g' : Int) : StAt (w.setCell ⟨p, 0, none⟩ (.int .i64 g')) p g' := Cl.set h 0 _
theorem TdAt.other (h : TdAt w p a b c d lo) {k : Nat} (hk : k ≠ p) (i : Nat) (v : Value) : TdAt (w.setCell ⟨k, i, none⟩ v) p a b c d lo := Cl.other h hk i v
theorem StAt.other (h : StAt w p g) {k : Nat} (hk : k ≠ p) (i : Nat) (v : Value) : StAt (w.setCell ⟨k, i, none⟩ v) p g := Cl.other h hk i v
end
/-- A tide put into its cells. -/
def putT (w : World) (p a b c d : Nat) (lo : Int) : World := ((((w.setCell ⟨p, 0, none⟩ (.int .u64 (a : Nat))).setCell ⟨p, 1, none⟩ (.int .u64 (b : Nat))).setCell ⟨p, 2, none⟩ (.int .u64 (c : Nat))).setCell ⟨p, 3, none⟩ (.int .u64 (d : Nat))).setCell ⟨p, 4, none⟩ (.int .i64 lo)
theorem TdAt.put {w : World} {p a b c d a' b' c' d' : Nat} {lo lo' : Int} (h : TdAt w p a b c d lo) : TdAt (putT w p a' b' c' d' lo') p a' b' c' d' lo' := ((((Cl.set h 0 _).set 1 _).set 2 _).set 3 _).set 4 _
theorem below_putT {B : Nat} {w w' : World} {p a b c d : Nat} {lo : Int} (h : Below B w w') (hp : B ≤ p) : Below B w (putT w' p a b c d lo) := ((((h.setCell (p := ⟨p, 0, none⟩) hp _).setCell (p := ⟨p, 1, none⟩) hp _).setCell (p := ⟨p, 2, none⟩) hp _).setCell (p := ⟨p, 3, none⟩) hp _).setCell (p := ⟨p, 4, none⟩) hp _
theorem Cl.putT {w : World} {k p a b c d : Nat} {t : TypeId} {vs : List Value} {lo : Int} (h : Cl w k t vs) (hk : p ≠ k) : Cl (Ytobgmgpclcfkcaa.putT w p a b c d lo) k t vs := ((((h.other hk 0 _).other hk 1 _).other hk 2 _).other hk 3 _).other hk 4 _
theorem StAt.putT {w : World} {k p a b c d : Nat} {lo g : Int} (h : StAt w k g) (hk : p ≠ k) : StAt (Ytobgmgpclcfkcaa.putT w p a b c d lo) k g := Cl.putT h hk
/-- What Check lets by. -/
def okT (a b c d : Nat) (lo : Int) : Bool := !((a : Int) == 0 && (b : Int) == 0 && (c : Int) == 0 && (d : Int) == 0) && decide (0 ≤ lo) && decide (lo ≤ 1000)
set_option maxHeartbeats 1000000 in
theorem check_t (a b c d : Nat) (lo : Int) (w : World) : Calls Try.prog 10 #[tdV a b c d lo] w fun e w' => e = .returned (.int .i64 (if okT a b c d lo = true then 0 else 1)) ∧ Below w.heap.size w w' := by
  have hB : Below w.heap.size w (w.alloc (tdO a b c d lo)) := (Below.refl _ _).alloc (Nat.le_refl _) _
  have e4 := eql4 a b c d 0 0 0 0
  unfold okT
  unfold tdO at hB
  unfold tdV
  cases hz : ((a : Int) == 0 && (b : Int) == 0 && (c : Int) == 0 && (d : Int) == 0) with
  | true =>
    rw [hz] at e4
    clear hz
    go_enter Try.func10, Try.ntmps10
    go_wp2
    go_ret
    exact ⟨rfl, hB⟩
  | false =>
    rw [hz] at e4
    clear hz
    by_cases h1 : lo < 0
    · rw [decide_eq_false (p := 0 ≤ lo) (by omega)]
      go_enter Try.func10, Try.ntmps10
      go_wp2
      go_ret
      exact ⟨rfl, hB⟩
    · rw [decide_eq_true (p := 0 ≤ lo) (by omega)]
      by_cases h2 : 1000 < lo
      · rw [decide_eq_false (p := lo ≤ 1000) (by omega)]
        go_enter Try.func10, Try.ntmps10
        go_wp2
        go_ret
        exact ⟨rfl, hB⟩
      · rw [decide_eq_true (p := lo ≤ 1000) (by omega)]
        go_enter Try.func10, Try.ntmps10
        go_wp2
        go_ret
        exact ⟨rfl, hB⟩
end Go.Proofs.Ytobgmgpclcfkcaa
