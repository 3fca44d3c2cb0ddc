/- Of, of the program and of the reference: the walks. -/
import Derived.Test.YtobgmgpclcfkcaaTe
import Derived.Test.YtobgmgpclcfkcaaGs
import Derived.Deep.RegionHeld3
import Derived.Deep.DeepCutAuto
namespace Go.Proofs.Ytobgmgpclcfkcaa
open Go.RowKit Go.Shelf
theorem eql26 (a b c d a' b' c' d' : Nat) (lo lo' : Int) (w : World) : (Go.binOp BinOp.neq 26 (tdV a b c d lo) (tdV a' b' c' d' lo')).run Try.prog w = .ok (.bool (!(((a : Int) == a' && (b : Int) == b' && (c : Int) == c' && (d : Int) == d') && lo == lo'))) w := by
  have hf : Try.prog.fieldsOf 26 = #[{ name := "Class", type := 24, offset := 0, embedded := false, tag := "", pkgPath := "", byteOffset := 0 }, { name := "Least", type := 3, offset := 4, embedded := false, tag := "", pkgPath := "", byteOffset := 32 }] := by kernel_rfl
  have h : (Op.equal 26 (tdV a b c d lo) (tdV a' b' c' d' lo')).run Try.prog w = .ok (((a : Int) == a' && (b : Int) == b' && (c : Int) == c' && (d : Int) == d') && lo == lo') w := by
    unfold Op.equal Op.maxDepth
    rw [run_equalIn_struct w 9999 26 _ _ (by kernel_rfl) (by kernel_rfl), hf]
    have q0 : ∀ (x0 x1 x2 x3 x4 : Value) w, (part 24 #[x0, x1, x2, x3, x4] 0).run Try.prog w = .ok (.agg #[x0, x1, x2, x3]) w := fun _ _ _ _ _ w => by kernel_rfl
    have q1 : ∀ (x0 x1 x2 x3 x4 : Value) w, (part 3 #[x0, x1, x2, x3, x4] 4).run Try.prog w = .ok x4 w := fun _ _ _ _ _ w => by kernel_rfl
    have e3 : ∀ (x y : Int) w, (Op.equalIn 9999 3 (.int .i64 x) (.int .i64 y)).run Try.prog w = .ok (x == y) w := fun x y w => by
      rw [run_equalIn_int w 9998 3 _ _ _ _ Try.underlying3]
    have e24 := eql4i 9997 a b c d a' b' c' d'
    generalize ((a : Int) == a' && (b : Int) == b' && (c : Int) == c' && (d : Int) == d') = C at *
    cases C with
    | false => simp [Op.eqFields, q0, q1, e3, e24]
    | true =>
    cases h5 : (lo == lo')
    · simp [Op.eqFields, q0, q1, e3, e24, h5]
    simp [Op.eqFields, q0, q1, e3, e24, h5]
  simp only [binOp]
  simp [h]
/-- Two nodes side by side. -/
structure Nd2 (W : World) (bb off : Nat) (x0 : Int) (a b c d : Nat) (x5 x6 x7 x8 : Int) (x9 : Bool) (y0 y1 y2 y3 y4 y5 y6 y7 y8 : Int) (y9 : Bool) : Prop where
  lt : bb < W.heap.size
  cx : W.cell? ⟨bb, off, none⟩ = some (.int .i64 x0) ∧ W.cell? ⟨bb, off + 1, none⟩ = some (.int .u64 ((a : Nat) : Int)) ∧ W.cell? ⟨bb, off + 2, none⟩ = some (.int .u64 ((b : Nat) : Int)) ∧ W.cell? ⟨bb, off + 3, none⟩ = some (.int .u64 ((c : Nat) : Int)) ∧ W.cell? ⟨bb, off + 4, none⟩ = some (.int .u64 ((d : Nat) : Int)) ∧ W.cell? ⟨bb, off + 5, none⟩ = some (.int .i64 x5) ∧ W.cell? ⟨bb, off + 6, none⟩ = some (.int .i64 x6) ∧ W.cell? ⟨bb, off + 7, none⟩ = some (.int .i64 x7) ∧ W.cell? ⟨bb, off + 8, none⟩ = some (.int .i64 x8) ∧ W.cell? ⟨bb, off + 9, none⟩ = some (.bool x9)
  cy : W.cell? ⟨bb, off + 10, none⟩ = some (.int .i64 y0) ∧ W.cell? ⟨bb, off + 11, none⟩ = some (.int .u64 y1) ∧ W.cell? ⟨bb, off + 12, none⟩ = some (.int .u64 y2) ∧ W.cell? ⟨bb, off + 13, none⟩ = some (.int .u64 y3) ∧ W.cell? ⟨bb, off + 14, none⟩ = some (.int .u64 y4) ∧ W.cell? ⟨bb, off + 15, none⟩ = some (.int .i64 y5) ∧ W.cell? ⟨bb, off + 16, none⟩ = some (.int .i64 y6) ∧ W.cell? ⟨bb, off + 17, none⟩ = some (.int .i64 y7) ∧ W.cell? ⟨bb, off + 18, none⟩ = some (.int .i64 y8) ∧ W.cell? ⟨bb, off + 19, none⟩ = some (.bool y9)
theorem Nd2.below {W W' : World} {bb off : Nat} {x0  : Int} {a b c d : Nat} {x5 x6 x7 x8 : Int} {x9 : Bool} {y0 y1 y2 y3 y4 y5 y6 y7 y8 : Int} {y9 : Bool} (h : Nd2 W bb off x0 a b c d x5 x6 x7 x8 x9 y0 y1 y2 y3 y4 y5 y6 y7 y8 y9) (hb : Below W.heap.size W W') : Nd2 W' bb off x0 a b c d x5 x6 x7 x8 x9 y0 y1 y2 y3 y4 y5 y6 y7 y8 y9 := by
  have e : ∀ o, W'.cell? ⟨bb, o, none⟩ = W.cell? ⟨bb, o, none⟩ := fun o => hb.cell (p := ⟨bb, o, none⟩) h.lt
  refine ⟨Nat.lt_of_lt_of_le h.lt hb.size, ?_, ?_⟩
  · simp only [e]; exact h.cx
  · simp only [e]; exact h.cy
/-- The two nodes. -/
def ndX (x0 : Int) (a b c d : Nat) (x5 x6 x7 x8 : Int) (x9 : Bool) : T.Nd := ⟨x0, a, b, c, d, x5, x6, x7, x8, x9⟩
def ndY (y0 y1 y2 y3 y4 y5 y6 y7 y8 : Int) (y9 : Bool) : T.Nd := ⟨y0, y1, y2, y3, y4, y5, y6, y7, y8, y9⟩
/-- Two nodes, one behind the other. -/
def two2 (p q : T.Nd) (i : Nat) : T.Nd := if i = 0 then p else q
theorem Nd2.rd {W : World} {bb off : Nat} {x0  : Int} {a b c d : Nat} {x5 x6 x7 x8 : Int} {x9 : Bool} {y0 y1 y2 y3 y4 y5 y6 y7 y8 : Int} {y9 : Bool} (h : Nd2 W bb off x0 a b c d x5 x6 x7 x8 x9 y0 y1 y2 y3 y4 y5 y6 y7 y8 y9) : T.RdN W (some ⟨bb, off, none⟩) 2 (two2 (ndX x0 a b c d x5 x6 x7 x8 x9) (ndY y0 y1 y2 y3 y4 y5 y6 y7 y8 y9)) := fun _ => by
  refine ⟨bb, off, rfl, h.lt, fun i hi => ?_⟩
  obtain rfl | rfl : i = 0 ∨ i = 1 := by omega
  · simpa [two2, ndX] using h.cx
  · simpa [two2, ndY, Nat.add_assoc] using h.cy
theorem Nd2.of {W : World} {xo : Option Addr} {F : Nat → T.Nd} {x0 : Int} {a b c d : Nat} {x5 x6 x7 x8 : Int} {x9 : Bool} {y0 y1 y2 y3 y4 y5 y6 y7 y8 : Int} {y9 : Bool} (h : T.RdN W xo 2 F) (h0 : F 0 = ndX x0 a b c d x5 x6 x7 x8 x9) (h1 : F 1 = ndY y0 y1 y2 y3 y4 y5 y6 y7 y8 y9) : ∃ bb off, xo = some ⟨bb, off, none⟩ ∧ Nd2 W bb off x0 a b c d x5 x6 x7 x8 x9 y0 y1 y2 y3 y4 y5 y6 y7 y8 y9 := by
  obtain ⟨bb, off, e, hlt, hc⟩ := h (by decide)
  have g0 := hc 0 (by decide)
  have g1 := hc 1 (by decide)
  rw [h0] at g0
  rw [h1] at g1
  refine ⟨bb, off, e, hlt, ?_, ?_⟩
  · simpa [ndX] using g0
  · simpa [ndY, Nat.add_assoc] using g1
/-- Whether it is a tide's tree, lazy or not. -/
def isTd (x0 : Int) (a b c d : Nat) (x5 x6 x7 x8 : Int) (x9 : Bool) (y0 y1 y2 y3 y4 y5 y6 y7 y8 : Int) (y9 : Bool) : Bool := okT a b c d y7 && ((ndX x0 a b c d x5 x6 x7 x8 x9).eq (tdN a b c d) && (ndY y0 y1 y2 y3 y4 y5 y6 y7 y8 y9).eq ⟨5, 0, 0, 0, 0, 0, 0, y7, -1, y9⟩)
/-- What Of answers. -/
def RetOf (w : World) (a b c d : Nat) (lo : Int) (yes : Bool) (e : Ending) (w' : World) : Prop := e = .returned (.tuple #[if yes = true then tdV a b c d lo else tdV 0 0 0 0 0, .bool yes]) ∧ Below w.heap.size w w'
set_option maxRecDepth 100000 in
set_option maxHeartbeats 2000000 in
/-- Of a tree that has not two nodes. -/
theorem of_no (xo : Option Addr) (n xc : Nat) (w : World) (hn : n ≠ 2) : Calls Try.prog 26 #[.agg #[.slice xo n xc]] w (RetOf w 0 0 0 0 0 false) := by
  have hB := T.below2 w (.cells #[.slice xo n xc] 47) (tdO 0 0 0 0 0)
  unfold tdO at hB
  have t0 := (Cl.new w 47 [.slice xo n xc]).alloc (tdO 0 0 0 0 0)
  unfold tdO at t0
  have c0 := t0.cell 0 rfl
  have hne : ((n : Int) != 2) = true := by simp; omega
  go_enter Try.func26, Try.ntmps26
  go_wp2
  exact bodyPost_ret (v := .tuple #[tdV 0 0 0 0 0, .bool false]) (by simp [results, Try.results26, go_sem]) rfl ⟨rfl, hB⟩
set_option maxRecDepth 100000 in
set_option maxHeartbeats 2000000 in
/-- Of a tree that has not two nodes. -/
theorem rof_no (xo : Option Addr) (n xc : Nat) (w : World) (hn : n ≠ 2) : Calls Try.prog 27 #[.agg #[.slice xo n xc]] w (RetOf w 0 0 0 0 0 false) := by
  have hB := T.below2 w (.cells #[.slice xo n xc] 47) (tdO 0 0 0 0 0)
  unfold tdO at hB
  have t0 := (Cl.new w 47 [.slice xo n xc]).alloc (tdO 0 0 0 0 0)
  unfold tdO at t0
  have c0 := t0.cell 0 rfl
  have hne : ((n : Int) != 2) = true := by simp; omega
  go_enter Try.func27, Try.ntmps27
  go_wp2
  exact bodyPost_ret (v := .tuple #[tdV 0 0 0 0 0, .bool false]) (by simp [results, Try.results27, go_sem]) rfl ⟨rfl, hB⟩
end Go.Proofs.Ytobgmgpclcfkcaa
