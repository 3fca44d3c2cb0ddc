/- slices.Equal of runs, where both are the same: the walk. -/
import Derived.Test.YthgjklhjfpillabDoorRr
import Derived.Laws.StructEq
namespace Go.Proofs.YthgjklhjfpillabDoor
open Go.RowKit
theorem neq_same52 (x y : Nat) (w : World) : (Go.binOp BinOp.neq 36 (.agg #[.int .u8 (x : Nat), .int .u8 (y : Nat)]) (.agg #[.int .u8 (x : Nat), .int .u8 (y : Nat)])).run Tryd.prog w = Result.ok (.bool false) w := by
  have f52 : Tryd.prog.fieldsOf 36 = #[{ name := "Lo", type := 5, offset := 0, embedded := false, tag := "", pkgPath := "", byteOffset := 0 }, { name := "Hi", type := 5, offset := 1, embedded := false, tag := "", pkgPath := "", byteOffset := 1 }] := by kernel_rfl
  have h : (Op.equalIn (9999 + 1) 36 (.agg #[.int .u8 (x : Nat), .int .u8 (y : Nat)]) (.agg #[.int .u8 (x : Nat), .int .u8 (y : Nat)])).run Tryd.prog w = .ok true w := by
    rw [run_equalIn_struct w 9999 36 _ _ (by kernel_rfl) (by kernel_rfl), f52]
    have p0 : ∀ (a b : Value) w, (part 5 #[a, b] 0).run Tryd.prog w = .ok a w := fun a b w => by kernel_rfl
    have p1 : ∀ (a b : Value) w, (part 5 #[a, b] 1).run Tryd.prog w = .ok b w := fun a b w => by kernel_rfl
    have e5 : ∀ (z : Int) w, (Op.equalIn 9999 5 (.int .u8 z) (.int .u8 z)).run Tryd.prog w = .ok true w := fun z w => by
      rw [run_equalIn_int w 9998 5 _ _ _ _ Tryd.underlying5]; simp
    simp [Op.eqFields, p0, p1, e5]
  simp only [binOp]
  simp only [Op.equal, Op.maxDepth, Sem.run_bind, h, Result.andThen_ok]
  simp
/-- Runs that can be read. -/
structure RdR (w : World) (ao : Option Addr) (n : Nat) (F G : Nat → Nat) : Prop where
  at_ : 0 < n → ∃ g, ao = some ⟨g, 0, none⟩ ∧ g < w.heap.size ∧ ∀ k, k < n → w.cell? ⟨g, k * 2, none⟩ = some (.int .u8 (F k : Nat)) ∧ w.cell? ⟨g, k * 2 + 1, none⟩ = some (.int .u8 (G k : Nat))
theorem runV_at (l : List (Nat × Nat)) (k : Nat) (h : k < l.length) : (runV l)[k * 2]? = some (.int .u8 ((l.getD k (0, 0)).1 : Nat)) ∧ (runV l)[k * 2 + 1]? = some (.int .u8 ((l.getD k (0, 0)).2 : Nat)) := by
  induction l generalizing k with
  | nil => simp at h
  | cons x l ih =>
    have e : runV (x :: l) = Value.int .u8 (x.1 : Nat) :: Value.int .u8 (x.2 : Nat) :: runV l := rfl
    cases k with
    | zero => rw [e]; exact ⟨rfl, rfl⟩
    | succ k =>
      have := ih k (by simp at h; omega)
      rw [e, show (k + 1) * 2 = k * 2 + 1 + 1 by omega]
      simpa using this
theorem RdR.own {B : Nat} {w : World} {ao : Option Addr} {cap n : Nat} {l : List (Nat × Nat)} (h : w.ownsRow B 36 2 (.slice ao n cap) n (runV l)) (m : Nat) (hm : m ≤ n) (hl : l.length = n) : RdR w ao m (fun k => (l.getD k (0, 0)).1) (fun k => (l.getD k (0, 0)).2) := by
  refine ⟨fun h0 => ?_⟩
  rcases h.2 with ⟨h', h0'⟩ | ⟨g, cap', cur, h', hB, hh, _⟩
  · omega
  · obtain ⟨rfl, -, rfl⟩ : ao = some ⟨g, 0, none⟩ ∧ n = n ∧ cap = cap' := by simpa using h'
    refine ⟨g, rfl, (Array.getElem?_eq_some_iff.1 hh).1, fun k hk => ?_⟩
    obtain ⟨e1, e2⟩ := runV_at l k (by omega)
    exact ⟨by rw [h.cellAt (k * 2) (by omega), e1], by rw [h.cellAt (k * 2 + 1) (by omega), e2]⟩
end Go.Proofs.YthgjklhjfpillabDoor
