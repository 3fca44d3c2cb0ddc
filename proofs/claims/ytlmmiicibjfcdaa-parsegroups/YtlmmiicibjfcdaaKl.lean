/- token: bytesOf: the walk. -/
import Derived.Test.YtlmmiicibjfcdaaKj
namespace Go.Proofs.Ytlmmiicibjfcdaa
open Go.RowKit
set_option maxRecDepth 10000 in
set_option maxHeartbeats 2000000 in
theorem bytesOf_class {P : Nat → Bool} {a0 a1 a2 a3 : Nat} (h4 : C4 P a0 a1 a2 a3) (nt : Bool) (l m : Int) (lz : Bool) (at_ : Nat) (w : World) : Calls Try.prog 120 #[tokV 2 0 a0 a1 a2 a3 nt l m lz at_] w (RetC w P) := by
  unfold tokV
  go_enter Try.func120, Try.ntmps120
  go_wp2
  exact bodyPost_ret (v := .agg #[.int .u64 (a0 : Nat), .int .u64 (a1 : Nat), .int .u64 (a2 : Nat), .int .u64 (a3 : Nat)]) (by simp [results, Try.results120, go_sem]) rfl ⟨⟨a0, a1, a2, a3, rfl, h4⟩, bel2 _ _ _⟩
set_option maxRecDepth 10000 in
set_option maxHeartbeats 2000000 in
theorem bytesOf_byte (b : Nat) (hb : b < 256) (at_ : Nat) (w : World) : Calls Try.prog 120 #[tokV 1 b 0 0 0 0 false 0 0 false at_] w (RetC w (ofN (fun _ => b) 1)) := by
  unfold tokV
  have hO : Hid (∀ W : World, Calls Try.prog 28 #[.slice (some ⟨W.heap.size, 0, none⟩) 1 1] (W.alloc (.cells #[.int .u8 (b : Nat)] 5)) (RetC (W.alloc (.cells #[.int .u8 (b : Nat)] 5)) (ofN (fun _ => b) 1))) := fun W => of_any _ 1 1 (fun _ => b) _ (rd_one _ _ hb) (by decide)
  go_enter Try.func120, Try.ntmps120
  go_wp2_with fail
  have hO1 := hO.out ((w.alloc (.cells #[.int .i64 1, .int .u8 (b : Nat), .int .u64 0, .int .u64 0, .int .u64 0, .int .u64 0, .bool false, .int .i64 0, .int .i64 0, .bool false, .int .i64 (at_ : Nat)] 42)).alloc (.cells #[.int .u64 0, .int .u64 0, .int .u64 0, .int .u64 0] 40))
  simp only [World.size_alloc] at hO1
  refine hO1.mono ?_
  rintro e w1 ⟨⟨a, b', c, d, rfl, h4⟩, hb1⟩
  have hx : Bx w1 (w.heap.size + 1) (.int .u64 0) (.int .u64 0) (.int .u64 0) (.int .u64 0) := by
    have := ((Bx.new (w.alloc (.cells #[.int .i64 1, .int .u8 (b : Nat), .int .u64 0, .int .u64 0, .int .u64 0, .int .u64 0, .bool false, .int .i64 0, .int .i64 0, .bool false, .int .i64 (at_ : Nat)] 42)) (.int .u64 0) (.int .u64 0) (.int .u64 0) (.int .u64 0)).alloc (.cells #[.int .u8 (b : Nat)] 5)).below hb1
    simpa using this
  have hB1 : Below w.heap.size w w1 := (bel3 w _ _ _).trans (hb1.mono (by simp; omega))
  obtain ⟨y0, y1, y2, y3, v0, v1, v2, v3⟩ := hx.cells
  obtain ⟨z0, z1, z2, z3, _⟩ := (hx.set (.int .u64 (a : Nat)) (.int .u64 (b' : Nat)) (.int .u64 (c : Nat)) (.int .u64 (d : Nat))).cells
  have HB : Hid (Below w.heap.size w (put4 w1 (w.heap.size + 1) (.int .u64 (a : Nat)) (.int .u64 (b' : Nat)) (.int .u64 (c : Nat)) (.int .u64 (d : Nat)))) := below_put4 hB1 (by omega) _ _ _ _
  clear hb1 hO1 hB1
  go_wp2
  exact bodyPost_ret (v := .agg #[.int .u64 (a : Nat), .int .u64 (b' : Nat), .int .u64 (c : Nat), .int .u64 (d : Nat)]) (by simp [results, Try.results120, go_sem, z0, z1, z2, z3]) rfl ⟨⟨a, b', c, d, rfl, h4⟩, HB.out⟩
end Go.Proofs.Ytlmmiicibjfcdaa
