/- Rows of nodes that are made; cells that stay. -/
import Derived.Test.YthbmfnibgjlkhaaDoorGMvEmGrJoRpJk
import Derived.RangeFuncBox
namespace Go.Proofs.YthbmfnibgjlkhaaDoor
open Go.RowKit
theorem set_heap (A : World) (a : Addr) (v : Value) (k : Nat) (h : k ≠ a.block) : (A.setCell a v).heap[k]? = A.heap[k]? := Below.heap_setCell _ _ _ _ h
def zN : Nd := ⟨0, 0, 0, 0, 0, 0, 0, 0, 0, false⟩
theorem made_nodes (n : Nat) : madeCells #[Value.int .i64 0, .int .u64 0, .int .u64 0, .int .u64 0, .int .u64 0, .int .i64 0, .int .i64 0, .int .i64 0, .int .i64 0, .bool false] (n * 10) = (ndsL (fun _ => zN) n).toArray := by
  apply Array.ext_getElem?
  intro q
  by_cases hq : q < n * 10
  · have hd : q = q / 10 * 10 + q % 10 := by omega
    have h10 : q % 10 < 10 := by omega
    have hs : q < (madeCells #[Value.int .i64 0, .int .u64 0, .int .u64 0, .int .u64 0, .int .u64 0, .int .i64 0, .int .i64 0, .int .i64 0, .int .i64 0, .bool false] (n * 10)).size := by rw [size_madeCells]; exact hq
    rw [Array.getElem?_eq_getElem hs, List.getElem?_toArray]
    conv => rhs; rw [hd]
    rw [ndsL_get _ _ _ _ (by omega) h10]
    simp only [madeCells, Array.getElem_map, Array.getElem_range]
    rcases ten h10 with h | h | h | h | h | h | h | h | h | h <;> simp [h, ndL, zN]
  · rw [Array.getElem?_eq_none (by rw [size_madeCells]; omega), Array.getElem?_eq_none (by simp [ndsL_len]; omega)]
theorem make_nodes (n : Nat) (hn : n ≤ 2048) (w : World) : (Instr.makeSlice 46 (.int .i64 (n : Nat)) (.int .i64 (n : Nat))).run Tryd.prog w = .ok (.slice (some ⟨w.heap.size, 0, none⟩) n n) (w.alloc (.cells (ndsL (fun _ => zN) n).toArray 82)) := by
  obtain ⟨i, hi, hz, hs, hb⟩ := info_parts b_node
  have := run_make (P := Tryd.prog) w 46 82 i _ Tryd.underlying46 hi hz .i64 .i64 (n : Int) (n : Int) (by omega) (by omega) (by rw [hb]; omega) (by omega)
  rw [this, hs]
  simp [Value.cells, made_nodes]
theorem stF_at {t : Tre} {p : Nat} {u : Tre} (h : t.subs[p]? = some u) : stF t p = (p : Int) + 1 - u.size := by simp [stF, h]
theorem own_cl {W : World} {B b n : Nat} {F : Nat → Nd} (h : Cl W b 82 (ndsL F n)) (hB : B ≤ b) (hn : n ≤ 2048) : OwN W B (some ⟨b, 0, none⟩) n n F := by
  refine ⟨ndsL_len F n, .inr ⟨b, n, (ndsL F n).toArray, rfl, hB, h, Nat.le_refl _, by unfold maxLen; omega, by simp [ndsL_len], ?_⟩⟩
  simp [← ndsL_len F n]
end Go.Proofs.YthbmfnibgjlkhaaDoor
