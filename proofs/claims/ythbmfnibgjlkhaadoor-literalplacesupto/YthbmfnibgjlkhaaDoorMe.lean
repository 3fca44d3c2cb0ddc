/- measure of numbers, Weight: the walks. -/
import Derived.Test.YthbmfnibgjlkhaaDoorGWaWoWm
import Derived.Test.YthbmfnibgjlkhaaDoorGMvEmGrJoRpJk
namespace Go.Proofs.YthbmfnibgjlkhaaDoor
open Go.RowKit
theorem make_room50 (n : Nat) (hn : n ≤ 2048) (w : World) : (Instr.makeSlice 42 (.int .i64 0) (.int .i64 (n : Nat))).run Tryd.prog w = .ok (.slice (some ⟨w.heap.size, 0, none⟩) 0 n) (w.alloc (.cells (ints (fun _ => 0) n).toArray 3)) := by
  obtain ⟨i, hi, hz, hs, hb⟩ := info_parts b_int
  have := run_make (P := Tryd.prog) w 42 3 i (.int .i64 0) Tryd.underlying42 hi hz .i64 .i64 0 (n : Int) (by omega) (by omega) (by rw [hb]; omega) (by omega)
  rw [this, hs]
  simp [← made_ints, Value.cells]
theorem ints_snoc (f : Nat → Int) (n : Nat) : ints f (n + 1) = ints f n ++ [.int .i64 (f n)] := by simp [ints, List.range_succ]
theorem row_rdI {W : World} {base n cap : Nat} {ao : Option Addr} {f : Nat → Int} (h : W.ownsRow base 3 1 (.slice ao n cap) n (ints f n)) : RdI W ao n f := by
  intro hn
  obtain ⟨g, e, hl, _, hc, _⟩ := row_cell h hn
  refine ⟨g, 0, e, hl, fun i hi => ?_⟩
  rw [Nat.zero_add]
  exact hc i _ (ints_get f hi)
end Go.Proofs.YthbmfnibgjlkhaaDoor
