/- Rows of one byte; classes on their way. -/
import Derived.Test.YtkbeiadbolihiabUn
import Derived.Deep.RegionWith
namespace Go.Proofs.Ytkbeiadbolihiab
open Go.RowKit
theorem Way.drew {w wr : World} {P : Nat → Bool} (h : Way w P wr) : Way w P wr.drew := by
  obtain ⟨⟨a, b, c, d, h4, hx⟩, ⟨p, q, r, s, hy⟩, hb⟩ := h
  exact ⟨⟨a, b, c, d, h4, hx.drew⟩, ⟨p, q, r, s, hy.drew⟩, hb.drew⟩
theorem rd_one (W : World) (k : Nat) (hk : k < 256) : Rd (W.alloc (.cells #[.int .u8 (k : Nat)] 5)) (some ⟨W.heap.size, 0, none⟩) 1 (fun _ => k) := by
  refine ⟨fun i _ => hk, fun _ => ⟨W.heap.size, 0, rfl, by simp, fun i hi => ?_⟩⟩
  obtain rfl : i = 0 := by omega
  rw [cell_of_row _ W.heap.size (0 + 0) _ 5 (0, 0) (heap_alloc_new W _)]
  rfl
theorem Rd.drew {w : World} {ao : Option Addr} {len : Nat} {z : Nat → Nat} (h : Rd w ao len z) : Rd w.drew ao len z := h.below (Below.refl _ _).drew
end Go.Proofs.Ytkbeiadbolihiab
