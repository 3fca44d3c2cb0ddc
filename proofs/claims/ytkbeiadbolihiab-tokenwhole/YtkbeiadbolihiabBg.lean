/- begun: the walk. -/
import Derived.Test.YtkbeiadbolihiabEz
import Derived.Lib.SlBytesConst
namespace Go.Proofs.Ytkbeiadbolihiab
open Go.RowKit
/-- The small pattern's bytes. -/
def zb (i : Nat) : Nat := ([97, 123, 50, 44, 125, 63, 91, 94, 120, 45, 122, 93, 36] : List Nat).getD i 0
theorem rd_zb (w : World) : Rd (w.alloc (.cells #[.int .u8 97, .int .u8 123, .int .u8 50, .int .u8 44, .int .u8 125, .int .u8 63, .int .u8 91, .int .u8 94, .int .u8 120, .int .u8 45, .int .u8 122, .int .u8 93, .int .u8 36] 5 (13, 14))) (some ⟨w.heap.size, 0, none⟩) 13 zb := by
  refine ⟨by decide, fun _ => ⟨w.heap.size, 0, rfl, by simp, fun i hi => ?_⟩⟩
  rw [Nat.zero_add, cell_of_row _ w.heap.size i #[.int .u8 97, .int .u8 123, .int .u8 50, .int .u8 44, .int .u8 125, .int .u8 63, .int .u8 91, .int .u8 94, .int .u8 120, .int .u8 45, .int .u8 122, .int .u8 93, .int .u8 36] 5 (13, 14) (heap_alloc_new w _)]
  obtain rfl | rfl | rfl | rfl | rfl | rfl | rfl | rfl | rfl | rfl | rfl | rfl | rfl : i = 0 ∨ i = 1 ∨ i = 2 ∨ i = 3 ∨ i = 4 ∨ i = 5 ∨ i = 6 ∨ i = 7 ∨ i = 8 ∨ i = 9 ∨ i = 10 ∨ i = 11 ∨ i = 12 := by omega
  all_goals rfl
theorem zb0 : wrd zb 13 0 = .sgn 1 97 0 1 := by kernel_rfl
theorem zb1 : wrd zb 13 1 = .rep 2 (-1) true 1 6 := by kernel_rfl
theorem zb2 : (wrd zb 13 6).er = 0 ∧ (wrd zb 13 6).en = 12 := by constructor <;> kernel_rfl
theorem zb3 : wrd zb 13 12 = .sgn 9 0 12 13 := by kernel_rfl
theorem zb_all : wl zb 13 1100 0 = [wrd zb 13 0, wrd zb 13 1, wrd zb 13 6, wrd zb 13 12] := by
  rw [show (1100 : Nat) = 1096 + 1 + 1 + 1 + 1 from rfl, wl_go (by decide) (by rw [zb0]; rfl), show (wrd zb 13 0).en = 1 by rw [zb0]; rfl, wl_go (by decide) (by rw [zb1]; rfl), show (wrd zb 13 1).en = 6 by rw [zb1]; rfl, wl_go (by decide) zb2.1, zb2.2, wl_go (by decide) (by rw [zb3]; rfl), show (wrd zb 13 12).en = 13 by rw [zb3]; rfl, wl_end (by decide)]
theorem wds_none : wds (fun _ => false) 0 = 0 ∧ wds (fun _ => false) 1 = 0 ∧ wds (fun _ => false) 2 = 0 ∧ wds (fun _ => false) 3 = 0 := (wds_is _).uniq c4_none
set_option maxRecDepth 20000 in
set_option maxHeartbeats 1000000 in
theorem begun_any (w : World) : Calls Try.prog 5 #[] w (RetB w true) := by
  have HL : Hid (∀ W : World, Calls Try.prog 4 #[.slice (some ⟨W.heap.size, 0, none⟩) 13 13] (W.alloc (.cells #[.int .u8 97, .int .u8 123, .int .u8 50, .int .u8 44, .int .u8 125, .int .u8 63, .int .u8 91, .int .u8 94, .int .u8 120, .int .u8 45, .int .u8 122, .int .u8 93, .int .u8 36] 5 (13, 14))) (RetLx (W.alloc (.cells #[.int .u8 97, .int .u8 123, .int .u8 50, .int .u8 44, .int .u8 125, .int .u8 63, .int .u8 91, .int .u8 94, .int .u8 120, .int .u8 45, .int .u8 122, .int .u8 93, .int .u8 36] 5 (13, 14))) zb 13)) := fun W => lex_short _ 13 13 zb _ (rd_zb W) (by decide)
  have hcv : (convert 22 22 (.slice (some ⟨w.heap.size, 0, none⟩) 13 13)).run Try.prog (w.alloc (.cells #[.int .u8 97, .int .u8 123, .int .u8 50, .int .u8 44, .int .u8 125, .int .u8 63, .int .u8 91, .int .u8 94, .int .u8 120, .int .u8 45, .int .u8 122, .int .u8 93, .int .u8 36] 5)) = .ok (.slice (some ⟨w.heap.size, 0, none⟩) 13 13) (w.alloc (.cells #[.int .u8 97, .int .u8 123, .int .u8 50, .int .u8 44, .int .u8 125, .int .u8 63, .int .u8 91, .int .u8 94, .int .u8 120, .int .u8 45, .int .u8 122, .int .u8 93, .int .u8 36] 5 (13, 14))) := Lib.run_convert_bytes_const w 22 5 #[.int .u8 97, .int .u8 123, .int .u8 50, .int .u8 44, .int .u8 125, .int .u8 63, .int .u8 91, .int .u8 94, .int .u8 120, .int .u8 45, .int .u8 122, .int .u8 93, .int .u8 36] 13 13 Try.underlying22 Try.underlying5
  go_enter Try.func5, Try.ntmps5
  go_wp2_with fail
  refine (HL.out _).mono ?_
  rintro e w1 (⟨ao, cap, hg, rfl, hrow, hb⟩ | ⟨s, hs, he, _⟩)
  · rw [zb_all] at hrow
    obtain ⟨g, rfl, hgl, _, hc⟩ := row_cell hrow (by decide)
    have h1 := fun j (hj : j < 11) u (hu : (tokC (wrd zb 13 1))[j]? = some u) => hc (1 * 11 + j) u (by rw [tokL_get _ 1 j (by decide) hj]; exact hu)
    have h3 := fun j (hj : j < 11) u (hu : (tokC (wrd zb 13 12))[j]? = some u) => hc (3 * 11 + j) u (by rw [tokL_get _ 3 j (by decide) hj]; exact hu)
    rw [zb1] at h1
    rw [zb3] at h3
    obtain ⟨e0, e1, e2, e3⟩ := wds_none
    simp only [tokC, TokS.rep, TokS.sgn, e0, e1, e2, e3] at h1 h3
    have u0 := h1 0 (by decide) _ rfl
    have u1 := h1 1 (by decide) _ rfl
    have u2 := h1 2 (by decide) _ rfl
    have u3 := h1 3 (by decide) _ rfl
    have u4 := h1 4 (by decide) _ rfl
    have u5 := h1 5 (by decide) _ rfl
    have u6 := h1 6 (by decide) _ rfl
    have u7 := h1 7 (by decide) _ rfl
    have u8 := h1 8 (by decide) _ rfl
    have u9 := h1 9 (by decide) _ rfl
    have u10 := h1 10 (by decide) _ rfl
    have v0 := h3 0 (by decide) _ rfl
    have v1 := h3 1 (by decide) _ rfl
    have v2 := h3 2 (by decide) _ rfl
    have v3 := h3 3 (by decide) _ rfl
    have v4 := h3 4 (by decide) _ rfl
    have v5 := h3 5 (by decide) _ rfl
    have v6 := h3 6 (by decide) _ rfl
    have v7 := h3 7 (by decide) _ rfl
    have v8 := h3 8 (by decide) _ rfl
    have v9 := h3 9 (by decide) _ rfl
    have v10 := h3 10 (by decide) _ rfl
    simp only [Nat.reduceMul, Nat.reduceAdd] at u0 u1 u2 u3 u4 u5 u6 u7 u8 u9 u10 v0 v1 v2 v3 v4 v5 v6 v7 v8 v9 v10
    have q1 : ∀ W, (Go.binOp BinOp.eql 32 (.agg #[.int .i64 7, .int .u8 0, .int .u64 0, .int .u64 0, .int .u64 0, .int .u64 0, .bool false, .int .i64 2, .int .i64 (-1), .bool true, .int .i64 1]) (.agg #[.int .i64 7, .int .u8 0, .int .u64 0, .int .u64 0, .int .u64 0, .int .u64 0, .bool false, .int .i64 2, .int .i64 (-1), .bool true, .int .i64 1])).run Try.prog W = .ok (.bool true) W := eql32_same 7 0 0 0 0 0 false 2 (-1) true 1
    have q2 : ∀ W, (Go.binOp BinOp.eql 32 (.agg #[.int .i64 9, .int .u8 0, .int .u64 0, .int .u64 0, .int .u64 0, .int .u64 0, .bool false, .int .i64 0, .int .i64 0, .bool false, .int .i64 12]) (.agg #[.int .i64 9, .int .u8 0, .int .u64 0, .int .u64 0, .int .u64 0, .int .u64 0, .bool false, .int .i64 0, .int .i64 0, .bool false, .int .i64 12])).run Try.prog W = .ok (.bool true) W := eql32_same 9 0 0 0 0 0 false 0 0 false 12
    have HB : Hid (Below w.heap.size w w1) := ((Below.refl _ _).alloc (Nat.le_refl _) _).trans (hb.mono (by simp))
    clear h1 h3 hc hrow hb hg hgl e0 e1 e2 e3 HL
    rw [zb_all]
    simp only [List.length_cons, List.length_nil, Nat.reduceAdd]
    go_wp2_with fail
    go_ret
    exact ⟨rfl, HB.out⟩
  · exfalso
    rw [zb_all] at hs
    simp only [List.mem_cons, List.not_mem_nil, or_false] at hs
    rcases hs with rfl | rfl | rfl | rfl
    · rw [zb0] at he; exact he rfl
    · rw [zb1] at he; exact he rfl
    · exact he zb2.1
    · rw [zb3] at he; exact he rfl
end Go.Proofs.Ytkbeiadbolihiab
