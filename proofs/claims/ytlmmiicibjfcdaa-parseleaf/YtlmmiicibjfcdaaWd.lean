/- Word, Space and the reference's: the walks. -/
import Derived.Test.YtlmmiicibjfcdaaRu
namespace Go.Proofs.Ytlmmiicibjfcdaa
open Go.RowKit
theorem rd_one (W : World) (k : Nat) (hk : k < 256) : Rd (W.alloc (.cells #[.int .u8 (k : Nat)] 5)) (some ⟨W.heap.size, 0, none⟩) 1 (fun _ => k) := by
  refine ⟨fun _ _ => hk, fun _ => ⟨W.heap.size, 0, rfl, by simp, fun i hi => ?_⟩⟩
  obtain rfl : i = 0 := by omega
  rw [cell_of_row _ W.heap.size (0 + 0) _ 5 (0, 0) (heap_alloc_new W _)]
  rfl
/-- Classes in a new block. -/
theorem rdc_four (W : World) (a0 b0 c0 d0 a1 b1 c1 d1 a2 b2 c2 d2 a3 b3 c3 d3 : Nat) : RdC (W.alloc (.cells #[.int .u64 (a0 : Nat), .int .u64 (b0 : Nat), .int .u64 (c0 : Nat), .int .u64 (d0 : Nat), .int .u64 (a1 : Nat), .int .u64 (b1 : Nat), .int .u64 (c1 : Nat), .int .u64 (d1 : Nat), .int .u64 (a2 : Nat), .int .u64 (b2 : Nat), .int .u64 (c2 : Nat), .int .u64 (d2 : Nat), .int .u64 (a3 : Nat), .int .u64 (b3 : Nat), .int .u64 (c3 : Nat), .int .u64 (d3 : Nat)] 40)) (some ⟨W.heap.size, 0, none⟩) 4 (fun i j => if i = 0 then (if j = 0 then a0 else if j = 1 then b0 else if j = 2 then c0 else d0) else if i = 1 then (if j = 0 then a1 else if j = 1 then b1 else if j = 2 then c1 else d1) else if i = 2 then (if j = 0 then a2 else if j = 1 then b2 else if j = 2 then c2 else d2) else (if j = 0 then a3 else if j = 1 then b3 else if j = 2 then c3 else d3)) := by
  refine ⟨fun _ => ⟨W.heap.size, 0, rfl, by simp, fun i hi j hj => ?_⟩⟩
  rw [cell_of_row _ W.heap.size (0 + i * 4 + j) _ 40 (0, 0) (heap_alloc_new W _)]
  have h1 : i = 0 ∨ i = 1 ∨ i = 2 ∨ i = 3 := by omega
  have h2 : j = 0 ∨ j = 1 ∨ j = 2 ∨ j = 3 := by omega
  rcases h1 with rfl | rfl | rfl | rfl <;> rcases h2 with rfl | rfl | rfl | rfl <;> rfl
theorem rdc_two (W : World) (a0 b0 c0 d0 a1 b1 c1 d1 : Nat) : RdC (W.alloc (.cells #[.int .u64 (a0 : Nat), .int .u64 (b0 : Nat), .int .u64 (c0 : Nat), .int .u64 (d0 : Nat), .int .u64 (a1 : Nat), .int .u64 (b1 : Nat), .int .u64 (c1 : Nat), .int .u64 (d1 : Nat)] 40)) (some ⟨W.heap.size, 0, none⟩) 2 (fun i j => if i = 0 then (if j = 0 then a0 else if j = 1 then b0 else if j = 2 then c0 else d0) else (if j = 0 then a1 else if j = 1 then b1 else if j = 2 then c1 else d1)) := by
  refine ⟨fun _ => ⟨W.heap.size, 0, rfl, by simp, fun i hi j hj => ?_⟩⟩
  rw [cell_of_row _ W.heap.size (0 + i * 4 + j) _ 40 (0, 0) (heap_alloc_new W _)]
  have h1 : i = 0 ∨ i = 1 := by omega
  have h2 : j = 0 ∨ j = 1 ∨ j = 2 ∨ j = 3 := by omega
  rcases h1 with rfl | rfl <;> rcases h2 with rfl | rfl | rfl | rfl <;> rfl
/-- Letters, digits and _; and what is blank. -/
def wordP : Nat → Bool := unN (fun i => if i = 0 then rg 97 26 else if i = 1 then rg 65 26 else if i = 2 then rg 48 10 else ofN (fun _ => 95) 1) 4
def spaceP : Nat → Bool := unN (fun i => if i = 0 then rg 9 5 else ofN (fun _ => 32) 1) 2
theorem space_ins : ins (rg 9 5) 32 = spaceP := by
  funext x
  simp [spaceP, unN, ofN, ins]
set_option maxHeartbeats 2000000 in
theorem word_any (w : World) : Calls Try.prog 115 #[] w (RetC w wordP) := by
  have t : Below (w.heap.size + 1) (w.alloc (.cells #[.int .u64 0, .int .u64 0, .int .u64 0, .int .u64 0] 40)) (w.alloc (.cells #[.int .u64 0, .int .u64 0, .int .u64 0, .int .u64 0] 40)) := Below.refl _ _
  go_enter Try.func115, Try.ntmps115
  go_wp2_with fail
  refine (range_any 97 122 _ (by decide) (by decide)).mono ?_
  rintro e w0 ⟨⟨a0, b0, c0, d0, rfl, h0⟩, q⟩
  replace t := t.trans (q.mono (by simp))
  clear q
  go_wp2_with fail
  refine (range_any 65 90 _ (by decide) (by decide)).mono ?_
  rintro e w1 ⟨⟨a1, b1, c1, d1, rfl, h1⟩, q⟩
  replace t := t.trans (q.mono (by have := t.size; simpa using this))
  clear q
  go_wp2_with fail
  refine (digit_any _).mono ?_
  rintro e w2 ⟨⟨a2, b2, c2, d2, rfl, h2⟩, q⟩
  replace t := t.trans (q.mono (by have := t.size; simpa using this))
  clear q
  go_wp2_with fail
  refine (of_any _ 1 1 (fun _ => 95) _ (rd_one w2 95 (by decide)) (by decide)).mono ?_
  rintro e w3 ⟨⟨a3, b3, c3, d3, rfl, h3⟩, q⟩
  replace t := (t.alloc (by have := t.size; simpa using this) _).trans (q.mono (by have := t.size; simp at this; simp; omega))
  clear q
  go_wp2_with fail
  refine (union_any _ 4 4 _ (fun i => if i = 0 then rg 97 26 else if i = 1 then rg 65 26 else if i = 2 then rg 48 10 else ofN (fun _ => 95) 1) _ (rdc_four w3 a0 b0 c0 d0 a1 b1 c1 d1 a2 b2 c2 d2 a3 b3 c3 d3) (fun i hi => ?_) (by decide)).mono ?_
  · have hi4 : i = 0 ∨ i = 1 ∨ i = 2 ∨ i = 3 := by omega
    rcases hi4 with rfl | rfl | rfl | rfl
    · exact h0
    · exact h1
    · exact h2
    · exact h3
  rintro e w4 ⟨⟨a, b, c, d, rfl, h4⟩, q⟩
  replace t := (t.alloc (by have := t.size; simpa using this) _).trans (q.mono (by have := t.size; simp at this; simp; omega))
  clear q h0 h1 h2 h3
  have hy := res_cells t
  obtain ⟨y0, y1, y2, y3, v0, v1, v2, v3⟩ := hy.cells
  obtain ⟨z0, z1, z2, z3, _⟩ := (hy.set (.int .u64 (a : Nat)) (.int .u64 (b : Nat)) (.int .u64 (c : Nat)) (.int .u64 (d : Nat))).cells
  go_wp2
  exact bodyPost_ret (v := .agg #[.int .u64 (a : Nat), .int .u64 (b : Nat), .int .u64 (c : Nat), .int .u64 (d : Nat)]) (by simp [results, Try.results115, go_sem, z0, z1, z2, z3]) rfl (res_put h4 t)
set_option maxHeartbeats 2000000 in
theorem space_any (w : World) : Calls Try.prog 116 #[] w (RetC w spaceP) := by
  have t : Below (w.heap.size + 1) (w.alloc (.cells #[.int .u64 0, .int .u64 0, .int .u64 0, .int .u64 0] 40)) (w.alloc (.cells #[.int .u64 0, .int .u64 0, .int .u64 0, .int .u64 0] 40)) := Below.refl _ _
  go_enter Try.func116, Try.ntmps116
  go_wp2_with fail
  refine (range_any 9 13 _ (by decide) (by decide)).mono ?_
  rintro e w0 ⟨⟨a0, b0, c0, d0, rfl, h0⟩, q⟩
  replace t := t.trans (q.mono (by simp))
  clear q
  go_wp2_with fail
  refine (of_any _ 1 1 (fun _ => 32) _ (rd_one w0 32 (by decide)) (by decide)).mono ?_
  rintro e w1 ⟨⟨a1, b1, c1, d1, rfl, h1⟩, q⟩
  replace t := (t.alloc (by have := t.size; simpa using this) _).trans (q.mono (by have := t.size; simp at this; simp; omega))
  clear q
  go_wp2_with fail
  refine (union_any _ 2 2 _ (fun i => if i = 0 then rg 9 5 else ofN (fun _ => 32) 1) _ (rdc_two w1 a0 b0 c0 d0 a1 b1 c1 d1) (fun i hi => ?_) (by decide)).mono ?_
  · have hi4 : i = 0 ∨ i = 1 := by omega
    rcases hi4 with rfl | rfl
    · exact h0
    · exact h1
  rintro e w4 ⟨⟨a, b, c, d, rfl, h4⟩, q⟩
  replace t := (t.alloc (by have := t.size; simpa using this) _).trans (q.mono (by have := t.size; simp at this; simp; omega))
  clear q h0 h1
  have hy := res_cells t
  obtain ⟨y0, y1, y2, y3, v0, v1, v2, v3⟩ := hy.cells
  obtain ⟨z0, z1, z2, z3, _⟩ := (hy.set (.int .u64 (a : Nat)) (.int .u64 (b : Nat)) (.int .u64 (c : Nat)) (.int .u64 (d : Nat))).cells
  go_wp2
  exact bodyPost_ret (v := .agg #[.int .u64 (a : Nat), .int .u64 (b : Nat), .int .u64 (c : Nat), .int .u64 (d : Nat)]) (by simp [results, Try.results116, go_sem, z0, z1, z2, z3]) rfl (res_put h4 t)
end Go.Proofs.Ytlmmiicibjfcdaa
