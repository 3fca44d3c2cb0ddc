/- token: named, mayClass: the walks. -/
import Derived.Test.YtlmmiicibjfcdaaKe
namespace Go.Proofs.Ytlmmiicibjfcdaa
open Go.RowKit
/-- The class whose letter stands behind a backslash. -/
def namP (b : Nat) : Nat → Bool := if b = 100 then rg 48 10 else if b = 119 then wordP else if b = 115 then spaceP else if b = 68 then (fun x => !rg 48 10 x) else if b = 87 then (fun x => !wordP x) else fun x => !spaceP x
set_option maxRecDepth 10000 in
set_option maxHeartbeats 1000000 in
theorem named_d100 (w : World) : Calls Try.prog 95 #[.int .u8 100] w (RetC w (rg 48 10)) := by
  go_enter Try.func95, Try.ntmps95
  go_wp2_with (go_at_call 114; refine (digit_any _).mono ?_; rintro e w' ⟨⟨a, b', c, d, rfl, h4⟩, hb⟩; have hb' : Below (w.heap.size + 1) _ w' := (by simpa using hb); have hy := res_cells hb'; obtain ⟨y0, y1, y2, y3, v0, v1, v2, v3⟩ := hy.cells)
  obtain ⟨z0, z1, z2, z3, _⟩ := (hy.set (.int .u64 (a : Nat)) (.int .u64 (b' : Nat)) (.int .u64 (c : Nat)) (.int .u64 (d : Nat))).cells
  exact bodyPost_ret (v := .agg #[.int .u64 (a : Nat), .int .u64 (b' : Nat), .int .u64 (c : Nat), .int .u64 (d : Nat)]) (by simp [results, Try.results95, go_sem, z0, z1, z2, z3]) rfl (res_put h4 hb')
set_option maxRecDepth 10000 in
set_option maxHeartbeats 1000000 in
theorem named_w119 (w : World) : Calls Try.prog 95 #[.int .u8 119] w (RetC w (wordP)) := by
  go_enter Try.func95, Try.ntmps95
  go_wp2_with (go_at_call 115; refine (word_any _).mono ?_; rintro e w' ⟨⟨a, b', c, d, rfl, h4⟩, hb⟩; have hb' : Below (w.heap.size + 1) _ w' := (by simpa using hb); have hy := res_cells hb'; obtain ⟨y0, y1, y2, y3, v0, v1, v2, v3⟩ := hy.cells)
  obtain ⟨z0, z1, z2, z3, _⟩ := (hy.set (.int .u64 (a : Nat)) (.int .u64 (b' : Nat)) (.int .u64 (c : Nat)) (.int .u64 (d : Nat))).cells
  exact bodyPost_ret (v := .agg #[.int .u64 (a : Nat), .int .u64 (b' : Nat), .int .u64 (c : Nat), .int .u64 (d : Nat)]) (by simp [results, Try.results95, go_sem, z0, z1, z2, z3]) rfl (res_put h4 hb')
set_option maxRecDepth 10000 in
set_option maxHeartbeats 1000000 in
theorem named_s115 (w : World) : Calls Try.prog 95 #[.int .u8 115] w (RetC w (spaceP)) := by
  go_enter Try.func95, Try.ntmps95
  go_wp2_with (go_at_call 116; refine (space_any _).mono ?_; rintro e w' ⟨⟨a, b', c, d, rfl, h4⟩, hb⟩; have hb' : Below (w.heap.size + 1) _ w' := (by simpa using hb); have hy := res_cells hb'; obtain ⟨y0, y1, y2, y3, v0, v1, v2, v3⟩ := hy.cells)
  obtain ⟨z0, z1, z2, z3, _⟩ := (hy.set (.int .u64 (a : Nat)) (.int .u64 (b' : Nat)) (.int .u64 (c : Nat)) (.int .u64 (d : Nat))).cells
  exact bodyPost_ret (v := .agg #[.int .u64 (a : Nat), .int .u64 (b' : Nat), .int .u64 (c : Nat), .int .u64 (d : Nat)]) (by simp [results, Try.results95, go_sem, z0, z1, z2, z3]) rfl (res_put h4 hb')
set_option maxRecDepth 10000 in
set_option maxHeartbeats 1000000 in
theorem named_D68 (w : World) : Calls Try.prog 95 #[.int .u8 68] w (RetC w (fun x => !rg 48 10 x)) := by
  go_enter Try.func95, Try.ntmps95
  go_wp2_with fail
  refine (digit_any _).mono ?_
  rintro e w1 ⟨⟨a0, b0, c0, d0, rfl, k4⟩, hb1⟩
  have e1 : Below (w.heap.size + 1) (w.alloc (.cells #[.int .u64 0, .int .u64 0, .int .u64 0, .int .u64 0] 40)) w1 := by simpa using hb1
  have e2 : w.heap.size + 1 ≤ w1.heap.size := by have := e1.size; simpa using this
  go_wp2_with fail
  refine (not_c k4 _).mono ?_
  rintro e w' ⟨⟨a, b', c, d, rfl, h4⟩, hb⟩
  have hb' := e1.trans (hb.mono e2)
  have hy := res_cells hb'
  obtain ⟨y0, y1, y2, y3, v0, v1, v2, v3⟩ := hy.cells
  go_wp2
  obtain ⟨z0, z1, z2, z3, _⟩ := (hy.set (.int .u64 (a : Nat)) (.int .u64 (b' : Nat)) (.int .u64 (c : Nat)) (.int .u64 (d : Nat))).cells
  exact bodyPost_ret (v := .agg #[.int .u64 (a : Nat), .int .u64 (b' : Nat), .int .u64 (c : Nat), .int .u64 (d : Nat)]) (by simp [results, Try.results95, go_sem, z0, z1, z2, z3]) rfl (res_put h4 hb')
set_option maxRecDepth 10000 in
set_option maxHeartbeats 1000000 in
theorem named_W87 (w : World) : Calls Try.prog 95 #[.int .u8 87] w (RetC w (fun x => !wordP x)) := by
  go_enter Try.func95, Try.ntmps95
  go_wp2_with fail
  refine (word_any _).mono ?_
  rintro e w1 ⟨⟨a0, b0, c0, d0, rfl, k4⟩, hb1⟩
  have e1 : Below (w.heap.size + 1) (w.alloc (.cells #[.int .u64 0, .int .u64 0, .int .u64 0, .int .u64 0] 40)) w1 := by simpa using hb1
  have e2 : w.heap.size + 1 ≤ w1.heap.size := by have := e1.size; simpa using this
  go_wp2_with fail
  refine (not_c k4 _).mono ?_
  rintro e w' ⟨⟨a, b', c, d, rfl, h4⟩, hb⟩
  have hb' := e1.trans (hb.mono e2)
  have hy := res_cells hb'
  obtain ⟨y0, y1, y2, y3, v0, v1, v2, v3⟩ := hy.cells
  go_wp2
  obtain ⟨z0, z1, z2, z3, _⟩ := (hy.set (.int .u64 (a : Nat)) (.int .u64 (b' : Nat)) (.int .u64 (c : Nat)) (.int .u64 (d : Nat))).cells
  exact bodyPost_ret (v := .agg #[.int .u64 (a : Nat), .int .u64 (b' : Nat), .int .u64 (c : Nat), .int .u64 (d : Nat)]) (by simp [results, Try.results95, go_sem, z0, z1, z2, z3]) rfl (res_put h4 hb')
set_option maxRecDepth 10000 in
set_option maxHeartbeats 1000000 in
theorem named_else (b : Nat) (w : World) (h1 : b ≠ 100) (h2 : b ≠ 119) (h3 : b ≠ 115) (h4' : b ≠ 68) (h5 : b ≠ 87) : Calls Try.prog 95 #[.int .u8 (b : Nat)] w (RetC w (fun x => !spaceP x)) := by
  have e1 : ((b : Int) == 100) = false := by simp; omega
  have e2 : ((b : Int) == 119) = false := by simp; omega
  have e3 : ((b : Int) == 115) = false := by simp; omega
  have e4 : ((b : Int) == 68) = false := by simp; omega
  have e5 : ((b : Int) == 87) = false := by simp; omega
  clear h1 h2 h3 h4' h5
  go_enter Try.func95, Try.ntmps95
  go_wp2_with fail
  refine (space_any _).mono ?_
  rintro e w1 ⟨⟨a0, b0, c0, d0, rfl, k4⟩, hb1⟩
  have e1 : Below (w.heap.size + 1) (w.alloc (.cells #[.int .u64 0, .int .u64 0, .int .u64 0, .int .u64 0] 40)) w1 := by simpa using hb1
  have e2 : w.heap.size + 1 ≤ w1.heap.size := by have := e1.size; simpa using this
  go_wp2_with fail
  refine (not_c k4 _).mono ?_
  rintro e w' ⟨⟨a, b', c, d, rfl, h4⟩, hb⟩
  have hb' := e1.trans (hb.mono e2)
  have hy := res_cells hb'
  obtain ⟨y0, y1, y2, y3, v0, v1, v2, v3⟩ := hy.cells
  go_wp2
  obtain ⟨z0, z1, z2, z3, _⟩ := (hy.set (.int .u64 (a : Nat)) (.int .u64 (b' : Nat)) (.int .u64 (c : Nat)) (.int .u64 (d : Nat))).cells
  exact bodyPost_ret (v := .agg #[.int .u64 (a : Nat), .int .u64 (b' : Nat), .int .u64 (c : Nat), .int .u64 (d : Nat)]) (by simp [results, Try.results95, go_sem, z0, z1, z2, z3]) rfl (res_put h4 hb')
theorem named_any (b : Nat) (w : World) : Calls Try.prog 95 #[.int .u8 (b : Nat)] w (RetC w (namP b)) := by
  unfold namP
  by_cases h1 : b = 100
  · subst h1; exact named_d100 w
  rw [if_neg h1]
  by_cases h2 : b = 119
  · subst h2; exact named_w119 w
  rw [if_neg h2]
  by_cases h3 : b = 115
  · subst h3; exact named_s115 w
  rw [if_neg h3]
  by_cases h4 : b = 68
  · subst h4; exact named_D68 w
  rw [if_neg h4]
  by_cases h5 : b = 87
  · subst h5; exact named_W87 w
  rw [if_neg h5]
  exact named_else b w h1 h2 h3 h4 h5
end Go.Proofs.Ytlmmiicibjfcdaa
