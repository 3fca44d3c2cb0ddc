/- Range, Digit: the walks. -/
import Derived.Test.YtlmmiicibjfcdaaOf
namespace Go.Proofs.Ytlmmiicibjfcdaa
open Go.RowKit
/-- The bytes from lo on, k of them. -/
def rg (lo k : Nat) : Nat → Bool := fun b => decide (lo ≤ b ∧ b < lo + k)
theorem rg_zero (lo : Nat) : rg lo 0 = fun _ => false := by
  funext b; unfold rg; rw [decide_eq_false]; omega
theorem rg_succ (lo k : Nat) : rg lo (k + 1) = ins (rg lo k) (lo + k) := by
  funext b
  unfold rg ins
  rw [Bool.eq_iff_iff]
  simp
  omega
set_option maxRecDepth 10000 in
set_option maxHeartbeats 1000000 in
theorem range_any (lo hi : Nat) (w : World) (hl : lo < 256) (hh : hi < 256) :
    Calls Try.prog 121 #[.int .u8 (lo : Nat), .int .u8 (hi : Nat)] w (RetC w (rg lo (hi + 1 - lo))) := by
  have hW0 := Way.start w
  rw [← rg_zero lo] at hW0
  go_enter Try.func121, Try.ntmps121
  go_wp2
  go_loopw [13] (fun i wr => ∃ k : Nat, k ≤ hi + 1 - lo ∧ i = .int .i64 (k : Nat) ∧ Way w (rg lo k) wr) (fun i _ => hi + 1 - lo - (intOf i).toNat)
  case atStart => exact ⟨0, by omega, rfl, hW0⟩
  case round =>
    obtain ⟨k, hk, rfl, hW⟩ := hrel
    obtain ⟨a, b, c, d, h4, hx⟩ := hW.ex
    obtain ⟨c0, c1, c2, c3, f0, f1, f2, f3⟩ := hx.cells
    by_cases hlt : k < hi + 1 - lo
    · have hki : (k : Int) < (hi : Int) - lo + 1 := by omega
      have hc : ((lo + k : Nat) : Int) = (lo : Int) + k := by omega
      have hw := with_c h4 (lo + k) wr (by omega)
      rw [hc, ← rg_succ] at hw
      go_wp2_with (go_at_call 55; refine hw.mono ?_; rintro e w' ⟨⟨a', b', c', d', rfl, h4'⟩, hb'⟩; have hW' := hW.next hb' h4'; obtain ⟨g0, g1, g2, g3, e0, e1, e2, e3⟩ := (hx.below hb').cells)
      go_roundw
      case rel => exact ⟨k + 1, by omega, by go_num, hW'⟩
      case measure => simp [intOf]; omega
    · obtain rfl : k = hi + 1 - lo := by omega
      have hki : ¬ (((hi + 1 - lo : Nat) : Int) < (hi : Int) - lo + 1) := by omega
      obtain ⟨p', q', r', s', hy⟩ := hW.res
      obtain ⟨y0, y1, y2, y3, v0, v1, v2, v3⟩ := hy.cells
      obtain ⟨z0, z1, z2, z3, _⟩ := (hy.set (.int .u64 (a : Nat)) (.int .u64 (b : Nat)) (.int .u64 (c : Nat)) (.int .u64 (d : Nat))).cells
      go_wp2
      exact bodyPost_ret (v := .agg #[.int .u64 (a : Nat), .int .u64 (b : Nat), .int .u64 (c : Nat), .int .u64 (d : Nat)]) (by simp [results, Try.results121, go_sem, z0, z1, z2, z3]) rfl ⟨⟨a, b, c, d, rfl, h4⟩, below_put4 hW.bel (Nat.le_refl _) _ _ _ _⟩
/-- A class stored into the result's block, behind a call. -/
theorem res_put {w w' : World} {P : Nat → Bool} {a b c d : Nat} (h4 : C4 P a b c d) (hb : Below (w.heap.size + 1) (w.alloc (.cells #[.int .u64 0, .int .u64 0, .int .u64 0, .int .u64 0] 40)) w') :
    RetC w P (.returned (.agg #[.int .u64 (a : Nat), .int .u64 (b : Nat), .int .u64 (c : Nat), .int .u64 (d : Nat)])) (put4 w' w.heap.size (.int .u64 (a : Nat)) (.int .u64 (b : Nat)) (.int .u64 (c : Nat)) (.int .u64 (d : Nat))) :=
  ⟨⟨a, b, c, d, rfl, h4⟩, below_put4 (((Below.refl _ _).alloc (Nat.le_refl _) _).trans (hb.mono (by omega))) (Nat.le_refl _) _ _ _ _⟩
theorem res_cells {w w' : World} (hb : Below (w.heap.size + 1) (w.alloc (.cells #[.int .u64 0, .int .u64 0, .int .u64 0, .int .u64 0] 40)) w') : Bx w' w.heap.size (.int .u64 0) (.int .u64 0) (.int .u64 0) (.int .u64 0) :=
  (Bx.new w _ _ _ _).belowB hb (by omega)
set_option maxHeartbeats 1000000 in
theorem digit_any (w : World) : Calls Try.prog 114 #[] w (RetC w (rg 48 10)) := by
  go_enter Try.func114, Try.ntmps114
  go_wp2_with (go_at_call 121; refine (range_any 48 57 _ (by decide) (by decide)).mono ?_; rintro e w' ⟨⟨a, b, c, d, rfl, h4⟩, hb⟩; have hb' : Below (w.heap.size + 1) _ w' := (by simpa using hb); have hy := res_cells hb'; obtain ⟨y0, y1, y2, y3, v0, v1, v2, v3⟩ := hy.cells)
  obtain ⟨z0, z1, z2, z3, _⟩ := (hy.set (.int .u64 (a : Nat)) (.int .u64 (b : Nat)) (.int .u64 (c : Nat)) (.int .u64 (d : Nat))).cells
  exact bodyPost_ret (v := .agg #[.int .u64 (a : Nat), .int .u64 (b : Nat), .int .u64 (c : Nat), .int .u64 (d : Nat)]) (by simp [results, Try.results114, go_sem, z0, z1, z2, z3]) rfl (res_put h4 hb')
end Go.Proofs.Ytlmmiicibjfcdaa
