/- parse: cased, dot, Leaf: the walks. -/
import Derived.Test.YtlmmiicibjfcdaaPb
import Derived.Test.YtlmmiicibjfcdaaFd
import Derived.Test.YtlmmiicibjfcdaaWc
import Derived.Test.YtlmmiicibjfcdaaGEqCkTailMkRuWd
import Derived.Test.YtlmmiicibjfcdaaKn
import Derived.Deep.RegionHeld3
namespace Go.Proofs.Ytlmmiicibjfcdaa
open Go.RowKit
/-- Flags as a value. -/
def fgV (fl : Fg) : Value := .agg #[.bool fl.c, .bool fl.d, .bool fl.m, .bool fl.o, .bool fl.l]
/-- A class without regard to case, if that is asked; what a dot is. -/
def csP (fl : Fg) (P : Nat → Bool) : Nat → Bool := if fl.c then foldN P (come P 256) else P
def dotP (fl : Fg) : Nat → Bool := if fl.d then fun _ => true else fun x => !ofN (fun _ => 10) 1 x
set_option maxRecDepth 10000 in
set_option maxHeartbeats 2000000 in
theorem cased_c {P : Nat → Bool} {a b c d : Nat} (h4 : C4 P a b c d) (fl : Fg) (w : World) : Calls Try.prog 27 #[.agg #[.int .u64 (a : Nat), .int .u64 (b : Nat), .int .u64 (c : Nat), .int .u64 (d : Nat)], fgV fl] w (RetC w (csP fl P)) := by
  have hB := below3 w (.cells #[.int .u64 (a : Nat), .int .u64 (b : Nat), .int .u64 (c : Nat), .int .u64 (d : Nat)] 40) (.cells #[.bool fl.c, .bool fl.d, .bool fl.m, .bool fl.o, .bool fl.l] 23) (.cells #[.int .u64 0, .int .u64 0, .int .u64 0, .int .u64 0] 40)
  unfold fgV csP
  cases hc : fl.c with
  | false =>
    rw [if_neg (by decide)]
    rw [hc] at hB
    go_enter Try.func27, Try.ntmps27
    go_wp2
    exact bodyPost_ret (v := .agg #[.int .u64 (a : Nat), .int .u64 (b : Nat), .int .u64 (c : Nat), .int .u64 (d : Nat)]) (by simp [results, Try.results27, go_sem]) rfl ⟨⟨a, b, c, d, rfl, h4⟩, below3 _ _ _ _⟩
  | true =>
    rw [if_pos rfl]
    rw [hc] at hB
    have hz : Bx (((w.alloc (.cells #[.int .u64 (a : Nat), .int .u64 (b : Nat), .int .u64 (c : Nat), .int .u64 (d : Nat)] 40)).alloc (.cells #[.bool true, .bool fl.d, .bool fl.m, .bool fl.o, .bool fl.l] 23)).alloc (.cells #[.int .u64 0, .int .u64 0, .int .u64 0, .int .u64 0] 40)) (w.heap.size + 1 + 1) (.int .u64 0) (.int .u64 0) (.int .u64 0) (.int .u64 0) := by
      have := Bx.new ((w.alloc (.cells #[.int .u64 (a : Nat), .int .u64 (b : Nat), .int .u64 (c : Nat), .int .u64 (d : Nat)] 40)).alloc (.cells #[.bool true, .bool fl.d, .bool fl.m, .bool fl.o, .bool fl.l] 23)) (.int .u64 0) (.int .u64 0) (.int .u64 0) (.int .u64 0)
      simpa using this
    have HF := fold_c h4 (((w.alloc (.cells #[.int .u64 (a : Nat), .int .u64 (b : Nat), .int .u64 (c : Nat), .int .u64 (d : Nat)] 40)).alloc (.cells #[.bool true, .bool fl.d, .bool fl.m, .bool fl.o, .bool fl.l] 23)).alloc (.cells #[.int .u64 0, .int .u64 0, .int .u64 0, .int .u64 0] 40))
    go_enter Try.func27, Try.ntmps27
    go_wp2_with fail
    refine HF.mono ?_
    rintro e w1 ⟨⟨a', b', c', d', rfl, h4'⟩, hb1⟩
    have hx := hz.below hb1
    have hB1 := hB.trans (hb1.mono hB.size)
    obtain ⟨y0, y1, y2, y3, v0, v1, v2, v3⟩ := hx.cells
    obtain ⟨z0, z1, z2, z3, _⟩ := (hx.set (.int .u64 (a' : Nat)) (.int .u64 (b' : Nat)) (.int .u64 (c' : Nat)) (.int .u64 (d' : Nat))).cells
    have HB : Hid (Below w.heap.size w (put4 w1 (w.heap.size + 1 + 1) (.int .u64 (a' : Nat)) (.int .u64 (b' : Nat)) (.int .u64 (c' : Nat)) (.int .u64 (d' : Nat)))) := below_put4 hB1 (by omega) _ _ _ _
    clear hb1 HF hB hB1 hz
    go_wp2
    exact bodyPost_ret (v := .agg #[.int .u64 (a' : Nat), .int .u64 (b' : Nat), .int .u64 (c' : Nat), .int .u64 (d' : Nat)]) (by simp [results, Try.results27, go_sem, z0, z1, z2, z3]) rfl ⟨⟨a', b', c', d', rfl, h4'⟩, HB.out⟩
set_option maxRecDepth 10000 in
set_option maxHeartbeats 2000000 in
theorem dot_c (fl : Fg) (w : World) : Calls Try.prog 30 #[fgV fl] w (RetC w (dotP fl)) := by
  unfold fgV dotP
  cases hc : fl.d with
  | true =>
    rw [if_pos rfl]
    have hB := below2 w (.cells #[.bool fl.c, .bool true, .bool fl.m, .bool fl.o, .bool fl.l] 23) (.cells #[.int .u64 0, .int .u64 0, .int .u64 0, .int .u64 0] 40)
    have hz : Bx ((w.alloc (.cells #[.bool fl.c, .bool true, .bool fl.m, .bool fl.o, .bool fl.l] 23)).alloc (.cells #[.int .u64 0, .int .u64 0, .int .u64 0, .int .u64 0] 40)) (w.heap.size + 1) (.int .u64 0) (.int .u64 0) (.int .u64 0) (.int .u64 0) := by
      have := Bx.new (w.alloc (.cells #[.bool fl.c, .bool true, .bool fl.m, .bool fl.o, .bool fl.l] 23)) (.int .u64 0) (.int .u64 0) (.int .u64 0) (.int .u64 0)
      simpa using this
    have HF := full_any ((w.alloc (.cells #[.bool fl.c, .bool true, .bool fl.m, .bool fl.o, .bool fl.l] 23)).alloc (.cells #[.int .u64 0, .int .u64 0, .int .u64 0, .int .u64 0] 40))
    go_enter Try.func30, Try.ntmps30
    go_wp2_with fail
    refine HF.mono ?_
    rintro e w1 ⟨⟨a', b', c', d', rfl, h4'⟩, hb1⟩
    have hx := hz.below hb1
    have hB1 := hB.trans (hb1.mono hB.size)
    obtain ⟨y0, y1, y2, y3, v0, v1, v2, v3⟩ := hx.cells
    obtain ⟨z0, z1, z2, z3, _⟩ := (hx.set (.int .u64 (a' : Nat)) (.int .u64 (b' : Nat)) (.int .u64 (c' : Nat)) (.int .u64 (d' : Nat))).cells
    have HB : Hid (Below w.heap.size w (put4 w1 (w.heap.size + 1) (.int .u64 (a' : Nat)) (.int .u64 (b' : Nat)) (.int .u64 (c' : Nat)) (.int .u64 (d' : Nat)))) := below_put4 hB1 (by omega) _ _ _ _
    clear hb1 HF hB hB1 hz
    go_wp2
    exact bodyPost_ret (v := .agg #[.int .u64 (a' : Nat), .int .u64 (b' : Nat), .int .u64 (c' : Nat), .int .u64 (d' : Nat)]) (by simp [results, Try.results30, go_sem, z0, z1, z2, z3]) rfl ⟨⟨a', b', c', d', rfl, h4'⟩, HB.out⟩
  | false =>
    rw [if_neg (by decide)]
    have hB := below3 w (.cells #[.bool fl.c, .bool false, .bool fl.m, .bool fl.o, .bool fl.l] 23) (.cells #[.int .u64 0, .int .u64 0, .int .u64 0, .int .u64 0] 40) (.cells #[.int .u8 10] 5)
    have hz : Bx (((w.alloc (.cells #[.bool fl.c, .bool false, .bool fl.m, .bool fl.o, .bool fl.l] 23)).alloc (.cells #[.int .u64 0, .int .u64 0, .int .u64 0, .int .u64 0] 40)).alloc (.cells #[.int .u8 10] 5)) (w.heap.size + 1) (.int .u64 0) (.int .u64 0) (.int .u64 0) (.int .u64 0) := by
      have := (Bx.new (w.alloc (.cells #[.bool fl.c, .bool false, .bool fl.m, .bool fl.o, .bool fl.l] 23)) (.int .u64 0) (.int .u64 0) (.int .u64 0) (.int .u64 0)).alloc (.cells #[.int .u8 10] 5)
      simpa using this
    have HO := of_any _ 1 1 (fun _ => 10) _ (rd_one ((w.alloc (.cells #[.bool fl.c, .bool false, .bool fl.m, .bool fl.o, .bool fl.l] 23)).alloc (.cells #[.int .u64 0, .int .u64 0, .int .u64 0, .int .u64 0] 40)) 10 (by decide)) (by decide)
    simp only [World.size_alloc] at HO
    go_enter Try.func30, Try.ntmps30
    go_wp2_with fail
    refine HO.mono ?_
    rintro e w1 ⟨⟨a', b', c', d', rfl, h4'⟩, hb1⟩
    have hx1 := hz.below hb1
    have hB1 := hB.trans (hb1.mono hB.size)
    have HN := not_c h4' w1
    clear HO hz hB hb1 h4'
    go_wp2_with fail
    refine HN.mono ?_
    rintro e w2 ⟨⟨a2, b2, c2, d2, rfl, h42⟩, hb2⟩
    have hx := hx1.below hb2
    have hB2 := hB1.trans (hb2.mono hB1.size)
    obtain ⟨y0, y1, y2, y3, v0, v1, v2, v3⟩ := hx.cells
    obtain ⟨z0, z1, z2, z3, _⟩ := (hx.set (.int .u64 (a2 : Nat)) (.int .u64 (b2 : Nat)) (.int .u64 (c2 : Nat)) (.int .u64 (d2 : Nat))).cells
    have HB : Hid (Below w.heap.size w (put4 w2 (w.heap.size + 1) (.int .u64 (a2 : Nat)) (.int .u64 (b2 : Nat)) (.int .u64 (c2 : Nat)) (.int .u64 (d2 : Nat)))) := below_put4 hB2 (by omega) _ _ _ _
    clear HN hb2 hB1 hB2 hx1
    go_wp2
    exact bodyPost_ret (v := .agg #[.int .u64 (a2 : Nat), .int .u64 (b2 : Nat), .int .u64 (c2 : Nat), .int .u64 (d2 : Nat)]) (by simp [results, Try.results30, go_sem, z0, z1, z2, z3]) rfl ⟨⟨a2, b2, c2, d2, rfl, h42⟩, HB.out⟩
end Go.Proofs.Ytlmmiicibjfcdaa
