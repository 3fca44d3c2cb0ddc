/- Union: the walk. -/
import Derived.Test.YtlmmiicibjfcdaaNot
namespace Go.Proofs.Ytlmmiicibjfcdaa
open Go.RowKit
/-- The cells of a slice of classes can be read, and hold the words F. -/
structure RdC (w : World) (ao : Option Addr) (len : Nat) (F : Nat → Nat → Nat) : Prop where
  at_ : 0 < len → ∃ b off, ao = some ⟨b, off, none⟩ ∧ b < w.heap.size ∧ ∀ i, i < len → ∀ j, j < 4 → w.cell? ⟨b, off + i * 4 + j, none⟩ = some (.int .u64 (F i j : Nat))
theorem RdC.below {w w' : World} {ao : Option Addr} {len : Nat} {F : Nat → Nat → Nat} (h : RdC w ao len F) (hb : Below w.heap.size w w') : RdC w' ao len F := by
  refine ⟨fun hl => ?_⟩
  obtain ⟨b, off, e, hlt, hc⟩ := h.at_ hl
  exact ⟨b, off, e, Nat.lt_of_lt_of_le hlt hb.size, fun i hi j hj => by rw [hb.cell (p := ⟨b, off + i * 4 + j, none⟩) hlt]; exact hc i hi j hj⟩
/-- What is in one of the first n classes. -/
def unN (Ps : Nat → Nat → Bool) : Nat → Nat → Bool
  | 0 => fun _ => false
  | n + 1 => fun x => unN Ps n x || Ps n x
/-- Two classes on their way: the one in block n + 1, beside the result's block n. -/
structure Way2 (w : World) (p q r s : Nat) (wr : World) : Prop where
  ex : Bx wr (w.heap.size + 1) (.int .u64 (p : Nat)) (.int .u64 (q : Nat)) (.int .u64 (r : Nat)) (.int .u64 (s : Nat))
  res : ∃ a b c d, Bx wr w.heap.size a b c d
  bel : Below w.heap.size w wr
section
variable {w wr : World} {p q r s : Nat}
theorem Way2.alloc (h : Way2 w p q r s wr) (o : Obj) : Way2 w p q r s (wr.alloc o) := by
  obtain ⟨hx, ⟨a, b, c, d, hy⟩, hb⟩ := h
  exact ⟨hx.alloc o, ⟨a, b, c, d, hy.alloc o⟩, hb.alloc hb.size o⟩
theorem Way2.set0 (h : Way2 w p q r s wr) (u : Nat) : Way2 w u q r s (wr.setCell ⟨w.heap.size + 1, 0, none⟩ (.int .u64 (u : Nat))) := by
  obtain ⟨hx, ⟨a, b, c, d, hy⟩, hb⟩ := h
  exact ⟨hx.set0 _, ⟨a, b, c, d, hy.other (p := ⟨w.heap.size + 1, 0, none⟩) (by simp) _⟩, hb.setCell (p := ⟨w.heap.size + 1, 0, none⟩) (by simp) _⟩
theorem Way2.set1 (h : Way2 w p q r s wr) (u : Nat) : Way2 w p u r s (wr.setCell ⟨w.heap.size + 1, 1, none⟩ (.int .u64 (u : Nat))) := by
  obtain ⟨hx, ⟨a, b, c, d, hy⟩, hb⟩ := h
  exact ⟨hx.set1 _, ⟨a, b, c, d, hy.other (p := ⟨w.heap.size + 1, 1, none⟩) (by simp) _⟩, hb.setCell (p := ⟨w.heap.size + 1, 1, none⟩) (by simp) _⟩
theorem Way2.set2 (h : Way2 w p q r s wr) (u : Nat) : Way2 w p q u s (wr.setCell ⟨w.heap.size + 1, 2, none⟩ (.int .u64 (u : Nat))) := by
  obtain ⟨hx, ⟨a, b, c, d, hy⟩, hb⟩ := h
  exact ⟨hx.set2 _, ⟨a, b, c, d, hy.other (p := ⟨w.heap.size + 1, 2, none⟩) (by simp) _⟩, hb.setCell (p := ⟨w.heap.size + 1, 2, none⟩) (by simp) _⟩
theorem Way2.set3 (h : Way2 w p q r s wr) (u : Nat) : Way2 w p q r u (wr.setCell ⟨w.heap.size + 1, 3, none⟩ (.int .u64 (u : Nat))) := by
  obtain ⟨hx, ⟨a, b, c, d, hy⟩, hb⟩ := h
  exact ⟨hx.set3 _, ⟨a, b, c, d, hy.other (p := ⟨w.heap.size + 1, 3, none⟩) (by simp) _⟩, hb.setCell (p := ⟨w.heap.size + 1, 3, none⟩) (by simp) _⟩
end
theorem Way2.of {w wr : World} {P : Nat → Bool} (h : Way w P wr) : ∃ p q r s, C4 P p q r s ∧ Way2 w p q r s wr := by
  obtain ⟨⟨p, q, r, s, h4, hx⟩, hy, hb⟩ := h
  exact ⟨p, q, r, s, h4, hx, hy, hb⟩
theorem Way2.way {w wr : World} {P : Nat → Bool} {p q r s : Nat} (h : Way2 w p q r s wr) (h4 : C4 P p q r s) : Way w P wr := ⟨⟨p, q, r, s, h4, h.ex⟩, h.res, h.bel⟩
set_option maxRecDepth 10000 in
set_option maxHeartbeats 2000000 in
theorem union_any (ao : Option Addr) (len cap : Nat) (F : Nat → Nat → Nat) (Ps : Nat → Nat → Bool) (w : World) (hr : RdC w ao len F) (hC : ∀ i, i < len → C4 (Ps i) (F i 0) (F i 1) (F i 2) (F i 3)) (hl : (len : Int) ≤ 9223372036854775807) :
    Calls Try.prog 101 #[.slice ao len cap] w (RetC w (unN Ps len)) := by
  have hW0 := Way.start w
  go_enter Try.func101, Try.ntmps101
  go_wp2
  go_loopw [10] (fun i wr => ∃ k : Nat, k ≤ len ∧ i = .int .i64 (k : Nat) ∧ Way w (unN Ps k) wr) (fun i _ => len - (intOf i).toNat)
  case atStart => exact ⟨0, by omega, rfl, hW0⟩
  case round =>
    obtain ⟨k, hk, rfl, hW⟩ := hrel
    obtain ⟨a, b, c, d, h4, hW2⟩ := Way2.of hW
    by_cases hlt : k < len
    · obtain ⟨bb, off, rfl, hbb, hc⟩ := hr.at_ (by omega)
      have hk4 := hC k hlt
      have t0 : wr.cell? ⟨bb, off + k * 4, none⟩ = some (.int .u64 (F k 0 : Nat)) := by rw [hW.bel.cell (p := ⟨bb, off + k * 4, none⟩) hbb]; exact hc k hlt 0 (by decide)
      have t1 : wr.cell? ⟨bb, off + k * 4 + 1, none⟩ = some (.int .u64 (F k 1 : Nat)) := by rw [hW.bel.cell (p := ⟨bb, off + k * 4 + 1, none⟩) hbb]; exact hc k hlt 1 (by decide)
      have t2 : wr.cell? ⟨bb, off + k * 4 + 2, none⟩ = some (.int .u64 (F k 2 : Nat)) := by rw [hW.bel.cell (p := ⟨bb, off + k * 4 + 2, none⟩) hbb]; exact hc k hlt 2 (by decide)
      have t3 : wr.cell? ⟨bb, off + k * 4 + 3, none⟩ = some (.int .u64 (F k 3 : Nat)) := by rw [hW.bel.cell (p := ⟨bb, off + k * 4 + 3, none⟩) hbb]; exact hc k hlt 3 (by decide)
      have hki : (k : Int) < (len : Int) := by omega
      clear hc hr hC
      generalize F k 0 = e at *
      generalize F k 1 = f at *
      generalize F k 2 = g at *
      generalize F k 3 = h at *
      have i0 := idx0 (.int .u64 (e : Nat)) (.int .u64 (f : Nat)) (.int .u64 (g : Nat)) (.int .u64 (h : Nat))
      have i1 := idx1 (.int .u64 (e : Nat)) (.int .u64 (f : Nat)) (.int .u64 (g : Nat)) (.int .u64 (h : Nat))
      have i2 := idx2 (.int .u64 (e : Nat)) (.int .u64 (f : Nat)) (.int .u64 (g : Nat)) (.int .u64 (h : Nat))
      have i3 := idx3 (.int .u64 (e : Nat)) (.int .u64 (f : Nat)) (.int .u64 (g : Nat)) (.int .u64 (h : Nat))
      have va := u64_or_nat a e h4.la hk4.la
      have vb := u64_or_nat b f h4.lb hk4.lb
      have vc := u64_or_nat c g h4.lc hk4.lc
      have vd := u64_or_nat d h h4.ld hk4.ld
      have HO : Hid (C4 (unN Ps (k + 1)) (a ||| e) (b ||| f) (c ||| g) (d ||| h)) := h4.or hk4
      clear hW h4 hk4
      go_wp2
      go_loopw [15] (fun i wv => ∃ p q r s : Nat, Way2 w p q r s wv ∧ ((i = .int .i64 0 ∧ p = a ∧ q = b ∧ r = c ∧ s = d) ∨ (i = .int .i64 1 ∧ p = a ||| e ∧ q = b ∧ r = c ∧ s = d) ∨ (i = .int .i64 2 ∧ p = a ||| e ∧ q = b ||| f ∧ r = c ∧ s = d) ∨
        (i = .int .i64 3 ∧ p = a ||| e ∧ q = b ||| f ∧ r = c ||| g ∧ s = d) ∨ (i = .int .i64 4 ∧ p = a ||| e ∧ q = b ||| f ∧ r = c ||| g ∧ s = d ||| h))) (fun i _ => 4 - (intOf i).toNat)
      case atStart => exact ⟨a, b, c, d, hW2.alloc _, .inl ⟨rfl, rfl, rfl, rfl, rfl⟩⟩
      case round =>
        obtain ⟨p, q, r, s, hV, hh⟩ := hrel
        obtain ⟨c0, c1, c2, c3, f0, f1, f2, f3⟩ := hV.ex.cells
        rcases hh with ⟨rfl, rfl, rfl, rfl, rfl⟩ | ⟨rfl, rfl, rfl, rfl, rfl⟩ | ⟨rfl, rfl, rfl, rfl, rfl⟩ | ⟨rfl, rfl, rfl, rfl, rfl⟩ | ⟨rfl, rfl, rfl, rfl, rfl⟩
        · have hV' := hV.set0 (p ||| e)
          go_wp2
          go_roundw
          case rel => exact ⟨_, _, _, _, hV', .inr (.inl ⟨rfl, rfl, rfl, rfl, rfl⟩)⟩
          case measure => decide
        · have hV' := hV.set1 (q ||| f)
          go_wp2
          go_roundw
          case rel => exact ⟨_, _, _, _, hV', .inr (.inr (.inl ⟨rfl, rfl, rfl, rfl, rfl⟩))⟩
          case measure => decide
        · have hV' := hV.set2 (r ||| g)
          go_wp2
          go_roundw
          case rel => exact ⟨_, _, _, _, hV', .inr (.inr (.inr (.inl ⟨rfl, rfl, rfl, rfl, rfl⟩)))⟩
          case measure => decide
        · have hV' := hV.set3 (s ||| h)
          go_wp2
          go_roundw
          case rel => exact ⟨_, _, _, _, hV', .inr (.inr (.inr (.inr ⟨rfl, rfl, rfl, rfl, rfl⟩)))⟩
          case measure => decide
        · have hV' : Way w (unN Ps (k + 1)) wr := hV.way HO.out
          go_wp2
          go_roundw
          case rel => exact ⟨k + 1, by omega, by go_num, hV'⟩
          case measure => simp [intOf]; omega
    · obtain rfl : k = len := by omega
      obtain ⟨p', q', r', s', hy⟩ := hW.res
      obtain ⟨c0, c1, c2, c3, f0, f1, f2, f3⟩ := hW2.ex.cells
      obtain ⟨y0, y1, y2, y3, v0, v1, v2, v3⟩ := hy.cells
      obtain ⟨z0, z1, z2, z3, _⟩ := (hy.set (.int .u64 (a : Nat)) (.int .u64 (b : Nat)) (.int .u64 (c : Nat)) (.int .u64 (d : Nat))).cells
      go_wp2
      exact bodyPost_ret (v := .agg #[.int .u64 (a : Nat), .int .u64 (b : Nat), .int .u64 (c : Nat), .int .u64 (d : Nat)]) (by simp [results, Try.results101, go_sem, z0, z1, z2, z3]) rfl ⟨⟨a, b, c, d, rfl, h4⟩, below_put4 hW.bel (Nat.le_refl _) _ _ _ _⟩
end Go.Proofs.Ytlmmiicibjfcdaa
