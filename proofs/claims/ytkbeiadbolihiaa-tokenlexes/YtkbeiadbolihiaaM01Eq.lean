/- Not, Meet, Full: the walks. Union: the walk. Rows of one byte; classes on their way. Word, Space and the reference's: the walks. Two classes held against each other. -/
import Derived.Test.YtkbeiadbolihiaaM00Rng
import Derived.Deep.RegionWith
import Derived.ChangeKeysEq
namespace Go.Proofs.Ytkbeiadbolihiaa
open Go.RowKit
theorem idx0 (x y z t : Value) (w : World) : (Instr.index 31 (.agg #[x, y, z, t]) (.int .i64 0)).run Try.prog w = .ok x w := by kernel_rfl
theorem idx1 (x y z t : Value) (w : World) : (Instr.index 31 (.agg #[x, y, z, t]) (.int .i64 1)).run Try.prog w = .ok y w := by kernel_rfl
theorem idx2 (x y z t : Value) (w : World) : (Instr.index 31 (.agg #[x, y, z, t]) (.int .i64 2)).run Try.prog w = .ok z w := by kernel_rfl
theorem idx3 (x y z t : Value) (w : World) : (Instr.index 31 (.agg #[x, y, z, t]) (.int .i64 3)).run Try.prog w = .ok t w := by kernel_rfl
theorem not_val {a : Nat} (ha : a < 18446744073709551616) : bits BinOp.xor IntKind.u64 (if IntKind.u64.signed = true then -1 else IntKind.u64.max) (a : Int) = ((18446744073709551615 ^^^ a : Nat) : Int) :=
  u64_xor_nat 18446744073709551615 a (by decide) ha
set_option maxHeartbeats 2000000 in
theorem not_walk (a b c d a' b' c' d' : Nat) (w : World) (ha : bits BinOp.xor IntKind.u64 (if IntKind.u64.signed = true then -1 else IntKind.u64.max) (a : Int) = (a' : Nat)) (hb : bits BinOp.xor IntKind.u64 (if IntKind.u64.signed = true then -1 else IntKind.u64.max) (b : Int) = (b' : Nat)) (hc : bits BinOp.xor IntKind.u64 (if IntKind.u64.signed = true then -1 else IntKind.u64.max) (c : Int) = (c' : Nat)) (hd : bits BinOp.xor IntKind.u64 (if IntKind.u64.signed = true then -1 else IntKind.u64.max) (d : Int) = (d' : Nat)) :
    Calls Try.prog 54 #[.agg #[.int .u64 (a : Nat), .int .u64 (b : Nat), .int .u64 (c : Nat), .int .u64 (d : Nat)]] w fun e w' => e = .returned (.agg #[.int .u64 (a' : Nat), .int .u64 (b' : Nat), .int .u64 (c' : Nat), .int .u64 (d' : Nat)]) ∧ Below w.heap.size w w' := by
  have i0 := idx0 (.int .u64 (a : Nat)) (.int .u64 (b : Nat)) (.int .u64 (c : Nat)) (.int .u64 (d : Nat))
  have i1 := idx1 (.int .u64 (a : Nat)) (.int .u64 (b : Nat)) (.int .u64 (c : Nat)) (.int .u64 (d : Nat))
  have i2 := idx2 (.int .u64 (a : Nat)) (.int .u64 (b : Nat)) (.int .u64 (c : Nat)) (.int .u64 (d : Nat))
  have i3 := idx3 (.int .u64 (a : Nat)) (.int .u64 (b : Nat)) (.int .u64 (c : Nat)) (.int .u64 (d : Nat))
  go_enter Try.func54, Try.ntmps54
  go_wp2
  go_loopw [6] (fun i wr => ∃ p q r s : Nat, wr = (w.alloc (.cells #[.int .u64 (p : Nat), .int .u64 (q : Nat), .int .u64 (r : Nat), .int .u64 (s : Nat)] 31)).alloc (.cells #[.int .u64 0, .int .u64 0, .int .u64 0, .int .u64 0] 31) ∧ ((i = .int .i64 0 ∧ p = a ∧ q = b ∧ r = c ∧ s = d) ∨ (i = .int .i64 1 ∧ p = a' ∧ q = b ∧ r = c ∧ s = d) ∨ (i = .int .i64 2 ∧ p = a' ∧ q = b' ∧ r = c ∧ s = d) ∨ (i = .int .i64 3 ∧ p = a' ∧ q = b' ∧ r = c' ∧ s = d) ∨ (i = .int .i64 4 ∧ p = a' ∧ q = b' ∧ r = c' ∧ s = d'))) (fun i _ => 4 - (intOf i).toNat)
  case atStart => exact ⟨a, b, c, d, rfl, .inl ⟨rfl, rfl, rfl, rfl, rfl⟩⟩
  case round =>
    obtain ⟨p, q, r, s, rfl, h⟩ := hrel
    rcases h with ⟨rfl, rfl, rfl, rfl, rfl⟩ | ⟨rfl, rfl, rfl, rfl, rfl⟩ | ⟨rfl, rfl, rfl, rfl, rfl⟩ | ⟨rfl, rfl, rfl, rfl, rfl⟩ | ⟨rfl, rfl, rfl, rfl, rfl⟩
    · go_wp2
      go_roundw
      case rel => exact ⟨_, _, _, _, rfl, .inr (.inl ⟨rfl, rfl, rfl, rfl, rfl⟩)⟩
      case measure => decide
    · go_wp2
      go_roundw
      case rel => exact ⟨_, _, _, _, rfl, .inr (.inr (.inl ⟨rfl, rfl, rfl, rfl, rfl⟩))⟩
      case measure => decide
    · go_wp2
      go_roundw
      case rel => exact ⟨_, _, _, _, rfl, .inr (.inr (.inr (.inl ⟨rfl, rfl, rfl, rfl, rfl⟩)))⟩
      case measure => decide
    · go_wp2
      go_roundw
      case rel => exact ⟨_, _, _, _, rfl, .inr (.inr (.inr (.inr ⟨rfl, rfl, rfl, rfl, rfl⟩)))⟩
      case measure => decide
    · go_wp2
      exact bodyPost_ret (v := .agg #[.int .u64 (p : Nat), .int .u64 (q : Nat), .int .u64 (r : Nat), .int .u64 (s : Nat)]) (by simp [results, Try.results54, go_sem]) rfl ⟨rfl, below2 _ _ _⟩
/-- not. -/
theorem not_c {P : Nat → Bool} {a b c d : Nat} (h : C4 P a b c d) (w : World) : Calls Try.prog 54 #[.agg #[.int .u64 (a : Nat), .int .u64 (b : Nat), .int .u64 (c : Nat), .int .u64 (d : Nat)]] w (RetC w fun x => !P x) := by
  exact (not_walk a b c d _ _ _ _ w (not_val h.la) (not_val h.lb) (not_val h.lc) (not_val h.ld)).mono fun e w' ⟨he, hb⟩ => ⟨⟨_, _, _, _, he, h.not⟩, hb⟩
theorem below3 (w : World) (o o' o'' : Obj) : Below w.heap.size w (((w.alloc o).alloc o').alloc o'') := (below2 w o o').alloc (by simp; omega) _
set_option maxHeartbeats 1000000 in
theorem full_any (w : World) : Calls Try.prog 60 #[] w (RetC w fun _ => true) := by
  go_enter Try.func60, Try.ntmps60
  go_wp2_with (go_at_call 54; refine (not_c c4_none _).mono ?_; rintro e w' ⟨⟨a, b, c, d, rfl, h4⟩, hb⟩; have hb' : Below (w.heap.size + 1) _ w' := (by simpa using hb); have hy := res_cells hb'; obtain ⟨y0, y1, y2, y3, v0, v1, v2, v3⟩ := hy.cells)
  obtain ⟨z0, z1, z2, z3, _⟩ := (hy.set (.int .u64 (a : Nat)) (.int .u64 (b : Nat)) (.int .u64 (c : Nat)) (.int .u64 (d : Nat))).cells
  exact bodyPost_ret (v := .agg #[.int .u64 (a : Nat), .int .u64 (b : Nat), .int .u64 (c : Nat), .int .u64 (d : Nat)]) (by simp [results, Try.results60, go_sem, z0, z1, z2, z3]) rfl (res_put h4 hb')
end Go.Proofs.Ytkbeiadbolihiaa
namespace Go.Proofs.Ytkbeiadbolihiaa
open Go.RowKit
/-- The cells of a slice of classes can be read, and hold the words F. -/
structure RdC (w : World) (ao : Option Addr) (len : Nat) (F : Nat → Nat → Nat) : Prop where
  at_ : 0 < len → ∃ b off, ao = some ⟨b, off, none⟩ ∧ b < w.heap.size ∧ ∀ i, i < len → ∀ j, j < 4 → w.cell? ⟨b, off + i * 4 + j, none⟩ = some (.int .u64 (F i j : Nat))
theorem RdC.below {w w' : World} {ao : Option Addr} {len : Nat} {F : Nat → Nat → Nat} (h : RdC w ao len F) (hb : Below w.heap.size w w') : RdC w' ao len F := by
  refine ⟨fun hl => ?_⟩
  obtain ⟨b, off, e, hlt, hc⟩ := h.at_ hl
  exact ⟨b, off, e, Nat.lt_of_lt_of_le hlt hb.size, fun i hi j hj => by rw [hb.cell (p := ⟨b, off + i * 4 + j, none⟩) hlt]; exact hc i hi j hj⟩
/-- What is in one of the first n classes. -/
def unN (Ps : Nat → Nat → Bool) : Nat → Nat → Bool
  | 0 => fun _ => false
  | n + 1 => fun x => unN Ps n x || Ps n x
/-- Two classes on their way: the one in block n + 1, beside the result's block n. -/
structure Way2 (w : World) (p q r s : Nat) (wr : World) : Prop where
  ex : Bx wr (w.heap.size + 1) (.int .u64 (p : Nat)) (.int .u64 (q : Nat)) (.int .u64 (r : Nat)) (.int .u64 (s : Nat))
  res : ∃ a b c d, Bx wr w.heap.size a b c d
  bel : Below w.heap.size w wr
section
variable {w wr : World} {p q r s : Nat}
theorem Way2.alloc (h : Way2 w p q r s wr) (o : Obj) : Way2 w p q r s (wr.alloc o) := by
  obtain ⟨hx, ⟨a, b, c, d, hy⟩, hb⟩ := h
  exact ⟨hx.alloc o, ⟨a, b, c, d, hy.alloc o⟩, hb.alloc hb.size o⟩
theorem Way2.set0 (h : Way2 w p q r s wr) (u : Nat) : Way2 w u q r s (wr.setCell ⟨w.heap.size + 1, 0, none⟩ (.int .u64 (u : Nat))) := by
  obtain ⟨hx, ⟨a, b, c, d, hy⟩, hb⟩ := h
  exact ⟨hx.set0 _, ⟨a, b, c, d, hy.other (p := ⟨w.heap.size + 1, 0, none⟩) (by simp) _⟩, hb.setCell (p := ⟨w.heap.size + 1, 0, none⟩) (by simp) _⟩
theorem Way2.set1 (h : Way2 w p q r s wr) (u : Nat) : Way2 w p u r s (wr.setCell ⟨w.heap.size + 1, 1, none⟩ (.int .u64 (u : Nat))) := by
  obtain ⟨hx, ⟨a, b, c, d, hy⟩, hb⟩ := h
  exact ⟨hx.set1 _, ⟨a, b, c, d, hy.other (p := ⟨w.heap.size + 1, 1, none⟩) (by simp) _⟩, hb.setCell (p := ⟨w.heap.size + 1, 1, none⟩) (by simp) _⟩
theorem Way2.set2 (h : Way2 w p q r s wr) (u : Nat) : Way2 w p q u s (wr.setCell ⟨w.heap.size + 1, 2, none⟩ (.int .u64 (u : Nat))) := by
  obtain ⟨hx, ⟨a, b, c, d, hy⟩, hb⟩ := h
  exact ⟨hx.set2 _, ⟨a, b, c, d, hy.other (p := ⟨w.heap.size + 1, 2, none⟩) (by simp) _⟩, hb.setCell (p := ⟨w.heap.size + 1, 2, none⟩) (by simp) _⟩
theorem Way2.set3 (h : Way2 w p q r s wr) (u : Nat) : Way2 w p q r u (wr.setCell ⟨w.heap.size + 1, 3, none⟩ (.int .u64 (u : Nat))) := by
  obtain ⟨hx, ⟨a, b, c, d, hy⟩, hb⟩ := h
  exact ⟨hx.set3 _, ⟨a, b, c, d, hy.other (p := ⟨w.heap.size + 1, 3, none⟩) (by simp) _⟩, hb.setCell (p := ⟨w.heap.size + 1, 3, none⟩) (by simp) _⟩
end
theorem Way2.of {w wr : World} {P : Nat → Bool} (h : Way w P wr) : ∃ p q r s, C4 P p q r s ∧ Way2 w p q r s wr := by
  obtain ⟨⟨p, q, r, s, h4, hx⟩, hy, hb⟩ := h
  exact ⟨p, q, r, s, h4, hx, hy, hb⟩
theorem Way2.way {w wr : World} {P : Nat → Bool} {p q r s : Nat} (h : Way2 w p q r s wr) (h4 : C4 P p q r s) : Way w P wr := ⟨⟨p, q, r, s, h4, h.ex⟩, h.res, h.bel⟩
set_option maxRecDepth 10000 in
set_option maxHeartbeats 2000000 in
theorem union_any (ao : Option Addr) (len cap : Nat) (F : Nat → Nat → Nat) (Ps : Nat → Nat → Bool) (w : World) (hr : RdC w ao len F) (hC : ∀ i, i < len → C4 (Ps i) (F i 0) (F i 1) (F i 2) (F i 3)) (hl : (len : Int) ≤ 9223372036854775807) :
    Calls Try.prog 34 #[.slice ao len cap] w (RetC w (unN Ps len)) := by
  have hW0 := Way.start w
  go_enter Try.func34, Try.ntmps34
  go_wp2
  go_loopw [10] (fun i wr => ∃ k : Nat, k ≤ len ∧ i = .int .i64 (k : Nat) ∧ Way w (unN Ps k) wr) (fun i _ => len - (intOf i).toNat)
  case atStart => exact ⟨0, by omega, rfl, hW0⟩
  case round =>
    obtain ⟨k, hk, rfl, hW⟩ := hrel
    obtain ⟨a, b, c, d, h4, hW2⟩ := Way2.of hW
    by_cases hlt : k < len
    · obtain ⟨bb, off, rfl, hbb, hc⟩ := hr.at_ (by omega)
      have hk4 := hC k hlt
      have t0 : wr.cell? ⟨bb, off + k * 4, none⟩ = some (.int .u64 (F k 0 : Nat)) := by rw [hW.bel.cell (p := ⟨bb, off + k * 4, none⟩) hbb]; exact hc k hlt 0 (by decide)
      have t1 : wr.cell? ⟨bb, off + k * 4 + 1, none⟩ = some (.int .u64 (F k 1 : Nat)) := by rw [hW.bel.cell (p := ⟨bb, off + k * 4 + 1, none⟩) hbb]; exact hc k hlt 1 (by decide)
      have t2 : wr.cell? ⟨bb, off + k * 4 + 2, none⟩ = some (.int .u64 (F k 2 : Nat)) := by rw [hW.bel.cell (p := ⟨bb, off + k * 4 + 2, none⟩) hbb]; exact hc k hlt 2 (by decide)
      have t3 : wr.cell? ⟨bb, off + k * 4 + 3, none⟩ = some (.int .u64 (F k 3 : Nat)) := by rw [hW.bel.cell (p := ⟨bb, off + k * 4 + 3, none⟩) hbb]; exact hc k hlt 3 (by decide)
      have hki : (k : Int) < (len : Int) := by omega
      clear hc hr hC
      generalize F k 0 = e at *
      generalize F k 1 = f at *
      generalize F k 2 = g at *
      generalize F k 3 = h at *
      have i0 := idx0 (.int .u64 (e : Nat)) (.int .u64 (f : Nat)) (.int .u64 (g : Nat)) (.int .u64 (h : Nat))
      have i1 := idx1 (.int .u64 (e : Nat)) (.int .u64 (f : Nat)) (.int .u64 (g : Nat)) (.int .u64 (h : Nat))
      have i2 := idx2 (.int .u64 (e : Nat)) (.int .u64 (f : Nat)) (.int .u64 (g : Nat)) (.int .u64 (h : Nat))
      have i3 := idx3 (.int .u64 (e : Nat)) (.int .u64 (f : Nat)) (.int .u64 (g : Nat)) (.int .u64 (h : Nat))
      have va := u64_or_nat a e h4.la hk4.la
      have vb := u64_or_nat b f h4.lb hk4.lb
      have vc := u64_or_nat c g h4.lc hk4.lc
      have vd := u64_or_nat d h h4.ld hk4.ld
      have HO : Hid (C4 (unN Ps (k + 1)) (a ||| e) (b ||| f) (c ||| g) (d ||| h)) := h4.or hk4
      clear hW h4 hk4
      go_wp2
      go_loopw [15] (fun i wv => ∃ p q r s : Nat, Way2 w p q r s wv ∧ ((i = .int .i64 0 ∧ p = a ∧ q = b ∧ r = c ∧ s = d) ∨ (i = .int .i64 1 ∧ p = a ||| e ∧ q = b ∧ r = c ∧ s = d) ∨ (i = .int .i64 2 ∧ p = a ||| e ∧ q = b ||| f ∧ r = c ∧ s = d) ∨
        (i = .int .i64 3 ∧ p = a ||| e ∧ q = b ||| f ∧ r = c ||| g ∧ s = d) ∨ (i = .int .i64 4 ∧ p = a ||| e ∧ q = b ||| f ∧ r = c ||| g ∧ s = d ||| h))) (fun i _ => 4 - (intOf i).toNat)
      case atStart => exact ⟨a, b, c, d, hW2.alloc _, .inl ⟨rfl, rfl, rfl, rfl, rfl⟩⟩
      case round =>
        obtain ⟨p, q, r, s, hV, hh⟩ := hrel
        obtain ⟨c0, c1, c2, c3, f0, f1, f2, f3⟩ := hV.ex.cells
        rcases hh with ⟨rfl, rfl, rfl, rfl, rfl⟩ | ⟨rfl, rfl, rfl, rfl, rfl⟩ | ⟨rfl, rfl, rfl, rfl, rfl⟩ | ⟨rfl, rfl, rfl, rfl, rfl⟩ | ⟨rfl, rfl, rfl, rfl, rfl⟩
        · have hV' := hV.set0 (p ||| e)
          go_wp2
          go_roundw
          case rel => exact ⟨_, _, _, _, hV', .inr (.inl ⟨rfl, rfl, rfl, rfl, rfl⟩)⟩
          case measure => decide
        · have hV' := hV.set1 (q ||| f)
          go_wp2
          go_roundw
          case rel => exact ⟨_, _, _, _, hV', .inr (.inr (.inl ⟨rfl, rfl, rfl, rfl, rfl⟩))⟩
          case measure => decide
        · have hV' := hV.set2 (r ||| g)
          go_wp2
          go_roundw
          case rel => exact ⟨_, _, _, _, hV', .inr (.inr (.inr (.inl ⟨rfl, rfl, rfl, rfl, rfl⟩)))⟩
          case measure => decide
        · have hV' := hV.set3 (s ||| h)
          go_wp2
          go_roundw
          case rel => exact ⟨_, _, _, _, hV', .inr (.inr (.inr (.inr ⟨rfl, rfl, rfl, rfl, rfl⟩)))⟩
          case measure => decide
        · have hV' : Way w (unN Ps (k + 1)) wr := hV.way HO.out
          go_wp2
          go_roundw
          case rel => exact ⟨k + 1, by omega, by go_num, hV'⟩
          case measure => simp [intOf]; omega
    · obtain rfl : k = len := by omega
      obtain ⟨p', q', r', s', hy⟩ := hW.res
      obtain ⟨c0, c1, c2, c3, f0, f1, f2, f3⟩ := hW2.ex.cells
      obtain ⟨y0, y1, y2, y3, v0, v1, v2, v3⟩ := hy.cells
      obtain ⟨z0, z1, z2, z3, _⟩ := (hy.set (.int .u64 (a : Nat)) (.int .u64 (b : Nat)) (.int .u64 (c : Nat)) (.int .u64 (d : Nat))).cells
      go_wp2
      exact bodyPost_ret (v := .agg #[.int .u64 (a : Nat), .int .u64 (b : Nat), .int .u64 (c : Nat), .int .u64 (d : Nat)]) (by simp [results, Try.results34, go_sem, z0, z1, z2, z3]) rfl ⟨⟨a, b, c, d, rfl, h4⟩, below_put4 hW.bel (Nat.le_refl _) _ _ _ _⟩
end Go.Proofs.Ytkbeiadbolihiaa
namespace Go.Proofs.Ytkbeiadbolihiaa
open Go.RowKit
theorem Way.drew {w wr : World} {P : Nat → Bool} (h : Way w P wr) : Way w P wr.drew := by
  obtain ⟨⟨a, b, c, d, h4, hx⟩, ⟨p, q, r, s, hy⟩, hb⟩ := h
  exact ⟨⟨a, b, c, d, h4, hx.drew⟩, ⟨p, q, r, s, hy.drew⟩, hb.drew⟩
theorem rd_one (W : World) (k : Nat) (hk : k < 256) : Rd (W.alloc (.cells #[.int .u8 (k : Nat)] 5)) (some ⟨W.heap.size, 0, none⟩) 1 (fun _ => k) := by
  refine ⟨fun i _ => hk, fun _ => ⟨W.heap.size, 0, rfl, by simp, fun i hi => ?_⟩⟩
  obtain rfl : i = 0 := by omega
  rw [cell_of_row _ W.heap.size (0 + 0) _ 5 (0, 0) (heap_alloc_new W _)]
  rfl
theorem Rd.drew {w : World} {ao : Option Addr} {len : Nat} {z : Nat → Nat} (h : Rd w ao len z) : Rd w.drew ao len z := h.below (Below.refl _ _).drew
end Go.Proofs.Ytkbeiadbolihiaa
namespace Go.Proofs.Ytkbeiadbolihiaa
open Go.RowKit
/-- Classes in a new block. -/
theorem rdc_four (W : World) (a0 b0 c0 d0 a1 b1 c1 d1 a2 b2 c2 d2 a3 b3 c3 d3 : Nat) : RdC (W.alloc (.cells #[.int .u64 (a0 : Nat), .int .u64 (b0 : Nat), .int .u64 (c0 : Nat), .int .u64 (d0 : Nat), .int .u64 (a1 : Nat), .int .u64 (b1 : Nat), .int .u64 (c1 : Nat), .int .u64 (d1 : Nat), .int .u64 (a2 : Nat), .int .u64 (b2 : Nat), .int .u64 (c2 : Nat), .int .u64 (d2 : Nat), .int .u64 (a3 : Nat), .int .u64 (b3 : Nat), .int .u64 (c3 : Nat), .int .u64 (d3 : Nat)] 31)) (some ⟨W.heap.size, 0, none⟩) 4 (fun i j => if i = 0 then (if j = 0 then a0 else if j = 1 then b0 else if j = 2 then c0 else d0) else if i = 1 then (if j = 0 then a1 else if j = 1 then b1 else if j = 2 then c1 else d1) else if i = 2 then (if j = 0 then a2 else if j = 1 then b2 else if j = 2 then c2 else d2) else (if j = 0 then a3 else if j = 1 then b3 else if j = 2 then c3 else d3)) := by
  refine ⟨fun _ => ⟨W.heap.size, 0, rfl, by simp, fun i hi j hj => ?_⟩⟩
  rw [cell_of_row _ W.heap.size (0 + i * 4 + j) _ 31 (0, 0) (heap_alloc_new W _)]
  have h1 : i = 0 ∨ i = 1 ∨ i = 2 ∨ i = 3 := by omega
  have h2 : j = 0 ∨ j = 1 ∨ j = 2 ∨ j = 3 := by omega
  rcases h1 with rfl | rfl | rfl | rfl <;> rcases h2 with rfl | rfl | rfl | rfl <;> rfl
theorem rdc_two (W : World) (a0 b0 c0 d0 a1 b1 c1 d1 : Nat) : RdC (W.alloc (.cells #[.int .u64 (a0 : Nat), .int .u64 (b0 : Nat), .int .u64 (c0 : Nat), .int .u64 (d0 : Nat), .int .u64 (a1 : Nat), .int .u64 (b1 : Nat), .int .u64 (c1 : Nat), .int .u64 (d1 : Nat)] 31)) (some ⟨W.heap.size, 0, none⟩) 2 (fun i j => if i = 0 then (if j = 0 then a0 else if j = 1 then b0 else if j = 2 then c0 else d0) else (if j = 0 then a1 else if j = 1 then b1 else if j = 2 then c1 else d1)) := by
  refine ⟨fun _ => ⟨W.heap.size, 0, rfl, by simp, fun i hi j hj => ?_⟩⟩
  rw [cell_of_row _ W.heap.size (0 + i * 4 + j) _ 31 (0, 0) (heap_alloc_new W _)]
  have h1 : i = 0 ∨ i = 1 := by omega
  have h2 : j = 0 ∨ j = 1 ∨ j = 2 ∨ j = 3 := by omega
  rcases h1 with rfl | rfl <;> rcases h2 with rfl | rfl | rfl | rfl <;> rfl
/-- Letters, digits and _; and what is blank. -/
def wordP : Nat → Bool := unN (fun i => if i = 0 then rg 97 26 else if i = 1 then rg 65 26 else if i = 2 then rg 48 10 else ofN (fun _ => 95) 1) 4
def spaceP : Nat → Bool := unN (fun i => if i = 0 then rg 9 5 else ofN (fun _ => 32) 1) 2
theorem space_ins : ins (rg 9 5) 32 = spaceP := by
  funext x
  simp [spaceP, unN, ofN, ins]
set_option maxHeartbeats 2000000 in
theorem word_any (w : World) : Calls Try.prog 52 #[] w (RetC w wordP) := by
  have t : Below (w.heap.size + 1) (w.alloc (.cells #[.int .u64 0, .int .u64 0, .int .u64 0, .int .u64 0] 31)) (w.alloc (.cells #[.int .u64 0, .int .u64 0, .int .u64 0, .int .u64 0] 31)) := Below.refl _ _
  go_enter Try.func52, Try.ntmps52
  go_wp2_with fail
  refine (range_any 97 122 _ (by decide) (by decide)).mono ?_
  rintro e w0 ⟨⟨a0, b0, c0, d0, rfl, h0⟩, q⟩
  replace t := t.trans (q.mono (by simp))
  clear q
  go_wp2_with fail
  refine (range_any 65 90 _ (by decide) (by decide)).mono ?_
  rintro e w1 ⟨⟨a1, b1, c1, d1, rfl, h1⟩, q⟩
  replace t := t.trans (q.mono (by have := t.size; simpa using this))
  clear q
  go_wp2_with fail
  refine (digit_any _).mono ?_
  rintro e w2 ⟨⟨a2, b2, c2, d2, rfl, h2⟩, q⟩
  replace t := t.trans (q.mono (by have := t.size; simpa using this))
  clear q
  go_wp2_with fail
  refine (of_any _ 1 1 (fun _ => 95) _ (rd_one w2 95 (by decide)) (by decide)).mono ?_
  rintro e w3 ⟨⟨a3, b3, c3, d3, rfl, h3⟩, q⟩
  replace t := (t.alloc (by have := t.size; simpa using this) _).trans (q.mono (by have := t.size; simp at this; simp; omega))
  clear q
  go_wp2_with fail
  refine (union_any _ 4 4 _ (fun i => if i = 0 then rg 97 26 else if i = 1 then rg 65 26 else if i = 2 then rg 48 10 else ofN (fun _ => 95) 1) _ (rdc_four w3 a0 b0 c0 d0 a1 b1 c1 d1 a2 b2 c2 d2 a3 b3 c3 d3) (fun i hi => ?_) (by decide)).mono ?_
  · have hi4 : i = 0 ∨ i = 1 ∨ i = 2 ∨ i = 3 := by omega
    rcases hi4 with rfl | rfl | rfl | rfl
    · exact h0
    · exact h1
    · exact h2
    · exact h3
  rintro e w4 ⟨⟨a, b, c, d, rfl, h4⟩, q⟩
  replace t := (t.alloc (by have := t.size; simpa using this) _).trans (q.mono (by have := t.size; simp at this; simp; omega))
  clear q h0 h1 h2 h3
  have hy := res_cells t
  obtain ⟨y0, y1, y2, y3, v0, v1, v2, v3⟩ := hy.cells
  obtain ⟨z0, z1, z2, z3, _⟩ := (hy.set (.int .u64 (a : Nat)) (.int .u64 (b : Nat)) (.int .u64 (c : Nat)) (.int .u64 (d : Nat))).cells
  go_wp2
  exact bodyPost_ret (v := .agg #[.int .u64 (a : Nat), .int .u64 (b : Nat), .int .u64 (c : Nat), .int .u64 (d : Nat)]) (by simp [results, Try.results52, go_sem, z0, z1, z2, z3]) rfl (res_put h4 t)
set_option maxHeartbeats 2000000 in
theorem space_any (w : World) : Calls Try.prog 53 #[] w (RetC w spaceP) := by
  have t : Below (w.heap.size + 1) (w.alloc (.cells #[.int .u64 0, .int .u64 0, .int .u64 0, .int .u64 0] 31)) (w.alloc (.cells #[.int .u64 0, .int .u64 0, .int .u64 0, .int .u64 0] 31)) := Below.refl _ _
  go_enter Try.func53, Try.ntmps53
  go_wp2_with fail
  refine (range_any 9 13 _ (by decide) (by decide)).mono ?_
  rintro e w0 ⟨⟨a0, b0, c0, d0, rfl, h0⟩, q⟩
  replace t := t.trans (q.mono (by simp))
  clear q
  go_wp2_with fail
  refine (of_any _ 1 1 (fun _ => 32) _ (rd_one w0 32 (by decide)) (by decide)).mono ?_
  rintro e w1 ⟨⟨a1, b1, c1, d1, rfl, h1⟩, q⟩
  replace t := (t.alloc (by have := t.size; simpa using this) _).trans (q.mono (by have := t.size; simp at this; simp; omega))
  clear q
  go_wp2_with fail
  refine (union_any _ 2 2 _ (fun i => if i = 0 then rg 9 5 else ofN (fun _ => 32) 1) _ (rdc_two w1 a0 b0 c0 d0 a1 b1 c1 d1) (fun i hi => ?_) (by decide)).mono ?_
  · have hi4 : i = 0 ∨ i = 1 := by omega
    rcases hi4 with rfl | rfl
    · exact h0
    · exact h1
  rintro e w4 ⟨⟨a, b, c, d, rfl, h4⟩, q⟩
  replace t := (t.alloc (by have := t.size; simpa using this) _).trans (q.mono (by have := t.size; simp at this; simp; omega))
  clear q h0 h1
  have hy := res_cells t
  obtain ⟨y0, y1, y2, y3, v0, v1, v2, v3⟩ := hy.cells
  obtain ⟨z0, z1, z2, z3, _⟩ := (hy.set (.int .u64 (a : Nat)) (.int .u64 (b : Nat)) (.int .u64 (c : Nat)) (.int .u64 (d : Nat))).cells
  go_wp2
  exact bodyPost_ret (v := .agg #[.int .u64 (a : Nat), .int .u64 (b : Nat), .int .u64 (c : Nat), .int .u64 (d : Nat)]) (by simp [results, Try.results53, go_sem, z0, z1, z2, z3]) rfl (res_put h4 t)
end Go.Proofs.Ytkbeiadbolihiaa
namespace Go.Proofs.Ytkbeiadbolihiaa
open Go.RowKit
theorem part0 (x y z t : Value) (w : World) : (part 29 #[x, y, z, t] (0 * Try.prog.cellsOf 29)).run Try.prog w = .ok x w := by kernel_rfl
theorem part1 (x y z t : Value) (w : World) : (part 29 #[x, y, z, t] (1 * Try.prog.cellsOf 29)).run Try.prog w = .ok y w := by kernel_rfl
theorem part2 (x y z t : Value) (w : World) : (part 29 #[x, y, z, t] (2 * Try.prog.cellsOf 29)).run Try.prog w = .ok z w := by kernel_rfl
theorem part3 (x y z t : Value) (w : World) : (part 29 #[x, y, z, t] (3 * Try.prog.cellsOf 29)).run Try.prog w = .ok t w := by kernel_rfl
theorem eq24 (m : Nat) (x y : Int) (w : World) : (Op.equalIn (m + 1) 29 (.int .u64 x) (.int .u64 y)).run Try.prog w = .ok (x == y) w := by
  simp [Op.equalIn, run_underlying Try.underlying29]
/-- Two arrays held against each other. -/
theorem eql4 (a b c d a' b' c' d' : Int) (w : World) : (Go.binOp .eql 31 (.agg #[.int .u64 a, .int .u64 b, .int .u64 c, .int .u64 d]) (.agg #[.int .u64 a', .int .u64 b', .int .u64 c', .int .u64 d'])).run Try.prog w = .ok (.bool (a == a' && b == b' && c == c' && d == d')) w := by
  obtain ⟨j, hj, _⟩ := Option.map_eq_some_iff.1 (show (Try.prog.info? 29).map (·.size) = some 1 by kernel_rfl)
  have h : (Op.equalIn (9999 + 1) 31 (.agg #[.int .u64 a, .int .u64 b, .int .u64 c, .int .u64 d]) (.agg #[.int .u64 a', .int .u64 b', .int .u64 c', .int .u64 d'])).run Try.prog w = .ok (a == a' && b == b' && c == c' && d == d') w := by
    rw [run_equalIn_array w 9999 _ _ Try.underlying31 hj, show List.range 4 = [0, 1, 2, 3] from rfl]
    simp only [Op.eqItems, Sem.run_bind, part0, Result.andThen_ok, eq24 9998]
    cases a == a'
    · simp only [Bool.not_false, if_true, Sem.run_pure, Bool.false_and]
    simp only [Bool.not_true, Bool.false_eq_true, if_false, Sem.run_bind, part1, Result.andThen_ok, eq24 9998, Bool.true_and]
    cases b == b'
    · simp only [Bool.not_false, if_true, Sem.run_pure, Bool.false_and]
    simp only [Bool.not_true, Bool.false_eq_true, if_false, Sem.run_bind, part2, Result.andThen_ok, eq24 9998, Bool.true_and]
    cases c == c'
    · simp only [Bool.not_false, if_true, Sem.run_pure, Bool.false_and]
    simp only [Bool.not_true, Bool.false_eq_true, if_false, Sem.run_bind, part3, Result.andThen_ok, eq24 9998, Bool.true_and]
    cases d == d'
    · simp only [Bool.not_false, if_true, Sem.run_pure]
    simp only [Bool.not_true, Bool.false_eq_true, if_false, Sem.run_pure]
  simp only [binOp]
  simp only [Op.equal, Op.maxDepth, Sem.run_bind, h, Result.andThen_ok]
  simp
/-- Whether two classes have the same bytes. -/
def eqC (P Q : Nat → Bool) : Bool := (List.range 256).all fun x => P x == Q x
theorem eqC_iff (P Q : Nat → Bool) : eqC P Q = true ↔ ∀ x, x < 256 → P x = Q x := by
  unfold eqC
  simp
theorem eq4_iff {P Q : Nat → Bool} {a b c d a' b' c' d' : Nat} (h : C4 P a b c d) (k : C4 Q a' b' c' d') : ((a : Int) == a' && (b : Int) == b' && (c : Int) == c' && (d : Int) == d') = eqC P Q := by
  rw [Bool.eq_iff_iff, eqC_iff]
  simp only [Bool.and_eq_true, beq_iff_eq, Int.ofNat_inj]
  constructor
  · rintro ⟨⟨⟨rfl, rfl⟩, rfl⟩, rfl⟩ x hx
    by_cases h0 : x < 64
    · rw [← h.ha x h0, k.ha x h0]
    by_cases h1 : x < 128
    · have e : 64 + (x - 64) = x := by omega
      rw [← e, ← h.hb (x - 64) (by omega), k.hb (x - 64) (by omega)]
    by_cases h2 : x < 192
    · have e : 128 + (x - 128) = x := by omega
      rw [← e, ← h.hc (x - 128) (by omega), k.hc (x - 128) (by omega)]
    · have e : 192 + (x - 192) = x := by omega
      rw [← e, ← h.hd (x - 192) (by omega), k.hd (x - 192) (by omega)]
  · intro e
    obtain ⟨h1, h2, h3, h4⟩ := (h.congr e).uniq k
    exact ⟨⟨⟨h1, h2⟩, h3⟩, h4⟩
end Go.Proofs.Ytkbeiadbolihiaa
