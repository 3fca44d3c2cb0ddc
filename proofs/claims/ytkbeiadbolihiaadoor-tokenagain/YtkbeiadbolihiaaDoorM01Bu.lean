/- Of: the walk. Range, Digit: the walks. Not, Meet, Full: the walks. Union: the walk. strings.Builder at this program: copyCheck, WriteByte, WriteString: the walks; what a write keeps. -/
import Derived.Test.YtkbeiadbolihiaaDoorM00Base
import Derived.Lib.Builder
import Derived.Lib.AppendStr
import Derived.Lib.OthersKept
import Derived.Lib.Walk
import Derived.Lib.FrozenHead2
import Derived.Laws.Externs
import Derived.Shelf.Abstract
namespace Go.Proofs.YtkbeiadbolihiaaDoor
open Go.RowKit
/-- The cells of a slice of bytes can be read, and hold z. -/
structure Rd (w : World) (ao : Option Addr) (len : Nat) (z : Nat → Nat) : Prop where
  small : ∀ i, i < len → z i < 256
  at_ : 0 < len → ∃ b off, ao = some ⟨b, off, none⟩ ∧ b < w.heap.size ∧ ∀ i, i < len → w.cell? ⟨b, off + i, none⟩ = some (.int .u8 (z i : Nat))
theorem Rd.below {w w' : World} {ao : Option Addr} {len : Nat} {z : Nat → Nat} (h : Rd w ao len z) (hb : Below w.heap.size w w') : Rd w' ao len z := by
  refine ⟨h.small, fun hl => ?_⟩
  obtain ⟨b, off, e, hlt, hc⟩ := h.at_ hl
  exact ⟨b, off, e, Nat.lt_of_lt_of_le hlt hb.size, fun i hi => by rw [hb.cell (p := ⟨b, off + i, none⟩) hlt]; exact hc i hi⟩
/-- The class of the first n of some bytes. -/
def ofN (z : Nat → Nat) : Nat → Nat → Bool
  | 0 => fun _ => false
  | n + 1 => ins (ofN z n) (z n)
theorem ofN_iff (z : Nat → Nat) (n b : Nat) : ofN z n b = true ↔ ∃ i, i < n ∧ z i = b := by
  induction n with
  | zero => simp [ofN]
  | succ n ih =>
    simp only [ofN, ins, Bool.or_eq_true, ih, beq_iff_eq]
    constructor
    · rintro (⟨i, hi, e⟩ | rfl)
      · exact ⟨i, by omega, e⟩
      · exact ⟨n, by omega, rfl⟩
    · rintro ⟨i, hi, e⟩
      by_cases h : i = n
      · subst h; exact .inr e.symm
      · exact .inl ⟨i, by omega, e⟩
/-- A class on its way: in block c, beside the result's block r. -/
structure Way (w : World) (P : Nat → Bool) (wr : World) : Prop where
  ex : ∃ a b c d, C4 P a b c d ∧ Bx wr (w.heap.size + 1) (.int .u64 (a : Nat)) (.int .u64 (b : Nat)) (.int .u64 (c : Nat)) (.int .u64 (d : Nat))
  res : ∃ a b c d, Bx wr w.heap.size a b c d
  bel : Below w.heap.size w wr
theorem Way.start (w : World) : Way w (fun _ => false) ((w.alloc (.cells #[.int .u64 0, .int .u64 0, .int .u64 0, .int .u64 0] 24)).alloc (.cells #[.int .u64 0, .int .u64 0, .int .u64 0, .int .u64 0] 24)) := by
  refine ⟨⟨_, _, _, _, c4_none, ?_⟩, ⟨_, _, _, _, (Bx.new w _ _ _ _).alloc _⟩, below2 _ _ _⟩
  have := Bx.new (w.alloc (.cells #[.int .u64 0, .int .u64 0, .int .u64 0, .int .u64 0] 24)) (.int .u64 0) (.int .u64 0) (.int .u64 0) (.int .u64 0)
  simpa using this
theorem Way.next {w wr w' : World} {P Q : Nat → Bool} {a b c d : Nat} (h : Way w P wr) (hb : Below wr.heap.size wr w') (hc : C4 Q a b c d) : Way w Q (put4 w' (w.heap.size + 1) (.int .u64 (a : Nat)) (.int .u64 (b : Nat)) (.int .u64 (c : Nat)) (.int .u64 (d : Nat))) := by
  obtain ⟨p, q, r, s, _, hx⟩ := h.ex
  obtain ⟨p', q', r', s', hy⟩ := h.res
  exact ⟨⟨a, b, c, d, hc, (hx.below hb).set _ _ _ _⟩, ⟨p', q', r', s', (hy.below hb).others (by omega) _ _ _ _⟩, below_put4 (h.bel.trans (hb.mono h.bel.size)) (by omega) _ _ _ _⟩
set_option maxRecDepth 10000 in
set_option maxHeartbeats 1000000 in
theorem of_any (ao : Option Addr) (len cap : Nat) (z : Nat → Nat) (w : World) (hr : Rd w ao len z) (hl : (len : Int) ≤ 9223372036854775807) :
    Calls Tryd.prog 38 #[.slice ao len cap] w (RetC w (ofN z len)) := by
  have hW0 := Way.start w
  go_enter Tryd.func38, Tryd.ntmps38
  go_wp2
  go_loopw [8] (fun i wr => ∃ k : Nat, k ≤ len ∧ i = .int .i64 (k : Nat) ∧ Way w (ofN z k) wr) (fun i _ => len - (intOf i).toNat)
  case atStart => exact ⟨0, by omega, rfl, hW0⟩
  case round =>
    obtain ⟨k, hk, rfl, hW⟩ := hrel
    obtain ⟨a, b, c, d, h4, hx⟩ := hW.ex
    obtain ⟨c0, c1, c2, c3, f0, f1, f2, f3⟩ := hx.cells
    by_cases hlt : k < len
    · obtain ⟨bb, off, rfl, hbb, hc⟩ := hr.at_ (by omega)
      have t1 : wr.cell? ⟨bb, off + k, none⟩ = some (.int .u8 (z k : Nat)) := by rw [hW.bel.cell (p := ⟨bb, off + k, none⟩) hbb]; exact hc k hlt
      have hzk := hr.small k hlt
      have hki : (k : Int) < (len : Int) := by omega
      clear hc
      go_wp2_with (go_at_call 57; refine (with_c h4 (z k) _ hzk).mono ?_; rintro e w' ⟨⟨a', b', c', d', rfl, h4'⟩, hb'⟩; have hW' := hW.next hb' h4'; obtain ⟨g0, g1, g2, g3, e0, e1, e2, e3⟩ := (hx.below hb').cells)
      go_roundw
      case rel => exact ⟨k + 1, by omega, by go_num, hW'⟩
      case measure => simp [intOf]; omega
    · obtain rfl : k = len := by omega
      obtain ⟨p', q', r', s', hy⟩ := hW.res
      obtain ⟨y0, y1, y2, y3, v0, v1, v2, v3⟩ := hy.cells
      obtain ⟨z0, z1, z2, z3, _⟩ := (hy.set (.int .u64 (a : Nat)) (.int .u64 (b : Nat)) (.int .u64 (c : Nat)) (.int .u64 (d : Nat))).cells
      go_wp2
      exact bodyPost_ret (v := .agg #[.int .u64 (a : Nat), .int .u64 (b : Nat), .int .u64 (c : Nat), .int .u64 (d : Nat)]) (by simp [results, Tryd.results38, go_sem, z0, z1, z2, z3]) rfl ⟨⟨a, b, c, d, rfl, h4⟩, below_put4 hW.bel (Nat.le_refl _) _ _ _ _⟩
end Go.Proofs.YtkbeiadbolihiaaDoor
namespace Go.Proofs.YtkbeiadbolihiaaDoor
open Go.RowKit
/-- The bytes from lo on, k of them. -/
def rg (lo k : Nat) : Nat → Bool := fun b => decide (lo ≤ b ∧ b < lo + k)
theorem rg_zero (lo : Nat) : rg lo 0 = fun _ => false := by
  funext b; unfold rg; rw [decide_eq_false]; omega
theorem rg_succ (lo k : Nat) : rg lo (k + 1) = ins (rg lo k) (lo + k) := by
  funext b
  unfold rg ins
  rw [Bool.eq_iff_iff]
  simp
  omega
set_option maxRecDepth 10000 in
set_option maxHeartbeats 1000000 in
theorem range_any (lo hi : Nat) (w : World) (hl : lo < 256) (hh : hi < 256) :
    Calls Tryd.prog 86 #[.int .u8 (lo : Nat), .int .u8 (hi : Nat)] w (RetC w (rg lo (hi + 1 - lo))) := by
  have hW0 := Way.start w
  rw [← rg_zero lo] at hW0
  go_enter Tryd.func86, Tryd.ntmps86
  go_wp2
  go_loopw [13] (fun i wr => ∃ k : Nat, k ≤ hi + 1 - lo ∧ i = .int .i64 (k : Nat) ∧ Way w (rg lo k) wr) (fun i _ => hi + 1 - lo - (intOf i).toNat)
  case atStart => exact ⟨0, by omega, rfl, hW0⟩
  case round =>
    obtain ⟨k, hk, rfl, hW⟩ := hrel
    obtain ⟨a, b, c, d, h4, hx⟩ := hW.ex
    obtain ⟨c0, c1, c2, c3, f0, f1, f2, f3⟩ := hx.cells
    by_cases hlt : k < hi + 1 - lo
    · have hki : (k : Int) < (hi : Int) - lo + 1 := by omega
      have hc : ((lo + k : Nat) : Int) = (lo : Int) + k := by omega
      have hw := with_c h4 (lo + k) wr (by omega)
      rw [hc, ← rg_succ] at hw
      go_wp2_with (go_at_call 57; refine hw.mono ?_; rintro e w' ⟨⟨a', b', c', d', rfl, h4'⟩, hb'⟩; have hW' := hW.next hb' h4'; obtain ⟨g0, g1, g2, g3, e0, e1, e2, e3⟩ := (hx.below hb').cells)
      go_roundw
      case rel => exact ⟨k + 1, by omega, by go_num, hW'⟩
      case measure => simp [intOf]; omega
    · obtain rfl : k = hi + 1 - lo := by omega
      have hki : ¬ (((hi + 1 - lo : Nat) : Int) < (hi : Int) - lo + 1) := by omega
      obtain ⟨p', q', r', s', hy⟩ := hW.res
      obtain ⟨y0, y1, y2, y3, v0, v1, v2, v3⟩ := hy.cells
      obtain ⟨z0, z1, z2, z3, _⟩ := (hy.set (.int .u64 (a : Nat)) (.int .u64 (b : Nat)) (.int .u64 (c : Nat)) (.int .u64 (d : Nat))).cells
      go_wp2
      exact bodyPost_ret (v := .agg #[.int .u64 (a : Nat), .int .u64 (b : Nat), .int .u64 (c : Nat), .int .u64 (d : Nat)]) (by simp [results, Tryd.results86, go_sem, z0, z1, z2, z3]) rfl ⟨⟨a, b, c, d, rfl, h4⟩, below_put4 hW.bel (Nat.le_refl _) _ _ _ _⟩
/-- A class stored into the result's block, behind a call. -/
theorem res_put {w w' : World} {P : Nat → Bool} {a b c d : Nat} (h4 : C4 P a b c d) (hb : Below (w.heap.size + 1) (w.alloc (.cells #[.int .u64 0, .int .u64 0, .int .u64 0, .int .u64 0] 24)) w') :
    RetC w P (.returned (.agg #[.int .u64 (a : Nat), .int .u64 (b : Nat), .int .u64 (c : Nat), .int .u64 (d : Nat)])) (put4 w' w.heap.size (.int .u64 (a : Nat)) (.int .u64 (b : Nat)) (.int .u64 (c : Nat)) (.int .u64 (d : Nat))) :=
  ⟨⟨a, b, c, d, rfl, h4⟩, below_put4 (((Below.refl _ _).alloc (Nat.le_refl _) _).trans (hb.mono (by omega))) (Nat.le_refl _) _ _ _ _⟩
theorem res_cells {w w' : World} (hb : Below (w.heap.size + 1) (w.alloc (.cells #[.int .u64 0, .int .u64 0, .int .u64 0, .int .u64 0] 24)) w') : Bx w' w.heap.size (.int .u64 0) (.int .u64 0) (.int .u64 0) (.int .u64 0) :=
  (Bx.new w _ _ _ _).belowB hb (by omega)
set_option maxHeartbeats 1000000 in
theorem digit_any (w : World) : Calls Tryd.prog 79 #[] w (RetC w (rg 48 10)) := by
  go_enter Tryd.func79, Tryd.ntmps79
  go_wp2_with (go_at_call 86; refine (range_any 48 57 _ (by decide) (by decide)).mono ?_; rintro e w' ⟨⟨a, b, c, d, rfl, h4⟩, hb⟩; have hb' : Below (w.heap.size + 1) _ w' := (by simpa using hb); have hy := res_cells hb'; obtain ⟨y0, y1, y2, y3, v0, v1, v2, v3⟩ := hy.cells)
  obtain ⟨z0, z1, z2, z3, _⟩ := (hy.set (.int .u64 (a : Nat)) (.int .u64 (b : Nat)) (.int .u64 (c : Nat)) (.int .u64 (d : Nat))).cells
  exact bodyPost_ret (v := .agg #[.int .u64 (a : Nat), .int .u64 (b : Nat), .int .u64 (c : Nat), .int .u64 (d : Nat)]) (by simp [results, Tryd.results79, go_sem, z0, z1, z2, z3]) rfl (res_put h4 hb')
end Go.Proofs.YtkbeiadbolihiaaDoor
namespace Go.Proofs.YtkbeiadbolihiaaDoor
open Go.RowKit
theorem idx0 (x y z t : Value) (w : World) : (Instr.index 24 (.agg #[x, y, z, t]) (.int .i64 0)).run Tryd.prog w = .ok x w := by kernel_rfl
theorem idx1 (x y z t : Value) (w : World) : (Instr.index 24 (.agg #[x, y, z, t]) (.int .i64 1)).run Tryd.prog w = .ok y w := by kernel_rfl
theorem idx2 (x y z t : Value) (w : World) : (Instr.index 24 (.agg #[x, y, z, t]) (.int .i64 2)).run Tryd.prog w = .ok z w := by kernel_rfl
theorem idx3 (x y z t : Value) (w : World) : (Instr.index 24 (.agg #[x, y, z, t]) (.int .i64 3)).run Tryd.prog w = .ok t w := by kernel_rfl
theorem not_val {a : Nat} (ha : a < 18446744073709551616) : bits BinOp.xor IntKind.u64 (if IntKind.u64.signed = true then -1 else IntKind.u64.max) (a : Int) = ((18446744073709551615 ^^^ a : Nat) : Int) :=
  u64_xor_nat 18446744073709551615 a (by decide) ha
set_option maxHeartbeats 2000000 in
theorem not_walk (a b c d a' b' c' d' : Nat) (w : World) (ha : bits BinOp.xor IntKind.u64 (if IntKind.u64.signed = true then -1 else IntKind.u64.max) (a : Int) = (a' : Nat)) (hb : bits BinOp.xor IntKind.u64 (if IntKind.u64.signed = true then -1 else IntKind.u64.max) (b : Int) = (b' : Nat)) (hc : bits BinOp.xor IntKind.u64 (if IntKind.u64.signed = true then -1 else IntKind.u64.max) (c : Int) = (c' : Nat)) (hd : bits BinOp.xor IntKind.u64 (if IntKind.u64.signed = true then -1 else IntKind.u64.max) (d : Int) = (d' : Nat)) :
    Calls Tryd.prog 48 #[.agg #[.int .u64 (a : Nat), .int .u64 (b : Nat), .int .u64 (c : Nat), .int .u64 (d : Nat)]] w fun e w' => e = .returned (.agg #[.int .u64 (a' : Nat), .int .u64 (b' : Nat), .int .u64 (c' : Nat), .int .u64 (d' : Nat)]) ∧ Below w.heap.size w w' := by
  have i0 := idx0 (.int .u64 (a : Nat)) (.int .u64 (b : Nat)) (.int .u64 (c : Nat)) (.int .u64 (d : Nat))
  have i1 := idx1 (.int .u64 (a : Nat)) (.int .u64 (b : Nat)) (.int .u64 (c : Nat)) (.int .u64 (d : Nat))
  have i2 := idx2 (.int .u64 (a : Nat)) (.int .u64 (b : Nat)) (.int .u64 (c : Nat)) (.int .u64 (d : Nat))
  have i3 := idx3 (.int .u64 (a : Nat)) (.int .u64 (b : Nat)) (.int .u64 (c : Nat)) (.int .u64 (d : Nat))
  go_enter Tryd.func48, Tryd.ntmps48
  go_wp2
  go_loopw [6] (fun i wr => ∃ p q r s : Nat, wr = (w.alloc (.cells #[.int .u64 (p : Nat), .int .u64 (q : Nat), .int .u64 (r : Nat), .int .u64 (s : Nat)] 24)).alloc (.cells #[.int .u64 0, .int .u64 0, .int .u64 0, .int .u64 0] 24) ∧ ((i = .int .i64 0 ∧ p = a ∧ q = b ∧ r = c ∧ s = d) ∨ (i = .int .i64 1 ∧ p = a' ∧ q = b ∧ r = c ∧ s = d) ∨ (i = .int .i64 2 ∧ p = a' ∧ q = b' ∧ r = c ∧ s = d) ∨ (i = .int .i64 3 ∧ p = a' ∧ q = b' ∧ r = c' ∧ s = d) ∨ (i = .int .i64 4 ∧ p = a' ∧ q = b' ∧ r = c' ∧ s = d'))) (fun i _ => 4 - (intOf i).toNat)
  case atStart => exact ⟨a, b, c, d, rfl, .inl ⟨rfl, rfl, rfl, rfl, rfl⟩⟩
  case round =>
    obtain ⟨p, q, r, s, rfl, h⟩ := hrel
    rcases h with ⟨rfl, rfl, rfl, rfl, rfl⟩ | ⟨rfl, rfl, rfl, rfl, rfl⟩ | ⟨rfl, rfl, rfl, rfl, rfl⟩ | ⟨rfl, rfl, rfl, rfl, rfl⟩ | ⟨rfl, rfl, rfl, rfl, rfl⟩
    · go_wp2
      go_roundw
      case rel => exact ⟨_, _, _, _, rfl, .inr (.inl ⟨rfl, rfl, rfl, rfl, rfl⟩)⟩
      case measure => decide
    · go_wp2
      go_roundw
      case rel => exact ⟨_, _, _, _, rfl, .inr (.inr (.inl ⟨rfl, rfl, rfl, rfl, rfl⟩))⟩
      case measure => decide
    · go_wp2
      go_roundw
      case rel => exact ⟨_, _, _, _, rfl, .inr (.inr (.inr (.inl ⟨rfl, rfl, rfl, rfl, rfl⟩)))⟩
      case measure => decide
    · go_wp2
      go_roundw
      case rel => exact ⟨_, _, _, _, rfl, .inr (.inr (.inr (.inr ⟨rfl, rfl, rfl, rfl, rfl⟩)))⟩
      case measure => decide
    · go_wp2
      exact bodyPost_ret (v := .agg #[.int .u64 (p : Nat), .int .u64 (q : Nat), .int .u64 (r : Nat), .int .u64 (s : Nat)]) (by simp [results, Tryd.results48, go_sem]) rfl ⟨rfl, below2 _ _ _⟩
/-- not. -/
theorem not_c {P : Nat → Bool} {a b c d : Nat} (h : C4 P a b c d) (w : World) : Calls Tryd.prog 48 #[.agg #[.int .u64 (a : Nat), .int .u64 (b : Nat), .int .u64 (c : Nat), .int .u64 (d : Nat)]] w (RetC w fun x => !P x) := by
  exact (not_walk a b c d _ _ _ _ w (not_val h.la) (not_val h.lb) (not_val h.lc) (not_val h.ld)).mono fun e w' ⟨he, hb⟩ => ⟨⟨_, _, _, _, he, h.not⟩, hb⟩
theorem below3 (w : World) (o o' o'' : Obj) : Below w.heap.size w (((w.alloc o).alloc o').alloc o'') := (below2 w o o').alloc (by simp; omega) _
set_option maxHeartbeats 1000000 in
theorem full_any (w : World) : Calls Tryd.prog 31 #[] w (RetC w fun _ => true) := by
  go_enter Tryd.func31, Tryd.ntmps31
  go_wp2_with (go_at_call 48; refine (not_c c4_none _).mono ?_; rintro e w' ⟨⟨a, b, c, d, rfl, h4⟩, hb⟩; have hb' : Below (w.heap.size + 1) _ w' := (by simpa using hb); have hy := res_cells hb'; obtain ⟨y0, y1, y2, y3, v0, v1, v2, v3⟩ := hy.cells)
  obtain ⟨z0, z1, z2, z3, _⟩ := (hy.set (.int .u64 (a : Nat)) (.int .u64 (b : Nat)) (.int .u64 (c : Nat)) (.int .u64 (d : Nat))).cells
  exact bodyPost_ret (v := .agg #[.int .u64 (a : Nat), .int .u64 (b : Nat), .int .u64 (c : Nat), .int .u64 (d : Nat)]) (by simp [results, Tryd.results31, go_sem, z0, z1, z2, z3]) rfl (res_put h4 hb')
end Go.Proofs.YtkbeiadbolihiaaDoor
namespace Go.Proofs.YtkbeiadbolihiaaDoor
open Go.RowKit
/-- The cells of a slice of classes can be read, and hold the words F. -/
structure RdC (w : World) (ao : Option Addr) (len : Nat) (F : Nat → Nat → Nat) : Prop where
  at_ : 0 < len → ∃ b off, ao = some ⟨b, off, none⟩ ∧ b < w.heap.size ∧ ∀ i, i < len → ∀ j, j < 4 → w.cell? ⟨b, off + i * 4 + j, none⟩ = some (.int .u64 (F i j : Nat))
theorem RdC.below {w w' : World} {ao : Option Addr} {len : Nat} {F : Nat → Nat → Nat} (h : RdC w ao len F) (hb : Below w.heap.size w w') : RdC w' ao len F := by
  refine ⟨fun hl => ?_⟩
  obtain ⟨b, off, e, hlt, hc⟩ := h.at_ hl
  exact ⟨b, off, e, Nat.lt_of_lt_of_le hlt hb.size, fun i hi j hj => by rw [hb.cell (p := ⟨b, off + i * 4 + j, none⟩) hlt]; exact hc i hi j hj⟩
/-- What is in one of the first n classes. -/
def unN (Ps : Nat → Nat → Bool) : Nat → Nat → Bool
  | 0 => fun _ => false
  | n + 1 => fun x => unN Ps n x || Ps n x
/-- Two classes on their way: the one in block n + 1, beside the result's block n. -/
structure Way2 (w : World) (p q r s : Nat) (wr : World) : Prop where
  ex : Bx wr (w.heap.size + 1) (.int .u64 (p : Nat)) (.int .u64 (q : Nat)) (.int .u64 (r : Nat)) (.int .u64 (s : Nat))
  res : ∃ a b c d, Bx wr w.heap.size a b c d
  bel : Below w.heap.size w wr
section
variable {w wr : World} {p q r s : Nat}
theorem Way2.alloc (h : Way2 w p q r s wr) (o : Obj) : Way2 w p q r s (wr.alloc o) := by
  obtain ⟨hx, ⟨a, b, c, d, hy⟩, hb⟩ := h
  exact ⟨hx.alloc o, ⟨a, b, c, d, hy.alloc o⟩, hb.alloc hb.size o⟩
theorem Way2.set0 (h : Way2 w p q r s wr) (u : Nat) : Way2 w u q r s (wr.setCell ⟨w.heap.size + 1, 0, none⟩ (.int .u64 (u : Nat))) := by
  obtain ⟨hx, ⟨a, b, c, d, hy⟩, hb⟩ := h
  exact ⟨hx.set0 _, ⟨a, b, c, d, hy.other (p := ⟨w.heap.size + 1, 0, none⟩) (by simp) _⟩, hb.setCell (p := ⟨w.heap.size + 1, 0, none⟩) (by simp) _⟩
theorem Way2.set1 (h : Way2 w p q r s wr) (u : Nat) : Way2 w p u r s (wr.setCell ⟨w.heap.size + 1, 1, none⟩ (.int .u64 (u : Nat))) := by
  obtain ⟨hx, ⟨a, b, c, d, hy⟩, hb⟩ := h
  exact ⟨hx.set1 _, ⟨a, b, c, d, hy.other (p := ⟨w.heap.size + 1, 1, none⟩) (by simp) _⟩, hb.setCell (p := ⟨w.heap.size + 1, 1, none⟩) (by simp) _⟩
theorem Way2.set2 (h : Way2 w p q r s wr) (u : Nat) : Way2 w p q u s (wr.setCell ⟨w.heap.size + 1, 2, none⟩ (.int .u64 (u : Nat))) := by
  obtain ⟨hx, ⟨a, b, c, d, hy⟩, hb⟩ := h
  exact ⟨hx.set2 _, ⟨a, b, c, d, hy.other (p := ⟨w.heap.size + 1, 2, none⟩) (by simp) _⟩, hb.setCell (p := ⟨w.heap.size + 1, 2, none⟩) (by simp) _⟩
theorem Way2.set3 (h : Way2 w p q r s wr) (u : Nat) : Way2 w p q r u (wr.setCell ⟨w.heap.size + 1, 3, none⟩ (.int .u64 (u : Nat))) := by
  obtain ⟨hx, ⟨a, b, c, d, hy⟩, hb⟩ := h
  exact ⟨hx.set3 _, ⟨a, b, c, d, hy.other (p := ⟨w.heap.size + 1, 3, none⟩) (by simp) _⟩, hb.setCell (p := ⟨w.heap.size + 1, 3, none⟩) (by simp) _⟩
end
theorem Way2.of {w wr : World} {P : Nat → Bool} (h : Way w P wr) : ∃ p q r s, C4 P p q r s ∧ Way2 w p q r s wr := by
  obtain ⟨⟨p, q, r, s, h4, hx⟩, hy, hb⟩ := h
  exact ⟨p, q, r, s, h4, hx, hy, hb⟩
theorem Way2.way {w wr : World} {P : Nat → Bool} {p q r s : Nat} (h : Way2 w p q r s wr) (h4 : C4 P p q r s) : Way w P wr := ⟨⟨p, q, r, s, h4, h.ex⟩, h.res, h.bel⟩
set_option maxRecDepth 10000 in
set_option maxHeartbeats 2000000 in
theorem union_any (ao : Option Addr) (len cap : Nat) (F : Nat → Nat → Nat) (Ps : Nat → Nat → Bool) (w : World) (hr : RdC w ao len F) (hC : ∀ i, i < len → C4 (Ps i) (F i 0) (F i 1) (F i 2) (F i 3)) (hl : (len : Int) ≤ 9223372036854775807) :
    Calls Tryd.prog 75 #[.slice ao len cap] w (RetC w (unN Ps len)) := by
  have hW0 := Way.start w
  go_enter Tryd.func75, Tryd.ntmps75
  go_wp2
  go_loopw [10] (fun i wr => ∃ k : Nat, k ≤ len ∧ i = .int .i64 (k : Nat) ∧ Way w (unN Ps k) wr) (fun i _ => len - (intOf i).toNat)
  case atStart => exact ⟨0, by omega, rfl, hW0⟩
  case round =>
    obtain ⟨k, hk, rfl, hW⟩ := hrel
    obtain ⟨a, b, c, d, h4, hW2⟩ := Way2.of hW
    by_cases hlt : k < len
    · obtain ⟨bb, off, rfl, hbb, hc⟩ := hr.at_ (by omega)
      have hk4 := hC k hlt
      have t0 : wr.cell? ⟨bb, off + k * 4, none⟩ = some (.int .u64 (F k 0 : Nat)) := by rw [hW.bel.cell (p := ⟨bb, off + k * 4, none⟩) hbb]; exact hc k hlt 0 (by decide)
      have t1 : wr.cell? ⟨bb, off + k * 4 + 1, none⟩ = some (.int .u64 (F k 1 : Nat)) := by rw [hW.bel.cell (p := ⟨bb, off + k * 4 + 1, none⟩) hbb]; exact hc k hlt 1 (by decide)
      have t2 : wr.cell? ⟨bb, off + k * 4 + 2, none⟩ = some (.int .u64 (F k 2 : Nat)) := by rw [hW.bel.cell (p := ⟨bb, off + k * 4 + 2, none⟩) hbb]; exact hc k hlt 2 (by decide)
      have t3 : wr.cell? ⟨bb, off + k * 4 + 3, none⟩ = some (.int .u64 (F k 3 : Nat)) := by rw [hW.bel.cell (p := ⟨bb, off + k * 4 + 3, none⟩) hbb]; exact hc k hlt 3 (by decide)
      have hki : (k : Int) < (len : Int) := by omega
      clear hc hr hC
      generalize F k 0 = e at *
      generalize F k 1 = f at *
      generalize F k 2 = g at *
      generalize F k 3 = h at *
      have i0 := idx0 (.int .u64 (e : Nat)) (.int .u64 (f : Nat)) (.int .u64 (g : Nat)) (.int .u64 (h : Nat))
      have i1 := idx1 (.int .u64 (e : Nat)) (.int .u64 (f : Nat)) (.int .u64 (g : Nat)) (.int .u64 (h : Nat))
      have i2 := idx2 (.int .u64 (e : Nat)) (.int .u64 (f : Nat)) (.int .u64 (g : Nat)) (.int .u64 (h : Nat))
      have i3 := idx3 (.int .u64 (e : Nat)) (.int .u64 (f : Nat)) (.int .u64 (g : Nat)) (.int .u64 (h : Nat))
      have va := u64_or_nat a e h4.la hk4.la
      have vb := u64_or_nat b f h4.lb hk4.lb
      have vc := u64_or_nat c g h4.lc hk4.lc
      have vd := u64_or_nat d h h4.ld hk4.ld
      have HO : Hid (C4 (unN Ps (k + 1)) (a ||| e) (b ||| f) (c ||| g) (d ||| h)) := h4.or hk4
      clear hW h4 hk4
      go_wp2
      go_loopw [15] (fun i wv => ∃ p q r s : Nat, Way2 w p q r s wv ∧ ((i = .int .i64 0 ∧ p = a ∧ q = b ∧ r = c ∧ s = d) ∨ (i = .int .i64 1 ∧ p = a ||| e ∧ q = b ∧ r = c ∧ s = d) ∨ (i = .int .i64 2 ∧ p = a ||| e ∧ q = b ||| f ∧ r = c ∧ s = d) ∨
        (i = .int .i64 3 ∧ p = a ||| e ∧ q = b ||| f ∧ r = c ||| g ∧ s = d) ∨ (i = .int .i64 4 ∧ p = a ||| e ∧ q = b ||| f ∧ r = c ||| g ∧ s = d ||| h))) (fun i _ => 4 - (intOf i).toNat)
      case atStart => exact ⟨a, b, c, d, hW2.alloc _, .inl ⟨rfl, rfl, rfl, rfl, rfl⟩⟩
      case round =>
        obtain ⟨p, q, r, s, hV, hh⟩ := hrel
        obtain ⟨c0, c1, c2, c3, f0, f1, f2, f3⟩ := hV.ex.cells
        rcases hh with ⟨rfl, rfl, rfl, rfl, rfl⟩ | ⟨rfl, rfl, rfl, rfl, rfl⟩ | ⟨rfl, rfl, rfl, rfl, rfl⟩ | ⟨rfl, rfl, rfl, rfl, rfl⟩ | ⟨rfl, rfl, rfl, rfl, rfl⟩
        · have hV' := hV.set0 (p ||| e)
          go_wp2
          go_roundw
          case rel => exact ⟨_, _, _, _, hV', .inr (.inl ⟨rfl, rfl, rfl, rfl, rfl⟩)⟩
          case measure => decide
        · have hV' := hV.set1 (q ||| f)
          go_wp2
          go_roundw
          case rel => exact ⟨_, _, _, _, hV', .inr (.inr (.inl ⟨rfl, rfl, rfl, rfl, rfl⟩))⟩
          case measure => decide
        · have hV' := hV.set2 (r ||| g)
          go_wp2
          go_roundw
          case rel => exact ⟨_, _, _, _, hV', .inr (.inr (.inr (.inl ⟨rfl, rfl, rfl, rfl, rfl⟩)))⟩
          case measure => decide
        · have hV' := hV.set3 (s ||| h)
          go_wp2
          go_roundw
          case rel => exact ⟨_, _, _, _, hV', .inr (.inr (.inr (.inr ⟨rfl, rfl, rfl, rfl, rfl⟩)))⟩
          case measure => decide
        · have hV' : Way w (unN Ps (k + 1)) wr := hV.way HO.out
          go_wp2
          go_roundw
          case rel => exact ⟨k + 1, by omega, by go_num, hV'⟩
          case measure => simp [intOf]; omega
    · obtain rfl : k = len := by omega
      obtain ⟨p', q', r', s', hy⟩ := hW.res
      obtain ⟨c0, c1, c2, c3, f0, f1, f2, f3⟩ := hW2.ex.cells
      obtain ⟨y0, y1, y2, y3, v0, v1, v2, v3⟩ := hy.cells
      obtain ⟨z0, z1, z2, z3, _⟩ := (hy.set (.int .u64 (a : Nat)) (.int .u64 (b : Nat)) (.int .u64 (c : Nat)) (.int .u64 (d : Nat))).cells
      go_wp2
      exact bodyPost_ret (v := .agg #[.int .u64 (a : Nat), .int .u64 (b : Nat), .int .u64 (c : Nat), .int .u64 (d : Nat)]) (by simp [results, Tryd.results75, go_sem, z0, z1, z2, z3]) rfl ⟨⟨a, b, c, d, rfl, h4⟩, below_put4 hW.bel (Nat.le_refl _) _ _ _ _⟩
end Go.Proofs.YtkbeiadbolihiaaDoor
namespace Go.Proofs.YtkbeiadbolihiaaDoor
open Go.RowKit Go.Shelf
theorem b_size : (Tryd.prog.info? 76).map (·.size) = some 2 := by kernel_rfl
theorem b_lies : liesAt Tryd.prog Tryd.prog.depth 76 (2 / Tryd.prog.cellsOf 76) 0 76 1 = true := by kernel_rfl
theorem b_byte : (Tryd.prog.info? 5).map (fun i => (i.zero, i.size, i.bytes)) = some (some (.int .u8 0), 1, 1) := by kernel_rfl
/-- What is behind a write: the builder, used; all below B, and all that is no row of bytes, as it was. -/
structure Wrote (B b : Nat) (bs : List Value) (w w' : World) : Prop where
  is : Lib.BuilderAt 76 5 B b (.pointer (some ⟨b, 0, none⟩)) bs w'
  bel : Below B w w'
  kept : Lib.OthersKept 5 (some b) w w'
theorem kind_of_owns {w : World} {B : Nat} {v : Value} {n : Nat} {xs : List Value} (h : w.ownsRow B 5 1 v n xs) : ∀ g, v.ownBlock = some g → ∃ c fz, w.heap[g]? = some (.cells c 5 fz) := by
  intro g hg
  rcases h.2 with ⟨rfl, _⟩ | ⟨g', cap, cur, rfl, _, hgb, _⟩
  · simp [Value.ownBlock] at hg
  · simp only [Value.ownBlock, Option.some.injEq] at hg
    subst hg
    exact ⟨_, _, hgb⟩
set_option maxRecDepth 10000 in
set_option maxHeartbeats 1000000 in
theorem copyCheck_any (B b : Nat) (bs : List Value) (w : World) (h : Lib.IsBuilder 76 5 B b bs w) : Calls Tryd.prog 65 #[.pointer (some ⟨b, 0, none⟩)] w fun e w' => e = .returned (.tuple #[]) ∧ Wrote B b bs w w' := by
  obtain ⟨j, hj, hjs⟩ := Option.map_eq_some_iff.1 b_size
  rcases h with h | h
  · have h0 := h.cell0
    have hsh := h.shape
    have hfz := h.frozen0
    have hW : Wrote B b bs w (w.setCell ⟨b, 0, none⟩ (.pointer (some ⟨b, 0, none⟩))) := ⟨h.used _, (Below.refl B w).setCell (p := ⟨b, 0, none⟩) h.1 _, (Lib.OthersKept.refl _ _ w).setCell ⟨b, 0, none⟩ rfl _⟩
    clear h
    go_enter Tryd.func65, Tryd.ntmps65
    go_wp2
    rw [Lib.run_to_unsafe w ⟨b, 0, none⟩ Tryd.underlying74 Tryd.underlying99 hj (by rw [hjs]; decide) hsh (Nat.zero_lt_succ 1)]
    simp only [Result.andThen]
    rw [Oper.upon_value]
    go_wp2
    rw [run_callFunc_extern Tryd.func77 (by kernel_rfl) (by kernel_rfl) (by kernel_rfl) (by kernel_rfl), Lib.run_noEscape]
    simp only [Result.andThen]
    rw [Oper.upon_value]
    go_wp2
    rw [Lib.run_from_unsafe w ⟨b, 0, none⟩ Tryd.underlying99 Tryd.underlying74 hj hsh b_lies]
    simp only [Result.andThen]
    rw [Oper.upon_value]
    go_wp2
    go_end0
    exact ⟨rfl, hW⟩
  · have h0 := h.cell0
    have hW : Wrote B b bs w w := ⟨h, Below.refl _ _, Lib.OthersKept.refl _ _ _⟩
    clear h
    go_enter Tryd.func65, Tryd.ntmps65
    go_wp2
    rw [Lib.run_neq_ptr_same w _ Tryd.underlying74 hj]
    go_wp2
    go_end0
    exact ⟨rfl, hW⟩
set_option maxRecDepth 10000 in
set_option maxHeartbeats 2000000 in
theorem writeByte_any (B b : Nat) (bs : List Value) (c : Int) (w : World) (h : Lib.IsBuilder 76 5 B b bs w) (hlen : bs.length + 1 ≤ 140737488355328) (hBw : B ≤ w.heap.size) :
    Calls Tryd.prog 51 #[.pointer (some ⟨b, 0, none⟩), .int .u8 c] w fun e w' => e = .returned .nilIface ∧ Wrote B b (bs ++ [.int .u8 c]) w w' := by
  obtain ⟨i0, hi, hz0, hz1, hz2⟩ := info_parts b_byte
  go_enter Tryd.func51, Tryd.ntmps51
  go_wp2_with (go_at_call 65; refine (copyCheck_any B b bs _ h).mono ?_)
  rintro e w1 ⟨rfl, h1, hb1, hk1⟩
  have hlt := h1.lt
  obtain ⟨hB, v, hbk, hown, hne⟩ := h1
  have hsz := hb1.size
  have c0 : w1.cell? ⟨b, 0, none⟩ = some (.pointer (some ⟨b, 0, none⟩)) := by rw [Lib.cell_of_heap hbk]; rfl
  have c1 : w1.cell? ⟨b, 1, none⟩ = some v := by rw [Lib.cell_of_heap hbk]; rfl
  go_wp2_with (at_builtin; refine wpList_append_own _ rfl _ _ 34 rfl B 5 i0 (.int .u8 0) 1 1 Tryd.underlying34 hi hz0 hz1 hz2 rfl (by decide) _ _ _ rfl (hown.alloc _) ⟨w1.heap.size, 0, none⟩ 1 1 [.int .u8 c] rfl rfl (cell_one_new _ _ _) (by simp [Value.oneCell']) (by unfold maxLen; omega) (by omega) (by simp; omega) ?_)
  intro v' w2 hown' hgrow _
  have hb2 : w2.heap[b]? = some (.cells #[.pointer (some ⟨b, 0, none⟩), v] 76 (0, 0)) := by
    rw [hgrow.block b (by simp; omega) (fun e => hne e.symm), Lib.alloc_old w1 _ b hlt]
    exact hbk
  have d0 : w2.cell? ⟨b, 0, none⟩ = some (.pointer (some ⟨b, 0, none⟩)) := by rw [Lib.cell_of_heap hb2]; rfl
  have d1 : w2.cell? ⟨b, 1, none⟩ = some v := by rw [Lib.cell_of_heap hb2]; rfl
  have f1 : w2.frozen? ⟨b, 1, none⟩ = false := Lib.frozen_of_heap hb2 1
  obtain ⟨g, cap, rfl⟩ : ∃ g cap, v' = .slice (some ⟨g, 0, none⟩) (bs.length + 1) cap := by
    rcases hown'.2 with ⟨_, h0⟩ | ⟨g, cap, cur, hv, _⟩
    · omega
    · exact ⟨g, cap, hv⟩
  have hW : Hid (Wrote B b (bs ++ [.int .u8 c]) w (w2.setCell ⟨b, 1, none⟩ (.slice (some ⟨g, 0, none⟩) (bs.length + 1) cap))) :=
    ⟨Lib.BuilderAt.put (T := 76) (e := 5) hB hb2 (bs' := bs ++ [.int .u8 c]) (by simpa using hown') (by decide),
      ((hb1.alloc (by omega) _).grown hgrow (by simp; omega) (fun k hk => (hown.lt k hk).1)).setCell (p := ⟨b, 1, none⟩) hB _,
      ((hk1.alloc _).grown hgrow (kind_of_owns (hown.alloc _))).setCell ⟨b, 1, none⟩ rfl _⟩
  go_wp2
  go_ret
  exact ⟨rfl, hW.out⟩
set_option maxRecDepth 10000 in
set_option maxHeartbeats 2000000 in
theorem writeString_any (B b : Nat) (bs : List Value) (s : ByteArray) (w : World) (h : Lib.IsBuilder 76 5 B b bs w) (hlen : bs.length + s.size ≤ 140737488355328) (hBw : B ≤ w.heap.size) :
    Calls Tryd.prog 53 #[.pointer (some ⟨b, 0, none⟩), .string s] w fun e w' => e = .returned (.tuple #[.int .i64 s.size, .nilIface]) ∧ Wrote B b (bs ++ Lib.strCells s) w w' := by
  obtain ⟨i0, hi, hz0, hz1, hz2⟩ := info_parts b_byte
  go_enter Tryd.func53, Tryd.ntmps53
  go_wp2_with (go_at_call 65; refine (copyCheck_any B b bs _ h).mono ?_)
  rintro e w1 ⟨rfl, h1, hb1, hk1⟩
  have hlt := h1.lt
  obtain ⟨hB, v, hbk, hown, hne⟩ := h1
  have hsz := hb1.size
  have c0 : w1.cell? ⟨b, 0, none⟩ = some (.pointer (some ⟨b, 0, none⟩)) := by rw [Lib.cell_of_heap hbk]; rfl
  have c1 : w1.cell? ⟨b, 1, none⟩ = some v := by rw [Lib.cell_of_heap hbk]; rfl
  go_wp2_with (at_builtin; refine Lib.wpList_append_own_string _ rfl _ _ 34 9 rfl B 5 i0 Tryd.underlying34 Tryd.underlying9 hi hz0 hz1 hz2 _ _ _ rfl hown s rfl (by unfold maxLen; omega) (by omega) (by omega) ?_)
  intro v' w2 hown' hgrow _
  have hb2 : w2.heap[b]? = some (.cells #[.pointer (some ⟨b, 0, none⟩), v] 76 (0, 0)) := by
    rw [hgrow.block b hlt (fun e => hne e.symm)]
    exact hbk
  have d0 : w2.cell? ⟨b, 0, none⟩ = some (.pointer (some ⟨b, 0, none⟩)) := by rw [Lib.cell_of_heap hb2]; rfl
  have d1 : w2.cell? ⟨b, 1, none⟩ = some v := by rw [Lib.cell_of_heap hb2]; rfl
  have f1 : w2.frozen? ⟨b, 1, none⟩ = false := Lib.frozen_of_heap hb2 1
  obtain ⟨ao, n', cap, rfl⟩ : ∃ ao n' cap, v' = .slice ao n' cap := by
    rcases hown'.2 with ⟨hv, _⟩ | ⟨g, cap, cur, hv, _⟩
    · exact ⟨_, _, _, hv⟩
    · exact ⟨_, _, _, hv⟩
  have hW : Hid (Wrote B b (bs ++ Lib.strCells s) w (w2.setCell ⟨b, 1, none⟩ (.slice ao n' cap))) :=
    ⟨Lib.BuilderAt.put (T := 76) (e := 5) hB hb2 (bs' := bs ++ Lib.strCells s) (by simpa [Lib.strCells_length] using hown') (by decide),
      (hb1.grown hgrow (by omega) (fun k hk => (hown.lt k hk).1)).setCell (p := ⟨b, 1, none⟩) hB _,
      (hk1.grown hgrow (kind_of_owns hown)).setCell ⟨b, 1, none⟩ rfl _⟩
  go_wp2
  go_ret2
  exact ⟨rfl, hW.out⟩
end Go.Proofs.YtkbeiadbolihiaaDoor
