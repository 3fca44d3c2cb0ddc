/- Not, Meet, Full: the walks. -/
import Derived.Test.YthgjklhjfpillabDoorRng
namespace Go.Proofs.YthgjklhjfpillabDoor
open Go.RowKit
theorem idx0 (x y z t : Value) (w : World) : (Instr.index 24 (.agg #[x, y, z, t]) (.int .i64 0)).run Tryd.prog w = .ok x w := by kernel_rfl
theorem idx1 (x y z t : Value) (w : World) : (Instr.index 24 (.agg #[x, y, z, t]) (.int .i64 1)).run Tryd.prog w = .ok y w := by kernel_rfl
theorem idx2 (x y z t : Value) (w : World) : (Instr.index 24 (.agg #[x, y, z, t]) (.int .i64 2)).run Tryd.prog w = .ok z w := by kernel_rfl
theorem idx3 (x y z t : Value) (w : World) : (Instr.index 24 (.agg #[x, y, z, t]) (.int .i64 3)).run Tryd.prog w = .ok t w := by kernel_rfl
theorem not_val {a : Nat} (ha : a < 18446744073709551616) : bits BinOp.xor IntKind.u64 (if IntKind.u64.signed = true then -1 else IntKind.u64.max) (a : Int) = ((18446744073709551615 ^^^ a : Nat) : Int) :=
  u64_xor_nat 18446744073709551615 a (by decide) ha
theorem below3 (w : World) (o o' o'' : Obj) : Below w.heap.size w (((w.alloc o).alloc o').alloc o'') := (below2 w o o').alloc (by simp; omega) _
set_option maxHeartbeats 2000000 in
theorem meet_walk (a b c d e f g h a' b' c' d' : Nat) (w : World) (ha : bits BinOp.and IntKind.u64 (a : Int) (e : Int) = (a' : Nat)) (hb : bits BinOp.and IntKind.u64 (b : Int) (f : Int) = (b' : Nat)) (hc : bits BinOp.and IntKind.u64 (c : Int) (g : Int) = (c' : Nat)) (hd : bits BinOp.and IntKind.u64 (d : Int) (h : Int) = (d' : Nat)) :
    Calls Tryd.prog 16 #[.agg #[.int .u64 (a : Nat), .int .u64 (b : Nat), .int .u64 (c : Nat), .int .u64 (d : Nat)], .agg #[.int .u64 (e : Nat), .int .u64 (f : Nat), .int .u64 (g : Nat), .int .u64 (h : Nat)]] w fun e w' => e = .returned (.agg #[.int .u64 (a' : Nat), .int .u64 (b' : Nat), .int .u64 (c' : Nat), .int .u64 (d' : Nat)]) ∧ Below w.heap.size w w' := by
  have i0 := idx0 (.int .u64 (e : Nat)) (.int .u64 (f : Nat)) (.int .u64 (g : Nat)) (.int .u64 (h : Nat))
  have i1 := idx1 (.int .u64 (e : Nat)) (.int .u64 (f : Nat)) (.int .u64 (g : Nat)) (.int .u64 (h : Nat))
  have i2 := idx2 (.int .u64 (e : Nat)) (.int .u64 (f : Nat)) (.int .u64 (g : Nat)) (.int .u64 (h : Nat))
  have i3 := idx3 (.int .u64 (e : Nat)) (.int .u64 (f : Nat)) (.int .u64 (g : Nat)) (.int .u64 (h : Nat))
  go_enter Tryd.func16, Tryd.ntmps16
  go_wp2
  go_loopw [8] (fun i wr => ∃ p q r s : Nat, wr = ((w.alloc (.cells #[.int .u64 (p : Nat), .int .u64 (q : Nat), .int .u64 (r : Nat), .int .u64 (s : Nat)] 24)).alloc (.cells #[.int .u64 (e : Nat), .int .u64 (f : Nat), .int .u64 (g : Nat), .int .u64 (h : Nat)] 24)).alloc (.cells #[.int .u64 0, .int .u64 0, .int .u64 0, .int .u64 0] 24) ∧ ((i = .int .i64 0 ∧ p = a ∧ q = b ∧ r = c ∧ s = d) ∨ (i = .int .i64 1 ∧ p = a' ∧ q = b ∧ r = c ∧ s = d) ∨ (i = .int .i64 2 ∧ p = a' ∧ q = b' ∧ r = c ∧ s = d) ∨ (i = .int .i64 3 ∧ p = a' ∧ q = b' ∧ r = c' ∧ s = d) ∨ (i = .int .i64 4 ∧ p = a' ∧ q = b' ∧ r = c' ∧ s = d'))) (fun i _ => 4 - (intOf i).toNat)
  case atStart => exact ⟨a, b, c, d, rfl, .inl ⟨rfl, rfl, rfl, rfl, rfl⟩⟩
  case round =>
    obtain ⟨p, q, r, s, rfl, h⟩ := hrel
    rcases h with ⟨rfl, rfl, rfl, rfl, rfl⟩ | ⟨rfl, rfl, rfl, rfl, rfl⟩ | ⟨rfl, rfl, rfl, rfl, rfl⟩ | ⟨rfl, rfl, rfl, rfl, rfl⟩ | ⟨rfl, rfl, rfl, rfl, rfl⟩
    · go_wp2
      go_roundw
      case rel => exact ⟨_, _, _, _, rfl, .inr (.inl ⟨rfl, rfl, rfl, rfl, rfl⟩)⟩
      case measure => decide
    · go_wp2
      go_roundw
      case rel => exact ⟨_, _, _, _, rfl, .inr (.inr (.inl ⟨rfl, rfl, rfl, rfl, rfl⟩))⟩
      case measure => decide
    · go_wp2
      go_roundw
      case rel => exact ⟨_, _, _, _, rfl, .inr (.inr (.inr (.inl ⟨rfl, rfl, rfl, rfl, rfl⟩)))⟩
      case measure => decide
    · go_wp2
      go_roundw
      case rel => exact ⟨_, _, _, _, rfl, .inr (.inr (.inr (.inr ⟨rfl, rfl, rfl, rfl, rfl⟩)))⟩
      case measure => decide
    · go_wp2
      exact bodyPost_ret (v := .agg #[.int .u64 (p : Nat), .int .u64 (q : Nat), .int .u64 (r : Nat), .int .u64 (s : Nat)]) (by simp [results, Tryd.results16, go_sem]) rfl ⟨rfl, below3 _ _ _ _⟩
/-- meet. -/
theorem meet_c {P Q : Nat → Bool} {a b c d e f g h : Nat} (k : C4 P a b c d) (l : C4 Q e f g h) (w : World) : Calls Tryd.prog 16 #[.agg #[.int .u64 (a : Nat), .int .u64 (b : Nat), .int .u64 (c : Nat), .int .u64 (d : Nat)], .agg #[.int .u64 (e : Nat), .int .u64 (f : Nat), .int .u64 (g : Nat), .int .u64 (h : Nat)]] w (RetC w fun x => P x && Q x) := by
  exact (meet_walk a b c d e f g h _ _ _ _ w (u64_and_nat _ _ k.la l.la) (u64_and_nat _ _ k.lb l.lb) (u64_and_nat _ _ k.lc l.lc) (u64_and_nat _ _ k.ld l.ld)).mono fun e w' ⟨he, hb⟩ => ⟨⟨_, _, _, _, he, k.and l⟩, hb⟩end Go.Proofs.YthgjklhjfpillabDoor
