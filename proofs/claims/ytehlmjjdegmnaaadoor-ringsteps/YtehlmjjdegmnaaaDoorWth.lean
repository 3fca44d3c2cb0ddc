/- With, Without: the walks. -/
import Derived.Test.YtehlmjjdegmnaaaDoorNear
namespace Go.Proofs.YtehlmjjdegmnaaaDoor
open Go.RowKit
/-- What a call answers that makes a set: the set, in memory of its own; nothing old has turned. -/
def RetSet (w : World) (n : Nat) (P : Nat → Bool) (e : Ending) (w' : World) : Prop :=
  ∃ ao len cap f, e = .returned (.agg #[.int .i64 (n : Nat), .slice ao len cap]) ∧ Own w.heap.size w' ao len f ∧ IsSet n len f P ∧ Below w.heap.size w w'
set_option maxHeartbeats 400000 in
/-- With. -/
theorem with_any {w : World} {x : Value} {n : Nat} {P : Nat → Bool} (k : Int) (h : Arg w x n P) :
    Calls Tryd.prog 30 #[x, .int .i64 k] w (RetSet w n fun i => P i || decide ((i : Int) = k ∧ i < n)) := by
  obtain ⟨m, a0, l0, c0, rfl⟩ := h.shape
  have hB0 : Below w.heap.size w ((w.alloc (.cells #[.int .i64 m, .slice a0 l0 c0] 29)).alloc (.cells #[.int .i64 0, .slice none 0 0] 29)) := ((Below.refl _ _).alloc (Nat.le_refl _) _).alloc (by simp) _
  go_enter Tryd.func30, Tryd.ntmps30
  go_wp2_with fail
  refine (copied_any (h.below hB0)).mono ?_
  rintro e w1 ⟨ao, len, cap, f, rfl, ho, hs, hb⟩
  clear h
  have b2 := (Box.new1 w (.cells #[.int .i64 m, .slice a0 l0 c0] 29) (.int .i64 0) (.slice none 0 0)).below hb
  have hB1 : Below w.heap.size w w1 := hB0.trans (hb.mono (by simp; omega))
  have ho1 : Own (w.heap.size + 2) w1 ao len f := by simpa using ho
  clear hB0 hb ho
  have hlt1 : w.heap.size + 1 < w1.heap.size := b2.lt
  go_wp2_with fail
  refine (put_any k (ho1.alloc _) hs).mono ?_
  rintro e w2 ⟨rfl, g, ho2, hs2, hbut⟩
  have b2' := (b2.alloc _).but hbut (fun a e => by have := ho1.lt a e; omega)
  have b3' := (Box.new w1 _ _).but hbut (fun a e => by have := ho1.lt a e; omega)
  have hB2 : Below w.heap.size w w2 := (hB1.alloc (by omega) _).trans (hbut.below (by simp; omega) fun a e => by have := ho1.lt a e; omega)
  have hao : ∀ a, ao = some a → w.heap.size + 2 ≤ a.block := fun a e => (ho1.lt a e).2
  clear hbut hs b2 hB1 ho1
  obtain ⟨c20, c21, f20, f21⟩ := b2'.cells
  obtain ⟨c30, c31, f30, f31⟩ := b3'.cells
  have hne2 : w.heap.size + 1 ≠ w1.heap.size := by omega
  go_wp2
  refine bodyPost_ret (v := .agg #[.int .i64 n, .slice ao len cap]) (by simp [results, Tryd.results30, go_sem, c20, c21]) rfl ⟨_, _, _, g, rfl, ?_, hs2, ?_⟩
  · refine (ho2.mono (by omega)).but (ax := some ⟨w.heap.size + 1, 0, none⟩) ?_ ?_
    · exact ((But.refl _ _).setCell (p := ⟨w.heap.size + 1, 0, none⟩) (.inl ⟨_, rfl, rfl⟩) _).setCell (p := ⟨w.heap.size + 1, 1, none⟩) (.inl ⟨_, rfl, rfl⟩) _
    · intro a c ea ec
      obtain rfl := Option.some.inj ec
      have := hao a ea
      show w.heap.size + 1 ≠ a.block
      omega
  · exact (hB2.setCell (p := ⟨w.heap.size + 1, 0, none⟩) (by simp) _).setCell (p := ⟨w.heap.size + 1, 1, none⟩) (by simp) _
theorem andNot_one (x k : Nat) (hx : x < 18446744073709551616) : bits .andNot .u64 (x : Int) (IntKind.u64.wrap (2 ^ (k % 64))) = ((x &&& (18446744073709551615 - 2 ^ (k % 64)) : Nat) : Int) := by
  rw [shl_one, u64_andNot_nat _ _ hx (pow_bit_lt (by omega))]
theorem bitAt_upd_andNot (f : Nat → Nat) (k i : Nat) (hx : f (k / 64) < 18446744073709551616) : bitAt (upd f (k / 64) (f (k / 64) &&& (18446744073709551615 - 2 ^ (k % 64)))) i = (bitAt f i && !decide (i = k)) := by
  unfold bitAt upd
  by_cases h : i / 64 = k / 64
  · rw [if_pos h, andNot_bit _ _ hx (pow_bit_lt (by omega)), h, Nat.testBit_two_pow]
    congr 2
    rw [decide_eq_decide]; omega
  · rw [if_neg h, decide_eq_false (by omega)]; simp
end Go.Proofs.YtehlmjjdegmnaaaDoor
