/- With, Without: the walks. -/
import Derived.Test.YtclgefpkcagbfaaDoorNear
namespace Go.Proofs.YtclgefpkcagbfaaDoor
open Go.RowKit
/-- What a call answers that makes a set: the set, in memory of its own; nothing old has turned. -/
def RetSet (w : World) (n : Nat) (P : Nat → Bool) (e : Ending) (w' : World) : Prop :=
  ∃ ao len cap f, e = .returned (.agg #[.int .i64 (n : Nat), .slice ao len cap]) ∧ Own w.heap.size w' ao len f ∧ IsSet n len f P ∧ Below w.heap.size w w'
theorem andNot_one (x k : Nat) (hx : x < 18446744073709551616) : bits .andNot .u64 (x : Int) (IntKind.u64.wrap (2 ^ (k % 64))) = ((x &&& (18446744073709551615 - 2 ^ (k % 64)) : Nat) : Int) := by
  rw [shl_one, u64_andNot_nat _ _ hx (pow_bit_lt (by omega))]
theorem bitAt_upd_andNot (f : Nat → Nat) (k i : Nat) (hx : f (k / 64) < 18446744073709551616) : bitAt (upd f (k / 64) (f (k / 64) &&& (18446744073709551615 - 2 ^ (k % 64)))) i = (bitAt f i && !decide (i = k)) := by
  unfold bitAt upd
  by_cases h : i / 64 = k / 64
  · rw [if_pos h, andNot_bit _ _ hx (pow_bit_lt (by omega)), h, Nat.testBit_two_pow]
    congr 2
    rw [decide_eq_decide]; omega
  · rw [if_neg h, decide_eq_false (by omega)]; simp
end Go.Proofs.YtclgefpkcagbfaaDoor
