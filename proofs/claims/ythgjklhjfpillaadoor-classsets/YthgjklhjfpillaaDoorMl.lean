/- ClassMakes: the walk of the law. -/
import Derived.Test.YthgjklhjfpillaaDoorWd
namespace Go.Proofs.YthgjklhjfpillaaDoor
open Go.RowKit
theorem eql_same (p q r s : Nat) (w : World) : (Go.binOp .eql 26 (.agg #[.int .u64 (p : Nat), .int .u64 (q : Nat), .int .u64 (r : Nat), .int .u64 (s : Nat)]) (.agg #[.int .u64 (p : Nat), .int .u64 (q : Nat), .int .u64 (r : Nat), .int .u64 (s : Nat)])).run Tryd.prog w = .ok (.bool true) w := by
  rw [eql4]; simp
theorem full_rg {a b c d : Nat} (h : C4 (fun _ => true) a b c d) : C4 (rg 0 256) a b c d := h.congr fun x hx => by simp [rg]; omega
set_option maxHeartbeats 4000000 in
theorem classMakes_walk (ao : Option Addr) (len cap : Nat) (z : Nat → Nat) (lo hi : Nat) (w : World) (hT : Tab w) (hr : Rd w ao len z) (hl : (len : Int) ≤ 9223372036854775807) (h1 : lo < 256) (h2 : hi < 256) :
    Calls Tryd.prog 3 #[.slice ao len cap, .int .u8 (lo : Nat), .int .u8 (hi : Nat)] w fun e w' => e = .returned (.bool true) ∧ Below w.heap.size w w' := by
  have heq := eql_same
  go_enter Tryd.func3, Tryd.ntmps3
  go_wp2_with fail
  refine (begun_any w hT).mono ?_
  rintro e w0 ⟨rfl, t⟩
  go_wp2_with fail
  refine (of_any ao len cap z _ (hr.below t) hl).mono ?_
  rintro e w1 ⟨⟨a, b, c, d, rfl, h4⟩, q⟩
  replace t := t.trans (q.mono t.size)
  clear q
  go_wp2_with fail
  refine (rof_any ao len cap z _ (hr.below t) hl).mono ?_
  rintro e w2 ⟨⟨a', b', c', d', rfl, k4⟩, q⟩
  replace t := t.trans (q.mono t.size)
  obtain ⟨rfl, rfl, rfl, rfl⟩ := h4.uniq k4
  clear q k4 h4
  go_wp2_with fail
  refine (range_any lo hi _ h1 h2).mono ?_
  rintro e w3 ⟨⟨a, b, c, d, rfl, h4⟩, q⟩
  replace t := t.trans (q.mono t.size)
  clear q
  go_wp2_with fail
  refine (rrange_any lo hi _ h1 h2).mono ?_
  rintro e w4 ⟨⟨a', b', c', d', rfl, k4⟩, q⟩
  replace t := t.trans (q.mono t.size)
  obtain ⟨rfl, rfl, rfl, rfl⟩ := h4.uniq k4
  clear q k4 h4
  go_wp2_with fail
  refine (full_any _).mono ?_
  rintro e w5 ⟨⟨a, b, c, d, rfl, h4⟩, q⟩
  replace t := t.trans (q.mono t.size)
  clear q
  replace h4 := full_rg h4
  go_wp2_with fail
  refine (rfull_any _).mono ?_
  rintro e w6 ⟨⟨a', b', c', d', rfl, k4⟩, q⟩
  replace t := t.trans (q.mono t.size)
  obtain ⟨rfl, rfl, rfl, rfl⟩ := h4.uniq k4
  clear q k4 h4
  go_wp2_with fail
  refine (digit_any _).mono ?_
  rintro e w7 ⟨⟨a, b, c, d, rfl, h4⟩, q⟩
  replace t := t.trans (q.mono t.size)
  clear q
  go_wp2_with fail
  refine (rdigit_any _).mono ?_
  rintro e w8 ⟨⟨a', b', c', d', rfl, k4⟩, q⟩
  replace t := t.trans (q.mono t.size)
  obtain ⟨rfl, rfl, rfl, rfl⟩ := h4.uniq k4
  clear q k4 h4
  go_wp2_with fail
  refine (word_any _).mono ?_
  rintro e w9 ⟨⟨a, b, c, d, rfl, h4⟩, q⟩
  replace t := t.trans (q.mono t.size)
  clear q
  go_wp2_with fail
  refine (rword_any _).mono ?_
  rintro e w10 ⟨⟨a', b', c', d', rfl, k4⟩, q⟩
  replace t := t.trans (q.mono t.size)
  obtain ⟨rfl, rfl, rfl, rfl⟩ := h4.uniq k4
  clear q k4 h4
  go_wp2_with fail
  refine (space_any _).mono ?_
  rintro e w11 ⟨⟨a, b, c, d, rfl, h4⟩, q⟩
  replace t := t.trans (q.mono t.size)
  clear q
  go_wp2_with fail
  refine (rspace_any _).mono ?_
  rintro e w12 ⟨⟨a', b', c', d', rfl, k4⟩, q⟩
  replace t := t.trans (q.mono t.size)
  obtain ⟨rfl, rfl, rfl, rfl⟩ := h4.uniq k4
  clear q k4 h4
  go_wp2
  go_ret
  exact ⟨rfl, t⟩
end Go.Proofs.YthgjklhjfpillaaDoor
