/- RingEnds: the walk. -/
import Derived.Test.YtehlmjjdegmnaaaRe
import Derived.Test.YtehlmjjdegmnaaaRq
namespace Go.Proofs.Ytehlmjjdegmnaaa
open Go.RowKit
theorem ringEnds_walk {a b c d : Nat} {lo hi : Int} {P : Nat → Bool} (w : World) (zo : Option Addr) (l lc : Nat) (z : Nat → Int) (ao : Option Addr) (n cap : Nat) (t : Nat → Nat) (hP : C4 P a b c d)
    (hz : RdI w zo l z) (hl : (l : Int) ≤ 9223372036854775807) (ht : RdB w ao n t) (hnc : n ≤ cap) (hn : (n : Int) ≤ 9223372036854775807) (hnil : (ao = none ∧ n = 0 ∧ cap = 0) ∨ ∃ a, ao = some a) :
    Calls Try.prog 3 #[rgV a b c d lo hi, .slice zo l lc, .slice ao n cap] w fun e w' => e = .returned (.bool true) ∧ Below w.heap.size w w' := by
  cases h : okR lo hi with
  | true =>
    obtain ⟨lo', hi', rfl, rfl, h1, h2⟩ := okR_parts h
    exact ringEnds_given w zo l lc z ao n cap t (fun w => sound_yes w h) hP (by omega) h1 (fun W k hk hz' ht' => rends_any W zo l lc z ao k cap t (fun w => may_yes w h) hP h1 hz' hl ht' (by omega)) hz hl ht hnc hn hnil
  | false =>
    exact ringEnds_given (lo' := 0) (hi' := 1) w zo l lc z ao n cap t (fun w => sound_no w h) c4_none (by omega) (by omega) (fun W k hk hz' ht' => rends_any (lo' := 0) (hi' := 1) W zo l lc z ao k cap t (fun w => may_no w h) c4_none (by omega) hz' hl ht' (by omega)) hz hl ht hnc hn hnil
end Go.Proofs.Ytehlmjjdegmnaaa
