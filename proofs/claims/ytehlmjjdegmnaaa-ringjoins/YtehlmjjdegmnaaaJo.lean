/- RingJoins: the walk. -/
import Derived.Test.YtehlmjjdegmnaaaJa
import Derived.Test.YtehlmjjdegmnaaaJb
namespace Go.Proofs.Ytehlmjjdegmnaaa
open Go.RowKit Go.Shelf
theorem okR_two {lo hi : Int} (h : okR lo hi = true) : ∃ lo' hi' : Nat, lo = lo' ∧ hi = hi' ∧ hi' ≤ 1000 := by
  unfold okR at h
  simp only [Bool.and_eq_true, decide_eq_true_eq] at h
  obtain ⟨⟨⟨h1, h2⟩, h3⟩, h4⟩ := h
  exact ⟨lo.toNat, hi.toNat, by omega, by omega, by omega⟩
theorem ringJoins_walk {a b c d : Nat} {lo hi m : Int} {P : Nat → Bool} (w : World) (xo : Option Addr) (xl xc : Nat) (f : Nat → Nat) (ao : Option Addr) (n cap : Nat) (t : Nat → Nat) (hP : C4 P a b c d) (hrx : Rd w xo xl f) (ht : RdB w ao n t) (hnc : n ≤ cap) (hn : (n : Int) ≤ 9223372036854775807) :
    Calls Try.prog 5 #[rgV a b c d lo hi, .agg #[.int .i64 m, .slice xo xl xc], .slice ao n cap] w fun e w' => e = .returned (.bool true) ∧ Below w.heap.size w w' := by
  cases h : okR lo hi with
  | true =>
    obtain ⟨lo', hi', rfl, rfl, h1⟩ := okR_two h
    obtain ⟨Q, hQ⟩ := sta_of (m := m) (cap := xc) (hi' + 1) hrx
    exact joins_yes w xo xl xc ao n cap t 0 (fun w => sound_yes w h) hP h1 (fun w => check_yes w h) ⟨rfl, rfl⟩ hQ ht hnc hn
  | false =>
    obtain ⟨Q, hQ⟩ := sta_of (m := m) (cap := xc) (1 + 1) hrx
    exact joins_no (a' := 0) (b' := 0) (c' := 0) (d' := 0) (lo' := 0) (hi' := 1) w xo xl xc ao n cap t 130 (fun w => sound_no w h) c4_none (by decide) (fun w => check_no w h) ⟨rfl, rfl⟩ hQ ht hnc hn
end Go.Proofs.Ytehlmjjdegmnaaa
