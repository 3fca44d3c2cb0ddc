/- slices.Equal of ints that are the same: the walk. -/
import Derived.Test.YtclgefpkcagbfaaDoorFi
namespace Go.Proofs.YtclgefpkcagbfaaDoor
open Go.RowKit
/-- The slice v holds the numbers l. -/
def RowAt (w : World) (v : Value) (l : List Nat) : Prop := ∃ ao cap, v = .slice ao l.length cap ∧ RdI w ao l.length (fun i => ((l.getD i 0 : Nat) : Int))
theorem RowAt.below {w w' : World} {v : Value} {l : List Nat} (h : RowAt w v l) (hb : Below w.heap.size w w') : RowAt w' v l := by
  obtain ⟨ao, cap, e, hr⟩ := h
  exact ⟨ao, cap, e, hr.below hb⟩
theorem rowAt_of {w : World} {B : Nat} {v : Value} {l : List Nat} (h : w.ownsRow B 3 1 v l.length (ints l)) : RowAt w v l := by
  rcases h.2 with ⟨e, h0⟩ | ⟨g, cap, cur, e, _, hg, hle, _, hsz, htake⟩
  · exact ⟨none, 0, by rw [e, h0], fun hl => by omega⟩
  · refine ⟨_, cap, e, fun _ => ⟨g, 0, rfl, (Array.getElem?_eq_some_iff.1 hg).1, fun i hi => ?_⟩⟩
    rw [cell_of_row w g (0 + i) cur 3 (0, 0) hg, Nat.zero_add]
    have e2 : cur.toList[i]? = (ints l)[i]? := by
      rw [← htake, List.getElem?_take, if_pos (by omega)]
    rw [← Array.getElem?_toList, e2]
    simp [ints, hi]
theorem RetInts.out {w w' : World} {l : List Nat} {e : Ending} (h : RetInts w l e w') : ∃ ao cap, e = .returned (.slice ao l.length cap) ∧ RdI w' ao l.length (fun i => ((l.getD i 0 : Nat) : Int)) ∧ Below w.heap.size w w' := by
  obtain ⟨v, he, ho, hb⟩ := h
  obtain ⟨ao, cap, rfl, hr⟩ := rowAt_of ho
  exact ⟨ao, cap, he, hr, hb⟩
set_option maxHeartbeats 400000 in
theorem equalI_same (ao bo : Option Addr) (l ca cb : Nat) (f : Nat → Int) (w : World) (hra : RdI w ao l f) (hrb : RdI w bo l f) (hm : (l : Int) ≤ 9223372036854775807) :
    Calls Tryd.prog 13 #[.slice ao l ca, .slice bo l cb] w fun e w' => e = .returned (.bool true) ∧ Below w.heap.size w w' := by
  have hn : ((l : Int) != (l : Int)) = false := by simp
  go_enter Tryd.func13, Tryd.ntmps13
  go_wp2_with fail
  go_loopw [13] (fun i wr => ∃ k : Nat, k ≤ l ∧ i = .int .i64 k ∧ ∃ q, wr = w.drewN q) (fun i _ => l - (intOf i).toNat)
  case atStart => exact ⟨0, Nat.zero_le _, rfl, 0, rfl⟩
  case round =>
    obtain ⟨k, hk, rfl, q, rfl⟩ := hrel
    by_cases hlt : k < l
    · obtain ⟨b, off, rfl, hb, hc⟩ := hra (by omega)
      obtain ⟨b2, off2, rfl, hb2, hc2⟩ := hrb (by omega)
      have t1 := hc k hlt
      have t2 := hc2 k hlt
      have hki : (k : Int) < (l : Int) := by omega
      clear hc hc2
      have hnb : (f k != f k) = false := by simp
      go_wp2
      go_quiet (fail)
      go_wp2
      go_roundw
      case rel => exact ⟨k + 1, by omega, by go_num, _, rfl⟩
      case measure => simp [intOf]; omega
    · go_wp2
      go_ret
      exact ⟨rfl, below_drewN (Below.refl _ _) _⟩
end Go.Proofs.YtclgefpkcagbfaaDoor
