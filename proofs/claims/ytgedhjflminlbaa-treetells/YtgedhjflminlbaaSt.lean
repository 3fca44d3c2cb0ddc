/- startAt, mayRepeat: the walks. -/
import Derived.Test.YtgedhjflminlbaaNb
namespace Go.Proofs.Ytgedhjflminlbaa
open Go.RowKit
/-- The cells of a slice of numbers can be read. -/
def RdI (w : World) (ao : Option Addr) (n : Nat) (f : Nat → Int) : Prop := 0 < n → ∃ bb off, ao = some ⟨bb, off, none⟩ ∧ bb < w.heap.size ∧ ∀ i, i < n → w.cell? ⟨bb, off + i, none⟩ = some (.int .i64 (f i))
theorem RdI.below {w w' : World} {ao : Option Addr} {n : Nat} {f : Nat → Int} (h : RdI w ao n f) (hb : Below w.heap.size w w') : RdI w' ao n f := by
  intro hn
  obtain ⟨bb, off, e, hlt, hc⟩ := h hn
  refine ⟨bb, off, e, Nat.lt_of_lt_of_le hlt hb.size, fun i hi => ?_⟩
  rw [hb.cell (p := ⟨bb, _, none⟩) hlt]
  exact hc i hi
/-- Where the subtree of a place starts; below 0 where there is no place. -/
def stA (f : Nat → Int) (x : Int) : Int := if x < 0 then -1 else f x.toNat
set_option maxHeartbeats 400000 in
theorem startAt_any (ao : Option Addr) (n cap : Nat) (f : Nat → Int) (x : Int) (w : World) (hr : RdI w ao n f) (hx : x < n) : Calls Try.prog 66 #[.slice ao n cap, .int .i64 x] w fun e w' => e = .returned (.int .i64 (stA f x)) ∧ w' = w := by
  by_cases h : x < 0
  · have e : stA f x = -1 := by simp [stA, h]
    rw [e]
    clear hr
    go_enter Try.func66, Try.ntmps66
    go_wp2
    go_ret
    exact ⟨rfl, rfl⟩
  · have e : stA f x = f x.toNat := by simp [stA, h]
    rw [e]
    obtain ⟨k, rfl⟩ : ∃ k : Nat, x = (k : Int) := ⟨x.toNat, by omega⟩
    obtain ⟨bb, off, rfl, _, hc⟩ := hr (by omega)
    have hk := hc k (by omega)
    have hkn : k < n := by omega
    rw [Int.toNat_natCast]
    generalize f k = y at *
    clear hc hr e
    go_enter Try.func66, Try.ntmps66
    go_wp2
    go_ret
    exact ⟨rfl, rfl⟩
set_option maxHeartbeats 400000 in
theorem mayRepeat_any (l m : Int) (w : World) : Calls Try.prog 67 #[.int .i64 l, .int .i64 m] w fun e w' => e = .returned (.bool (Tre.mayR l m)) ∧ w' = w := by
  by_cases h : m = -1
  · subst h
    by_cases h0 : 0 ≤ l
    · by_cases h1 : l ≤ 1000
      · have e : Tre.mayR l (-1) = true := by simp [Tre.mayR, h0, h1]
        rw [e]
        go_enter Try.func67, Try.ntmps67
        go_wp2
        go_ret
        exact ⟨rfl, rfl⟩
      · have e : Tre.mayR l (-1) = false := by simp [Tre.mayR, h1]
        rw [e]
        go_enter Try.func67, Try.ntmps67
        go_wp2
        go_ret
        exact ⟨rfl, rfl⟩
    · have e : Tre.mayR l (-1) = false := by simp [Tre.mayR, h0]
      rw [e]
      go_enter Try.func67, Try.ntmps67
      go_wp2
      go_ret
      exact ⟨rfl, rfl⟩
  · have hm : (m == -1) = false := by simpa using h
    by_cases h0 : 0 ≤ l
    · by_cases h1 : l ≤ m
      · by_cases h2 : m ≤ 1000
        · have e : Tre.mayR l m = true := by simp [Tre.mayR, h0, h1, h2]; omega
          rw [e]
          go_enter Try.func67, Try.ntmps67
          go_wp2
          go_ret
          exact ⟨rfl, rfl⟩
        · have e : Tre.mayR l m = false := by simp [Tre.mayR, h2, h]
          rw [e]
          go_enter Try.func67, Try.ntmps67
          go_wp2
          go_ret
          exact ⟨rfl, rfl⟩
      · have e : Tre.mayR l m = false := by simp [Tre.mayR, h1, h]
        rw [e]
        go_enter Try.func67, Try.ntmps67
        go_wp2
        go_ret
        exact ⟨rfl, rfl⟩
    · have e : Tre.mayR l m = false := by simp [Tre.mayR, h0]
      rw [e]
      go_enter Try.func67, Try.ntmps67
      go_wp2
      go_ret
      exact ⟨rfl, rfl⟩
end Go.Proofs.Ytgedhjflminlbaa
