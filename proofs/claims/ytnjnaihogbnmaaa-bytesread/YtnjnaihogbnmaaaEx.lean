/- The reference's Exact, at sets that are the same: the walk. -/
import Derived.Test.YtnjnaihogbnmaaaOl
namespace Go.Proofs.Ytnjnaihogbnmaaa
open Go.RowKit
set_option maxHeartbeats 1000000 in
theorem exact_true (n : Int) (ao ax : Option Addr) (l c cx : Nat) (h g : Nat → Nat) (w : World) (hr : RdU w ao l h) (hx : RdU w ax l g) (he : ∀ i, i < l → h i = g i) (hl : (l : Int) ≤ 9223372036854775807) :
    Calls Try.prog 33 #[.agg #[.int .i64 n, .slice ao l c], .agg #[.int .i64 n, .slice ax l cx]] w fun e w' => e = .returned (.bool true) ∧ Below w.heap.size w w' := by
  have hb : Below w.heap.size w ((w.alloc (.cells #[.int .i64 n, .slice ao l c] 25)).alloc (.cells #[.int .i64 n, .slice ax l cx] 25)) := ((Below.refl _ _).alloc (Nat.le_refl _) _).alloc (by simp) _
  have b0 := (Box.new w (.int .i64 n) (.slice ao l c)).alloc (.cells #[.int .i64 n, .slice ax l cx] 25)
  have b1 := Box.new1 w (.cells #[.int .i64 n, .slice ao l c] 25) (.int .i64 n) (.slice ax l cx)
  obtain ⟨c0, c1, _, _⟩ := b0.cells
  obtain ⟨d0, d1, _, _⟩ := b1.cells
  have hr2 := hr.below hb
  have hx2 := hx.below hb
  have hnn : (n != n) = false := by simp
  have hll : ((l : Int) != (l : Int)) = false := by simp
  have HE : Hid (∀ i, i < l → h i = g i) := he
  clear he hr hx
  go_enter Try.func33, Try.ntmps33
  go_wp2_with fail
  clear b0 b1
  generalize ((w.alloc (.cells #[.int .i64 n, .slice ao l c] 25)).alloc (.cells #[.int .i64 n, .slice ax l cx] 25)) = W at *
  go_loopw [5] (fun i wr => ∃ k : Nat, k ≤ l ∧ i = .int .i64 k ∧ ∃ q, wr = W.drewN q) (fun i _ => l - (intOf i).toNat)
  case atStart => exact ⟨0, Nat.zero_le _, rfl, 0, rfl⟩
  case round =>
    obtain ⟨k, hk, rfl, q, rfl⟩ := hrel
    by_cases hlt : k < l
    · obtain ⟨b, off, rfl, hb0, hc⟩ := hr2.at_ (by omega)
      obtain ⟨b2, off2, rfl, hb2, hc2⟩ := hx2.at_ (by omega)
      have t1 := hc k hlt
      have t2 := hc2 k hlt
      have hki : (k : Int) < (l : Int) := by omega
      have hkk := HE.out k hlt
      rw [← hkk] at t2
      have hnb : (((h k : Nat) : Int) != ((h k : Nat) : Int)) = false := by simp
      clear hc hc2 hkk
      generalize h k = x at *
      go_wp2
      go_quiet (fail)
      go_wp2
      go_roundw
      case rel => exact ⟨k + 1, by omega, by go_num, _, rfl⟩
      case measure => simp [intOf]; omega
    · go_wp2
      go_ret
      exact ⟨rfl, below_drewN hb q⟩
end Go.Proofs.Ytnjnaihogbnmaaa
