/- Count: the walk. -/
import Derived.Test.YtclgefpkcagbfaaDoorOc
import Derived.Test.YtclgefpkcagbfaaDoorLive
namespace Go.Proofs.YtclgefpkcagbfaaDoor
open Go.RowKit
theorem pop_len (x : Nat) (n : Nat) : ((List.range n).filter x.testBit).length = pop x n := by
  induction n with
  | zero => rfl
  | succ n ih =>
    rw [List.range_succ, List.filter_append, List.length_append, ih, pop]
    cases h : x.testBit n <;> simp [h]
theorem rest_len (i v : Nat) : (rest i v).length = pop v 64 := by
  unfold rest
  rw [List.length_map, pop_len]
/-- A number, and what was there is as it was. -/
def RetI (w : World) (n : Nat) (e : Ending) (w' : World) : Prop := e = .returned (.int .i64 (n : Nat)) ∧ Below w.heap.size w w'
set_option maxHeartbeats 1000000 in
theorem count_any {w : World} {x : Value} {n : Nat} {P : Nat → Bool} (h : Arg w x n P) : Calls Tryd.prog 15 #[x] w (RetI w (come P n).length) := by
  obtain ⟨m1, a1, l1, c1, rfl⟩ := h.shape
  have hB0 : Below w.heap.size w (w.alloc (.cells #[.int .i64 m1, .slice a1 l1 c1] 24)) := (Below.refl _ _).alloc (Nat.le_refl _) _
  have hfld := field1
  go_enter Tryd.func15, Tryd.ntmps15
  go_wp2_with fail
  refine (sound_any h hB0).mono ?_
  rintro e w1 ⟨ao, len, cap, f, rfl, hr, hs, hb⟩
  clear h
  have hB1 : Below w.heap.size w w1 := hB0.trans (hb.mono (by simp))
  have hle := hs.hle
  have hlen := hs.hlen
  obtain ⟨C, hC⟩ : ∃ C : Nat → Nat, ∀ k, C k = (come P (64 * k)).length := ⟨_, fun _ => rfl⟩
  have h0 : C 0 = 0 := by rw [hC]; rfl
  have hN : Hid (C len = (come P n).length) := by
    show C len = (come P n).length
    rw [hC, come_all hs.hout (by omega)]
  have hS : Hid (∀ k, k < len → C (k + 1) = C k + pop (f k) 64) := fun k hk => by
    rw [hC, hC, come_word hs hk, List.length_append, rest_len]
  have hU : Hid (∀ k, C k ≤ 64 * k) := fun k => by rw [hC]; exact come_len P _
  have hcell : Hid (∀ k, k < len → ∃ b off, ao = some ⟨b, off, none⟩ ∧ w1.cell? ⟨b, off + k, none⟩ = some (.int .u64 (f k : Nat)) ∧ f k < 18446744073709551616) := fun k hk => by
    obtain ⟨b, off, e, hbb, hc⟩ := hr.at_ (by omega)
    exact ⟨b, off, e, by rw [hB1.cell (p := ⟨b, off + k, none⟩) hbb]; exact hc k hk, hr.small k hk⟩
  have hl8 : (len : Int) ≤ 128 := by omega
  clear hr hs hb hB0 hle hlen hC
  go_wp2_with fail
  go_loopw [3, 10] (fun c i wr => ∃ k : Nat, k ≤ len ∧ i = .int .i64 k ∧ c = .int .i64 (C k : Nat) ∧ wr = w1) (fun _ i _ => len - (intOf i).toNat)
  case atStart => exact ⟨0, Nat.zero_le _, rfl, by rw [h0]; rfl, rfl⟩
  case round =>
    obtain ⟨k, hk, rfl, rfl, rfl⟩ := hrel
    by_cases hlt : k < len
    · have hki : (k : Int) < (len : Int) := by omega
      obtain ⟨b, off, rfl, hc, hv⟩ := hcell.out k hlt
      have hs1 := hS.out k hlt
      have hu := hU.out k
      have hp := pop_le (f k) 64
      have HS : Hid (C (k + 1) = C k + pop (f k) 64) := hs1
      have ho := fun W => ones_any (f k) W hv
      generalize f k = y at *
      generalize hpy : pop y 64 = p at *
      generalize hck : C k = c0 at *
      have hcs : ((c0 : Int) + (p : Int)) ≤ 100000 := by omega
      clear hs1 hpy
      go_wp2_with (go_at_call 30; refine (ho _).mono ?_; rintro e w' ⟨rfl, rfl⟩)
      go_roundw
      case rel => exact ⟨k + 1, by omega, by go_num, by rw [HS.out]; go_num, trivial⟩
      case measure => simp [intOf]; omega
    · have hki : ¬ (k : Int) < (len : Int) := by omega
      obtain rfl : k = len := by omega
      go_wp2
      go_ret
      exact ⟨by rw [← hN.out]; rfl, hB1⟩
end Go.Proofs.YtclgefpkcagbfaaDoor
