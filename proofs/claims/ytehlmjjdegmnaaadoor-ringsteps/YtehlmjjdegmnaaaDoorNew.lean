/- New: the walk. -/
import Derived.Test.YtehlmjjdegmnaaaDoorTwo
namespace Go.Proofs.YtehlmjjdegmnaaaDoor
open Go.RowKit
/-- The cells of a slice of ints can be read, and hold z. -/
def RdI (w : World) (ao : Option Addr) (len : Nat) (z : Nat → Int) : Prop :=
  0 < len → ∃ b off, ao = some ⟨b, off, none⟩ ∧ b < w.heap.size ∧ ∀ i, i < len → w.cell? ⟨b, off + i, none⟩ = some (.int .i64 (z i))
theorem RdI.below {w w' : World} {ao : Option Addr} {len : Nat} {z : Nat → Int} (h : RdI w ao len z) (hb : Below w.heap.size w w') : RdI w' ao len z := by
  intro hl
  obtain ⟨b, off, e, hlt, hc⟩ := h hl
  exact ⟨b, off, e, Nat.lt_of_lt_of_le hlt hb.size, fun i hi => by rw [hb.cell (p := ⟨b, off + i, none⟩) hlt]; exact hc i hi⟩
/-- Whether i is among the first k of the numbers z. -/
def among (z : Nat → Int) : Nat → Nat → Bool
  | 0, _ => false
  | k + 1, i => among z k i || decide ((i : Int) = z k)
/-- The numbers of a New. -/
def newP (n : Nat) (z : Nat → Int) (k : Nat) : Nat → Bool := fun i => among z k i && decide (i < n)
theorem newP_succ (n : Nat) (z : Nat → Int) (k : Nat) : newP n z (k + 1) = fun i => newP n z k i || decide ((i : Int) = z k ∧ i < n) := by
  funext i
  unfold newP
  simp only [among]
  by_cases h1 : (i : Int) = z k <;> by_cases h2 : i < n <;> simp [h1, h2]
theorem isSet_empty {n len : Nat} (hn : n ≤ 8192) (hl : len = (n + 63) / 64) : IsSet n len (fun _ => 0) (fun _ => false) :=
  ⟨hn, hl, fun k _ => by unfold bitAt; exact Nat.zero_testBit _, fun _ _ => rfl⟩

set_option maxHeartbeats 400000 in
theorem new_bad (n : Int) (lo : Option Addr) (ll lc : Nat) (w : World) (hn : n < 0 ∨ 8192 < n) :
    Calls Tryd.prog 46 #[.int .i64 n, .slice lo ll lc] w fun e w' => e = .returned (.tuple #[.agg #[.int .i64 0, .slice none 0 0], .int .i64 1]) ∧ Below w.heap.size w w' := by
  rcases hn with hn | hn
  · have hd : decide (n < 0) = true := by simpa using hn
    go_enter Tryd.func46, Tryd.ntmps46
    go_wp2
    refine bodyPost_ret (v := .tuple #[.agg #[.int .i64 0, .slice none 0 0], .int .i64 1]) (by simp [results, Tryd.results46, go_sem]) rfl ⟨rfl, (Below.refl _ _).alloc (Nat.le_refl _) _⟩
  · have hd : decide (n < 0) = false := by simp; omega
    have hd2 : decide (8192 < n) = true := by simpa using hn
    go_enter Tryd.func46, Tryd.ntmps46
    go_wp2
    refine bodyPost_ret (v := .tuple #[.agg #[.int .i64 0, .slice none 0 0], .int .i64 1]) (by simp [results, Tryd.results46, go_sem]) rfl ⟨rfl, (Below.refl _ _).alloc (Nat.le_refl _) _⟩

/-- What New answers: the set of those numbers, and OK. -/
def RetNew (w : World) (n : Nat) (P : Nat → Bool) (e : Ending) (w' : World) : Prop :=
  ∃ ao len cap f, e = .returned (.tuple #[.agg #[.int .i64 (n : Nat), .slice ao len cap], .int .i64 0]) ∧ Own w.heap.size w' ao len f ∧ IsSet n len f P ∧ Below w.heap.size w w'
structure RelN (w : World) (n bc : Nat) (ao : Option Addr) (len cap : Nat) (z : Nat → Int) (k : Nat) (wr : World) : Prop where
  bc1 : Box wr bc (.int .i64 (n : Nat)) (.slice ao len cap)
  own : ∃ f, Own (w.heap.size + 1) wr ao len f ∧ IsSet n len f (newP n z k)
  below : Below w.heap.size w wr
  b2 : Box wr w.heap.size (.int .i64 0) (.slice none 0 0)
set_option maxHeartbeats 800000 in
/-- New. -/
theorem new_any (n : Nat) (lo : Option Addr) (ll lc : Nat) (z : Nat → Int) (w : World) (hn : n ≤ 8192) (hr : RdI w lo ll z) (hl : (ll : Int) ≤ 9223372036854775807) :
    Calls Tryd.prog 46 #[.int .i64 (n : Nat), .slice lo ll lc] w (RetNew w n (newP n z ll)) := by
  have hd : decide ((n : Int) < 0) = false := by simp
  have hd2 : decide (8192 < (n : Int)) = false := by simp; omega
  go_enter Tryd.func46, Tryd.ntmps46
  go_wp2_with fail
  refine (empty_any n _ hn).mono ?_
  rintro e w1 ⟨ao, len, cap, rfl, ho, hlen, hb⟩
  have b0 := (Box.new w (.int .i64 0) (.slice none 0 0)).below hb
  have hB : Below w.heap.size w w1 := ((Below.refl _ _).alloc (Nat.le_refl _) _).trans (hb.mono (by simp))
  have ho1 : Own (w.heap.size + 1) w1 ao len (fun _ => 0) := by simpa using ho
  have hs0 := isSet_empty hn hlen
  have hlt0 := b0.lt
  have hao : ∀ a, ao = some a → w.heap.size + 1 ≤ a.block ∧ a.block < w1.heap.size := fun a e => ⟨(ho1.lt a e).2, (ho1.lt a e).1⟩
  have HL : Hid (len = (n + 63) / 64) := hlen
  clear hlen ho hb
  go_wp2_with fail
  go_loopw [20] (fun i wr => ∃ k : Nat, k ≤ ll ∧ i = .int .i64 k ∧ RelN w n w1.heap.size ao len cap z k wr) (fun i _ => ll - (intOf i).toNat)
  case atStart => exact ⟨0, Nat.zero_le _, rfl, Box.new _ _ _, ⟨_, ho1.alloc _, hs0⟩, hB.alloc (by omega) _, b0.alloc _⟩
  case round =>
    obtain ⟨k, hk, rfl, hrel⟩ := hrel
    obtain ⟨p0, p1, p2, p3⟩ := hrel.bc1.cells
    by_cases hlt : k < ll
    · obtain ⟨b, off, rfl, hb, hc⟩ := hr (by omega)
      have t1 : wr.cell? ⟨b, off + k, none⟩ = some (.int .i64 (z k)) := by rw [hrel.below.cell (p := ⟨b, off + k, none⟩) hb]; exact hc k hlt
      have hki : (k : Int) < (ll : Int) := by omega
      clear hc
      obtain ⟨f, hof, hsf⟩ := hrel.own
      go_wp2_with fail
      refine (put_any (z k) hof hsf).mono ?_
      rintro e w2 ⟨rfl, g, ho2, hs2, hbut⟩
      have R : RelN w n w1.heap.size ao len cap z (k + 1) w2 :=
        ⟨hrel.bc1.but hbut (fun a e => by have := hao a e; omega), ⟨g, ho2, by rw [newP_succ]; exact hs2⟩, hrel.below.trans (hbut.below hrel.below.size fun a e => by have := hao a e; omega), hrel.b2.but hbut (fun a e => by have := hao a e; omega)⟩
      clear hbut hs2 ho2 hof hsf p0 p1 p2 p3 t1
      go_wp2
      go_roundw
      case rel => exact ⟨k + 1, by omega, by go_num, R⟩
      case measure => simp [intOf]; omega
    · obtain rfl : k = ll := by omega
      obtain ⟨f, hof, hsf⟩ := hrel.own
      obtain ⟨q0, q1, q2, q3⟩ := hrel.b2.cells
      have hB2 := hrel.below
      have hne2 : w.heap.size ≠ w1.heap.size := by omega
      go_wp2
      refine bodyPost_ret (v := .tuple #[.agg #[.int .i64 n, .slice ao len cap], .int .i64 0]) (by simp [results, Tryd.results46, go_sem, q0, q1]) rfl ⟨_, _, _, f, rfl, ?_, hsf, ?_⟩
      · refine Own.but (ax := some ⟨w.heap.size, 0, none⟩) (hof.mono (by omega)) (((But.refl _ _).setCell (p := ⟨w.heap.size, 0, none⟩) (.inl ⟨_, rfl, rfl⟩) _).setCell (p := ⟨w.heap.size, 1, none⟩) (.inl ⟨_, rfl, rfl⟩) _) ?_
        intro a c ea ec
        obtain rfl := Option.some.inj ec
        have := hao a ea
        show w.heap.size ≠ a.block
        omega
      · exact (hB2.setCell (p := ⟨w.heap.size, 0, none⟩) (by simp) _).setCell (p := ⟨w.heap.size, 1, none⟩) (by simp) _
end Go.Proofs.YtehlmjjdegmnaaaDoor
