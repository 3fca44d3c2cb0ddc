/- Count: the walk; how many bytes a class has. -/
import Derived.Test.YthgjklhjfpillabDoorOc
namespace Go.Proofs.YthgjklhjfpillabDoor
open Go.RowKit
/-- How many of the first n bytes are in the class. -/
def cnt (P : Nat → Bool) : Nat → Nat
  | 0 => 0
  | n + 1 => cnt P n + (if P n then 1 else 0)
theorem cnt_pop {P : Nat → Bool} {x q : Nat} (n : Nat) (hn : n ≤ 64) (h : ∀ j, j < 64 → x.testBit j = P (q + j)) : cnt P (q + n) = cnt P q + pop x n := by
  induction n with
  | zero => rfl
  | succ n ih =>
    rw [show q + (n + 1) = (q + n) + 1 from rfl, cnt, pop, ih (by omega), h n (by omega)]
    omega
theorem cnt_le (P : Nat → Bool) (n : Nat) : cnt P n ≤ n := by
  induction n with
  | zero => exact Nat.le_refl _
  | succ n ih => rw [cnt]; split <;> omega
theorem cnt_all {P : Nat → Bool} {a b c d : Nat} (h : C4 P a b c d) : cnt P 256 = pop a 64 + pop b 64 + pop c 64 + pop d 64 := by
  have h1 := cnt_pop (P := P) (x := a) (q := 0) 64 (by decide) (fun j hj => by rw [Nat.zero_add]; exact h.ha j hj)
  have h2 := cnt_pop (q := 64) 64 (by decide) h.hb
  have h3 := cnt_pop (q := 128) 64 (by decide) h.hc
  have h4 := cnt_pop (q := 192) 64 (by decide) h.hd
  have h0 : cnt P 0 = 0 := rfl
  simp only [Nat.zero_add] at h1
  rw [h4, h3, h2, h1, h0, Nat.zero_add]
theorem cnt_come (P : Nat → Bool) (n : Nat) : cnt P n = (come P n).length := by
  induction n with
  | zero => rfl
  | succ n ih =>
    rw [cnt, ih]
    cases h : P n
    · rw [come_no h]; simp
    · rw [come_yes h]; simp
/-- A number, and what was there is as it was. -/
def RetI (w : World) (n : Nat) (e : Ending) (w' : World) : Prop := e = .returned (.int .i64 (n : Nat)) ∧ Below w.heap.size w w'
set_option maxRecDepth 10000 in
set_option maxHeartbeats 2000000 in
theorem count_c {P : Nat → Bool} {a b c d : Nat} (h4 : C4 P a b c d) (w : World) : Calls Tryd.prog 13 #[.agg #[.int .u64 (a : Nat), .int .u64 (b : Nat), .int .u64 (c : Nat), .int .u64 (d : Nat)]] w (RetI w (cnt P 256)) := by
  have hB : Below w.heap.size w (w.alloc (.cells #[.int .u64 (a : Nat), .int .u64 (b : Nat), .int .u64 (c : Nat), .int .u64 (d : Nat)] 24)) := (Below.refl _ _).alloc (Nat.le_refl _) _
  have i0 := idx0 (.int .u64 (a : Nat)) (.int .u64 (b : Nat)) (.int .u64 (c : Nat)) (.int .u64 (d : Nat))
  have i1 := idx1 (.int .u64 (a : Nat)) (.int .u64 (b : Nat)) (.int .u64 (c : Nat)) (.int .u64 (d : Nat))
  have i2 := idx2 (.int .u64 (a : Nat)) (.int .u64 (b : Nat)) (.int .u64 (c : Nat)) (.int .u64 (d : Nat))
  have i3 := idx3 (.int .u64 (a : Nat)) (.int .u64 (b : Nat)) (.int .u64 (c : Nat)) (.int .u64 (d : Nat))
  have q0 := fun u => ones_any a u h4.la
  have q1 := fun u => ones_any b u h4.lb
  have q2 := fun u => ones_any c u h4.lc
  have q3 := fun u => ones_any d u h4.ld
  rw [cnt_all h4]
  have p0 := pop_le a 64
  have p1 := pop_le b 64
  have p2 := pop_le c 64
  have p3 := pop_le d 64
  clear h4
  generalize pop a 64 = A at *
  generalize pop b 64 = B at *
  generalize pop c 64 = C at *
  generalize pop d 64 = D at *
  go_enter Tryd.func13, Tryd.ntmps13
  go_wp2
  go_loopw [3, 7] (fun n i wr => wr = w.alloc (.cells #[.int .u64 (a : Nat), .int .u64 (b : Nat), .int .u64 (c : Nat), .int .u64 (d : Nat)] 24) ∧ ((i = .int .i64 0 ∧ n = .int .i64 0) ∨ (i = .int .i64 1 ∧ n = .int .i64 (A : Nat)) ∨ (i = .int .i64 2 ∧ n = .int .i64 ((A + B : Nat) : Int)) ∨ (i = .int .i64 3 ∧ n = .int .i64 ((A + B + C : Nat) : Int)) ∨ (i = .int .i64 4 ∧ n = .int .i64 ((A + B + C + D : Nat) : Int)))) (fun _ i _ => 4 - (intOf i).toNat)
  case atStart => exact ⟨rfl, .inl ⟨rfl, rfl⟩⟩
  case round =>
    obtain ⟨rfl, hh⟩ := hrel
    rcases hh with ⟨rfl, rfl⟩ | ⟨rfl, rfl⟩ | ⟨rfl, rfl⟩ | ⟨rfl, rfl⟩ | ⟨rfl, rfl⟩
    · go_wp2_with (go_at_call 23; refine (q0 _).mono ?_; rintro e w' ⟨rfl, rfl⟩)
      exact ⟨⟨trivial, .inr (.inl ⟨rfl, rfl⟩)⟩, by decide⟩
    · go_wp2_with (go_at_call 23; refine (q1 _).mono ?_; rintro e w' ⟨rfl, rfl⟩)
      exact ⟨⟨trivial, .inr (.inr (.inl ⟨rfl, by go_num⟩))⟩, by decide⟩
    · go_wp2_with (go_at_call 23; refine (q2 _).mono ?_; rintro e w' ⟨rfl, rfl⟩)
      exact ⟨⟨trivial, .inr (.inr (.inr (.inl ⟨rfl, by go_num⟩)))⟩, by decide⟩
    · go_wp2_with (go_at_call 23; refine (q3 _).mono ?_; rintro e w' ⟨rfl, rfl⟩)
      exact ⟨⟨trivial, .inr (.inr (.inr (.inr ⟨rfl, by go_num⟩)))⟩, by decide⟩
    · go_wp2
      exact bodyPost_ret (v := .int .i64 ((A + B + C + D : Nat) : Int)) (by simp [results, Tryd.results13, go_sem]) rfl ⟨rfl, hB⟩
end Go.Proofs.YthgjklhjfpillabDoor
