/- RingEnds: the walk, given what the reference's Ends says. -/
import Derived.Test.YtehlmjjdegmnaaaRi
import Derived.Deep.RegionHeld3
namespace Go.Proofs.Ytehlmjjdegmnaaa
open Go.RowKit Go.Shelf
set_option maxRecDepth 100000 in
set_option maxHeartbeats 2000000 in
theorem ringEnds_given {a b c d a' b' c' d' lo' hi' : Nat} {lo hi : Int} {P : Nat → Bool} (w : World) (zo : Option Addr) (l lc : Nat) (z : Nat → Int) (ao : Option Addr) (n cap : Nat) (t : Nat → Nat)
    (HS : ∀ w, Calls Try.prog 25 #[rgV a b c d lo hi] w fun e w' => e = .returned (rgV a' b' c' d' lo' hi') ∧ Below w.heap.size w w') (hP : C4 P a' b' c' d') (hlo : lo' ≤ 1000) (hhi : hi' ≤ 1000)
    (HR : ∀ (W : World) (k : Nat), k ≤ 60 → RdI W zo l z → RdB W ao k t → Calls Try.prog 9 #[rgV a b c d lo hi, .slice zo l lc, .slice ao k cap] W (RetInts W (come (accF P lo' hi' (among z l) t) (k + 1))))
    (hz : RdI w zo l z) (hl : (l : Int) ≤ 9223372036854775807) (ht : RdB w ao n t) (hnc : n ≤ cap) (hn : (n : Int) ≤ 9223372036854775807) (hnil : (ao = none ∧ n = 0 ∧ cap = 0) ∨ ∃ a, ao = some a) :
    Calls Try.prog 3 #[rgV a b c d lo hi, .slice zo l lc, .slice ao n cap] w fun e w' => e = .returned (.bool true) ∧ Below w.heap.size w w' := by
  obtain ⟨n', hn'⟩ : ∃ n', min n 60 = n' := ⟨_, rfl⟩
  have hn6 : n' ≤ 60 := by omega
  have hmin : ∀ w, (Builtin.min_ #[3, 3] 3 #[.int .i64 ((n : Nat) : Int), .int .i64 60]).run Try.prog w = .ok (.int .i64 ((n' : Nat) : Int)) w := by
    intro w
    rw [run_min_int2]
    congr 2
    split <;> omega
  have hsl := slice_hi ao n cap n' (by omega)
  have ht' := ht.short n' (by omega)
  have hnil' : (ao = none ∧ n' = 0 ∧ cap = 0) ∨ ∃ a, ao = some a := by
    rcases hnil with ⟨h1, h2, h3⟩ | h
    · exact .inl ⟨h1, by omega, h3⟩
    · exact .inr h
  have HLV := live_any (w.alloc (.cells #[.int .u64 (a : Nat), .int .u64 (b : Nat), .int .u64 (c : Nat), .int .u64 (d : Nat), .int .i64 lo, .int .i64 hi] 26))
  have r0 := RgAt.new w a b c d lo hi
  have hB0 : Below w.heap.size w (w.alloc (.cells #[.int .u64 (a : Nat), .int .u64 (b : Nat), .int .u64 (c : Nat), .int .u64 (d : Nat), .int .i64 lo, .int .i64 hi] 26)) := (Below.refl _ _).alloc (Nat.le_refl _) _
  have HE : ∀ W, Below w.heap.size w W → Calls Try.prog 8 #[.agg #[.int .u64 (a : Nat), .int .u64 (b : Nat), .int .u64 (c : Nat), .int .u64 (d : Nat), .int .i64 lo, .int .i64 hi], .slice zo l lc, .slice ao n' cap] W (RetInts W (come (accF P lo' hi' (among z l) t) (n' + 1))) :=
    fun W h => ends_any W zo l lc z ao n' cap t HS hP hlo hhi (hz.below h) hl (ht'.below h) (by omega) hnil'
  have HR1 : ∀ W, Below w.heap.size w W → Calls Try.prog 9 #[.agg #[.int .u64 (a : Nat), .int .u64 (b : Nat), .int .u64 (c : Nat), .int .u64 (d : Nat), .int .i64 lo, .int .i64 hi], .slice zo l lc, .slice ao n' cap] W (RetInts W (come (accF P lo' hi' (among z l) t) (n' + 1))) :=
    fun W h => HR W n' hn6 (hz.below h) (ht'.below h)
  have hlen : ((come (accF P lo' hi' (among z l) t) (n' + 1)).length : Int) ≤ 9223372036854775807 := by have := come_len (accF P lo' hi' (among z l) t) (n' + 1); omega
  generalize come (accF P lo' hi' (among z l) t) (n' + 1) = L at *
  clear hn' ht hnil HS HR hz ht'
  unfold rgV
  go_enter Try.func3, Try.ntmps3
  go_wp2_with (go_at_call 6; refine HLV.mono ?_; rintro e w1 ⟨rfl, hb1⟩; have hB1 := hB0.trans (hb1.mono (by simp)); have r1 := r0.below hb1; clear hb1 HLV r0 hB0; obtain ⟨⟨g0, g1, g2, g3, g4, g5⟩, -⟩ := r1.cells)
  clear g0 g1 g2 g3 g4 g5
  replace r1 := r1.below (Below.refl _ w1).drew
  replace hB1 : Below w.heap.size w w1.drew := hB1.trans ((Below.refl _ w1).drew.mono hB1.size)
  go_region_held3 (fun w' => w'.cell? ⟨w.heap.size, 0, none⟩ = some (.int .u64 (a : Nat)) ∧ w'.cell? ⟨w.heap.size, 1, none⟩ = some (.int .u64 (b : Nat)) ∧ w'.cell? ⟨w.heap.size, 2, none⟩ = some (.int .u64 (c : Nat)) ∧ w'.cell? ⟨w.heap.size, 3, none⟩ = some (.int .u64 (d : Nat)) ∧ w'.cell? ⟨w.heap.size, 4, none⟩ = some (.int .i64 lo) ∧ w'.cell? ⟨w.heap.size, 5, none⟩ = some (.int .i64 hi))
    (exact r1.cells.1)
    (first
      | (go_at_call 8; refine (HE _ hB1).mono ?_; intro e w2 h2; obtain ⟨go, gc, rfl, hr2, hb2⟩ := RetInts.out h2; replace r1 := r1.below hb2; replace hB1 := hB1.trans (hb2.mono hB1.size); clear h2 hb2)
      | (go_at_call 9; refine (HR1 _ hB1).mono ?_; intro e w3 h3; obtain ⟨ho, hc, rfl, hr3, hb3⟩ := RetInts.out h3; replace r1 := r1.below hb3; replace hB1 := hB1.trans (hb3.mono hB1.size); replace hr2 := hr2.below hb3; clear h3 hb3)
      | (go_at_call 7; refine (equalI_same go ho L.length gc hc _ _ hr2 hr3 hlen).mono ?_; rintro e w4 ⟨rfl, hb4⟩; replace r1 := r1.below hb4; replace hB1 := hB1.trans (hb4.mono hB1.size)))
  all_goals go_wp2
  all_goals go_ret
  all_goals exact ⟨rfl, hB1⟩
end Go.Proofs.Ytehlmjjdegmnaaa
