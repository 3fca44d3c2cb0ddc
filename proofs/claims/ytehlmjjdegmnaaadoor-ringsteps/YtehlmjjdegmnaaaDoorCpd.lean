/- copied: the walk. -/
import Derived.Test.YtehlmjjdegmnaaaDoorBox
namespace Go.Proofs.YtehlmjjdegmnaaaDoor
open Go.RowKit
theorem Arg.shape {w : World} {x : Value} {n : Nat} {P : Nat → Bool} (h : Arg w x n P) : ∃ m ao len cap, x = .agg #[.int .i64 m, .slice ao len cap] := by
  obtain ⟨m, ao, len, cap, f, rfl, _⟩ := h; exact ⟨m, ao, len, cap, rfl⟩
set_option maxHeartbeats 400000 in
/-- copied: the set that the value stands for, in memory of its own. -/
theorem copied_any {w : World} {x : Value} {n : Nat} {P : Nat → Bool} (h : Arg w x n P) :
    Calls Tryd.prog 47 #[x] w fun e w' => ∃ ao len cap f, e = .returned (.agg #[.int .i64 (n : Nat), .slice ao len cap]) ∧ Own w.heap.size w' ao len f ∧ IsSet n len f P ∧ Below w.heap.size w w' := by
  obtain ⟨m, a0, l0, c0, rfl⟩ := h.shape
  have hB0 : Below w.heap.size w ((w.alloc (.cells #[.int .i64 m, .slice a0 l0 c0] 29)).alloc (.cells #[.int .i64 0, .slice none 0 0] 29)) := ((Below.refl _ _).alloc (Nat.le_refl _) _).alloc (by simp) _
  go_enter Tryd.func47, Tryd.ntmps47
  go_wp2_with fail
  refine (sound_any h hB0).mono ?_
  rintro e w1 ⟨ao, len, cap, f, rfl, hr, hs, hb⟩
  clear h
  have b1 := ((Box.new w (.int .i64 m) (.slice a0 l0 c0)).alloc (.cells #[.int .i64 0, .slice none 0 0] 29)).below hb
  have b2 := (Box.new1 w (.cells #[.int .i64 m, .slice a0 l0 c0] 29) (.int .i64 0) (.slice none 0 0)).below hb
  have hB1 : Below w.heap.size w w1 := hB0.trans (hb.mono (by simp; omega))
  have hsz1 : w.heap.size + 2 ≤ w1.heap.size := by have := hb.size; simpa using this
  clear hB0 hb
  obtain ⟨c10, c11, f10, f11⟩ := b1.cells
  go_wp2_with fail
  refine (empty_any n _ hs.hle).mono ?_
  rintro e w2 ⟨ao2, len2, cap2, rfl, ho2, hl2, hb2⟩
  obtain rfl : len2 = len := by rw [hl2, hs.hlen]
  have b1' := (b1.set (.int .i64 (n : Nat)) (.slice ao len2 cap)).below hb2
  have b2' := ((b2.other (p := ⟨w.heap.size, 0, none⟩) (by simp) (.int .i64 (n : Nat))).other (p := ⟨w.heap.size, 1, none⟩) (by simp) (.slice ao len2 cap)).below hb2
  have hB2 : Below w.heap.size w w2 := ((hB1.setCell (p := ⟨w.heap.size, 0, none⟩) (by simp) _).setCell (p := ⟨w.heap.size, 1, none⟩) (by simp) _).trans (hb2.mono (by simp; omega))
  have ho2' : Own w1.heap.size w2 ao2 len2 (fun _ => 0) := by simpa using ho2
  have hlt0 : w.heap.size < w2.heap.size := b1'.lt
  have hlt1 : w.heap.size + 1 < w2.heap.size := b2'.lt
  clear c10 c11 f10 f11 hl2 ho2 hb2 b1 b2
  obtain ⟨c10, c11, f10, f11⟩ := b1'.cells
  have hr2 : Rd w2 ao len2 f := hr.below hB2
  go_wp2_with (refine copy_law rfl (.tmp 10) (.tmp 12) rfl rfl rfl (ho2'.alloc _) (hr2.alloc _) ?_)
  intro w3 ho3 hbut
  have hne : ∀ b, b < w1.heap.size ∨ w2.heap.size ≤ b → ∀ a, ao2 = some a → a.block ≠ b := fun b hb a e => by have := ho2'.lt a e; omega
  have b2'' := (b2'.alloc _).but hbut (hne _ (by omega))
  have b3'' := (Box.new w2 _ _).but hbut (hne _ (by omega))
  have hB3 : Below w.heap.size w w3 := (hB2.alloc (by omega) _).trans (hbut.below (by simp; omega) fun a e => by have := ho2'.lt a e; omega)
  clear c10 c11 f10 f11 hbut hr hr2 ho2' b1' b2' hB1 hB2
  obtain ⟨c20, c21, f20, f21⟩ := b2''.cells
  obtain ⟨c30, c31, f30, f31⟩ := b3''.cells
  have hne2 : w.heap.size + 1 ≠ w2.heap.size := by omega
  go_wp2
  refine bodyPost_ret (v := .agg #[.int .i64 n, .slice ao2 len2 cap2]) (by simp [results, Tryd.results47, go_sem, c20, c21]) rfl ⟨_, _, _, f, rfl, ?_, hs, ?_⟩
  · refine (ho3.mono (by omega)).but (ax := some ⟨w.heap.size + 1, 0, none⟩) ?_ ?_
    · exact ((But.refl _ _).setCell (p := ⟨w.heap.size + 1, 0, none⟩) (.inl ⟨_, rfl, rfl⟩) _).setCell (p := ⟨w.heap.size + 1, 1, none⟩) (.inl ⟨_, rfl, rfl⟩) _
    · intro a c ea ec
      obtain rfl := Option.some.inj ec
      exact (Ne.symm (hne (w.heap.size + 1) (by omega) a ea))
  · exact (hB3.setCell (p := ⟨w.heap.size + 1, 0, none⟩) (by simp) _).setCell (p := ⟨w.heap.size + 1, 1, none⟩) (by simp) _
end Go.Proofs.YtehlmjjdegmnaaaDoor
