/- empty, copied, cutLast: the walks. -/
import Derived.Test.YtehlmjjdegmnaaaDoorSnd
import Derived.Laws.CopyOwn
namespace Go.Proofs.YtehlmjjdegmnaaaDoor
open Go.RowKit
theorem Tryd.info46 : (Tryd.prog.info? 22).map (fun i => (i.zero, i.size, i.bytes)) = some (some (.int .u64 0), 1, 8) := by kernel_rfl
theorem Tryd.size22 : (Tryd.prog.info? 22).map (·.size) = some 1 := by kernel_rfl
set_option maxHeartbeats 400000 in
theorem empty_pos (n : Nat) (w : World) (h0 : 0 < (n : Int)) (h1 : (n : Int) ≤ 8192) :
    Calls Tryd.prog 50 #[.int .i64 (n : Nat)] w fun e w' => ∃ ao len cap, e = .returned (.agg #[.int .i64 (n : Nat), .slice ao len cap]) ∧ Own w.heap.size w' ao len (fun _ => 0) ∧ len = (n + 63) / 64 ∧ Below w.heap.size w w' := by
  obtain ⟨i0, hi, hz0, hz1, hz2⟩ := info_parts Tryd.info46
  go_enter Tryd.func50, Tryd.ntmps50
  go_wp2_with fail
  refine (wordsOf_any n _ (by omega) (by omega)).mono ?_
  rintro e w1 ⟨rfl, rfl⟩
  go_wp2_with (at_make; refine wpList_make_full _ rfl _ _ 27 rfl w.heap.size 22 i0 (.int .u64 0) 1 Tryd.underlying27 hi hz0 hz1 .i64 .i64 _ _ ((n + 63) / 64) rfl rfl (by omega) (by omega) (by rw [hz2]; omega) (by unfold maxLen; omega) (by simp) ?_)
  intro w2 hown hgr
  have hb : Below _ _ w2 := (Below.refl _ _).grown hgr (Nat.le_refl _) (by simp)
  obtain ⟨hc, hf⟩ := bcell hb
  have hz : w.heap.size + 1 ≤ w2.heap.size := by have := hb.size; simpa using this
  have hlt : w.heap.size + 1 < w2.heap.size := by have := (hown.lt (w.heap.size + 1) (by simp [Value.ownBlock])).2; exact this
  have ho : Own w.heap.size w2 (some ⟨w.heap.size + 1, 0, none⟩) ((n + 63) / 64) (fun _ => 0) := by
    refine own_made ?_ hlt (by omega)
    simpa using hown
  clear hown hgr
  have HO : Hid (Own w.heap.size w2 (some ⟨w.heap.size + 1, 0, none⟩) ((n + 63) / 64) (fun _ => 0)) := ho
  clear ho
  go_wp2
  refine bodyPost_ret (v := .agg #[.int .i64 n, .slice (some ⟨w.heap.size + 1, 0, none⟩) ((n + 63) / 64) ((n + 63) / 64)]) (by simp [results, Tryd.results50, go_sem, hc]) rfl ⟨_, _, _, rfl, ?_, rfl, ?_⟩
  · refine HO.out.but (ax := some ⟨w.heap.size, 0, none⟩) ?_ ?_
    · exact ((But.refl _ _).setCell (p := ⟨w.heap.size, 0, none⟩) (.inl ⟨_, rfl, rfl⟩) _).setCell (p := ⟨w.heap.size, 1, none⟩) (.inl ⟨_, rfl, rfl⟩) _
    · intro a c ea ec
      simp at ea ec
      subst ea ec
      simp
  · have hb' : Below w.heap.size w w2 := ((Below.refl _ _).alloc (Nat.le_refl _) _).trans (hb.mono (by simp))
    exact (hb'.setCell (by simp) _).setCell (by simp) _
end Go.Proofs.YtehlmjjdegmnaaaDoor
