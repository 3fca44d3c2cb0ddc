/- The reference's Empty, Leaf: the walks. -/
import Derived.Test.YthbmfnibgjlkhaaDoorGMvEmGrJoRpJk
namespace Go.Proofs.YthbmfnibgjlkhaaDoor
open Go.RowKit
set_option maxHeartbeats 400000 in
theorem rempty_any (w : World) : Calls Tryd.prog 86 #[] w (RetT w 1 (nodes emp)) := by
  have ho := own_one (w.alloc (.cells #[.slice (some ⟨w.heap.size + 1, 0, none⟩) 1 1] 48)) w.heap.size (by simp) _ (nodes emp) nodes_emp
  simp only [World.size_alloc] at ho
  unfold ndL at ho
  dsimp only at ho
  have hb := below2 w (.cells #[.slice (some ⟨w.heap.size + 1, 0, none⟩) 1 1] 48) (.cells #[.int .i64 1, .int .u64 0, .int .u64 0, .int .u64 0, .int .u64 0, .int .i64 0, .int .i64 0, .int .i64 0, .int .i64 0, .bool false] 82)
  go_enter Tryd.func86, Tryd.ntmps86
  go_wp2
  exact bodyPost_ret (by simp [results, Tryd.results86, go_sem]) rfl ⟨_, _, rfl, ho, hb⟩
set_option maxRecDepth 10000 in
set_option maxHeartbeats 400000 in
theorem rleaf_any (n : Nd) (w : World) : Calls Tryd.prog 62 #[ndV n] w (RetT w 1 (fun _ => leafN n)) := by
  by_cases h : n.k = 1 ∨ n.k = 2 ∨ n.k = 6 ∨ n.k = 7
  · have e : leafN n = { n with a := 0, b := 0 } := by simp [leafN, h]
    rw [e]
    clear e
    obtain ⟨k, c0, c1, c2, c3, a, b, l, m, z⟩ := n
    dsimp only at *
    have ho := own_one ((w.alloc (.cells #[.int .i64 k, .int .u64 c0, .int .u64 c1, .int .u64 c2, .int .u64 c3, .int .i64 0, .int .i64 0, .int .i64 l, .int .i64 m, .bool z] 82)).alloc (.cells #[.slice (some ⟨w.heap.size + 1 + 1, 0, none⟩) 1 1] 48)) w.heap.size (by simp; omega) ⟨k, c0, c1, c2, c3, 0, 0, l, m, z⟩ (fun _ => ⟨k, c0, c1, c2, c3, 0, 0, l, m, z⟩) rfl
    have hb := (below2 w (.cells #[.int .i64 k, .int .u64 c0, .int .u64 c1, .int .u64 c2, .int .u64 c3, .int .i64 0, .int .i64 0, .int .i64 l, .int .i64 m, .bool z] 82) (.cells #[.slice (some ⟨w.heap.size + 1 + 1, 0, none⟩) 1 1] 48)).alloc (by simp; omega) (.cells #[.int .i64 k, .int .u64 c0, .int .u64 c1, .int .u64 c2, .int .u64 c3, .int .i64 0, .int .i64 0, .int .i64 l, .int .i64 m, .bool z] 82)
    simp only [World.size_alloc] at ho
    unfold ndL at ho
    dsimp only at ho
    unfold ndV
    dsimp only
    rcases h with rfl | rfl | rfl | rfl
    all_goals
      go_enter Tryd.func62, Tryd.ntmps62
      go_wp2
      exact bodyPost_ret (by simp [results, Tryd.results62, go_sem]) rfl ⟨_, _, rfl, ho, hb⟩
  · have e : leafN n = nodes emp 0 := by rw [leafN, if_neg h, nodes_emp]
    have HE := rempty_any
    have hB := below2 w (.cells #[.int .i64 n.k, .int .u64 n.c0, .int .u64 n.c1, .int .u64 n.c2, .int .u64 n.c3, .int .i64 n.a, .int .i64 n.b, .int .i64 n.l, .int .i64 n.m, .bool n.z] 82) (.cells #[.slice none 0 0] 48)
    have d2 : Cl ((w.alloc (.cells #[.int .i64 n.k, .int .u64 n.c0, .int .u64 n.c1, .int .u64 n.c2, .int .u64 n.c3, .int .i64 n.a, .int .i64 n.b, .int .i64 n.l, .int .i64 n.m, .bool n.z] 82)).alloc (.cells #[.slice none 0 0] 48)) (w.heap.size + 1) 48 [.slice none 0 0] := by
      have := Cl.new (w.alloc (.cells #[.int .i64 n.k, .int .u64 n.c0, .int .u64 n.c1, .int .u64 n.c2, .int .u64 n.c3, .int .i64 n.a, .int .i64 n.b, .int .i64 n.l, .int .i64 n.m, .bool n.z] 82)) 48 [.slice none 0 0]
      simpa only [World.size_alloc] using this
    have HR : Hid (∀ e w', RetT w 1 (nodes emp) e w' → RetT w 1 (fun _ => leafN n) e w') := fun e' w' hr => hr.congr fun i hi => by rw [e]; congr 1; omega
    have hc : n.k = 3 ∨ n.k = 4 ∨ n.k = 5 ∨ n.k < 1 ∨ n.k > 7 := by omega
    clear h e
    unfold ndV
    generalize leafN n = q at *
    obtain ⟨k, c0, c1, c2', c3, a, b, l, m, z⟩ := n
    dsimp only at *
    have hways : ∀ k : Int, k < 1 ∨ k > 7 → (k == 3) = false ∧ (k == 4) = false ∧ (k == 5) = false := fun k h => by simp; omega
    rcases hc with rfl | rfl | rfl | hc | hc
    · clear hways
      go_enter Tryd.func62, Tryd.ntmps62
      go_wp2_with (go_at_call 86; refine (HE _).mono ?_; rintro e w2 ⟨ao2, c2, rfl, ho2, hb2⟩; have d3 := d2.below hb2; obtain ⟨d31, d32⟩ := d3.one)
      have dd := (d3.set 0 (.slice ao2 1 c2)).cell 0 rfl
      have hsz2 := hb2.size
      simp only [World.size_alloc] at hsz2
      have ho3 : OwN (w2.setCell ⟨w.heap.size + 1, 0, none⟩ (.slice ao2 1 c2)) w.heap.size ao2 1 c2 (nodes emp) := by
        refine ownsRow_base (ownsRow_at ho2 fun g' h1 h2 => ?_) (by simp; omega)
        simp only [World.size_alloc] at h1
        rw [Below.heap_setCell _ _ _ _ (by simp; omega)]
      exact bodyPost_ret (by simp [results, Tryd.results62, go_sem, dd]) rfl (HR.out _ _ ⟨ao2, c2, rfl, ho3, (hB.trans (hb2.mono (by simp; omega))).setCell (p := ⟨w.heap.size + 1, 0, none⟩) (by simp) _⟩)
    · clear hways
      go_enter Tryd.func62, Tryd.ntmps62
      go_wp2_with (go_at_call 86; refine (HE _).mono ?_; rintro e w2 ⟨ao2, c2, rfl, ho2, hb2⟩; have d3 := d2.below hb2; obtain ⟨d31, d32⟩ := d3.one)
      have dd := (d3.set 0 (.slice ao2 1 c2)).cell 0 rfl
      have hsz2 := hb2.size
      simp only [World.size_alloc] at hsz2
      have ho3 : OwN (w2.setCell ⟨w.heap.size + 1, 0, none⟩ (.slice ao2 1 c2)) w.heap.size ao2 1 c2 (nodes emp) := by
        refine ownsRow_base (ownsRow_at ho2 fun g' h1 h2 => ?_) (by simp; omega)
        simp only [World.size_alloc] at h1
        rw [Below.heap_setCell _ _ _ _ (by simp; omega)]
      exact bodyPost_ret (by simp [results, Tryd.results62, go_sem, dd]) rfl (HR.out _ _ ⟨ao2, c2, rfl, ho3, (hB.trans (hb2.mono (by simp; omega))).setCell (p := ⟨w.heap.size + 1, 0, none⟩) (by simp) _⟩)
    · clear hways
      go_enter Tryd.func62, Tryd.ntmps62
      go_wp2_with (go_at_call 86; refine (HE _).mono ?_; rintro e w2 ⟨ao2, c2, rfl, ho2, hb2⟩; have d3 := d2.below hb2; obtain ⟨d31, d32⟩ := d3.one)
      have dd := (d3.set 0 (.slice ao2 1 c2)).cell 0 rfl
      have hsz2 := hb2.size
      simp only [World.size_alloc] at hsz2
      have ho3 : OwN (w2.setCell ⟨w.heap.size + 1, 0, none⟩ (.slice ao2 1 c2)) w.heap.size ao2 1 c2 (nodes emp) := by
        refine ownsRow_base (ownsRow_at ho2 fun g' h1 h2 => ?_) (by simp; omega)
        simp only [World.size_alloc] at h1
        rw [Below.heap_setCell _ _ _ _ (by simp; omega)]
      exact bodyPost_ret (by simp [results, Tryd.results62, go_sem, dd]) rfl (HR.out _ _ ⟨ao2, c2, rfl, ho3, (hB.trans (hb2.mono (by simp; omega))).setCell (p := ⟨w.heap.size + 1, 0, none⟩) (by simp) _⟩)
    · obtain ⟨d3, d4, d5⟩ := hways k (.inl hc)
      clear hways
      go_enter Tryd.func62, Tryd.ntmps62
      go_wp2_with (go_at_call 86; refine (HE _).mono ?_; rintro e w2 ⟨ao2, c2, rfl, ho2, hb2⟩; have d3 := d2.below hb2; obtain ⟨d31, d32⟩ := d3.one)
      have dd := (d3.set 0 (.slice ao2 1 c2)).cell 0 rfl
      have hsz2 := hb2.size
      simp only [World.size_alloc] at hsz2
      have ho3 : OwN (w2.setCell ⟨w.heap.size + 1, 0, none⟩ (.slice ao2 1 c2)) w.heap.size ao2 1 c2 (nodes emp) := by
        refine ownsRow_base (ownsRow_at ho2 fun g' h1 h2 => ?_) (by simp; omega)
        simp only [World.size_alloc] at h1
        rw [Below.heap_setCell _ _ _ _ (by simp; omega)]
      exact bodyPost_ret (by simp [results, Tryd.results62, go_sem, dd]) rfl (HR.out _ _ ⟨ao2, c2, rfl, ho3, (hB.trans (hb2.mono (by simp; omega))).setCell (p := ⟨w.heap.size + 1, 0, none⟩) (by simp) _⟩)
    · obtain ⟨d3, d4, d5⟩ := hways k (.inr hc)
      have hc2 : ¬ k < 1 := by omega
      clear hways
      go_enter Tryd.func62, Tryd.ntmps62
      go_wp2_with (go_at_call 86; refine (HE _).mono ?_; rintro e w2 ⟨ao2, c2, rfl, ho2, hb2⟩; have d3 := d2.below hb2; obtain ⟨d31, d32⟩ := d3.one)
      have dd := (d3.set 0 (.slice ao2 1 c2)).cell 0 rfl
      have hsz2 := hb2.size
      simp only [World.size_alloc] at hsz2
      have ho3 : OwN (w2.setCell ⟨w.heap.size + 1, 0, none⟩ (.slice ao2 1 c2)) w.heap.size ao2 1 c2 (nodes emp) := by
        refine ownsRow_base (ownsRow_at ho2 fun g' h1 h2 => ?_) (by simp; omega)
        simp only [World.size_alloc] at h1
        rw [Below.heap_setCell _ _ _ _ (by simp; omega)]
      exact bodyPost_ret (by simp [results, Tryd.results62, go_sem, dd]) rfl (HR.out _ _ ⟨ao2, c2, rfl, ho3, (hB.trans (hb2.mono (by simp; omega))).setCell (p := ⟨w.heap.size + 1, 0, none⟩) (by simp) _⟩)
end Go.Proofs.YthbmfnibgjlkhaaDoor
