/- widthsOf: the walk. -/
import Derived.Test.YtgedhjflminlbaaWm
import Derived.Test.YtgedhjflminlbaaTail
namespace Go.Proofs.Ytgedhjflminlbaa
open Go.RowKit
/-- The cells of a slice of widths can be read. -/
def RdW (w : World) (ao : Option Addr) (n : Nat) (f g : Nat → Int) : Prop := 0 < n → ∃ bb off, ao = some ⟨bb, off, none⟩ ∧ bb < w.heap.size ∧ ∀ i, i < n → w.cell? ⟨bb, off + i * 2, none⟩ = some (.int .i64 (f i)) ∧ w.cell? ⟨bb, off + i * 2 + 1, none⟩ = some (.int .i64 (g i))
def RetW (w : World) (x y : Int) (e : Ending) (w' : World) : Prop := e = .returned (.agg #[.int .i64 x, .int .i64 y]) ∧ Below w.heap.size w w'
set_option maxRecDepth 10000 in
set_option maxHeartbeats 1000000 in
theorem widthsOf_leaf (k c0 c1 c2 c3 a b l m : Int) (z : Bool) (ao : Option Addr) (p cap : Nat) (w : World) (hk : k ≠ 3 ∧ k ≠ 4 ∧ k ≠ 5) :
    Calls Try.prog 45 #[.agg #[.int .i64 k, .int .u64 c0, .int .u64 c1, .int .u64 c2, .int .u64 c3, .int .i64 a, .int .i64 b, .int .i64 l, .int .i64 m, .bool z], .slice ao p cap] w (RetW w (if k = 2 then 1 else 0) (if k = 2 then 1 else 0)) := by
  obtain ⟨k3, k4, k5⟩ := hk
  have h3 : (k == 3) = false := by simpa using k3
  have h4 : (k == 4) = false := by simpa using k4
  have h5 : (k == 5) = false := by simpa using k5
  clear k3 k4 k5
  by_cases h : k = 2
  · subst h
    rw [if_pos rfl]
    go_enter Try.func45, Try.ntmps45
    go_wp2
    exact bodyPost_ret (by simp [results, Try.results45, go_sem]) rfl ⟨rfl, below2 _ _ _⟩
  · have h2 : (k == 2) = false := by simpa using h
    rw [if_neg h]
    go_enter Try.func45, Try.ntmps45
    go_wp2
    exact bodyPost_ret (by simp [results, Try.results45, go_sem]) rfl ⟨rfl, below2 _ _ _⟩
set_option maxRecDepth 10000 in
set_option maxHeartbeats 4000000 in
theorem widthsOf_cat (c0 c1 c2 c3 l m : Int) (z : Bool) (i j : Nat) (ao : Option Addr) (p cap : Nat) (f g : Nat → Int) (w : World) (hr : RdW w ao p f g) (hi : i < p) (hj : j < p) (hfi : -1 ≤ f i ∧ f i ≤ 1073741824) (hfj : -1 ≤ f j ∧ f j ≤ 1073741824) (hgi : -1 ≤ g i ∧ g i ≤ 1073741824) (hgj : -1 ≤ g j ∧ g j ≤ 1073741824) :
    Calls Try.prog 45 #[.agg #[.int .i64 3, .int .u64 c0, .int .u64 c1, .int .u64 c2, .int .u64 c3, .int .i64 (i : Nat), .int .i64 (j : Nat), .int .i64 l, .int .i64 m, .bool z], .slice ao p cap] w (RetW w (pl (f i) (f j)) (pl (g i) (g j))) := by
  have HP : Hid (∀ W, Calls Try.prog 58 #[.int .i64 (f i), .int .i64 (f j)] W fun e w' => e = .returned (.int .i64 (pl (f i) (f j))) ∧ w' = W) := fun W => plus_any _ _ W hfi hfj
  have HQ : Hid (∀ W, Calls Try.prog 58 #[.int .i64 (g i), .int .i64 (g j)] W fun e w' => e = .returned (.int .i64 (pl (g i) (g j))) ∧ w' = W) := fun W => plus_any _ _ W hgi hgj
  obtain ⟨bb, off, rfl, hbb, hc⟩ := hr (by omega)
  obtain ⟨c5, c7⟩ := hc i hi
  obtain ⟨c6, c8⟩ := hc j hj
  have hii : (i : Int) < (p : Int) := by omega
  have hji : (j : Int) < (p : Int) := by omega
  have hB := below2 w (.cells #[.int .i64 3, .int .u64 c0, .int .u64 c1, .int .u64 c2, .int .u64 c3, .int .i64 (i : Nat), .int .i64 (j : Nat), .int .i64 l, .int .i64 m, .bool z] 29) (.cells #[.int .i64 0, .int .i64 0] 65)
  rw [← hB.cell (p := ⟨bb, _, none⟩) hbb] at c5 c6 c7 c8
  have hbb2 : bb < ((w.alloc (.cells #[.int .i64 3, .int .u64 c0, .int .u64 c1, .int .u64 c2, .int .u64 c3, .int .i64 (i : Nat), .int .i64 (j : Nat), .int .i64 l, .int .i64 m, .bool z] 29)).alloc (.cells #[.int .i64 0, .int .i64 0] 65)).heap.size := by simp; omega
  have hq : ∀ o3 q, (((w.alloc (.cells #[.int .i64 3, .int .u64 c0, .int .u64 c1, .int .u64 c2, .int .u64 c3, .int .i64 (i : Nat), .int .i64 (j : Nat), .int .i64 l, .int .i64 m, .bool z] 29)).alloc (.cells #[.int .i64 0, .int .i64 0] 65)).alloc o3).cell? ⟨bb, q, none⟩ = ((w.alloc (.cells #[.int .i64 3, .int .u64 c0, .int .u64 c1, .int .u64 c2, .int .u64 c3, .int .i64 (i : Nat), .int .i64 (j : Nat), .int .i64 l, .int .i64 m, .bool z] 29)).alloc (.cells #[.int .i64 0, .int .i64 0] 65)).cell? ⟨bb, q, none⟩ := fun o3 q => (below1 _ o3).cell (p := ⟨bb, q, none⟩) hbb2
  have hq2 : ∀ o3 o4 q, ((((w.alloc (.cells #[.int .i64 3, .int .u64 c0, .int .u64 c1, .int .u64 c2, .int .u64 c3, .int .i64 (i : Nat), .int .i64 (j : Nat), .int .i64 l, .int .i64 m, .bool z] 29)).alloc (.cells #[.int .i64 0, .int .i64 0] 65)).alloc o3).alloc o4).cell? ⟨bb, q, none⟩ = ((w.alloc (.cells #[.int .i64 3, .int .u64 c0, .int .u64 c1, .int .u64 c2, .int .u64 c3, .int .i64 (i : Nat), .int .i64 (j : Nat), .int .i64 l, .int .i64 m, .bool z] 29)).alloc (.cells #[.int .i64 0, .int .i64 0] 65)).cell? ⟨bb, q, none⟩ := fun o3 o4 q => (below2 _ o3 o4).cell (p := ⟨bb, q, none⟩) hbb2
  have c5' : ∀ o3, _ := fun o3 => (hq o3 (off + i * 2)).trans c5
  have c5'' : ∀ o3 o4, _ := fun o3 o4 => (hq2 o3 o4 (off + i * 2)).trans c5
  have c6' : ∀ o3, _ := fun o3 => (hq o3 (off + j * 2)).trans c6
  have c6'' : ∀ o3 o4, _ := fun o3 o4 => (hq2 o3 o4 (off + j * 2)).trans c6
  have c7' : ∀ o3, _ := fun o3 => (hq o3 (off + i * 2 + 1)).trans c7
  have c7'' : ∀ o3 o4, _ := fun o3 o4 => (hq2 o3 o4 (off + i * 2 + 1)).trans c7
  have c8' : ∀ o3, _ := fun o3 => (hq o3 (off + j * 2 + 1)).trans c8
  have c8'' : ∀ o3 o4, _ := fun o3 o4 => (hq2 o3 o4 (off + j * 2 + 1)).trans c8
  clear hc hr hfi hfj hgi hgj hq hq2
  generalize f i = x at *
  generalize f j = y at *
  generalize g i = x' at *
  generalize g j = y' at *
  generalize pl x y = q at *
  generalize pl x' y' = q' at *
  go_enter Try.func45, Try.ntmps45
  go_wp2
  go_region
  · have kR : Cl (((((w.alloc (.cells #[.int .i64 3, .int .u64 c0, .int .u64 c1, .int .u64 c2, .int .u64 c3, .int .i64 (i : Nat), .int .i64 (j : Nat), .int .i64 l, .int .i64 m, .bool z] 29)).alloc (.cells #[.int .i64 0, .int .i64 0] 65)).alloc (.cells #[.int .i64 x, .int .i64 x'] 65)).alloc (.cells #[.int .i64 y, .int .i64 y'] 65)).drew) (w.heap.size + 1) 65 [.int .i64 0, .int .i64 0] := by
      have := (((Cl.new (w.alloc (.cells #[.int .i64 3, .int .u64 c0, .int .u64 c1, .int .u64 c2, .int .u64 c3, .int .i64 (i : Nat), .int .i64 (j : Nat), .int .i64 l, .int .i64 m, .bool z] 29)) 65 [.int .i64 0, .int .i64 0]).alloc (.cells #[.int .i64 x, .int .i64 x'] 65)).alloc (.cells #[.int .i64 y, .int .i64 y'] 65)).drew
      simpa only [World.size_alloc] using this
    have kN : Cl (((((w.alloc (.cells #[.int .i64 3, .int .u64 c0, .int .u64 c1, .int .u64 c2, .int .u64 c3, .int .i64 (i : Nat), .int .i64 (j : Nat), .int .i64 l, .int .i64 m, .bool z] 29)).alloc (.cells #[.int .i64 0, .int .i64 0] 65)).alloc (.cells #[.int .i64 x, .int .i64 x'] 65)).alloc (.cells #[.int .i64 y, .int .i64 y'] 65)).drew) w.heap.size 29 [.int .i64 3, .int .u64 c0, .int .u64 c1, .int .u64 c2, .int .u64 c3, .int .i64 (i : Nat), .int .i64 (j : Nat), .int .i64 l, .int .i64 m, .bool z] := ((((Cl.new w 29 [.int .i64 3, .int .u64 c0, .int .u64 c1, .int .u64 c2, .int .u64 c3, .int .i64 (i : Nat), .int .i64 (j : Nat), .int .i64 l, .int .i64 m, .bool z]).alloc (.cells #[.int .i64 0, .int .i64 0] 65)).alloc (.cells #[.int .i64 x, .int .i64 x'] 65)).alloc (.cells #[.int .i64 y, .int .i64 y'] 65)).drew
    have k3 : Cl (((((w.alloc (.cells #[.int .i64 3, .int .u64 c0, .int .u64 c1, .int .u64 c2, .int .u64 c3, .int .i64 (i : Nat), .int .i64 (j : Nat), .int .i64 l, .int .i64 m, .bool z] 29)).alloc (.cells #[.int .i64 0, .int .i64 0] 65)).alloc (.cells #[.int .i64 x, .int .i64 x'] 65)).alloc (.cells #[.int .i64 y, .int .i64 y'] 65)).drew) (w.heap.size + 1 + 1) 65 [.int .i64 x, .int .i64 x'] := by
      have := ((Cl.new ((w.alloc (.cells #[.int .i64 3, .int .u64 c0, .int .u64 c1, .int .u64 c2, .int .u64 c3, .int .i64 (i : Nat), .int .i64 (j : Nat), .int .i64 l, .int .i64 m, .bool z] 29)).alloc (.cells #[.int .i64 0, .int .i64 0] 65)) 65 [.int .i64 x, .int .i64 x']).alloc (.cells #[.int .i64 y, .int .i64 y'] 65)).drew
      simpa only [World.size_alloc] using this
    have k4 : Cl (((((w.alloc (.cells #[.int .i64 3, .int .u64 c0, .int .u64 c1, .int .u64 c2, .int .u64 c3, .int .i64 (i : Nat), .int .i64 (j : Nat), .int .i64 l, .int .i64 m, .bool z] 29)).alloc (.cells #[.int .i64 0, .int .i64 0] 65)).alloc (.cells #[.int .i64 x, .int .i64 x'] 65)).alloc (.cells #[.int .i64 y, .int .i64 y'] 65)).drew) (w.heap.size + 1 + 1 + 1) 65 [.int .i64 y, .int .i64 y'] := by
      have := (Cl.new (((w.alloc (.cells #[.int .i64 3, .int .u64 c0, .int .u64 c1, .int .u64 c2, .int .u64 c3, .int .i64 (i : Nat), .int .i64 (j : Nat), .int .i64 l, .int .i64 m, .bool z] 29)).alloc (.cells #[.int .i64 0, .int .i64 0] 65)).alloc (.cells #[.int .i64 x, .int .i64 x'] 65)) 65 [.int .i64 y, .int .i64 y']).drew
      simpa only [World.size_alloc] using this
    have hBB : Below w.heap.size w (((((w.alloc (.cells #[.int .i64 3, .int .u64 c0, .int .u64 c1, .int .u64 c2, .int .u64 c3, .int .i64 (i : Nat), .int .i64 (j : Nat), .int .i64 l, .int .i64 m, .bool z] 29)).alloc (.cells #[.int .i64 0, .int .i64 0] 65)).alloc (.cells #[.int .i64 x, .int .i64 x'] 65)).alloc (.cells #[.int .i64 y, .int .i64 y'] 65)).drew) := (((below2 w (.cells #[.int .i64 3, .int .u64 c0, .int .u64 c1, .int .u64 c2, .int .u64 c3, .int .i64 (i : Nat), .int .i64 (j : Nat), .int .i64 l, .int .i64 m, .bool z] 29) (.cells #[.int .i64 0, .int .i64 0] 65)).alloc (by simp; omega) (.cells #[.int .i64 x, .int .i64 x'] 65)).alloc (by simp; omega) (.cells #[.int .i64 y, .int .i64 y'] 65)).drew
    clear c5 c6 c7 c8 c5' c6' c7' c8' c5'' c6'' c7'' c8'' hbb hbb2 hB
    generalize hWW : ((((w.alloc (.cells #[.int .i64 3, .int .u64 c0, .int .u64 c1, .int .u64 c2, .int .u64 c3, .int .i64 (i : Nat), .int .i64 (j : Nat), .int .i64 l, .int .i64 m, .bool z] 29)).alloc (.cells #[.int .i64 0, .int .i64 0] 65)).alloc (.cells #[.int .i64 x, .int .i64 x'] 65)).alloc (.cells #[.int .i64 y, .int .i64 y'] 65)).drew = V at *
    clear hWW
    go_wp2
    have n30 := Near.cell (k3.cell 0 rfl) k3.lt
    have n31 := Near.cell (k3.cell 1 rfl) k3.lt
    have n40 := Near.cell (k4.cell 0 rfl) k4.lt
    have n41 := Near.cell (k4.cell 1 rfl) k4.lt
    refine wp_region_quiet_tail 11 (fun w' => ∃ u : World, w' = near V u) (by kernel_rfl) (by kernel_rfl) (Near.start _) ?_
    simp only [List.take_succ_cons, List.take_zero, List.drop_succ_cons, List.drop_zero]
    repeat (go_big_quiet_step (first | (go_at_call_of 58 (Value.int .i64 x); exact Near.same (HP.out _)) | (go_at_call_of 58 (Value.int .i64 x'); exact Near.same (HQ.out _))))
    refine wpQuiet_nil ?_
    rintro _ ⟨u, rfl⟩
    have kR' := kR.below (near_below V u)
    have hbn := hBB.trans ((near_below V u).mono hBB.size)
    obtain ⟨⟨r0, r1⟩, r2, r3⟩ := kR'.two
    have dd0 := ((kR'.set 0 (.int .i64 q)).set 1 (.int .i64 q')).cell 0 rfl
    have dd1 := ((kR'.set 0 (.int .i64 q)).set 1 (.int .i64 q')).cell 1 rfl
    clear n30 n31 n40 n41
    go_wp2
    exact bodyPost_ret (by simp [results, Try.results45, go_sem, dd0, dd1]) rfl ⟨rfl, (hbn.setCell (p := ⟨w.heap.size + 1, 0, none⟩) (by simp) _).setCell (p := ⟨w.heap.size + 1, 1, none⟩) (by simp) _⟩
  · have kR : Cl (((((w.alloc (.cells #[.int .i64 3, .int .u64 c0, .int .u64 c1, .int .u64 c2, .int .u64 c3, .int .i64 (i : Nat), .int .i64 (j : Nat), .int .i64 l, .int .i64 m, .bool z] 29)).alloc (.cells #[.int .i64 0, .int .i64 0] 65)).alloc (.cells #[.int .i64 y, .int .i64 y'] 65)).alloc (.cells #[.int .i64 x, .int .i64 x'] 65)).drew) (w.heap.size + 1) 65 [.int .i64 0, .int .i64 0] := by
      have := (((Cl.new (w.alloc (.cells #[.int .i64 3, .int .u64 c0, .int .u64 c1, .int .u64 c2, .int .u64 c3, .int .i64 (i : Nat), .int .i64 (j : Nat), .int .i64 l, .int .i64 m, .bool z] 29)) 65 [.int .i64 0, .int .i64 0]).alloc (.cells #[.int .i64 y, .int .i64 y'] 65)).alloc (.cells #[.int .i64 x, .int .i64 x'] 65)).drew
      simpa only [World.size_alloc] using this
    have kN : Cl (((((w.alloc (.cells #[.int .i64 3, .int .u64 c0, .int .u64 c1, .int .u64 c2, .int .u64 c3, .int .i64 (i : Nat), .int .i64 (j : Nat), .int .i64 l, .int .i64 m, .bool z] 29)).alloc (.cells #[.int .i64 0, .int .i64 0] 65)).alloc (.cells #[.int .i64 y, .int .i64 y'] 65)).alloc (.cells #[.int .i64 x, .int .i64 x'] 65)).drew) w.heap.size 29 [.int .i64 3, .int .u64 c0, .int .u64 c1, .int .u64 c2, .int .u64 c3, .int .i64 (i : Nat), .int .i64 (j : Nat), .int .i64 l, .int .i64 m, .bool z] := ((((Cl.new w 29 [.int .i64 3, .int .u64 c0, .int .u64 c1, .int .u64 c2, .int .u64 c3, .int .i64 (i : Nat), .int .i64 (j : Nat), .int .i64 l, .int .i64 m, .bool z]).alloc (.cells #[.int .i64 0, .int .i64 0] 65)).alloc (.cells #[.int .i64 y, .int .i64 y'] 65)).alloc (.cells #[.int .i64 x, .int .i64 x'] 65)).drew
    have k3 : Cl (((((w.alloc (.cells #[.int .i64 3, .int .u64 c0, .int .u64 c1, .int .u64 c2, .int .u64 c3, .int .i64 (i : Nat), .int .i64 (j : Nat), .int .i64 l, .int .i64 m, .bool z] 29)).alloc (.cells #[.int .i64 0, .int .i64 0] 65)).alloc (.cells #[.int .i64 y, .int .i64 y'] 65)).alloc (.cells #[.int .i64 x, .int .i64 x'] 65)).drew) (w.heap.size + 1 + 1) 65 [.int .i64 y, .int .i64 y'] := by
      have := ((Cl.new ((w.alloc (.cells #[.int .i64 3, .int .u64 c0, .int .u64 c1, .int .u64 c2, .int .u64 c3, .int .i64 (i : Nat), .int .i64 (j : Nat), .int .i64 l, .int .i64 m, .bool z] 29)).alloc (.cells #[.int .i64 0, .int .i64 0] 65)) 65 [.int .i64 y, .int .i64 y']).alloc (.cells #[.int .i64 x, .int .i64 x'] 65)).drew
      simpa only [World.size_alloc] using this
    have k4 : Cl (((((w.alloc (.cells #[.int .i64 3, .int .u64 c0, .int .u64 c1, .int .u64 c2, .int .u64 c3, .int .i64 (i : Nat), .int .i64 (j : Nat), .int .i64 l, .int .i64 m, .bool z] 29)).alloc (.cells #[.int .i64 0, .int .i64 0] 65)).alloc (.cells #[.int .i64 y, .int .i64 y'] 65)).alloc (.cells #[.int .i64 x, .int .i64 x'] 65)).drew) (w.heap.size + 1 + 1 + 1) 65 [.int .i64 x, .int .i64 x'] := by
      have := (Cl.new (((w.alloc (.cells #[.int .i64 3, .int .u64 c0, .int .u64 c1, .int .u64 c2, .int .u64 c3, .int .i64 (i : Nat), .int .i64 (j : Nat), .int .i64 l, .int .i64 m, .bool z] 29)).alloc (.cells #[.int .i64 0, .int .i64 0] 65)).alloc (.cells #[.int .i64 y, .int .i64 y'] 65)) 65 [.int .i64 x, .int .i64 x']).drew
      simpa only [World.size_alloc] using this
    have hBB : Below w.heap.size w (((((w.alloc (.cells #[.int .i64 3, .int .u64 c0, .int .u64 c1, .int .u64 c2, .int .u64 c3, .int .i64 (i : Nat), .int .i64 (j : Nat), .int .i64 l, .int .i64 m, .bool z] 29)).alloc (.cells #[.int .i64 0, .int .i64 0] 65)).alloc (.cells #[.int .i64 y, .int .i64 y'] 65)).alloc (.cells #[.int .i64 x, .int .i64 x'] 65)).drew) := (((below2 w (.cells #[.int .i64 3, .int .u64 c0, .int .u64 c1, .int .u64 c2, .int .u64 c3, .int .i64 (i : Nat), .int .i64 (j : Nat), .int .i64 l, .int .i64 m, .bool z] 29) (.cells #[.int .i64 0, .int .i64 0] 65)).alloc (by simp; omega) (.cells #[.int .i64 y, .int .i64 y'] 65)).alloc (by simp; omega) (.cells #[.int .i64 x, .int .i64 x'] 65)).drew
    clear c5 c6 c7 c8 c5' c6' c7' c8' c5'' c6'' c7'' c8'' hbb hbb2 hB
    generalize hWW : ((((w.alloc (.cells #[.int .i64 3, .int .u64 c0, .int .u64 c1, .int .u64 c2, .int .u64 c3, .int .i64 (i : Nat), .int .i64 (j : Nat), .int .i64 l, .int .i64 m, .bool z] 29)).alloc (.cells #[.int .i64 0, .int .i64 0] 65)).alloc (.cells #[.int .i64 y, .int .i64 y'] 65)).alloc (.cells #[.int .i64 x, .int .i64 x'] 65)).drew = V at *
    clear hWW
    go_wp2
    have n30 := Near.cell (k3.cell 0 rfl) k3.lt
    have n31 := Near.cell (k3.cell 1 rfl) k3.lt
    have n40 := Near.cell (k4.cell 0 rfl) k4.lt
    have n41 := Near.cell (k4.cell 1 rfl) k4.lt
    refine wp_region_quiet_tail 11 (fun w' => ∃ u : World, w' = near V u) (by kernel_rfl) (by kernel_rfl) (Near.start _) ?_
    simp only [List.take_succ_cons, List.take_zero, List.drop_succ_cons, List.drop_zero]
    repeat (go_big_quiet_step (first | (go_at_call_of 58 (Value.int .i64 x); exact Near.same (HP.out _)) | (go_at_call_of 58 (Value.int .i64 x'); exact Near.same (HQ.out _))))
    refine wpQuiet_nil ?_
    rintro _ ⟨u, rfl⟩
    have kR' := kR.below (near_below V u)
    have hbn := hBB.trans ((near_below V u).mono hBB.size)
    obtain ⟨⟨r0, r1⟩, r2, r3⟩ := kR'.two
    have dd0 := ((kR'.set 0 (.int .i64 q)).set 1 (.int .i64 q')).cell 0 rfl
    have dd1 := ((kR'.set 0 (.int .i64 q)).set 1 (.int .i64 q')).cell 1 rfl
    clear n30 n31 n40 n41
    go_wp2
    exact bodyPost_ret (by simp [results, Try.results45, go_sem, dd0, dd1]) rfl ⟨rfl, (hbn.setCell (p := ⟨w.heap.size + 1, 0, none⟩) (by simp) _).setCell (p := ⟨w.heap.size + 1, 1, none⟩) (by simp) _⟩
set_option maxRecDepth 10000 in
set_option maxHeartbeats 4000000 in
theorem widthsOf_alt (c0 c1 c2 c3 l m : Int) (z : Bool) (i j : Nat) (ao : Option Addr) (p cap : Nat) (f g : Nat → Int) (w : World) (hr : RdW w ao p f g) (hi : i < p) (hj : j < p) :
    Calls Try.prog 45 #[.agg #[.int .i64 4, .int .u64 c0, .int .u64 c1, .int .u64 c2, .int .u64 c3, .int .i64 (i : Nat), .int .i64 (j : Nat), .int .i64 l, .int .i64 m, .bool z], .slice ao p cap] w (RetW w (min (f i) (f j)) (gr (g i) (g j))) := by
  have HQ : Hid (∀ W, Calls Try.prog 59 #[.int .i64 (g i), .int .i64 (g j)] W fun e w' => e = .returned (.int .i64 (gr (g i) (g j))) ∧ w' = W) := fun W => greater_any _ _ W
  have hmin : ∀ W, (Builtin.min_ #[3, 3] 3 #[.int .i64 (f i), .int .i64 (f j)]).run Try.prog W = .ok (.int .i64 (min (f i) (f j))) W := fun W => by
    rw [run_min_int2]
    congr 2
    split <;> omega
  obtain ⟨bb, off, rfl, hbb, hc⟩ := hr (by omega)
  obtain ⟨c5, c7⟩ := hc i hi
  obtain ⟨c6, c8⟩ := hc j hj
  have hii : (i : Int) < (p : Int) := by omega
  have hji : (j : Int) < (p : Int) := by omega
  have hB := below2 w (.cells #[.int .i64 4, .int .u64 c0, .int .u64 c1, .int .u64 c2, .int .u64 c3, .int .i64 (i : Nat), .int .i64 (j : Nat), .int .i64 l, .int .i64 m, .bool z] 29) (.cells #[.int .i64 0, .int .i64 0] 65)
  rw [← hB.cell (p := ⟨bb, _, none⟩) hbb] at c5 c6 c7 c8
  have hbb2 : bb < ((w.alloc (.cells #[.int .i64 4, .int .u64 c0, .int .u64 c1, .int .u64 c2, .int .u64 c3, .int .i64 (i : Nat), .int .i64 (j : Nat), .int .i64 l, .int .i64 m, .bool z] 29)).alloc (.cells #[.int .i64 0, .int .i64 0] 65)).heap.size := by simp; omega
  have hq : ∀ o3 q, (((w.alloc (.cells #[.int .i64 4, .int .u64 c0, .int .u64 c1, .int .u64 c2, .int .u64 c3, .int .i64 (i : Nat), .int .i64 (j : Nat), .int .i64 l, .int .i64 m, .bool z] 29)).alloc (.cells #[.int .i64 0, .int .i64 0] 65)).alloc o3).cell? ⟨bb, q, none⟩ = ((w.alloc (.cells #[.int .i64 4, .int .u64 c0, .int .u64 c1, .int .u64 c2, .int .u64 c3, .int .i64 (i : Nat), .int .i64 (j : Nat), .int .i64 l, .int .i64 m, .bool z] 29)).alloc (.cells #[.int .i64 0, .int .i64 0] 65)).cell? ⟨bb, q, none⟩ := fun o3 q => (below1 _ o3).cell (p := ⟨bb, q, none⟩) hbb2
  have hq2 : ∀ o3 o4 q, ((((w.alloc (.cells #[.int .i64 4, .int .u64 c0, .int .u64 c1, .int .u64 c2, .int .u64 c3, .int .i64 (i : Nat), .int .i64 (j : Nat), .int .i64 l, .int .i64 m, .bool z] 29)).alloc (.cells #[.int .i64 0, .int .i64 0] 65)).alloc o3).alloc o4).cell? ⟨bb, q, none⟩ = ((w.alloc (.cells #[.int .i64 4, .int .u64 c0, .int .u64 c1, .int .u64 c2, .int .u64 c3, .int .i64 (i : Nat), .int .i64 (j : Nat), .int .i64 l, .int .i64 m, .bool z] 29)).alloc (.cells #[.int .i64 0, .int .i64 0] 65)).cell? ⟨bb, q, none⟩ := fun o3 o4 q => (below2 _ o3 o4).cell (p := ⟨bb, q, none⟩) hbb2
  have c5' : ∀ o3, _ := fun o3 => (hq o3 (off + i * 2)).trans c5
  have c5'' : ∀ o3 o4, _ := fun o3 o4 => (hq2 o3 o4 (off + i * 2)).trans c5
  have c6' : ∀ o3, _ := fun o3 => (hq o3 (off + j * 2)).trans c6
  have c6'' : ∀ o3 o4, _ := fun o3 o4 => (hq2 o3 o4 (off + j * 2)).trans c6
  have c7' : ∀ o3, _ := fun o3 => (hq o3 (off + i * 2 + 1)).trans c7
  have c7'' : ∀ o3 o4, _ := fun o3 o4 => (hq2 o3 o4 (off + i * 2 + 1)).trans c7
  have c8' : ∀ o3, _ := fun o3 => (hq o3 (off + j * 2 + 1)).trans c8
  have c8'' : ∀ o3 o4, _ := fun o3 o4 => (hq2 o3 o4 (off + j * 2 + 1)).trans c8
  clear hc hr hq hq2
  generalize f i = x at *
  generalize f j = y at *
  generalize g i = x' at *
  generalize g j = y' at *
  generalize min x y = q at *
  generalize gr x' y' = q' at *
  go_enter Try.func45, Try.ntmps45
  go_wp2
  go_region
  · have kR : Cl (((((w.alloc (.cells #[.int .i64 4, .int .u64 c0, .int .u64 c1, .int .u64 c2, .int .u64 c3, .int .i64 (i : Nat), .int .i64 (j : Nat), .int .i64 l, .int .i64 m, .bool z] 29)).alloc (.cells #[.int .i64 0, .int .i64 0] 65)).alloc (.cells #[.int .i64 x, .int .i64 x'] 65)).alloc (.cells #[.int .i64 y, .int .i64 y'] 65)).drew) (w.heap.size + 1) 65 [.int .i64 0, .int .i64 0] := by
      have := (((Cl.new (w.alloc (.cells #[.int .i64 4, .int .u64 c0, .int .u64 c1, .int .u64 c2, .int .u64 c3, .int .i64 (i : Nat), .int .i64 (j : Nat), .int .i64 l, .int .i64 m, .bool z] 29)) 65 [.int .i64 0, .int .i64 0]).alloc (.cells #[.int .i64 x, .int .i64 x'] 65)).alloc (.cells #[.int .i64 y, .int .i64 y'] 65)).drew
      simpa only [World.size_alloc] using this
    have kN : Cl (((((w.alloc (.cells #[.int .i64 4, .int .u64 c0, .int .u64 c1, .int .u64 c2, .int .u64 c3, .int .i64 (i : Nat), .int .i64 (j : Nat), .int .i64 l, .int .i64 m, .bool z] 29)).alloc (.cells #[.int .i64 0, .int .i64 0] 65)).alloc (.cells #[.int .i64 x, .int .i64 x'] 65)).alloc (.cells #[.int .i64 y, .int .i64 y'] 65)).drew) w.heap.size 29 [.int .i64 4, .int .u64 c0, .int .u64 c1, .int .u64 c2, .int .u64 c3, .int .i64 (i : Nat), .int .i64 (j : Nat), .int .i64 l, .int .i64 m, .bool z] := ((((Cl.new w 29 [.int .i64 4, .int .u64 c0, .int .u64 c1, .int .u64 c2, .int .u64 c3, .int .i64 (i : Nat), .int .i64 (j : Nat), .int .i64 l, .int .i64 m, .bool z]).alloc (.cells #[.int .i64 0, .int .i64 0] 65)).alloc (.cells #[.int .i64 x, .int .i64 x'] 65)).alloc (.cells #[.int .i64 y, .int .i64 y'] 65)).drew
    have k3 : Cl (((((w.alloc (.cells #[.int .i64 4, .int .u64 c0, .int .u64 c1, .int .u64 c2, .int .u64 c3, .int .i64 (i : Nat), .int .i64 (j : Nat), .int .i64 l, .int .i64 m, .bool z] 29)).alloc (.cells #[.int .i64 0, .int .i64 0] 65)).alloc (.cells #[.int .i64 x, .int .i64 x'] 65)).alloc (.cells #[.int .i64 y, .int .i64 y'] 65)).drew) (w.heap.size + 1 + 1) 65 [.int .i64 x, .int .i64 x'] := by
      have := ((Cl.new ((w.alloc (.cells #[.int .i64 4, .int .u64 c0, .int .u64 c1, .int .u64 c2, .int .u64 c3, .int .i64 (i : Nat), .int .i64 (j : Nat), .int .i64 l, .int .i64 m, .bool z] 29)).alloc (.cells #[.int .i64 0, .int .i64 0] 65)) 65 [.int .i64 x, .int .i64 x']).alloc (.cells #[.int .i64 y, .int .i64 y'] 65)).drew
      simpa only [World.size_alloc] using this
    have k4 : Cl (((((w.alloc (.cells #[.int .i64 4, .int .u64 c0, .int .u64 c1, .int .u64 c2, .int .u64 c3, .int .i64 (i : Nat), .int .i64 (j : Nat), .int .i64 l, .int .i64 m, .bool z] 29)).alloc (.cells #[.int .i64 0, .int .i64 0] 65)).alloc (.cells #[.int .i64 x, .int .i64 x'] 65)).alloc (.cells #[.int .i64 y, .int .i64 y'] 65)).drew) (w.heap.size + 1 + 1 + 1) 65 [.int .i64 y, .int .i64 y'] := by
      have := (Cl.new (((w.alloc (.cells #[.int .i64 4, .int .u64 c0, .int .u64 c1, .int .u64 c2, .int .u64 c3, .int .i64 (i : Nat), .int .i64 (j : Nat), .int .i64 l, .int .i64 m, .bool z] 29)).alloc (.cells #[.int .i64 0, .int .i64 0] 65)).alloc (.cells #[.int .i64 x, .int .i64 x'] 65)) 65 [.int .i64 y, .int .i64 y']).drew
      simpa only [World.size_alloc] using this
    have hBB : Below w.heap.size w (((((w.alloc (.cells #[.int .i64 4, .int .u64 c0, .int .u64 c1, .int .u64 c2, .int .u64 c3, .int .i64 (i : Nat), .int .i64 (j : Nat), .int .i64 l, .int .i64 m, .bool z] 29)).alloc (.cells #[.int .i64 0, .int .i64 0] 65)).alloc (.cells #[.int .i64 x, .int .i64 x'] 65)).alloc (.cells #[.int .i64 y, .int .i64 y'] 65)).drew) := (((below2 w (.cells #[.int .i64 4, .int .u64 c0, .int .u64 c1, .int .u64 c2, .int .u64 c3, .int .i64 (i : Nat), .int .i64 (j : Nat), .int .i64 l, .int .i64 m, .bool z] 29) (.cells #[.int .i64 0, .int .i64 0] 65)).alloc (by simp; omega) (.cells #[.int .i64 x, .int .i64 x'] 65)).alloc (by simp; omega) (.cells #[.int .i64 y, .int .i64 y'] 65)).drew
    clear c5 c6 c7 c8 c5' c6' c7' c8' c5'' c6'' c7'' c8'' hbb hbb2 hB
    generalize hWW : ((((w.alloc (.cells #[.int .i64 4, .int .u64 c0, .int .u64 c1, .int .u64 c2, .int .u64 c3, .int .i64 (i : Nat), .int .i64 (j : Nat), .int .i64 l, .int .i64 m, .bool z] 29)).alloc (.cells #[.int .i64 0, .int .i64 0] 65)).alloc (.cells #[.int .i64 x, .int .i64 x'] 65)).alloc (.cells #[.int .i64 y, .int .i64 y'] 65)).drew = V at *
    clear hWW
    go_wp2
    have n30 := Near.cell (k3.cell 0 rfl) k3.lt
    have n31 := Near.cell (k3.cell 1 rfl) k3.lt
    have n40 := Near.cell (k4.cell 0 rfl) k4.lt
    have n41 := Near.cell (k4.cell 1 rfl) k4.lt
    refine wp_region_quiet_tail 11 (fun w' => ∃ u : World, w' = near V u) (by kernel_rfl) (by kernel_rfl) (Near.start _) ?_
    simp only [List.take_succ_cons, List.take_zero, List.drop_succ_cons, List.drop_zero]
    repeat (go_big_quiet_step (first | (go_at_call 59; exact Near.same (HQ.out _))))
    refine wpQuiet_nil ?_
    rintro _ ⟨u, rfl⟩
    have kR' := kR.below (near_below V u)
    have hbn := hBB.trans ((near_below V u).mono hBB.size)
    obtain ⟨⟨r0, r1⟩, r2, r3⟩ := kR'.two
    have dd0 := ((kR'.set 0 (.int .i64 q)).set 1 (.int .i64 q')).cell 0 rfl
    have dd1 := ((kR'.set 0 (.int .i64 q)).set 1 (.int .i64 q')).cell 1 rfl
    clear n30 n31 n40 n41
    go_wp2
    exact bodyPost_ret (by simp [results, Try.results45, go_sem, dd0, dd1]) rfl ⟨rfl, (hbn.setCell (p := ⟨w.heap.size + 1, 0, none⟩) (by simp) _).setCell (p := ⟨w.heap.size + 1, 1, none⟩) (by simp) _⟩
  · have kR : Cl (((((w.alloc (.cells #[.int .i64 4, .int .u64 c0, .int .u64 c1, .int .u64 c2, .int .u64 c3, .int .i64 (i : Nat), .int .i64 (j : Nat), .int .i64 l, .int .i64 m, .bool z] 29)).alloc (.cells #[.int .i64 0, .int .i64 0] 65)).alloc (.cells #[.int .i64 y, .int .i64 y'] 65)).alloc (.cells #[.int .i64 x, .int .i64 x'] 65)).drew) (w.heap.size + 1) 65 [.int .i64 0, .int .i64 0] := by
      have := (((Cl.new (w.alloc (.cells #[.int .i64 4, .int .u64 c0, .int .u64 c1, .int .u64 c2, .int .u64 c3, .int .i64 (i : Nat), .int .i64 (j : Nat), .int .i64 l, .int .i64 m, .bool z] 29)) 65 [.int .i64 0, .int .i64 0]).alloc (.cells #[.int .i64 y, .int .i64 y'] 65)).alloc (.cells #[.int .i64 x, .int .i64 x'] 65)).drew
      simpa only [World.size_alloc] using this
    have kN : Cl (((((w.alloc (.cells #[.int .i64 4, .int .u64 c0, .int .u64 c1, .int .u64 c2, .int .u64 c3, .int .i64 (i : Nat), .int .i64 (j : Nat), .int .i64 l, .int .i64 m, .bool z] 29)).alloc (.cells #[.int .i64 0, .int .i64 0] 65)).alloc (.cells #[.int .i64 y, .int .i64 y'] 65)).alloc (.cells #[.int .i64 x, .int .i64 x'] 65)).drew) w.heap.size 29 [.int .i64 4, .int .u64 c0, .int .u64 c1, .int .u64 c2, .int .u64 c3, .int .i64 (i : Nat), .int .i64 (j : Nat), .int .i64 l, .int .i64 m, .bool z] := ((((Cl.new w 29 [.int .i64 4, .int .u64 c0, .int .u64 c1, .int .u64 c2, .int .u64 c3, .int .i64 (i : Nat), .int .i64 (j : Nat), .int .i64 l, .int .i64 m, .bool z]).alloc (.cells #[.int .i64 0, .int .i64 0] 65)).alloc (.cells #[.int .i64 y, .int .i64 y'] 65)).alloc (.cells #[.int .i64 x, .int .i64 x'] 65)).drew
    have k3 : Cl (((((w.alloc (.cells #[.int .i64 4, .int .u64 c0, .int .u64 c1, .int .u64 c2, .int .u64 c3, .int .i64 (i : Nat), .int .i64 (j : Nat), .int .i64 l, .int .i64 m, .bool z] 29)).alloc (.cells #[.int .i64 0, .int .i64 0] 65)).alloc (.cells #[.int .i64 y, .int .i64 y'] 65)).alloc (.cells #[.int .i64 x, .int .i64 x'] 65)).drew) (w.heap.size + 1 + 1) 65 [.int .i64 y, .int .i64 y'] := by
      have := ((Cl.new ((w.alloc (.cells #[.int .i64 4, .int .u64 c0, .int .u64 c1, .int .u64 c2, .int .u64 c3, .int .i64 (i : Nat), .int .i64 (j : Nat), .int .i64 l, .int .i64 m, .bool z] 29)).alloc (.cells #[.int .i64 0, .int .i64 0] 65)) 65 [.int .i64 y, .int .i64 y']).alloc (.cells #[.int .i64 x, .int .i64 x'] 65)).drew
      simpa only [World.size_alloc] using this
    have k4 : Cl (((((w.alloc (.cells #[.int .i64 4, .int .u64 c0, .int .u64 c1, .int .u64 c2, .int .u64 c3, .int .i64 (i : Nat), .int .i64 (j : Nat), .int .i64 l, .int .i64 m, .bool z] 29)).alloc (.cells #[.int .i64 0, .int .i64 0] 65)).alloc (.cells #[.int .i64 y, .int .i64 y'] 65)).alloc (.cells #[.int .i64 x, .int .i64 x'] 65)).drew) (w.heap.size + 1 + 1 + 1) 65 [.int .i64 x, .int .i64 x'] := by
      have := (Cl.new (((w.alloc (.cells #[.int .i64 4, .int .u64 c0, .int .u64 c1, .int .u64 c2, .int .u64 c3, .int .i64 (i : Nat), .int .i64 (j : Nat), .int .i64 l, .int .i64 m, .bool z] 29)).alloc (.cells #[.int .i64 0, .int .i64 0] 65)).alloc (.cells #[.int .i64 y, .int .i64 y'] 65)) 65 [.int .i64 x, .int .i64 x']).drew
      simpa only [World.size_alloc] using this
    have hBB : Below w.heap.size w (((((w.alloc (.cells #[.int .i64 4, .int .u64 c0, .int .u64 c1, .int .u64 c2, .int .u64 c3, .int .i64 (i : Nat), .int .i64 (j : Nat), .int .i64 l, .int .i64 m, .bool z] 29)).alloc (.cells #[.int .i64 0, .int .i64 0] 65)).alloc (.cells #[.int .i64 y, .int .i64 y'] 65)).alloc (.cells #[.int .i64 x, .int .i64 x'] 65)).drew) := (((below2 w (.cells #[.int .i64 4, .int .u64 c0, .int .u64 c1, .int .u64 c2, .int .u64 c3, .int .i64 (i : Nat), .int .i64 (j : Nat), .int .i64 l, .int .i64 m, .bool z] 29) (.cells #[.int .i64 0, .int .i64 0] 65)).alloc (by simp; omega) (.cells #[.int .i64 y, .int .i64 y'] 65)).alloc (by simp; omega) (.cells #[.int .i64 x, .int .i64 x'] 65)).drew
    clear c5 c6 c7 c8 c5' c6' c7' c8' c5'' c6'' c7'' c8'' hbb hbb2 hB
    generalize hWW : ((((w.alloc (.cells #[.int .i64 4, .int .u64 c0, .int .u64 c1, .int .u64 c2, .int .u64 c3, .int .i64 (i : Nat), .int .i64 (j : Nat), .int .i64 l, .int .i64 m, .bool z] 29)).alloc (.cells #[.int .i64 0, .int .i64 0] 65)).alloc (.cells #[.int .i64 y, .int .i64 y'] 65)).alloc (.cells #[.int .i64 x, .int .i64 x'] 65)).drew = V at *
    clear hWW
    go_wp2
    have n30 := Near.cell (k3.cell 0 rfl) k3.lt
    have n31 := Near.cell (k3.cell 1 rfl) k3.lt
    have n40 := Near.cell (k4.cell 0 rfl) k4.lt
    have n41 := Near.cell (k4.cell 1 rfl) k4.lt
    refine wp_region_quiet_tail 11 (fun w' => ∃ u : World, w' = near V u) (by kernel_rfl) (by kernel_rfl) (Near.start _) ?_
    simp only [List.take_succ_cons, List.take_zero, List.drop_succ_cons, List.drop_zero]
    repeat (go_big_quiet_step (first | (go_at_call 59; exact Near.same (HQ.out _))))
    refine wpQuiet_nil ?_
    rintro _ ⟨u, rfl⟩
    have kR' := kR.below (near_below V u)
    have hbn := hBB.trans ((near_below V u).mono hBB.size)
    obtain ⟨⟨r0, r1⟩, r2, r3⟩ := kR'.two
    have dd0 := ((kR'.set 0 (.int .i64 q)).set 1 (.int .i64 q')).cell 0 rfl
    have dd1 := ((kR'.set 0 (.int .i64 q)).set 1 (.int .i64 q')).cell 1 rfl
    clear n30 n31 n40 n41
    go_wp2
    exact bodyPost_ret (by simp [results, Try.results45, go_sem, dd0, dd1]) rfl ⟨rfl, (hbn.setCell (p := ⟨w.heap.size + 1, 0, none⟩) (by simp) _).setCell (p := ⟨w.heap.size + 1, 1, none⟩) (by simp) _⟩
set_option maxRecDepth 10000 in
set_option maxHeartbeats 4000000 in
theorem widthsOf_rep (c0 c1 c2 c3 b l m : Int) (z : Bool) (i : Nat) (ao : Option Addr) (p cap : Nat) (f g : Nat → Int) (w : World) (hr : RdW w ao p f g) (hi : i < p) (hfi : -1 ≤ f i ∧ f i ≤ 1073741824) (hgi : -1 ≤ g i ∧ g i ≤ 1073741824) (hl : 0 ≤ l ∧ l ≤ 1000) (hm : -1 ≤ m ∧ m ≤ 1000) :
    Calls Try.prog 45 #[.agg #[.int .i64 5, .int .u64 c0, .int .u64 c1, .int .u64 c2, .int .u64 c3, .int .i64 (i : Nat), .int .i64 b, .int .i64 l, .int .i64 m, .bool z], .slice ao p cap] w (RetW w (tm l (f i)) (tm m (g i))) := by
  have HP : Hid (∀ W, Calls Try.prog 60 #[.int .i64 l, .int .i64 (f i)] W fun e w' => e = .returned (.int .i64 (tm l (f i))) ∧ w' = W) := fun W => times_any _ _ W (by omega) hfi
  have HQ : Hid (∀ W, Calls Try.prog 60 #[.int .i64 m, .int .i64 (g i)] W fun e w' => e = .returned (.int .i64 (tm m (g i))) ∧ w' = W) := fun W => times_any _ _ W (by omega) hgi
  obtain ⟨bb, off, rfl, hbb, hc⟩ := hr (by omega)
  obtain ⟨c5, c7⟩ := hc i hi
  have hii : (i : Int) < (p : Int) := by omega
  have hB := below2 w (.cells #[.int .i64 5, .int .u64 c0, .int .u64 c1, .int .u64 c2, .int .u64 c3, .int .i64 (i : Nat), .int .i64 b, .int .i64 l, .int .i64 m, .bool z] 29) (.cells #[.int .i64 0, .int .i64 0] 65)
  rw [← hB.cell (p := ⟨bb, _, none⟩) hbb] at c5 c7
  clear hc hr hfi hgi hl hm
  generalize f i = x at *
  generalize g i = x' at *
  generalize tm l x = q at *
  generalize tm m x' = q' at *
  have kR : Cl ((((w.alloc (.cells #[.int .i64 5, .int .u64 c0, .int .u64 c1, .int .u64 c2, .int .u64 c3, .int .i64 (i : Nat), .int .i64 b, .int .i64 l, .int .i64 m, .bool z] 29)).alloc (.cells #[.int .i64 0, .int .i64 0] 65)).alloc (.cells #[.int .i64 x, .int .i64 x'] 65))) (w.heap.size + 1) 65 [.int .i64 0, .int .i64 0] := by
    have := (Cl.new (w.alloc (.cells #[.int .i64 5, .int .u64 c0, .int .u64 c1, .int .u64 c2, .int .u64 c3, .int .i64 (i : Nat), .int .i64 b, .int .i64 l, .int .i64 m, .bool z] 29)) 65 [.int .i64 0, .int .i64 0]).alloc (.cells #[.int .i64 x, .int .i64 x'] 65)
    simpa only [World.size_alloc] using this
  have kN : Cl ((((w.alloc (.cells #[.int .i64 5, .int .u64 c0, .int .u64 c1, .int .u64 c2, .int .u64 c3, .int .i64 (i : Nat), .int .i64 b, .int .i64 l, .int .i64 m, .bool z] 29)).alloc (.cells #[.int .i64 0, .int .i64 0] 65)).alloc (.cells #[.int .i64 x, .int .i64 x'] 65))) w.heap.size 29 [.int .i64 5, .int .u64 c0, .int .u64 c1, .int .u64 c2, .int .u64 c3, .int .i64 (i : Nat), .int .i64 b, .int .i64 l, .int .i64 m, .bool z] := ((Cl.new w 29 [.int .i64 5, .int .u64 c0, .int .u64 c1, .int .u64 c2, .int .u64 c3, .int .i64 (i : Nat), .int .i64 b, .int .i64 l, .int .i64 m, .bool z]).alloc (.cells #[.int .i64 0, .int .i64 0] 65)).alloc (.cells #[.int .i64 x, .int .i64 x'] 65)
  have k3 : Cl ((((w.alloc (.cells #[.int .i64 5, .int .u64 c0, .int .u64 c1, .int .u64 c2, .int .u64 c3, .int .i64 (i : Nat), .int .i64 b, .int .i64 l, .int .i64 m, .bool z] 29)).alloc (.cells #[.int .i64 0, .int .i64 0] 65)).alloc (.cells #[.int .i64 x, .int .i64 x'] 65))) (w.heap.size + 1 + 1) 65 [.int .i64 x, .int .i64 x'] := by
    have := Cl.new ((w.alloc (.cells #[.int .i64 5, .int .u64 c0, .int .u64 c1, .int .u64 c2, .int .u64 c3, .int .i64 (i : Nat), .int .i64 b, .int .i64 l, .int .i64 m, .bool z] 29)).alloc (.cells #[.int .i64 0, .int .i64 0] 65)) 65 [.int .i64 x, .int .i64 x']
    simpa only [World.size_alloc] using this
  have hBB : Below w.heap.size w ((((w.alloc (.cells #[.int .i64 5, .int .u64 c0, .int .u64 c1, .int .u64 c2, .int .u64 c3, .int .i64 (i : Nat), .int .i64 b, .int .i64 l, .int .i64 m, .bool z] 29)).alloc (.cells #[.int .i64 0, .int .i64 0] 65)).alloc (.cells #[.int .i64 x, .int .i64 x'] 65))) := hB.alloc (by simp; omega) (.cells #[.int .i64 x, .int .i64 x'] 65)
  go_enter Try.func45, Try.ntmps45
  go_wp2
  clear c5 c7 hbb hB
  generalize hWW : (((w.alloc (.cells #[.int .i64 5, .int .u64 c0, .int .u64 c1, .int .u64 c2, .int .u64 c3, .int .i64 (i : Nat), .int .i64 b, .int .i64 l, .int .i64 m, .bool z] 29)).alloc (.cells #[.int .i64 0, .int .i64 0] 65)).alloc (.cells #[.int .i64 x, .int .i64 x'] 65)) = V at *
  clear hWW
  have n30 := Near.cell (k3.cell 0 rfl) k3.lt
  have n31 := Near.cell (k3.cell 1 rfl) k3.lt
  have n7 := Near.cell (kN.cell 7 rfl) kN.lt
  have n8 := Near.cell (kN.cell 8 rfl) kN.lt
  have m1 : Hid True := trivial
  refine wp_region_quiet_tail 11 (fun w' => ∃ u : World, w' = near V u) (by kernel_rfl) (by kernel_rfl) (Near.start _) ?_
  simp only [List.take_succ_cons, List.take_zero, List.drop_succ_cons, List.drop_zero]
  repeat (go_big_quiet_step (first | (go_at_call_of 60 (Value.int .i64 l); exact Near.same (HP.out _)) | (go_at_call_of 60 (Value.int .i64 m); exact Near.same (HQ.out _))))
  refine wpQuiet_nil ?_
  rintro _ ⟨u, rfl⟩
  have kR' := kR.below (near_below V u)
  have hbn := hBB.trans ((near_below V u).mono hBB.size)
  obtain ⟨⟨r0, r1⟩, r2, r3⟩ := kR'.two
  have dd0 := ((kR'.set 0 (.int .i64 q)).set 1 (.int .i64 q')).cell 0 rfl
  have dd1 := ((kR'.set 0 (.int .i64 q)).set 1 (.int .i64 q')).cell 1 rfl
  clear n30 n31 n7 n8
  go_wp2
  exact bodyPost_ret (by simp [results, Try.results45, go_sem, dd0, dd1]) rfl ⟨rfl, (hbn.setCell (p := ⟨w.heap.size + 1, 0, none⟩) (by simp) _).setCell (p := ⟨w.heap.size + 1, 1, none⟩) (by simp) _⟩
end Go.Proofs.Ytgedhjflminlbaa
