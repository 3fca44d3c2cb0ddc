/- anchorsMay: its round where two are joined. -/
import Derived.Test.YtiiecppkabdkgabDoorAm
namespace Go.Proofs.YtiiecppkabdkgabDoor
open Go.RowKit
/-- Pairs of bools as cells. -/
def bws (f : Nat → Bool × Bool) : Nat → List Value
  | 0 => []
  | n + 1 => bws f n ++ [.bool (f n).1, .bool (f n).2]
def updB (f : Nat → Bool × Bool) (i : Nat) (v : Bool × Bool) : Nat → Bool × Bool := fun j => if j = i then v else f j
theorem bws_length (f : Nat → Bool × Bool) : ∀ n, (bws f n).length = n * 2
  | 0 => rfl
  | n + 1 => by rw [bws, List.length_append, bws_length f n]; simp; omega
theorem bws_get0 (f : Nat → Bool × Bool) : ∀ {n i : Nat}, i < n → (bws f n)[i * 2]? = some (.bool (f i).1)
  | 0, i, h => by omega
  | n + 1, i, h => by
    have hl := bws_length f n
    rw [bws]
    by_cases hi : i < n
    · rw [List.getElem?_append_left (by omega)]; exact bws_get0 f hi
    · have : i = n := by omega
      subst this
      rw [List.getElem?_append_right (by omega), hl, Nat.sub_self]; rfl
theorem bws_get1 (f : Nat → Bool × Bool) : ∀ {n i : Nat}, i < n → (bws f n)[i * 2 + 1]? = some (.bool (f i).2)
  | 0, i, h => by omega
  | n + 1, i, h => by
    have hl := bws_length f n
    rw [bws]
    by_cases hi : i < n
    · rw [List.getElem?_append_left (by omega)]; exact bws_get1 f hi
    · have : i = n := by omega
      subst this
      rw [List.getElem?_append_right (by omega), hl, show i * 2 + 1 - i * 2 = 1 by omega]; rfl
theorem bws_congr {f g : Nat → Bool × Bool} : ∀ {n : Nat}, (∀ i, i < n → f i = g i) → bws f n = bws g n
  | 0, _ => rfl
  | n + 1, h => by rw [bws, bws, bws_congr (fun i hi => h i (by omega)), h n (by omega)]
theorem bws_set0 (f : Nat → Bool × Bool) (n i : Nat) (b : Bool) (_hi : i < n) : (bws f n).set (i * 2) (.bool b) = bws (updB f i (b, (f i).2)) n := by
  apply List.ext_getElem?
  intro q
  by_cases hq : q < n * 2
  · have hd : q = q / 2 * 2 + q % 2 := by omega
    rw [List.getElem?_set]
    by_cases e : i * 2 = q
    · rw [if_pos e, bws_length, if_pos (by omega), ← e, bws_get0 _ (by omega)]
      simp [updB]
    · rw [if_neg e, hd]
      rcases Nat.mod_two_eq_zero_or_one q with h | h
      · rw [h, Nat.add_zero, bws_get0 _ (by omega), bws_get0 _ (by omega)]
        simp [updB, show ¬ q / 2 = i by omega]
      · rw [h, bws_get1 _ (by omega), bws_get1 _ (by omega)]
        by_cases e2 : q / 2 = i
        · simp [updB, e2]
        · simp [updB, e2]
  · rw [List.getElem?_eq_none (by simp [bws_length]; omega), List.getElem?_eq_none (by simp [bws_length]; omega)]
theorem bws_set1 (f : Nat → Bool × Bool) (n i : Nat) (b : Bool) (_hi : i < n) : (bws f n).set (i * 2 + 1) (.bool b) = bws (updB f i ((f i).1, b)) n := by
  apply List.ext_getElem?
  intro q
  by_cases hq : q < n * 2
  · have hd : q = q / 2 * 2 + q % 2 := by omega
    rw [List.getElem?_set]
    by_cases e : i * 2 + 1 = q
    · rw [if_pos e, bws_length, if_pos (by omega), ← e, bws_get1 _ (by omega)]
      simp [updB]
    · rw [if_neg e, hd]
      rcases Nat.mod_two_eq_zero_or_one q with h | h
      · rw [h, Nat.add_zero, bws_get0 _ (by omega), bws_get0 _ (by omega)]
        by_cases e2 : q / 2 = i
        · simp [updB, e2]
        · simp [updB, e2]
      · rw [h, bws_get1 _ (by omega), bws_get1 _ (by omega)]
        simp [updB, show ¬ q / 2 = i by omega]
  · rw [List.getElem?_eq_none (by simp [bws_length]; omega), List.getElem?_eq_none (by simp [bws_length]; omega)]
theorem updB_two (f : Nat → Bool × Bool) (i : Nat) (v v' : Bool × Bool) : updB (updB f i v) i v' = updB f i v' := by
  funext j; by_cases h : j = i <;> simp [updB, h]
theorem updB_at (f : Nat → Bool × Bool) (i : Nat) (v : Bool × Bool) : updB f i v i = v := by simp [updB]
theorem updB_ne (f : Nat → Bool × Bool) {i j : Nat} (v : Bool × Bool) (h : j ≠ i) : updB f i v j = f j := by simp [updB, h]
set_option maxRecDepth 20000 in
set_option maxHeartbeats 4000000 in
theorem am_alt {K : Nat → Act → World → Prop} {R : Ending → World → Prop} (bb off n cap N k ia ib : Nat) (u : Nat → Value) (q : Nd) (h d : Bool) (f : Nat → Bool × Bool) {W : World} (hbb : bb < W.heap.size) (hL : Cl W N 86 (bws f n)) (hkn : k < n) (hn : (n : Int) ≤ 2048) (hk : 0 < k) (hia : ia < n) (hib : ib < n) (_hne : ib ≠ ia) (e0 : W.cell? ⟨bb, off + k * 10, none⟩ = some (.int .i64 4)) (e1 : W.cell? ⟨bb, off + k * 10 + 1, none⟩ = some (.int .u64 q.c0)) (e2 : W.cell? ⟨bb, off + k * 10 + 2, none⟩ = some (.int .u64 q.c1)) (e3 : W.cell? ⟨bb, off + k * 10 + 3, none⟩ = some (.int .u64 q.c2)) (e4 : W.cell? ⟨bb, off + k * 10 + 4, none⟩ = some (.int .u64 q.c3)) (e5 : W.cell? ⟨bb, off + k * 10 + 5, none⟩ = some (.int .i64 (ia : Nat))) (e6 : W.cell? ⟨bb, off + k * 10 + 6, none⟩ = some (.int .i64 (ib : Nat))) (e7 : W.cell? ⟨bb, off + k * 10 + 7, none⟩ = some (.int .i64 q.l)) (e8 : W.cell? ⟨bb, off + k * 10 + 8, none⟩ = some (.int .i64 q.m)) (e9 : W.cell? ⟨bb, off + k * 10 + 9, none⟩ = some (.bool q.z)) (w0 : W.cell? ⟨N, k * 2, none⟩ = some (.bool h)) (w1 : W.cell? ⟨N, k * 2 + 1, none⟩ = some (.bool d))
    (hK : Hid (∀ tm W', Fr52 (some ⟨bb, off, none⟩) n cap N ((k : Int) - 1) tm → Cl W' N 86 (bws (updB (updB f ia (h, d)) ib (h, d)) n) → Below N W W' → K 0 ⟨tm, []⟩ W')) : Code.wp Tryd.prog (labelIn Tryd.f36 0) (jumps K (bodyPost Tryd.prog Tryd.f36 R)) ⟨fr52 (some ⟨bb, off, none⟩) n cap N k u, []⟩ W := by
  have hNN := hL.lt
  have hki : (k : Int) < (n : Int) := by omega
  have hk2 : (k : Int) > 0 := by omega
  have hai : (ia : Int) < (n : Int) := by omega
  have hbi : (ib : Int) < (n : Int) := by omega
  have e0_0 : ((W.alloc (.cells #[.bool false, .bool false] 86)).alloc (.cells #[.int .i64 0, .int .u64 0, .int .u64 0, .int .u64 0, .int .u64 0, .int .i64 0, .int .i64 0, .int .i64 0, .int .i64 0, .bool false] 43)).cell? ⟨bb, off + k * 10, none⟩ = some (.int .i64 4) := ((below2 W _ _).cell (p := ⟨bb, off + k * 10, none⟩) hbb).trans e0
  have e1_0 : ((W.alloc (.cells #[.bool false, .bool false] 86)).alloc (.cells #[.int .i64 0, .int .u64 0, .int .u64 0, .int .u64 0, .int .u64 0, .int .i64 0, .int .i64 0, .int .i64 0, .int .i64 0, .bool false] 43)).cell? ⟨bb, off + k * 10 + 1, none⟩ = some (.int .u64 q.c0) := ((below2 W _ _).cell (p := ⟨bb, off + k * 10 + 1, none⟩) hbb).trans e1
  have e2_0 : ((W.alloc (.cells #[.bool false, .bool false] 86)).alloc (.cells #[.int .i64 0, .int .u64 0, .int .u64 0, .int .u64 0, .int .u64 0, .int .i64 0, .int .i64 0, .int .i64 0, .int .i64 0, .bool false] 43)).cell? ⟨bb, off + k * 10 + 2, none⟩ = some (.int .u64 q.c1) := ((below2 W _ _).cell (p := ⟨bb, off + k * 10 + 2, none⟩) hbb).trans e2
  have e3_0 : ((W.alloc (.cells #[.bool false, .bool false] 86)).alloc (.cells #[.int .i64 0, .int .u64 0, .int .u64 0, .int .u64 0, .int .u64 0, .int .i64 0, .int .i64 0, .int .i64 0, .int .i64 0, .bool false] 43)).cell? ⟨bb, off + k * 10 + 3, none⟩ = some (.int .u64 q.c2) := ((below2 W _ _).cell (p := ⟨bb, off + k * 10 + 3, none⟩) hbb).trans e3
  have e4_0 : ((W.alloc (.cells #[.bool false, .bool false] 86)).alloc (.cells #[.int .i64 0, .int .u64 0, .int .u64 0, .int .u64 0, .int .u64 0, .int .i64 0, .int .i64 0, .int .i64 0, .int .i64 0, .bool false] 43)).cell? ⟨bb, off + k * 10 + 4, none⟩ = some (.int .u64 q.c3) := ((below2 W _ _).cell (p := ⟨bb, off + k * 10 + 4, none⟩) hbb).trans e4
  have e5_0 : ((W.alloc (.cells #[.bool false, .bool false] 86)).alloc (.cells #[.int .i64 0, .int .u64 0, .int .u64 0, .int .u64 0, .int .u64 0, .int .i64 0, .int .i64 0, .int .i64 0, .int .i64 0, .bool false] 43)).cell? ⟨bb, off + k * 10 + 5, none⟩ = some (.int .i64 (ia : Nat)) := ((below2 W _ _).cell (p := ⟨bb, off + k * 10 + 5, none⟩) hbb).trans e5
  have e6_0 : ((W.alloc (.cells #[.bool false, .bool false] 86)).alloc (.cells #[.int .i64 0, .int .u64 0, .int .u64 0, .int .u64 0, .int .u64 0, .int .i64 0, .int .i64 0, .int .i64 0, .int .i64 0, .bool false] 43)).cell? ⟨bb, off + k * 10 + 6, none⟩ = some (.int .i64 (ib : Nat)) := ((below2 W _ _).cell (p := ⟨bb, off + k * 10 + 6, none⟩) hbb).trans e6
  have e7_0 : ((W.alloc (.cells #[.bool false, .bool false] 86)).alloc (.cells #[.int .i64 0, .int .u64 0, .int .u64 0, .int .u64 0, .int .u64 0, .int .i64 0, .int .i64 0, .int .i64 0, .int .i64 0, .bool false] 43)).cell? ⟨bb, off + k * 10 + 7, none⟩ = some (.int .i64 q.l) := ((below2 W _ _).cell (p := ⟨bb, off + k * 10 + 7, none⟩) hbb).trans e7
  have e8_0 : ((W.alloc (.cells #[.bool false, .bool false] 86)).alloc (.cells #[.int .i64 0, .int .u64 0, .int .u64 0, .int .u64 0, .int .u64 0, .int .i64 0, .int .i64 0, .int .i64 0, .int .i64 0, .bool false] 43)).cell? ⟨bb, off + k * 10 + 8, none⟩ = some (.int .i64 q.m) := ((below2 W _ _).cell (p := ⟨bb, off + k * 10 + 8, none⟩) hbb).trans e8
  have e9_0 : ((W.alloc (.cells #[.bool false, .bool false] 86)).alloc (.cells #[.int .i64 0, .int .u64 0, .int .u64 0, .int .u64 0, .int .u64 0, .int .i64 0, .int .i64 0, .int .i64 0, .int .i64 0, .bool false] 43)).cell? ⟨bb, off + k * 10 + 9, none⟩ = some (.bool q.z) := ((below2 W _ _).cell (p := ⟨bb, off + k * 10 + 9, none⟩) hbb).trans e9
  have e0_1 : ((W.alloc (.cells #[.int .i64 0, .int .u64 0, .int .u64 0, .int .u64 0, .int .u64 0, .int .i64 0, .int .i64 0, .int .i64 0, .int .i64 0, .bool false] 43)).alloc (.cells #[.bool false, .bool false] 86)).cell? ⟨bb, off + k * 10, none⟩ = some (.int .i64 4) := ((below2 W _ _).cell (p := ⟨bb, off + k * 10, none⟩) hbb).trans e0
  have e1_1 : ((W.alloc (.cells #[.int .i64 0, .int .u64 0, .int .u64 0, .int .u64 0, .int .u64 0, .int .i64 0, .int .i64 0, .int .i64 0, .int .i64 0, .bool false] 43)).alloc (.cells #[.bool false, .bool false] 86)).cell? ⟨bb, off + k * 10 + 1, none⟩ = some (.int .u64 q.c0) := ((below2 W _ _).cell (p := ⟨bb, off + k * 10 + 1, none⟩) hbb).trans e1
  have e2_1 : ((W.alloc (.cells #[.int .i64 0, .int .u64 0, .int .u64 0, .int .u64 0, .int .u64 0, .int .i64 0, .int .i64 0, .int .i64 0, .int .i64 0, .bool false] 43)).alloc (.cells #[.bool false, .bool false] 86)).cell? ⟨bb, off + k * 10 + 2, none⟩ = some (.int .u64 q.c1) := ((below2 W _ _).cell (p := ⟨bb, off + k * 10 + 2, none⟩) hbb).trans e2
  have e3_1 : ((W.alloc (.cells #[.int .i64 0, .int .u64 0, .int .u64 0, .int .u64 0, .int .u64 0, .int .i64 0, .int .i64 0, .int .i64 0, .int .i64 0, .bool false] 43)).alloc (.cells #[.bool false, .bool false] 86)).cell? ⟨bb, off + k * 10 + 3, none⟩ = some (.int .u64 q.c2) := ((below2 W _ _).cell (p := ⟨bb, off + k * 10 + 3, none⟩) hbb).trans e3
  have e4_1 : ((W.alloc (.cells #[.int .i64 0, .int .u64 0, .int .u64 0, .int .u64 0, .int .u64 0, .int .i64 0, .int .i64 0, .int .i64 0, .int .i64 0, .bool false] 43)).alloc (.cells #[.bool false, .bool false] 86)).cell? ⟨bb, off + k * 10 + 4, none⟩ = some (.int .u64 q.c3) := ((below2 W _ _).cell (p := ⟨bb, off + k * 10 + 4, none⟩) hbb).trans e4
  have e5_1 : ((W.alloc (.cells #[.int .i64 0, .int .u64 0, .int .u64 0, .int .u64 0, .int .u64 0, .int .i64 0, .int .i64 0, .int .i64 0, .int .i64 0, .bool false] 43)).alloc (.cells #[.bool false, .bool false] 86)).cell? ⟨bb, off + k * 10 + 5, none⟩ = some (.int .i64 (ia : Nat)) := ((below2 W _ _).cell (p := ⟨bb, off + k * 10 + 5, none⟩) hbb).trans e5
  have e6_1 : ((W.alloc (.cells #[.int .i64 0, .int .u64 0, .int .u64 0, .int .u64 0, .int .u64 0, .int .i64 0, .int .i64 0, .int .i64 0, .int .i64 0, .bool false] 43)).alloc (.cells #[.bool false, .bool false] 86)).cell? ⟨bb, off + k * 10 + 6, none⟩ = some (.int .i64 (ib : Nat)) := ((below2 W _ _).cell (p := ⟨bb, off + k * 10 + 6, none⟩) hbb).trans e6
  have e7_1 : ((W.alloc (.cells #[.int .i64 0, .int .u64 0, .int .u64 0, .int .u64 0, .int .u64 0, .int .i64 0, .int .i64 0, .int .i64 0, .int .i64 0, .bool false] 43)).alloc (.cells #[.bool false, .bool false] 86)).cell? ⟨bb, off + k * 10 + 7, none⟩ = some (.int .i64 q.l) := ((below2 W _ _).cell (p := ⟨bb, off + k * 10 + 7, none⟩) hbb).trans e7
  have e8_1 : ((W.alloc (.cells #[.int .i64 0, .int .u64 0, .int .u64 0, .int .u64 0, .int .u64 0, .int .i64 0, .int .i64 0, .int .i64 0, .int .i64 0, .bool false] 43)).alloc (.cells #[.bool false, .bool false] 86)).cell? ⟨bb, off + k * 10 + 8, none⟩ = some (.int .i64 q.m) := ((below2 W _ _).cell (p := ⟨bb, off + k * 10 + 8, none⟩) hbb).trans e8
  have e9_1 : ((W.alloc (.cells #[.int .i64 0, .int .u64 0, .int .u64 0, .int .u64 0, .int .u64 0, .int .i64 0, .int .i64 0, .int .i64 0, .int .i64 0, .bool false] 43)).alloc (.cells #[.bool false, .bool false] 86)).cell? ⟨bb, off + k * 10 + 9, none⟩ = some (.bool q.z) := ((below2 W _ _).cell (p := ⟨bb, off + k * 10 + 9, none⟩) hbb).trans e9
  have e0_2 : ((W.alloc (.cells #[.bool h, .bool d] 86)).alloc (.cells #[.int .i64 0, .int .u64 0, .int .u64 0, .int .u64 0, .int .u64 0, .int .i64 0, .int .i64 0, .int .i64 0, .int .i64 0, .bool false] 43)).cell? ⟨bb, off + k * 10, none⟩ = some (.int .i64 4) := ((below2 W _ _).cell (p := ⟨bb, off + k * 10, none⟩) hbb).trans e0
  have e1_2 : ((W.alloc (.cells #[.bool h, .bool d] 86)).alloc (.cells #[.int .i64 0, .int .u64 0, .int .u64 0, .int .u64 0, .int .u64 0, .int .i64 0, .int .i64 0, .int .i64 0, .int .i64 0, .bool false] 43)).cell? ⟨bb, off + k * 10 + 1, none⟩ = some (.int .u64 q.c0) := ((below2 W _ _).cell (p := ⟨bb, off + k * 10 + 1, none⟩) hbb).trans e1
  have e2_2 : ((W.alloc (.cells #[.bool h, .bool d] 86)).alloc (.cells #[.int .i64 0, .int .u64 0, .int .u64 0, .int .u64 0, .int .u64 0, .int .i64 0, .int .i64 0, .int .i64 0, .int .i64 0, .bool false] 43)).cell? ⟨bb, off + k * 10 + 2, none⟩ = some (.int .u64 q.c1) := ((below2 W _ _).cell (p := ⟨bb, off + k * 10 + 2, none⟩) hbb).trans e2
  have e3_2 : ((W.alloc (.cells #[.bool h, .bool d] 86)).alloc (.cells #[.int .i64 0, .int .u64 0, .int .u64 0, .int .u64 0, .int .u64 0, .int .i64 0, .int .i64 0, .int .i64 0, .int .i64 0, .bool false] 43)).cell? ⟨bb, off + k * 10 + 3, none⟩ = some (.int .u64 q.c2) := ((below2 W _ _).cell (p := ⟨bb, off + k * 10 + 3, none⟩) hbb).trans e3
  have e4_2 : ((W.alloc (.cells #[.bool h, .bool d] 86)).alloc (.cells #[.int .i64 0, .int .u64 0, .int .u64 0, .int .u64 0, .int .u64 0, .int .i64 0, .int .i64 0, .int .i64 0, .int .i64 0, .bool false] 43)).cell? ⟨bb, off + k * 10 + 4, none⟩ = some (.int .u64 q.c3) := ((below2 W _ _).cell (p := ⟨bb, off + k * 10 + 4, none⟩) hbb).trans e4
  have e5_2 : ((W.alloc (.cells #[.bool h, .bool d] 86)).alloc (.cells #[.int .i64 0, .int .u64 0, .int .u64 0, .int .u64 0, .int .u64 0, .int .i64 0, .int .i64 0, .int .i64 0, .int .i64 0, .bool false] 43)).cell? ⟨bb, off + k * 10 + 5, none⟩ = some (.int .i64 (ia : Nat)) := ((below2 W _ _).cell (p := ⟨bb, off + k * 10 + 5, none⟩) hbb).trans e5
  have e6_2 : ((W.alloc (.cells #[.bool h, .bool d] 86)).alloc (.cells #[.int .i64 0, .int .u64 0, .int .u64 0, .int .u64 0, .int .u64 0, .int .i64 0, .int .i64 0, .int .i64 0, .int .i64 0, .bool false] 43)).cell? ⟨bb, off + k * 10 + 6, none⟩ = some (.int .i64 (ib : Nat)) := ((below2 W _ _).cell (p := ⟨bb, off + k * 10 + 6, none⟩) hbb).trans e6
  have e7_2 : ((W.alloc (.cells #[.bool h, .bool d] 86)).alloc (.cells #[.int .i64 0, .int .u64 0, .int .u64 0, .int .u64 0, .int .u64 0, .int .i64 0, .int .i64 0, .int .i64 0, .int .i64 0, .bool false] 43)).cell? ⟨bb, off + k * 10 + 7, none⟩ = some (.int .i64 q.l) := ((below2 W _ _).cell (p := ⟨bb, off + k * 10 + 7, none⟩) hbb).trans e7
  have e8_2 : ((W.alloc (.cells #[.bool h, .bool d] 86)).alloc (.cells #[.int .i64 0, .int .u64 0, .int .u64 0, .int .u64 0, .int .u64 0, .int .i64 0, .int .i64 0, .int .i64 0, .int .i64 0, .bool false] 43)).cell? ⟨bb, off + k * 10 + 8, none⟩ = some (.int .i64 q.m) := ((below2 W _ _).cell (p := ⟨bb, off + k * 10 + 8, none⟩) hbb).trans e8
  have e9_2 : ((W.alloc (.cells #[.bool h, .bool d] 86)).alloc (.cells #[.int .i64 0, .int .u64 0, .int .u64 0, .int .u64 0, .int .u64 0, .int .i64 0, .int .i64 0, .int .i64 0, .int .i64 0, .bool false] 43)).cell? ⟨bb, off + k * 10 + 9, none⟩ = some (.bool q.z) := ((below2 W _ _).cell (p := ⟨bb, off + k * 10 + 9, none⟩) hbb).trans e9
  have e0_3 : ((W.alloc (.cells #[.int .i64 0, .int .u64 0, .int .u64 0, .int .u64 0, .int .u64 0, .int .i64 0, .int .i64 0, .int .i64 0, .int .i64 0, .bool false] 43)).alloc (.cells #[.bool h, .bool d] 86)).cell? ⟨bb, off + k * 10, none⟩ = some (.int .i64 4) := ((below2 W _ _).cell (p := ⟨bb, off + k * 10, none⟩) hbb).trans e0
  have e1_3 : ((W.alloc (.cells #[.int .i64 0, .int .u64 0, .int .u64 0, .int .u64 0, .int .u64 0, .int .i64 0, .int .i64 0, .int .i64 0, .int .i64 0, .bool false] 43)).alloc (.cells #[.bool h, .bool d] 86)).cell? ⟨bb, off + k * 10 + 1, none⟩ = some (.int .u64 q.c0) := ((below2 W _ _).cell (p := ⟨bb, off + k * 10 + 1, none⟩) hbb).trans e1
  have e2_3 : ((W.alloc (.cells #[.int .i64 0, .int .u64 0, .int .u64 0, .int .u64 0, .int .u64 0, .int .i64 0, .int .i64 0, .int .i64 0, .int .i64 0, .bool false] 43)).alloc (.cells #[.bool h, .bool d] 86)).cell? ⟨bb, off + k * 10 + 2, none⟩ = some (.int .u64 q.c1) := ((below2 W _ _).cell (p := ⟨bb, off + k * 10 + 2, none⟩) hbb).trans e2
  have e3_3 : ((W.alloc (.cells #[.int .i64 0, .int .u64 0, .int .u64 0, .int .u64 0, .int .u64 0, .int .i64 0, .int .i64 0, .int .i64 0, .int .i64 0, .bool false] 43)).alloc (.cells #[.bool h, .bool d] 86)).cell? ⟨bb, off + k * 10 + 3, none⟩ = some (.int .u64 q.c2) := ((below2 W _ _).cell (p := ⟨bb, off + k * 10 + 3, none⟩) hbb).trans e3
  have e4_3 : ((W.alloc (.cells #[.int .i64 0, .int .u64 0, .int .u64 0, .int .u64 0, .int .u64 0, .int .i64 0, .int .i64 0, .int .i64 0, .int .i64 0, .bool false] 43)).alloc (.cells #[.bool h, .bool d] 86)).cell? ⟨bb, off + k * 10 + 4, none⟩ = some (.int .u64 q.c3) := ((below2 W _ _).cell (p := ⟨bb, off + k * 10 + 4, none⟩) hbb).trans e4
  have e5_3 : ((W.alloc (.cells #[.int .i64 0, .int .u64 0, .int .u64 0, .int .u64 0, .int .u64 0, .int .i64 0, .int .i64 0, .int .i64 0, .int .i64 0, .bool false] 43)).alloc (.cells #[.bool h, .bool d] 86)).cell? ⟨bb, off + k * 10 + 5, none⟩ = some (.int .i64 (ia : Nat)) := ((below2 W _ _).cell (p := ⟨bb, off + k * 10 + 5, none⟩) hbb).trans e5
  have e6_3 : ((W.alloc (.cells #[.int .i64 0, .int .u64 0, .int .u64 0, .int .u64 0, .int .u64 0, .int .i64 0, .int .i64 0, .int .i64 0, .int .i64 0, .bool false] 43)).alloc (.cells #[.bool h, .bool d] 86)).cell? ⟨bb, off + k * 10 + 6, none⟩ = some (.int .i64 (ib : Nat)) := ((below2 W _ _).cell (p := ⟨bb, off + k * 10 + 6, none⟩) hbb).trans e6
  have e7_3 : ((W.alloc (.cells #[.int .i64 0, .int .u64 0, .int .u64 0, .int .u64 0, .int .u64 0, .int .i64 0, .int .i64 0, .int .i64 0, .int .i64 0, .bool false] 43)).alloc (.cells #[.bool h, .bool d] 86)).cell? ⟨bb, off + k * 10 + 7, none⟩ = some (.int .i64 q.l) := ((below2 W _ _).cell (p := ⟨bb, off + k * 10 + 7, none⟩) hbb).trans e7
  have e8_3 : ((W.alloc (.cells #[.int .i64 0, .int .u64 0, .int .u64 0, .int .u64 0, .int .u64 0, .int .i64 0, .int .i64 0, .int .i64 0, .int .i64 0, .bool false] 43)).alloc (.cells #[.bool h, .bool d] 86)).cell? ⟨bb, off + k * 10 + 8, none⟩ = some (.int .i64 q.m) := ((below2 W _ _).cell (p := ⟨bb, off + k * 10 + 8, none⟩) hbb).trans e8
  have e9_3 : ((W.alloc (.cells #[.int .i64 0, .int .u64 0, .int .u64 0, .int .u64 0, .int .u64 0, .int .i64 0, .int .i64 0, .int .i64 0, .int .i64 0, .bool false] 43)).alloc (.cells #[.bool h, .bool d] 86)).cell? ⟨bb, off + k * 10 + 9, none⟩ = some (.bool q.z) := ((below2 W _ _).cell (p := ⟨bb, off + k * 10 + 9, none⟩) hbb).trans e9
  have e0_4 : (W.alloc (.cells #[.bool false, .bool false] 86)).cell? ⟨bb, off + k * 10, none⟩ = some (.int .i64 4) := ((below1 W _).cell (p := ⟨bb, off + k * 10, none⟩) hbb).trans e0
  have e1_4 : (W.alloc (.cells #[.bool false, .bool false] 86)).cell? ⟨bb, off + k * 10 + 1, none⟩ = some (.int .u64 q.c0) := ((below1 W _).cell (p := ⟨bb, off + k * 10 + 1, none⟩) hbb).trans e1
  have e2_4 : (W.alloc (.cells #[.bool false, .bool false] 86)).cell? ⟨bb, off + k * 10 + 2, none⟩ = some (.int .u64 q.c1) := ((below1 W _).cell (p := ⟨bb, off + k * 10 + 2, none⟩) hbb).trans e2
  have e3_4 : (W.alloc (.cells #[.bool false, .bool false] 86)).cell? ⟨bb, off + k * 10 + 3, none⟩ = some (.int .u64 q.c2) := ((below1 W _).cell (p := ⟨bb, off + k * 10 + 3, none⟩) hbb).trans e3
  have e4_4 : (W.alloc (.cells #[.bool false, .bool false] 86)).cell? ⟨bb, off + k * 10 + 4, none⟩ = some (.int .u64 q.c3) := ((below1 W _).cell (p := ⟨bb, off + k * 10 + 4, none⟩) hbb).trans e4
  have e5_4 : (W.alloc (.cells #[.bool false, .bool false] 86)).cell? ⟨bb, off + k * 10 + 5, none⟩ = some (.int .i64 (ia : Nat)) := ((below1 W _).cell (p := ⟨bb, off + k * 10 + 5, none⟩) hbb).trans e5
  have e6_4 : (W.alloc (.cells #[.bool false, .bool false] 86)).cell? ⟨bb, off + k * 10 + 6, none⟩ = some (.int .i64 (ib : Nat)) := ((below1 W _).cell (p := ⟨bb, off + k * 10 + 6, none⟩) hbb).trans e6
  have e7_4 : (W.alloc (.cells #[.bool false, .bool false] 86)).cell? ⟨bb, off + k * 10 + 7, none⟩ = some (.int .i64 q.l) := ((below1 W _).cell (p := ⟨bb, off + k * 10 + 7, none⟩) hbb).trans e7
  have e8_4 : (W.alloc (.cells #[.bool false, .bool false] 86)).cell? ⟨bb, off + k * 10 + 8, none⟩ = some (.int .i64 q.m) := ((below1 W _).cell (p := ⟨bb, off + k * 10 + 8, none⟩) hbb).trans e8
  have e9_4 : (W.alloc (.cells #[.bool false, .bool false] 86)).cell? ⟨bb, off + k * 10 + 9, none⟩ = some (.bool q.z) := ((below1 W _).cell (p := ⟨bb, off + k * 10 + 9, none⟩) hbb).trans e9
  have e0_5 : (W.alloc (.cells #[.int .i64 0, .int .u64 0, .int .u64 0, .int .u64 0, .int .u64 0, .int .i64 0, .int .i64 0, .int .i64 0, .int .i64 0, .bool false] 43)).cell? ⟨bb, off + k * 10, none⟩ = some (.int .i64 4) := ((below1 W _).cell (p := ⟨bb, off + k * 10, none⟩) hbb).trans e0
  have e1_5 : (W.alloc (.cells #[.int .i64 0, .int .u64 0, .int .u64 0, .int .u64 0, .int .u64 0, .int .i64 0, .int .i64 0, .int .i64 0, .int .i64 0, .bool false] 43)).cell? ⟨bb, off + k * 10 + 1, none⟩ = some (.int .u64 q.c0) := ((below1 W _).cell (p := ⟨bb, off + k * 10 + 1, none⟩) hbb).trans e1
  have e2_5 : (W.alloc (.cells #[.int .i64 0, .int .u64 0, .int .u64 0, .int .u64 0, .int .u64 0, .int .i64 0, .int .i64 0, .int .i64 0, .int .i64 0, .bool false] 43)).cell? ⟨bb, off + k * 10 + 2, none⟩ = some (.int .u64 q.c1) := ((below1 W _).cell (p := ⟨bb, off + k * 10 + 2, none⟩) hbb).trans e2
  have e3_5 : (W.alloc (.cells #[.int .i64 0, .int .u64 0, .int .u64 0, .int .u64 0, .int .u64 0, .int .i64 0, .int .i64 0, .int .i64 0, .int .i64 0, .bool false] 43)).cell? ⟨bb, off + k * 10 + 3, none⟩ = some (.int .u64 q.c2) := ((below1 W _).cell (p := ⟨bb, off + k * 10 + 3, none⟩) hbb).trans e3
  have e4_5 : (W.alloc (.cells #[.int .i64 0, .int .u64 0, .int .u64 0, .int .u64 0, .int .u64 0, .int .i64 0, .int .i64 0, .int .i64 0, .int .i64 0, .bool false] 43)).cell? ⟨bb, off + k * 10 + 4, none⟩ = some (.int .u64 q.c3) := ((below1 W _).cell (p := ⟨bb, off + k * 10 + 4, none⟩) hbb).trans e4
  have e5_5 : (W.alloc (.cells #[.int .i64 0, .int .u64 0, .int .u64 0, .int .u64 0, .int .u64 0, .int .i64 0, .int .i64 0, .int .i64 0, .int .i64 0, .bool false] 43)).cell? ⟨bb, off + k * 10 + 5, none⟩ = some (.int .i64 (ia : Nat)) := ((below1 W _).cell (p := ⟨bb, off + k * 10 + 5, none⟩) hbb).trans e5
  have e6_5 : (W.alloc (.cells #[.int .i64 0, .int .u64 0, .int .u64 0, .int .u64 0, .int .u64 0, .int .i64 0, .int .i64 0, .int .i64 0, .int .i64 0, .bool false] 43)).cell? ⟨bb, off + k * 10 + 6, none⟩ = some (.int .i64 (ib : Nat)) := ((below1 W _).cell (p := ⟨bb, off + k * 10 + 6, none⟩) hbb).trans e6
  have e7_5 : (W.alloc (.cells #[.int .i64 0, .int .u64 0, .int .u64 0, .int .u64 0, .int .u64 0, .int .i64 0, .int .i64 0, .int .i64 0, .int .i64 0, .bool false] 43)).cell? ⟨bb, off + k * 10 + 7, none⟩ = some (.int .i64 q.l) := ((below1 W _).cell (p := ⟨bb, off + k * 10 + 7, none⟩) hbb).trans e7
  have e8_5 : (W.alloc (.cells #[.int .i64 0, .int .u64 0, .int .u64 0, .int .u64 0, .int .u64 0, .int .i64 0, .int .i64 0, .int .i64 0, .int .i64 0, .bool false] 43)).cell? ⟨bb, off + k * 10 + 8, none⟩ = some (.int .i64 q.m) := ((below1 W _).cell (p := ⟨bb, off + k * 10 + 8, none⟩) hbb).trans e8
  have e9_5 : (W.alloc (.cells #[.int .i64 0, .int .u64 0, .int .u64 0, .int .u64 0, .int .u64 0, .int .i64 0, .int .i64 0, .int .i64 0, .int .i64 0, .bool false] 43)).cell? ⟨bb, off + k * 10 + 9, none⟩ = some (.bool q.z) := ((below1 W _).cell (p := ⟨bb, off + k * 10 + 9, none⟩) hbb).trans e9
  have e0_6 : (W.alloc (.cells #[.bool h, .bool d] 86)).cell? ⟨bb, off + k * 10, none⟩ = some (.int .i64 4) := ((below1 W _).cell (p := ⟨bb, off + k * 10, none⟩) hbb).trans e0
  have e1_6 : (W.alloc (.cells #[.bool h, .bool d] 86)).cell? ⟨bb, off + k * 10 + 1, none⟩ = some (.int .u64 q.c0) := ((below1 W _).cell (p := ⟨bb, off + k * 10 + 1, none⟩) hbb).trans e1
  have e2_6 : (W.alloc (.cells #[.bool h, .bool d] 86)).cell? ⟨bb, off + k * 10 + 2, none⟩ = some (.int .u64 q.c1) := ((below1 W _).cell (p := ⟨bb, off + k * 10 + 2, none⟩) hbb).trans e2
  have e3_6 : (W.alloc (.cells #[.bool h, .bool d] 86)).cell? ⟨bb, off + k * 10 + 3, none⟩ = some (.int .u64 q.c2) := ((below1 W _).cell (p := ⟨bb, off + k * 10 + 3, none⟩) hbb).trans e3
  have e4_6 : (W.alloc (.cells #[.bool h, .bool d] 86)).cell? ⟨bb, off + k * 10 + 4, none⟩ = some (.int .u64 q.c3) := ((below1 W _).cell (p := ⟨bb, off + k * 10 + 4, none⟩) hbb).trans e4
  have e5_6 : (W.alloc (.cells #[.bool h, .bool d] 86)).cell? ⟨bb, off + k * 10 + 5, none⟩ = some (.int .i64 (ia : Nat)) := ((below1 W _).cell (p := ⟨bb, off + k * 10 + 5, none⟩) hbb).trans e5
  have e6_6 : (W.alloc (.cells #[.bool h, .bool d] 86)).cell? ⟨bb, off + k * 10 + 6, none⟩ = some (.int .i64 (ib : Nat)) := ((below1 W _).cell (p := ⟨bb, off + k * 10 + 6, none⟩) hbb).trans e6
  have e7_6 : (W.alloc (.cells #[.bool h, .bool d] 86)).cell? ⟨bb, off + k * 10 + 7, none⟩ = some (.int .i64 q.l) := ((below1 W _).cell (p := ⟨bb, off + k * 10 + 7, none⟩) hbb).trans e7
  have e8_6 : (W.alloc (.cells #[.bool h, .bool d] 86)).cell? ⟨bb, off + k * 10 + 8, none⟩ = some (.int .i64 q.m) := ((below1 W _).cell (p := ⟨bb, off + k * 10 + 8, none⟩) hbb).trans e8
  have e9_6 : (W.alloc (.cells #[.bool h, .bool d] 86)).cell? ⟨bb, off + k * 10 + 9, none⟩ = some (.bool q.z) := ((below1 W _).cell (p := ⟨bb, off + k * 10 + 9, none⟩) hbb).trans e9
  have w0_0 : ((W.alloc (.cells #[.bool false, .bool false] 86)).alloc (.cells #[.int .i64 0, .int .u64 0, .int .u64 0, .int .u64 0, .int .u64 0, .int .i64 0, .int .i64 0, .int .i64 0, .int .i64 0, .bool false] 43)).cell? ⟨N, k * 2, none⟩ = some (.bool h) := ((below2 W _ _).cell (p := ⟨N, k * 2, none⟩) hNN).trans w0
  have w1_0 : ((W.alloc (.cells #[.bool false, .bool false] 86)).alloc (.cells #[.int .i64 0, .int .u64 0, .int .u64 0, .int .u64 0, .int .u64 0, .int .i64 0, .int .i64 0, .int .i64 0, .int .i64 0, .bool false] 43)).cell? ⟨N, k * 2 + 1, none⟩ = some (.bool d) := ((below2 W _ _).cell (p := ⟨N, k * 2 + 1, none⟩) hNN).trans w1
  have w0_1 : ((W.alloc (.cells #[.int .i64 0, .int .u64 0, .int .u64 0, .int .u64 0, .int .u64 0, .int .i64 0, .int .i64 0, .int .i64 0, .int .i64 0, .bool false] 43)).alloc (.cells #[.bool false, .bool false] 86)).cell? ⟨N, k * 2, none⟩ = some (.bool h) := ((below2 W _ _).cell (p := ⟨N, k * 2, none⟩) hNN).trans w0
  have w1_1 : ((W.alloc (.cells #[.int .i64 0, .int .u64 0, .int .u64 0, .int .u64 0, .int .u64 0, .int .i64 0, .int .i64 0, .int .i64 0, .int .i64 0, .bool false] 43)).alloc (.cells #[.bool false, .bool false] 86)).cell? ⟨N, k * 2 + 1, none⟩ = some (.bool d) := ((below2 W _ _).cell (p := ⟨N, k * 2 + 1, none⟩) hNN).trans w1
  have w0_2 : ((W.alloc (.cells #[.bool false, .bool false] 86)).alloc (.cells #[.int .i64 4, .int .u64 q.c0, .int .u64 q.c1, .int .u64 q.c2, .int .u64 q.c3, .int .i64 (ia : Nat), .int .i64 (ib : Nat), .int .i64 q.l, .int .i64 q.m, .bool q.z] 43)).cell? ⟨N, k * 2, none⟩ = some (.bool h) := ((below2 W _ _).cell (p := ⟨N, k * 2, none⟩) hNN).trans w0
  have w1_2 : ((W.alloc (.cells #[.bool false, .bool false] 86)).alloc (.cells #[.int .i64 4, .int .u64 q.c0, .int .u64 q.c1, .int .u64 q.c2, .int .u64 q.c3, .int .i64 (ia : Nat), .int .i64 (ib : Nat), .int .i64 q.l, .int .i64 q.m, .bool q.z] 43)).cell? ⟨N, k * 2 + 1, none⟩ = some (.bool d) := ((below2 W _ _).cell (p := ⟨N, k * 2 + 1, none⟩) hNN).trans w1
  have w0_3 : ((W.alloc (.cells #[.int .i64 4, .int .u64 q.c0, .int .u64 q.c1, .int .u64 q.c2, .int .u64 q.c3, .int .i64 (ia : Nat), .int .i64 (ib : Nat), .int .i64 q.l, .int .i64 q.m, .bool q.z] 43)).alloc (.cells #[.bool false, .bool false] 86)).cell? ⟨N, k * 2, none⟩ = some (.bool h) := ((below2 W _ _).cell (p := ⟨N, k * 2, none⟩) hNN).trans w0
  have w1_3 : ((W.alloc (.cells #[.int .i64 4, .int .u64 q.c0, .int .u64 q.c1, .int .u64 q.c2, .int .u64 q.c3, .int .i64 (ia : Nat), .int .i64 (ib : Nat), .int .i64 q.l, .int .i64 q.m, .bool q.z] 43)).alloc (.cells #[.bool false, .bool false] 86)).cell? ⟨N, k * 2 + 1, none⟩ = some (.bool d) := ((below2 W _ _).cell (p := ⟨N, k * 2 + 1, none⟩) hNN).trans w1
  have w0_4 : (W.alloc (.cells #[.bool false, .bool false] 86)).cell? ⟨N, k * 2, none⟩ = some (.bool h) := ((below1 W _).cell (p := ⟨N, k * 2, none⟩) hNN).trans w0
  have w1_4 : (W.alloc (.cells #[.bool false, .bool false] 86)).cell? ⟨N, k * 2 + 1, none⟩ = some (.bool d) := ((below1 W _).cell (p := ⟨N, k * 2 + 1, none⟩) hNN).trans w1
  have w0_5 : (W.alloc (.cells #[.int .i64 0, .int .u64 0, .int .u64 0, .int .u64 0, .int .u64 0, .int .i64 0, .int .i64 0, .int .i64 0, .int .i64 0, .bool false] 43)).cell? ⟨N, k * 2, none⟩ = some (.bool h) := ((below1 W _).cell (p := ⟨N, k * 2, none⟩) hNN).trans w0
  have w1_5 : (W.alloc (.cells #[.int .i64 0, .int .u64 0, .int .u64 0, .int .u64 0, .int .u64 0, .int .i64 0, .int .i64 0, .int .i64 0, .int .i64 0, .bool false] 43)).cell? ⟨N, k * 2 + 1, none⟩ = some (.bool d) := ((below1 W _).cell (p := ⟨N, k * 2 + 1, none⟩) hNN).trans w1
  have w0_6 : (W.alloc (.cells #[.int .i64 4, .int .u64 q.c0, .int .u64 q.c1, .int .u64 q.c2, .int .u64 q.c3, .int .i64 (ia : Nat), .int .i64 (ib : Nat), .int .i64 q.l, .int .i64 q.m, .bool q.z] 43)).cell? ⟨N, k * 2, none⟩ = some (.bool h) := ((below1 W _).cell (p := ⟨N, k * 2, none⟩) hNN).trans w0
  have w1_6 : (W.alloc (.cells #[.int .i64 4, .int .u64 q.c0, .int .u64 q.c1, .int .u64 q.c2, .int .u64 q.c3, .int .i64 (ia : Nat), .int .i64 (ib : Nat), .int .i64 q.l, .int .i64 q.m, .bool q.z] 43)).cell? ⟨N, k * 2 + 1, none⟩ = some (.bool d) := ((below1 W _).cell (p := ⟨N, k * 2 + 1, none⟩) hNN).trans w1
  unfold fr52
  conv => arg 2; whnf
  go_wp2_with fail
  go_region
  · have kL : Cl (((W.alloc (.cells #[.int .i64 4, .int .u64 q.c0, .int .u64 q.c1, .int .u64 q.c2, .int .u64 q.c3, .int .i64 (ia : Nat), .int .i64 (ib : Nat), .int .i64 q.l, .int .i64 q.m, .bool q.z] 43)).alloc (.cells #[.bool h, .bool d] 86)).drew) N 86 (bws f n) := ((hL.alloc (.cells #[.int .i64 4, .int .u64 q.c0, .int .u64 q.c1, .int .u64 q.c2, .int .u64 q.c3, .int .i64 (ia : Nat), .int .i64 (ib : Nat), .int .i64 q.l, .int .i64 q.m, .bool q.z] 43)).alloc (.cells #[.bool h, .bool d] 86)).drew
    have hBB : Below W.heap.size W (((W.alloc (.cells #[.int .i64 4, .int .u64 q.c0, .int .u64 q.c1, .int .u64 q.c2, .int .u64 q.c3, .int .i64 (ia : Nat), .int .i64 (ib : Nat), .int .i64 q.l, .int .i64 q.m, .bool q.z] 43)).alloc (.cells #[.bool h, .bool d] 86)).drew) := (below2 W (.cells #[.int .i64 4, .int .u64 q.c0, .int .u64 q.c1, .int .u64 q.c2, .int .u64 q.c3, .int .i64 (ia : Nat), .int .i64 (ib : Nat), .int .i64 q.l, .int .i64 q.m, .bool q.z] 43) (.cells #[.bool h, .bool d] 86)).drew
    have kf : Cl (((W.alloc (.cells #[.int .i64 4, .int .u64 q.c0, .int .u64 q.c1, .int .u64 q.c2, .int .u64 q.c3, .int .i64 (ia : Nat), .int .i64 (ib : Nat), .int .i64 q.l, .int .i64 q.m, .bool q.z] 43)).alloc (.cells #[.bool h, .bool d] 86)).drew) W.heap.size 43 [.int .i64 4, .int .u64 q.c0, .int .u64 q.c1, .int .u64 q.c2, .int .u64 q.c3, .int .i64 (ia : Nat), .int .i64 (ib : Nat), .int .i64 q.l, .int .i64 q.m, .bool q.z] := ((Cl.new W 43 [.int .i64 4, .int .u64 q.c0, .int .u64 q.c1, .int .u64 q.c2, .int .u64 q.c3, .int .i64 (ia : Nat), .int .i64 (ib : Nat), .int .i64 q.l, .int .i64 q.m, .bool q.z]).alloc (.cells #[.bool h, .bool d] 86)).drew
    have ks : Cl (((W.alloc (.cells #[.int .i64 4, .int .u64 q.c0, .int .u64 q.c1, .int .u64 q.c2, .int .u64 q.c3, .int .i64 (ia : Nat), .int .i64 (ib : Nat), .int .i64 q.l, .int .i64 q.m, .bool q.z] 43)).alloc (.cells #[.bool h, .bool d] 86)).drew) (W.heap.size + 1) 86 [.bool h, .bool d] := by
      have := (Cl.new (W.alloc (.cells #[.int .i64 4, .int .u64 q.c0, .int .u64 q.c1, .int .u64 q.c2, .int .u64 q.c3, .int .i64 (ia : Nat), .int .i64 (ib : Nat), .int .i64 q.l, .int .i64 q.m, .bool q.z] 43)) 86 [.bool h, .bool d]).drew
      simpa only [World.size_alloc] using this
    clear e0_0 e0_1 e0_2 e0_3 e0_4 e0_5 e0_6 e1_0 e1_1 e1_2 e1_3 e1_4 e1_5 e1_6 e2_0 e2_1 e2_2 e2_3 e2_4 e2_5 e2_6 e3_0 e3_1 e3_2 e3_3 e3_4 e3_5 e3_6 e4_0 e4_1 e4_2 e4_3 e4_4 e4_5 e4_6 e5_0 e5_1 e5_2 e5_3 e5_4 e5_5 e5_6 e6_0 e6_1 e6_2 e6_3 e6_4 e6_5 e6_6 e7_0 e7_1 e7_2 e7_3 e7_4 e7_5 e7_6 e8_0 e8_1 e8_2 e8_3 e8_4 e8_5 e8_6 e9_0 e9_1 e9_2 e9_3 e9_4 e9_5 e9_6 e0 e1 e2 e3 e4 e5 e6 e7 e8 e9 w0 w1 w0_0 w0_1 w0_2 w0_3 w0_4 w0_5 w0_6 w1_0 w1_1 w1_2 w1_3 w1_4 w1_5 w1_6 hbb
    have t0 := kf.cell 0 rfl
    have t5 := kf.cell 5 rfl
    have t6 := kf.cell 6 rfl
    have y0 := ks.cell 0 rfl
    have y1 := ks.cell 1 rfl
    generalize hVV : ((W.alloc (.cells #[.int .i64 4, .int .u64 q.c0, .int .u64 q.c1, .int .u64 q.c2, .int .u64 q.c3, .int .i64 (ia : Nat), .int .i64 (ib : Nat), .int .i64 q.l, .int .i64 q.m, .bool q.z] 43)).alloc (.cells #[.bool h, .bool d] 86)).drew = VV at *
    clear hVV
    have z0 := kL.cell (ia * 2) (bws_get0 f hia)
    have z1 := kL.cell (ia * 2 + 1) (bws_get1 f hia)
    have z2 := kL.cell (ib * 2) (bws_get0 f hib)
    have z3 := kL.cell (ib * 2 + 1) (bws_get1 f hib)
    have fz0 := kL.frozen (ia * 2)
    have fz1 := kL.frozen (ia * 2 + 1)
    have fz2 := kL.frozen (ib * 2)
    have fz3 := kL.frozen (ib * 2 + 1)
    have kM := (kL.set (ia * 2) (.bool h)).set (ia * 2 + 1) (.bool d)
    rw [bws_set0 f n ia h hia, bws_set1 _ n ia d hia, updB_two, updB_at] at kM
    have z4 := kM.cell (ib * 2) (bws_get0 _ hib)
    have z5 := kM.cell (ib * 2 + 1) (bws_get1 _ hib)
    have fz4 := kM.frozen (ib * 2)
    have fz5 := kM.frozen (ib * 2 + 1)
    have kO := (kM.set (ib * 2) (.bool h)).set (ib * 2 + 1) (.bool d)
    rw [bws_set0 _ n ib h hib, bws_set1 _ n ib d hib, updB_two, updB_at] at kO
    go_wp2_with fail
    go_region
    clear t0 t5 t6 y0 y1 z0 z1 z2 z3 fz0 fz1 fz2 fz3 z4 z5 fz4 fz5 kM kf ks
    have hbo : Below N W (((((VV.setCell ⟨N, ia * 2, none⟩ (.bool h)).setCell ⟨N, ia * 2 + 1, none⟩ (.bool d)).setCell ⟨N, ib * 2, none⟩ (.bool h)).setCell ⟨N, ib * 2 + 1, none⟩ (.bool d))) := ((((hBB.mono (Nat.le_of_lt hNN)).setCell (p := ⟨N, ia * 2, none⟩) (Nat.le_refl _) _).setCell (p := ⟨N, ia * 2 + 1, none⟩) (Nat.le_refl _) _).setCell (p := ⟨N, ib * 2, none⟩) (Nat.le_refl _) _).setCell (p := ⟨N, ib * 2 + 1, none⟩) (Nat.le_refl _) _
    go_wp2_with fail
    go_step3
    exact hK.out _ _ (Fr52.of _ rfl) kO.drew hbo.drew
  · have kL : Cl (((W.alloc (.cells #[.bool h, .bool d] 86)).alloc (.cells #[.int .i64 4, .int .u64 q.c0, .int .u64 q.c1, .int .u64 q.c2, .int .u64 q.c3, .int .i64 (ia : Nat), .int .i64 (ib : Nat), .int .i64 q.l, .int .i64 q.m, .bool q.z] 43)).drew) N 86 (bws f n) := ((hL.alloc (.cells #[.bool h, .bool d] 86)).alloc (.cells #[.int .i64 4, .int .u64 q.c0, .int .u64 q.c1, .int .u64 q.c2, .int .u64 q.c3, .int .i64 (ia : Nat), .int .i64 (ib : Nat), .int .i64 q.l, .int .i64 q.m, .bool q.z] 43)).drew
    have hBB : Below W.heap.size W (((W.alloc (.cells #[.bool h, .bool d] 86)).alloc (.cells #[.int .i64 4, .int .u64 q.c0, .int .u64 q.c1, .int .u64 q.c2, .int .u64 q.c3, .int .i64 (ia : Nat), .int .i64 (ib : Nat), .int .i64 q.l, .int .i64 q.m, .bool q.z] 43)).drew) := (below2 W (.cells #[.bool h, .bool d] 86) (.cells #[.int .i64 4, .int .u64 q.c0, .int .u64 q.c1, .int .u64 q.c2, .int .u64 q.c3, .int .i64 (ia : Nat), .int .i64 (ib : Nat), .int .i64 q.l, .int .i64 q.m, .bool q.z] 43)).drew
    have kf : Cl (((W.alloc (.cells #[.bool h, .bool d] 86)).alloc (.cells #[.int .i64 4, .int .u64 q.c0, .int .u64 q.c1, .int .u64 q.c2, .int .u64 q.c3, .int .i64 (ia : Nat), .int .i64 (ib : Nat), .int .i64 q.l, .int .i64 q.m, .bool q.z] 43)).drew) W.heap.size 86 [.bool h, .bool d] := ((Cl.new W 86 [.bool h, .bool d]).alloc (.cells #[.int .i64 4, .int .u64 q.c0, .int .u64 q.c1, .int .u64 q.c2, .int .u64 q.c3, .int .i64 (ia : Nat), .int .i64 (ib : Nat), .int .i64 q.l, .int .i64 q.m, .bool q.z] 43)).drew
    have ks : Cl (((W.alloc (.cells #[.bool h, .bool d] 86)).alloc (.cells #[.int .i64 4, .int .u64 q.c0, .int .u64 q.c1, .int .u64 q.c2, .int .u64 q.c3, .int .i64 (ia : Nat), .int .i64 (ib : Nat), .int .i64 q.l, .int .i64 q.m, .bool q.z] 43)).drew) (W.heap.size + 1) 43 [.int .i64 4, .int .u64 q.c0, .int .u64 q.c1, .int .u64 q.c2, .int .u64 q.c3, .int .i64 (ia : Nat), .int .i64 (ib : Nat), .int .i64 q.l, .int .i64 q.m, .bool q.z] := by
      have := (Cl.new (W.alloc (.cells #[.bool h, .bool d] 86)) 43 [.int .i64 4, .int .u64 q.c0, .int .u64 q.c1, .int .u64 q.c2, .int .u64 q.c3, .int .i64 (ia : Nat), .int .i64 (ib : Nat), .int .i64 q.l, .int .i64 q.m, .bool q.z]).drew
      simpa only [World.size_alloc] using this
    clear e0_0 e0_1 e0_2 e0_3 e0_4 e0_5 e0_6 e1_0 e1_1 e1_2 e1_3 e1_4 e1_5 e1_6 e2_0 e2_1 e2_2 e2_3 e2_4 e2_5 e2_6 e3_0 e3_1 e3_2 e3_3 e3_4 e3_5 e3_6 e4_0 e4_1 e4_2 e4_3 e4_4 e4_5 e4_6 e5_0 e5_1 e5_2 e5_3 e5_4 e5_5 e5_6 e6_0 e6_1 e6_2 e6_3 e6_4 e6_5 e6_6 e7_0 e7_1 e7_2 e7_3 e7_4 e7_5 e7_6 e8_0 e8_1 e8_2 e8_3 e8_4 e8_5 e8_6 e9_0 e9_1 e9_2 e9_3 e9_4 e9_5 e9_6 e0 e1 e2 e3 e4 e5 e6 e7 e8 e9 w0 w1 w0_0 w0_1 w0_2 w0_3 w0_4 w0_5 w0_6 w1_0 w1_1 w1_2 w1_3 w1_4 w1_5 w1_6 hbb
    have t0 := ks.cell 0 rfl
    have t5 := ks.cell 5 rfl
    have t6 := ks.cell 6 rfl
    have y0 := kf.cell 0 rfl
    have y1 := kf.cell 1 rfl
    generalize hVV : ((W.alloc (.cells #[.bool h, .bool d] 86)).alloc (.cells #[.int .i64 4, .int .u64 q.c0, .int .u64 q.c1, .int .u64 q.c2, .int .u64 q.c3, .int .i64 (ia : Nat), .int .i64 (ib : Nat), .int .i64 q.l, .int .i64 q.m, .bool q.z] 43)).drew = VV at *
    clear hVV
    have z0 := kL.cell (ia * 2) (bws_get0 f hia)
    have z1 := kL.cell (ia * 2 + 1) (bws_get1 f hia)
    have z2 := kL.cell (ib * 2) (bws_get0 f hib)
    have z3 := kL.cell (ib * 2 + 1) (bws_get1 f hib)
    have fz0 := kL.frozen (ia * 2)
    have fz1 := kL.frozen (ia * 2 + 1)
    have fz2 := kL.frozen (ib * 2)
    have fz3 := kL.frozen (ib * 2 + 1)
    have kM := (kL.set (ia * 2) (.bool h)).set (ia * 2 + 1) (.bool d)
    rw [bws_set0 f n ia h hia, bws_set1 _ n ia d hia, updB_two, updB_at] at kM
    have z4 := kM.cell (ib * 2) (bws_get0 _ hib)
    have z5 := kM.cell (ib * 2 + 1) (bws_get1 _ hib)
    have fz4 := kM.frozen (ib * 2)
    have fz5 := kM.frozen (ib * 2 + 1)
    have kO := (kM.set (ib * 2) (.bool h)).set (ib * 2 + 1) (.bool d)
    rw [bws_set0 _ n ib h hib, bws_set1 _ n ib d hib, updB_two, updB_at] at kO
    go_wp2_with fail
    go_region
    clear t0 t5 t6 y0 y1 z0 z1 z2 z3 fz0 fz1 fz2 fz3 z4 z5 fz4 fz5 kM kf ks
    have hbo : Below N W (((((VV.setCell ⟨N, ia * 2, none⟩ (.bool h)).setCell ⟨N, ia * 2 + 1, none⟩ (.bool d)).setCell ⟨N, ib * 2, none⟩ (.bool h)).setCell ⟨N, ib * 2 + 1, none⟩ (.bool d))) := ((((hBB.mono (Nat.le_of_lt hNN)).setCell (p := ⟨N, ia * 2, none⟩) (Nat.le_refl _) _).setCell (p := ⟨N, ia * 2 + 1, none⟩) (Nat.le_refl _) _).setCell (p := ⟨N, ib * 2, none⟩) (Nat.le_refl _) _).setCell (p := ⟨N, ib * 2 + 1, none⟩) (Nat.le_refl _) _
    go_wp2_with fail
    go_step3
    exact hK.out _ _ (Fr52.of _ rfl) kO.drew hbo.drew
set_option maxRecDepth 20000 in
set_option maxHeartbeats 4000000 in
theorem am_cat {K : Nat → Act → World → Prop} {R : Ending → World → Prop} (bb off n cap N k ia ib : Nat) (u : Nat → Value) (q : Nd) (h d : Bool) (f : Nat → Bool × Bool) {W : World} (hbb : bb < W.heap.size) (hL : Cl W N 86 (bws f n)) (hkn : k < n) (hn : (n : Int) ≤ 2048) (hk : 0 < k) (hia : ia < n) (hib : ib < n) (hne : ib ≠ ia) (e0 : W.cell? ⟨bb, off + k * 10, none⟩ = some (.int .i64 3)) (e1 : W.cell? ⟨bb, off + k * 10 + 1, none⟩ = some (.int .u64 q.c0)) (e2 : W.cell? ⟨bb, off + k * 10 + 2, none⟩ = some (.int .u64 q.c1)) (e3 : W.cell? ⟨bb, off + k * 10 + 3, none⟩ = some (.int .u64 q.c2)) (e4 : W.cell? ⟨bb, off + k * 10 + 4, none⟩ = some (.int .u64 q.c3)) (e5 : W.cell? ⟨bb, off + k * 10 + 5, none⟩ = some (.int .i64 (ia : Nat))) (e6 : W.cell? ⟨bb, off + k * 10 + 6, none⟩ = some (.int .i64 (ib : Nat))) (e7 : W.cell? ⟨bb, off + k * 10 + 7, none⟩ = some (.int .i64 q.l)) (e8 : W.cell? ⟨bb, off + k * 10 + 8, none⟩ = some (.int .i64 q.m)) (e9 : W.cell? ⟨bb, off + k * 10 + 9, none⟩ = some (.bool q.z)) (w0 : W.cell? ⟨N, k * 2, none⟩ = some (.bool h)) (w1 : W.cell? ⟨N, k * 2 + 1, none⟩ = some (.bool d))
    (hK : Hid (∀ tm W', Fr52 (some ⟨bb, off, none⟩) n cap N ((k : Int) - 1) tm → Cl W' N 86 (bws (updB (updB f ia (h, (f ia).2)) ib ((f ib).1, d)) n) → Below N W W' → K 0 ⟨tm, []⟩ W')) : Code.wp Tryd.prog (labelIn Tryd.f36 0) (jumps K (bodyPost Tryd.prog Tryd.f36 R)) ⟨fr52 (some ⟨bb, off, none⟩) n cap N k u, []⟩ W := by
  have hNN := hL.lt
  have hki : (k : Int) < (n : Int) := by omega
  have hk2 : (k : Int) > 0 := by omega
  have hai : (ia : Int) < (n : Int) := by omega
  have hbi : (ib : Int) < (n : Int) := by omega
  have e0_0 : ((W.alloc (.cells #[.bool false, .bool false] 86)).alloc (.cells #[.int .i64 0, .int .u64 0, .int .u64 0, .int .u64 0, .int .u64 0, .int .i64 0, .int .i64 0, .int .i64 0, .int .i64 0, .bool false] 43)).cell? ⟨bb, off + k * 10, none⟩ = some (.int .i64 3) := ((below2 W _ _).cell (p := ⟨bb, off + k * 10, none⟩) hbb).trans e0
  have e1_0 : ((W.alloc (.cells #[.bool false, .bool false] 86)).alloc (.cells #[.int .i64 0, .int .u64 0, .int .u64 0, .int .u64 0, .int .u64 0, .int .i64 0, .int .i64 0, .int .i64 0, .int .i64 0, .bool false] 43)).cell? ⟨bb, off + k * 10 + 1, none⟩ = some (.int .u64 q.c0) := ((below2 W _ _).cell (p := ⟨bb, off + k * 10 + 1, none⟩) hbb).trans e1
  have e2_0 : ((W.alloc (.cells #[.bool false, .bool false] 86)).alloc (.cells #[.int .i64 0, .int .u64 0, .int .u64 0, .int .u64 0, .int .u64 0, .int .i64 0, .int .i64 0, .int .i64 0, .int .i64 0, .bool false] 43)).cell? ⟨bb, off + k * 10 + 2, none⟩ = some (.int .u64 q.c1) := ((below2 W _ _).cell (p := ⟨bb, off + k * 10 + 2, none⟩) hbb).trans e2
  have e3_0 : ((W.alloc (.cells #[.bool false, .bool false] 86)).alloc (.cells #[.int .i64 0, .int .u64 0, .int .u64 0, .int .u64 0, .int .u64 0, .int .i64 0, .int .i64 0, .int .i64 0, .int .i64 0, .bool false] 43)).cell? ⟨bb, off + k * 10 + 3, none⟩ = some (.int .u64 q.c2) := ((below2 W _ _).cell (p := ⟨bb, off + k * 10 + 3, none⟩) hbb).trans e3
  have e4_0 : ((W.alloc (.cells #[.bool false, .bool false] 86)).alloc (.cells #[.int .i64 0, .int .u64 0, .int .u64 0, .int .u64 0, .int .u64 0, .int .i64 0, .int .i64 0, .int .i64 0, .int .i64 0, .bool false] 43)).cell? ⟨bb, off + k * 10 + 4, none⟩ = some (.int .u64 q.c3) := ((below2 W _ _).cell (p := ⟨bb, off + k * 10 + 4, none⟩) hbb).trans e4
  have e5_0 : ((W.alloc (.cells #[.bool false, .bool false] 86)).alloc (.cells #[.int .i64 0, .int .u64 0, .int .u64 0, .int .u64 0, .int .u64 0, .int .i64 0, .int .i64 0, .int .i64 0, .int .i64 0, .bool false] 43)).cell? ⟨bb, off + k * 10 + 5, none⟩ = some (.int .i64 (ia : Nat)) := ((below2 W _ _).cell (p := ⟨bb, off + k * 10 + 5, none⟩) hbb).trans e5
  have e6_0 : ((W.alloc (.cells #[.bool false, .bool false] 86)).alloc (.cells #[.int .i64 0, .int .u64 0, .int .u64 0, .int .u64 0, .int .u64 0, .int .i64 0, .int .i64 0, .int .i64 0, .int .i64 0, .bool false] 43)).cell? ⟨bb, off + k * 10 + 6, none⟩ = some (.int .i64 (ib : Nat)) := ((below2 W _ _).cell (p := ⟨bb, off + k * 10 + 6, none⟩) hbb).trans e6
  have e7_0 : ((W.alloc (.cells #[.bool false, .bool false] 86)).alloc (.cells #[.int .i64 0, .int .u64 0, .int .u64 0, .int .u64 0, .int .u64 0, .int .i64 0, .int .i64 0, .int .i64 0, .int .i64 0, .bool false] 43)).cell? ⟨bb, off + k * 10 + 7, none⟩ = some (.int .i64 q.l) := ((below2 W _ _).cell (p := ⟨bb, off + k * 10 + 7, none⟩) hbb).trans e7
  have e8_0 : ((W.alloc (.cells #[.bool false, .bool false] 86)).alloc (.cells #[.int .i64 0, .int .u64 0, .int .u64 0, .int .u64 0, .int .u64 0, .int .i64 0, .int .i64 0, .int .i64 0, .int .i64 0, .bool false] 43)).cell? ⟨bb, off + k * 10 + 8, none⟩ = some (.int .i64 q.m) := ((below2 W _ _).cell (p := ⟨bb, off + k * 10 + 8, none⟩) hbb).trans e8
  have e9_0 : ((W.alloc (.cells #[.bool false, .bool false] 86)).alloc (.cells #[.int .i64 0, .int .u64 0, .int .u64 0, .int .u64 0, .int .u64 0, .int .i64 0, .int .i64 0, .int .i64 0, .int .i64 0, .bool false] 43)).cell? ⟨bb, off + k * 10 + 9, none⟩ = some (.bool q.z) := ((below2 W _ _).cell (p := ⟨bb, off + k * 10 + 9, none⟩) hbb).trans e9
  have e0_1 : ((W.alloc (.cells #[.int .i64 0, .int .u64 0, .int .u64 0, .int .u64 0, .int .u64 0, .int .i64 0, .int .i64 0, .int .i64 0, .int .i64 0, .bool false] 43)).alloc (.cells #[.bool false, .bool false] 86)).cell? ⟨bb, off + k * 10, none⟩ = some (.int .i64 3) := ((below2 W _ _).cell (p := ⟨bb, off + k * 10, none⟩) hbb).trans e0
  have e1_1 : ((W.alloc (.cells #[.int .i64 0, .int .u64 0, .int .u64 0, .int .u64 0, .int .u64 0, .int .i64 0, .int .i64 0, .int .i64 0, .int .i64 0, .bool false] 43)).alloc (.cells #[.bool false, .bool false] 86)).cell? ⟨bb, off + k * 10 + 1, none⟩ = some (.int .u64 q.c0) := ((below2 W _ _).cell (p := ⟨bb, off + k * 10 + 1, none⟩) hbb).trans e1
  have e2_1 : ((W.alloc (.cells #[.int .i64 0, .int .u64 0, .int .u64 0, .int .u64 0, .int .u64 0, .int .i64 0, .int .i64 0, .int .i64 0, .int .i64 0, .bool false] 43)).alloc (.cells #[.bool false, .bool false] 86)).cell? ⟨bb, off + k * 10 + 2, none⟩ = some (.int .u64 q.c1) := ((below2 W _ _).cell (p := ⟨bb, off + k * 10 + 2, none⟩) hbb).trans e2
  have e3_1 : ((W.alloc (.cells #[.int .i64 0, .int .u64 0, .int .u64 0, .int .u64 0, .int .u64 0, .int .i64 0, .int .i64 0, .int .i64 0, .int .i64 0, .bool false] 43)).alloc (.cells #[.bool false, .bool false] 86)).cell? ⟨bb, off + k * 10 + 3, none⟩ = some (.int .u64 q.c2) := ((below2 W _ _).cell (p := ⟨bb, off + k * 10 + 3, none⟩) hbb).trans e3
  have e4_1 : ((W.alloc (.cells #[.int .i64 0, .int .u64 0, .int .u64 0, .int .u64 0, .int .u64 0, .int .i64 0, .int .i64 0, .int .i64 0, .int .i64 0, .bool false] 43)).alloc (.cells #[.bool false, .bool false] 86)).cell? ⟨bb, off + k * 10 + 4, none⟩ = some (.int .u64 q.c3) := ((below2 W _ _).cell (p := ⟨bb, off + k * 10 + 4, none⟩) hbb).trans e4
  have e5_1 : ((W.alloc (.cells #[.int .i64 0, .int .u64 0, .int .u64 0, .int .u64 0, .int .u64 0, .int .i64 0, .int .i64 0, .int .i64 0, .int .i64 0, .bool false] 43)).alloc (.cells #[.bool false, .bool false] 86)).cell? ⟨bb, off + k * 10 + 5, none⟩ = some (.int .i64 (ia : Nat)) := ((below2 W _ _).cell (p := ⟨bb, off + k * 10 + 5, none⟩) hbb).trans e5
  have e6_1 : ((W.alloc (.cells #[.int .i64 0, .int .u64 0, .int .u64 0, .int .u64 0, .int .u64 0, .int .i64 0, .int .i64 0, .int .i64 0, .int .i64 0, .bool false] 43)).alloc (.cells #[.bool false, .bool false] 86)).cell? ⟨bb, off + k * 10 + 6, none⟩ = some (.int .i64 (ib : Nat)) := ((below2 W _ _).cell (p := ⟨bb, off + k * 10 + 6, none⟩) hbb).trans e6
  have e7_1 : ((W.alloc (.cells #[.int .i64 0, .int .u64 0, .int .u64 0, .int .u64 0, .int .u64 0, .int .i64 0, .int .i64 0, .int .i64 0, .int .i64 0, .bool false] 43)).alloc (.cells #[.bool false, .bool false] 86)).cell? ⟨bb, off + k * 10 + 7, none⟩ = some (.int .i64 q.l) := ((below2 W _ _).cell (p := ⟨bb, off + k * 10 + 7, none⟩) hbb).trans e7
  have e8_1 : ((W.alloc (.cells #[.int .i64 0, .int .u64 0, .int .u64 0, .int .u64 0, .int .u64 0, .int .i64 0, .int .i64 0, .int .i64 0, .int .i64 0, .bool false] 43)).alloc (.cells #[.bool false, .bool false] 86)).cell? ⟨bb, off + k * 10 + 8, none⟩ = some (.int .i64 q.m) := ((below2 W _ _).cell (p := ⟨bb, off + k * 10 + 8, none⟩) hbb).trans e8
  have e9_1 : ((W.alloc (.cells #[.int .i64 0, .int .u64 0, .int .u64 0, .int .u64 0, .int .u64 0, .int .i64 0, .int .i64 0, .int .i64 0, .int .i64 0, .bool false] 43)).alloc (.cells #[.bool false, .bool false] 86)).cell? ⟨bb, off + k * 10 + 9, none⟩ = some (.bool q.z) := ((below2 W _ _).cell (p := ⟨bb, off + k * 10 + 9, none⟩) hbb).trans e9
  have e0_2 : ((W.alloc (.cells #[.bool h, .bool d] 86)).alloc (.cells #[.int .i64 0, .int .u64 0, .int .u64 0, .int .u64 0, .int .u64 0, .int .i64 0, .int .i64 0, .int .i64 0, .int .i64 0, .bool false] 43)).cell? ⟨bb, off + k * 10, none⟩ = some (.int .i64 3) := ((below2 W _ _).cell (p := ⟨bb, off + k * 10, none⟩) hbb).trans e0
  have e1_2 : ((W.alloc (.cells #[.bool h, .bool d] 86)).alloc (.cells #[.int .i64 0, .int .u64 0, .int .u64 0, .int .u64 0, .int .u64 0, .int .i64 0, .int .i64 0, .int .i64 0, .int .i64 0, .bool false] 43)).cell? ⟨bb, off + k * 10 + 1, none⟩ = some (.int .u64 q.c0) := ((below2 W _ _).cell (p := ⟨bb, off + k * 10 + 1, none⟩) hbb).trans e1
  have e2_2 : ((W.alloc (.cells #[.bool h, .bool d] 86)).alloc (.cells #[.int .i64 0, .int .u64 0, .int .u64 0, .int .u64 0, .int .u64 0, .int .i64 0, .int .i64 0, .int .i64 0, .int .i64 0, .bool false] 43)).cell? ⟨bb, off + k * 10 + 2, none⟩ = some (.int .u64 q.c1) := ((below2 W _ _).cell (p := ⟨bb, off + k * 10 + 2, none⟩) hbb).trans e2
  have e3_2 : ((W.alloc (.cells #[.bool h, .bool d] 86)).alloc (.cells #[.int .i64 0, .int .u64 0, .int .u64 0, .int .u64 0, .int .u64 0, .int .i64 0, .int .i64 0, .int .i64 0, .int .i64 0, .bool false] 43)).cell? ⟨bb, off + k * 10 + 3, none⟩ = some (.int .u64 q.c2) := ((below2 W _ _).cell (p := ⟨bb, off + k * 10 + 3, none⟩) hbb).trans e3
  have e4_2 : ((W.alloc (.cells #[.bool h, .bool d] 86)).alloc (.cells #[.int .i64 0, .int .u64 0, .int .u64 0, .int .u64 0, .int .u64 0, .int .i64 0, .int .i64 0, .int .i64 0, .int .i64 0, .bool false] 43)).cell? ⟨bb, off + k * 10 + 4, none⟩ = some (.int .u64 q.c3) := ((below2 W _ _).cell (p := ⟨bb, off + k * 10 + 4, none⟩) hbb).trans e4
  have e5_2 : ((W.alloc (.cells #[.bool h, .bool d] 86)).alloc (.cells #[.int .i64 0, .int .u64 0, .int .u64 0, .int .u64 0, .int .u64 0, .int .i64 0, .int .i64 0, .int .i64 0, .int .i64 0, .bool false] 43)).cell? ⟨bb, off + k * 10 + 5, none⟩ = some (.int .i64 (ia : Nat)) := ((below2 W _ _).cell (p := ⟨bb, off + k * 10 + 5, none⟩) hbb).trans e5
  have e6_2 : ((W.alloc (.cells #[.bool h, .bool d] 86)).alloc (.cells #[.int .i64 0, .int .u64 0, .int .u64 0, .int .u64 0, .int .u64 0, .int .i64 0, .int .i64 0, .int .i64 0, .int .i64 0, .bool false] 43)).cell? ⟨bb, off + k * 10 + 6, none⟩ = some (.int .i64 (ib : Nat)) := ((below2 W _ _).cell (p := ⟨bb, off + k * 10 + 6, none⟩) hbb).trans e6
  have e7_2 : ((W.alloc (.cells #[.bool h, .bool d] 86)).alloc (.cells #[.int .i64 0, .int .u64 0, .int .u64 0, .int .u64 0, .int .u64 0, .int .i64 0, .int .i64 0, .int .i64 0, .int .i64 0, .bool false] 43)).cell? ⟨bb, off + k * 10 + 7, none⟩ = some (.int .i64 q.l) := ((below2 W _ _).cell (p := ⟨bb, off + k * 10 + 7, none⟩) hbb).trans e7
  have e8_2 : ((W.alloc (.cells #[.bool h, .bool d] 86)).alloc (.cells #[.int .i64 0, .int .u64 0, .int .u64 0, .int .u64 0, .int .u64 0, .int .i64 0, .int .i64 0, .int .i64 0, .int .i64 0, .bool false] 43)).cell? ⟨bb, off + k * 10 + 8, none⟩ = some (.int .i64 q.m) := ((below2 W _ _).cell (p := ⟨bb, off + k * 10 + 8, none⟩) hbb).trans e8
  have e9_2 : ((W.alloc (.cells #[.bool h, .bool d] 86)).alloc (.cells #[.int .i64 0, .int .u64 0, .int .u64 0, .int .u64 0, .int .u64 0, .int .i64 0, .int .i64 0, .int .i64 0, .int .i64 0, .bool false] 43)).cell? ⟨bb, off + k * 10 + 9, none⟩ = some (.bool q.z) := ((below2 W _ _).cell (p := ⟨bb, off + k * 10 + 9, none⟩) hbb).trans e9
  have e0_3 : ((W.alloc (.cells #[.int .i64 0, .int .u64 0, .int .u64 0, .int .u64 0, .int .u64 0, .int .i64 0, .int .i64 0, .int .i64 0, .int .i64 0, .bool false] 43)).alloc (.cells #[.bool h, .bool d] 86)).cell? ⟨bb, off + k * 10, none⟩ = some (.int .i64 3) := ((below2 W _ _).cell (p := ⟨bb, off + k * 10, none⟩) hbb).trans e0
  have e1_3 : ((W.alloc (.cells #[.int .i64 0, .int .u64 0, .int .u64 0, .int .u64 0, .int .u64 0, .int .i64 0, .int .i64 0, .int .i64 0, .int .i64 0, .bool false] 43)).alloc (.cells #[.bool h, .bool d] 86)).cell? ⟨bb, off + k * 10 + 1, none⟩ = some (.int .u64 q.c0) := ((below2 W _ _).cell (p := ⟨bb, off + k * 10 + 1, none⟩) hbb).trans e1
  have e2_3 : ((W.alloc (.cells #[.int .i64 0, .int .u64 0, .int .u64 0, .int .u64 0, .int .u64 0, .int .i64 0, .int .i64 0, .int .i64 0, .int .i64 0, .bool false] 43)).alloc (.cells #[.bool h, .bool d] 86)).cell? ⟨bb, off + k * 10 + 2, none⟩ = some (.int .u64 q.c1) := ((below2 W _ _).cell (p := ⟨bb, off + k * 10 + 2, none⟩) hbb).trans e2
  have e3_3 : ((W.alloc (.cells #[.int .i64 0, .int .u64 0, .int .u64 0, .int .u64 0, .int .u64 0, .int .i64 0, .int .i64 0, .int .i64 0, .int .i64 0, .bool false] 43)).alloc (.cells #[.bool h, .bool d] 86)).cell? ⟨bb, off + k * 10 + 3, none⟩ = some (.int .u64 q.c2) := ((below2 W _ _).cell (p := ⟨bb, off + k * 10 + 3, none⟩) hbb).trans e3
  have e4_3 : ((W.alloc (.cells #[.int .i64 0, .int .u64 0, .int .u64 0, .int .u64 0, .int .u64 0, .int .i64 0, .int .i64 0, .int .i64 0, .int .i64 0, .bool false] 43)).alloc (.cells #[.bool h, .bool d] 86)).cell? ⟨bb, off + k * 10 + 4, none⟩ = some (.int .u64 q.c3) := ((below2 W _ _).cell (p := ⟨bb, off + k * 10 + 4, none⟩) hbb).trans e4
  have e5_3 : ((W.alloc (.cells #[.int .i64 0, .int .u64 0, .int .u64 0, .int .u64 0, .int .u64 0, .int .i64 0, .int .i64 0, .int .i64 0, .int .i64 0, .bool false] 43)).alloc (.cells #[.bool h, .bool d] 86)).cell? ⟨bb, off + k * 10 + 5, none⟩ = some (.int .i64 (ia : Nat)) := ((below2 W _ _).cell (p := ⟨bb, off + k * 10 + 5, none⟩) hbb).trans e5
  have e6_3 : ((W.alloc (.cells #[.int .i64 0, .int .u64 0, .int .u64 0, .int .u64 0, .int .u64 0, .int .i64 0, .int .i64 0, .int .i64 0, .int .i64 0, .bool false] 43)).alloc (.cells #[.bool h, .bool d] 86)).cell? ⟨bb, off + k * 10 + 6, none⟩ = some (.int .i64 (ib : Nat)) := ((below2 W _ _).cell (p := ⟨bb, off + k * 10 + 6, none⟩) hbb).trans e6
  have e7_3 : ((W.alloc (.cells #[.int .i64 0, .int .u64 0, .int .u64 0, .int .u64 0, .int .u64 0, .int .i64 0, .int .i64 0, .int .i64 0, .int .i64 0, .bool false] 43)).alloc (.cells #[.bool h, .bool d] 86)).cell? ⟨bb, off + k * 10 + 7, none⟩ = some (.int .i64 q.l) := ((below2 W _ _).cell (p := ⟨bb, off + k * 10 + 7, none⟩) hbb).trans e7
  have e8_3 : ((W.alloc (.cells #[.int .i64 0, .int .u64 0, .int .u64 0, .int .u64 0, .int .u64 0, .int .i64 0, .int .i64 0, .int .i64 0, .int .i64 0, .bool false] 43)).alloc (.cells #[.bool h, .bool d] 86)).cell? ⟨bb, off + k * 10 + 8, none⟩ = some (.int .i64 q.m) := ((below2 W _ _).cell (p := ⟨bb, off + k * 10 + 8, none⟩) hbb).trans e8
  have e9_3 : ((W.alloc (.cells #[.int .i64 0, .int .u64 0, .int .u64 0, .int .u64 0, .int .u64 0, .int .i64 0, .int .i64 0, .int .i64 0, .int .i64 0, .bool false] 43)).alloc (.cells #[.bool h, .bool d] 86)).cell? ⟨bb, off + k * 10 + 9, none⟩ = some (.bool q.z) := ((below2 W _ _).cell (p := ⟨bb, off + k * 10 + 9, none⟩) hbb).trans e9
  have e0_4 : (W.alloc (.cells #[.bool false, .bool false] 86)).cell? ⟨bb, off + k * 10, none⟩ = some (.int .i64 3) := ((below1 W _).cell (p := ⟨bb, off + k * 10, none⟩) hbb).trans e0
  have e1_4 : (W.alloc (.cells #[.bool false, .bool false] 86)).cell? ⟨bb, off + k * 10 + 1, none⟩ = some (.int .u64 q.c0) := ((below1 W _).cell (p := ⟨bb, off + k * 10 + 1, none⟩) hbb).trans e1
  have e2_4 : (W.alloc (.cells #[.bool false, .bool false] 86)).cell? ⟨bb, off + k * 10 + 2, none⟩ = some (.int .u64 q.c1) := ((below1 W _).cell (p := ⟨bb, off + k * 10 + 2, none⟩) hbb).trans e2
  have e3_4 : (W.alloc (.cells #[.bool false, .bool false] 86)).cell? ⟨bb, off + k * 10 + 3, none⟩ = some (.int .u64 q.c2) := ((below1 W _).cell (p := ⟨bb, off + k * 10 + 3, none⟩) hbb).trans e3
  have e4_4 : (W.alloc (.cells #[.bool false, .bool false] 86)).cell? ⟨bb, off + k * 10 + 4, none⟩ = some (.int .u64 q.c3) := ((below1 W _).cell (p := ⟨bb, off + k * 10 + 4, none⟩) hbb).trans e4
  have e5_4 : (W.alloc (.cells #[.bool false, .bool false] 86)).cell? ⟨bb, off + k * 10 + 5, none⟩ = some (.int .i64 (ia : Nat)) := ((below1 W _).cell (p := ⟨bb, off + k * 10 + 5, none⟩) hbb).trans e5
  have e6_4 : (W.alloc (.cells #[.bool false, .bool false] 86)).cell? ⟨bb, off + k * 10 + 6, none⟩ = some (.int .i64 (ib : Nat)) := ((below1 W _).cell (p := ⟨bb, off + k * 10 + 6, none⟩) hbb).trans e6
  have e7_4 : (W.alloc (.cells #[.bool false, .bool false] 86)).cell? ⟨bb, off + k * 10 + 7, none⟩ = some (.int .i64 q.l) := ((below1 W _).cell (p := ⟨bb, off + k * 10 + 7, none⟩) hbb).trans e7
  have e8_4 : (W.alloc (.cells #[.bool false, .bool false] 86)).cell? ⟨bb, off + k * 10 + 8, none⟩ = some (.int .i64 q.m) := ((below1 W _).cell (p := ⟨bb, off + k * 10 + 8, none⟩) hbb).trans e8
  have e9_4 : (W.alloc (.cells #[.bool false, .bool false] 86)).cell? ⟨bb, off + k * 10 + 9, none⟩ = some (.bool q.z) := ((below1 W _).cell (p := ⟨bb, off + k * 10 + 9, none⟩) hbb).trans e9
  have e0_5 : (W.alloc (.cells #[.int .i64 0, .int .u64 0, .int .u64 0, .int .u64 0, .int .u64 0, .int .i64 0, .int .i64 0, .int .i64 0, .int .i64 0, .bool false] 43)).cell? ⟨bb, off + k * 10, none⟩ = some (.int .i64 3) := ((below1 W _).cell (p := ⟨bb, off + k * 10, none⟩) hbb).trans e0
  have e1_5 : (W.alloc (.cells #[.int .i64 0, .int .u64 0, .int .u64 0, .int .u64 0, .int .u64 0, .int .i64 0, .int .i64 0, .int .i64 0, .int .i64 0, .bool false] 43)).cell? ⟨bb, off + k * 10 + 1, none⟩ = some (.int .u64 q.c0) := ((below1 W _).cell (p := ⟨bb, off + k * 10 + 1, none⟩) hbb).trans e1
  have e2_5 : (W.alloc (.cells #[.int .i64 0, .int .u64 0, .int .u64 0, .int .u64 0, .int .u64 0, .int .i64 0, .int .i64 0, .int .i64 0, .int .i64 0, .bool false] 43)).cell? ⟨bb, off + k * 10 + 2, none⟩ = some (.int .u64 q.c1) := ((below1 W _).cell (p := ⟨bb, off + k * 10 + 2, none⟩) hbb).trans e2
  have e3_5 : (W.alloc (.cells #[.int .i64 0, .int .u64 0, .int .u64 0, .int .u64 0, .int .u64 0, .int .i64 0, .int .i64 0, .int .i64 0, .int .i64 0, .bool false] 43)).cell? ⟨bb, off + k * 10 + 3, none⟩ = some (.int .u64 q.c2) := ((below1 W _).cell (p := ⟨bb, off + k * 10 + 3, none⟩) hbb).trans e3
  have e4_5 : (W.alloc (.cells #[.int .i64 0, .int .u64 0, .int .u64 0, .int .u64 0, .int .u64 0, .int .i64 0, .int .i64 0, .int .i64 0, .int .i64 0, .bool false] 43)).cell? ⟨bb, off + k * 10 + 4, none⟩ = some (.int .u64 q.c3) := ((below1 W _).cell (p := ⟨bb, off + k * 10 + 4, none⟩) hbb).trans e4
  have e5_5 : (W.alloc (.cells #[.int .i64 0, .int .u64 0, .int .u64 0, .int .u64 0, .int .u64 0, .int .i64 0, .int .i64 0, .int .i64 0, .int .i64 0, .bool false] 43)).cell? ⟨bb, off + k * 10 + 5, none⟩ = some (.int .i64 (ia : Nat)) := ((below1 W _).cell (p := ⟨bb, off + k * 10 + 5, none⟩) hbb).trans e5
  have e6_5 : (W.alloc (.cells #[.int .i64 0, .int .u64 0, .int .u64 0, .int .u64 0, .int .u64 0, .int .i64 0, .int .i64 0, .int .i64 0, .int .i64 0, .bool false] 43)).cell? ⟨bb, off + k * 10 + 6, none⟩ = some (.int .i64 (ib : Nat)) := ((below1 W _).cell (p := ⟨bb, off + k * 10 + 6, none⟩) hbb).trans e6
  have e7_5 : (W.alloc (.cells #[.int .i64 0, .int .u64 0, .int .u64 0, .int .u64 0, .int .u64 0, .int .i64 0, .int .i64 0, .int .i64 0, .int .i64 0, .bool false] 43)).cell? ⟨bb, off + k * 10 + 7, none⟩ = some (.int .i64 q.l) := ((below1 W _).cell (p := ⟨bb, off + k * 10 + 7, none⟩) hbb).trans e7
  have e8_5 : (W.alloc (.cells #[.int .i64 0, .int .u64 0, .int .u64 0, .int .u64 0, .int .u64 0, .int .i64 0, .int .i64 0, .int .i64 0, .int .i64 0, .bool false] 43)).cell? ⟨bb, off + k * 10 + 8, none⟩ = some (.int .i64 q.m) := ((below1 W _).cell (p := ⟨bb, off + k * 10 + 8, none⟩) hbb).trans e8
  have e9_5 : (W.alloc (.cells #[.int .i64 0, .int .u64 0, .int .u64 0, .int .u64 0, .int .u64 0, .int .i64 0, .int .i64 0, .int .i64 0, .int .i64 0, .bool false] 43)).cell? ⟨bb, off + k * 10 + 9, none⟩ = some (.bool q.z) := ((below1 W _).cell (p := ⟨bb, off + k * 10 + 9, none⟩) hbb).trans e9
  have e0_6 : (W.alloc (.cells #[.bool h, .bool d] 86)).cell? ⟨bb, off + k * 10, none⟩ = some (.int .i64 3) := ((below1 W _).cell (p := ⟨bb, off + k * 10, none⟩) hbb).trans e0
  have e1_6 : (W.alloc (.cells #[.bool h, .bool d] 86)).cell? ⟨bb, off + k * 10 + 1, none⟩ = some (.int .u64 q.c0) := ((below1 W _).cell (p := ⟨bb, off + k * 10 + 1, none⟩) hbb).trans e1
  have e2_6 : (W.alloc (.cells #[.bool h, .bool d] 86)).cell? ⟨bb, off + k * 10 + 2, none⟩ = some (.int .u64 q.c1) := ((below1 W _).cell (p := ⟨bb, off + k * 10 + 2, none⟩) hbb).trans e2
  have e3_6 : (W.alloc (.cells #[.bool h, .bool d] 86)).cell? ⟨bb, off + k * 10 + 3, none⟩ = some (.int .u64 q.c2) := ((below1 W _).cell (p := ⟨bb, off + k * 10 + 3, none⟩) hbb).trans e3
  have e4_6 : (W.alloc (.cells #[.bool h, .bool d] 86)).cell? ⟨bb, off + k * 10 + 4, none⟩ = some (.int .u64 q.c3) := ((below1 W _).cell (p := ⟨bb, off + k * 10 + 4, none⟩) hbb).trans e4
  have e5_6 : (W.alloc (.cells #[.bool h, .bool d] 86)).cell? ⟨bb, off + k * 10 + 5, none⟩ = some (.int .i64 (ia : Nat)) := ((below1 W _).cell (p := ⟨bb, off + k * 10 + 5, none⟩) hbb).trans e5
  have e6_6 : (W.alloc (.cells #[.bool h, .bool d] 86)).cell? ⟨bb, off + k * 10 + 6, none⟩ = some (.int .i64 (ib : Nat)) := ((below1 W _).cell (p := ⟨bb, off + k * 10 + 6, none⟩) hbb).trans e6
  have e7_6 : (W.alloc (.cells #[.bool h, .bool d] 86)).cell? ⟨bb, off + k * 10 + 7, none⟩ = some (.int .i64 q.l) := ((below1 W _).cell (p := ⟨bb, off + k * 10 + 7, none⟩) hbb).trans e7
  have e8_6 : (W.alloc (.cells #[.bool h, .bool d] 86)).cell? ⟨bb, off + k * 10 + 8, none⟩ = some (.int .i64 q.m) := ((below1 W _).cell (p := ⟨bb, off + k * 10 + 8, none⟩) hbb).trans e8
  have e9_6 : (W.alloc (.cells #[.bool h, .bool d] 86)).cell? ⟨bb, off + k * 10 + 9, none⟩ = some (.bool q.z) := ((below1 W _).cell (p := ⟨bb, off + k * 10 + 9, none⟩) hbb).trans e9
  have w0_0 : ((W.alloc (.cells #[.bool false, .bool false] 86)).alloc (.cells #[.int .i64 0, .int .u64 0, .int .u64 0, .int .u64 0, .int .u64 0, .int .i64 0, .int .i64 0, .int .i64 0, .int .i64 0, .bool false] 43)).cell? ⟨N, k * 2, none⟩ = some (.bool h) := ((below2 W _ _).cell (p := ⟨N, k * 2, none⟩) hNN).trans w0
  have w1_0 : ((W.alloc (.cells #[.bool false, .bool false] 86)).alloc (.cells #[.int .i64 0, .int .u64 0, .int .u64 0, .int .u64 0, .int .u64 0, .int .i64 0, .int .i64 0, .int .i64 0, .int .i64 0, .bool false] 43)).cell? ⟨N, k * 2 + 1, none⟩ = some (.bool d) := ((below2 W _ _).cell (p := ⟨N, k * 2 + 1, none⟩) hNN).trans w1
  have w0_1 : ((W.alloc (.cells #[.int .i64 0, .int .u64 0, .int .u64 0, .int .u64 0, .int .u64 0, .int .i64 0, .int .i64 0, .int .i64 0, .int .i64 0, .bool false] 43)).alloc (.cells #[.bool false, .bool false] 86)).cell? ⟨N, k * 2, none⟩ = some (.bool h) := ((below2 W _ _).cell (p := ⟨N, k * 2, none⟩) hNN).trans w0
  have w1_1 : ((W.alloc (.cells #[.int .i64 0, .int .u64 0, .int .u64 0, .int .u64 0, .int .u64 0, .int .i64 0, .int .i64 0, .int .i64 0, .int .i64 0, .bool false] 43)).alloc (.cells #[.bool false, .bool false] 86)).cell? ⟨N, k * 2 + 1, none⟩ = some (.bool d) := ((below2 W _ _).cell (p := ⟨N, k * 2 + 1, none⟩) hNN).trans w1
  have w0_2 : ((W.alloc (.cells #[.bool false, .bool false] 86)).alloc (.cells #[.int .i64 3, .int .u64 q.c0, .int .u64 q.c1, .int .u64 q.c2, .int .u64 q.c3, .int .i64 (ia : Nat), .int .i64 (ib : Nat), .int .i64 q.l, .int .i64 q.m, .bool q.z] 43)).cell? ⟨N, k * 2, none⟩ = some (.bool h) := ((below2 W _ _).cell (p := ⟨N, k * 2, none⟩) hNN).trans w0
  have w1_2 : ((W.alloc (.cells #[.bool false, .bool false] 86)).alloc (.cells #[.int .i64 3, .int .u64 q.c0, .int .u64 q.c1, .int .u64 q.c2, .int .u64 q.c3, .int .i64 (ia : Nat), .int .i64 (ib : Nat), .int .i64 q.l, .int .i64 q.m, .bool q.z] 43)).cell? ⟨N, k * 2 + 1, none⟩ = some (.bool d) := ((below2 W _ _).cell (p := ⟨N, k * 2 + 1, none⟩) hNN).trans w1
  have w0_3 : ((W.alloc (.cells #[.int .i64 3, .int .u64 q.c0, .int .u64 q.c1, .int .u64 q.c2, .int .u64 q.c3, .int .i64 (ia : Nat), .int .i64 (ib : Nat), .int .i64 q.l, .int .i64 q.m, .bool q.z] 43)).alloc (.cells #[.bool false, .bool false] 86)).cell? ⟨N, k * 2, none⟩ = some (.bool h) := ((below2 W _ _).cell (p := ⟨N, k * 2, none⟩) hNN).trans w0
  have w1_3 : ((W.alloc (.cells #[.int .i64 3, .int .u64 q.c0, .int .u64 q.c1, .int .u64 q.c2, .int .u64 q.c3, .int .i64 (ia : Nat), .int .i64 (ib : Nat), .int .i64 q.l, .int .i64 q.m, .bool q.z] 43)).alloc (.cells #[.bool false, .bool false] 86)).cell? ⟨N, k * 2 + 1, none⟩ = some (.bool d) := ((below2 W _ _).cell (p := ⟨N, k * 2 + 1, none⟩) hNN).trans w1
  have w0_4 : (W.alloc (.cells #[.bool false, .bool false] 86)).cell? ⟨N, k * 2, none⟩ = some (.bool h) := ((below1 W _).cell (p := ⟨N, k * 2, none⟩) hNN).trans w0
  have w1_4 : (W.alloc (.cells #[.bool false, .bool false] 86)).cell? ⟨N, k * 2 + 1, none⟩ = some (.bool d) := ((below1 W _).cell (p := ⟨N, k * 2 + 1, none⟩) hNN).trans w1
  have w0_5 : (W.alloc (.cells #[.int .i64 0, .int .u64 0, .int .u64 0, .int .u64 0, .int .u64 0, .int .i64 0, .int .i64 0, .int .i64 0, .int .i64 0, .bool false] 43)).cell? ⟨N, k * 2, none⟩ = some (.bool h) := ((below1 W _).cell (p := ⟨N, k * 2, none⟩) hNN).trans w0
  have w1_5 : (W.alloc (.cells #[.int .i64 0, .int .u64 0, .int .u64 0, .int .u64 0, .int .u64 0, .int .i64 0, .int .i64 0, .int .i64 0, .int .i64 0, .bool false] 43)).cell? ⟨N, k * 2 + 1, none⟩ = some (.bool d) := ((below1 W _).cell (p := ⟨N, k * 2 + 1, none⟩) hNN).trans w1
  have w0_6 : (W.alloc (.cells #[.int .i64 3, .int .u64 q.c0, .int .u64 q.c1, .int .u64 q.c2, .int .u64 q.c3, .int .i64 (ia : Nat), .int .i64 (ib : Nat), .int .i64 q.l, .int .i64 q.m, .bool q.z] 43)).cell? ⟨N, k * 2, none⟩ = some (.bool h) := ((below1 W _).cell (p := ⟨N, k * 2, none⟩) hNN).trans w0
  have w1_6 : (W.alloc (.cells #[.int .i64 3, .int .u64 q.c0, .int .u64 q.c1, .int .u64 q.c2, .int .u64 q.c3, .int .i64 (ia : Nat), .int .i64 (ib : Nat), .int .i64 q.l, .int .i64 q.m, .bool q.z] 43)).cell? ⟨N, k * 2 + 1, none⟩ = some (.bool d) := ((below1 W _).cell (p := ⟨N, k * 2 + 1, none⟩) hNN).trans w1
  unfold fr52
  conv => arg 2; whnf
  go_wp2_with fail
  go_region
  · have kL : Cl (((W.alloc (.cells #[.int .i64 3, .int .u64 q.c0, .int .u64 q.c1, .int .u64 q.c2, .int .u64 q.c3, .int .i64 (ia : Nat), .int .i64 (ib : Nat), .int .i64 q.l, .int .i64 q.m, .bool q.z] 43)).alloc (.cells #[.bool h, .bool d] 86)).drew) N 86 (bws f n) := ((hL.alloc (.cells #[.int .i64 3, .int .u64 q.c0, .int .u64 q.c1, .int .u64 q.c2, .int .u64 q.c3, .int .i64 (ia : Nat), .int .i64 (ib : Nat), .int .i64 q.l, .int .i64 q.m, .bool q.z] 43)).alloc (.cells #[.bool h, .bool d] 86)).drew
    have hBB : Below W.heap.size W (((W.alloc (.cells #[.int .i64 3, .int .u64 q.c0, .int .u64 q.c1, .int .u64 q.c2, .int .u64 q.c3, .int .i64 (ia : Nat), .int .i64 (ib : Nat), .int .i64 q.l, .int .i64 q.m, .bool q.z] 43)).alloc (.cells #[.bool h, .bool d] 86)).drew) := (below2 W (.cells #[.int .i64 3, .int .u64 q.c0, .int .u64 q.c1, .int .u64 q.c2, .int .u64 q.c3, .int .i64 (ia : Nat), .int .i64 (ib : Nat), .int .i64 q.l, .int .i64 q.m, .bool q.z] 43) (.cells #[.bool h, .bool d] 86)).drew
    have kf : Cl (((W.alloc (.cells #[.int .i64 3, .int .u64 q.c0, .int .u64 q.c1, .int .u64 q.c2, .int .u64 q.c3, .int .i64 (ia : Nat), .int .i64 (ib : Nat), .int .i64 q.l, .int .i64 q.m, .bool q.z] 43)).alloc (.cells #[.bool h, .bool d] 86)).drew) W.heap.size 43 [.int .i64 3, .int .u64 q.c0, .int .u64 q.c1, .int .u64 q.c2, .int .u64 q.c3, .int .i64 (ia : Nat), .int .i64 (ib : Nat), .int .i64 q.l, .int .i64 q.m, .bool q.z] := ((Cl.new W 43 [.int .i64 3, .int .u64 q.c0, .int .u64 q.c1, .int .u64 q.c2, .int .u64 q.c3, .int .i64 (ia : Nat), .int .i64 (ib : Nat), .int .i64 q.l, .int .i64 q.m, .bool q.z]).alloc (.cells #[.bool h, .bool d] 86)).drew
    have ks : Cl (((W.alloc (.cells #[.int .i64 3, .int .u64 q.c0, .int .u64 q.c1, .int .u64 q.c2, .int .u64 q.c3, .int .i64 (ia : Nat), .int .i64 (ib : Nat), .int .i64 q.l, .int .i64 q.m, .bool q.z] 43)).alloc (.cells #[.bool h, .bool d] 86)).drew) (W.heap.size + 1) 86 [.bool h, .bool d] := by
      have := (Cl.new (W.alloc (.cells #[.int .i64 3, .int .u64 q.c0, .int .u64 q.c1, .int .u64 q.c2, .int .u64 q.c3, .int .i64 (ia : Nat), .int .i64 (ib : Nat), .int .i64 q.l, .int .i64 q.m, .bool q.z] 43)) 86 [.bool h, .bool d]).drew
      simpa only [World.size_alloc] using this
    clear e0_0 e0_1 e0_2 e0_3 e0_4 e0_5 e0_6 e1_0 e1_1 e1_2 e1_3 e1_4 e1_5 e1_6 e2_0 e2_1 e2_2 e2_3 e2_4 e2_5 e2_6 e3_0 e3_1 e3_2 e3_3 e3_4 e3_5 e3_6 e4_0 e4_1 e4_2 e4_3 e4_4 e4_5 e4_6 e5_0 e5_1 e5_2 e5_3 e5_4 e5_5 e5_6 e6_0 e6_1 e6_2 e6_3 e6_4 e6_5 e6_6 e7_0 e7_1 e7_2 e7_3 e7_4 e7_5 e7_6 e8_0 e8_1 e8_2 e8_3 e8_4 e8_5 e8_6 e9_0 e9_1 e9_2 e9_3 e9_4 e9_5 e9_6 e0 e1 e2 e3 e4 e5 e6 e7 e8 e9 w0 w1 w0_0 w0_1 w0_2 w0_3 w0_4 w0_5 w0_6 w1_0 w1_1 w1_2 w1_3 w1_4 w1_5 w1_6 hbb
    have t0 := kf.cell 0 rfl
    have t5 := kf.cell 5 rfl
    have t6 := kf.cell 6 rfl
    have y0 := ks.cell 0 rfl
    have y1 := ks.cell 1 rfl
    generalize hVV : ((W.alloc (.cells #[.int .i64 3, .int .u64 q.c0, .int .u64 q.c1, .int .u64 q.c2, .int .u64 q.c3, .int .i64 (ia : Nat), .int .i64 (ib : Nat), .int .i64 q.l, .int .i64 q.m, .bool q.z] 43)).alloc (.cells #[.bool h, .bool d] 86)).drew = VV at *
    clear hVV
    have z0 := kL.cell (ia * 2) (bws_get0 f hia)
    have z1 := kL.cell (ia * 2 + 1) (bws_get1 f hia)
    have z2 := kL.cell (ib * 2) (bws_get0 f hib)
    have z3 := kL.cell (ib * 2 + 1) (bws_get1 f hib)
    have fz0 := kL.frozen (ia * 2)
    have fz1 := kL.frozen (ia * 2 + 1)
    have fz2 := kL.frozen (ib * 2)
    have fz3 := kL.frozen (ib * 2 + 1)
    have kM := kL.set (ia * 2) (.bool h)
    rw [bws_set0 f n ia h hia] at kM
    have z5 := kM.cell (ib * 2 + 1) (bws_get1 _ hib)
    have fz5 := kM.frozen (ib * 2 + 1)
    have kO := kM.set (ib * 2 + 1) (.bool d)
    rw [bws_set1 _ n ib d hib, updB_ne _ _ hne] at kO
    go_wp2_with fail
    go_region
    clear t0 t5 t6 y0 y1 z0 z1 z2 z3 fz0 fz1 fz2 fz3 z5 fz5 kM kf ks
    have hbo : Below N W (((VV.setCell ⟨N, ia * 2, none⟩ (.bool h)).setCell ⟨N, ib * 2 + 1, none⟩ (.bool d))) := ((hBB.mono (Nat.le_of_lt hNN)).setCell (p := ⟨N, ia * 2, none⟩) (Nat.le_refl _) _).setCell (p := ⟨N, ib * 2 + 1, none⟩) (Nat.le_refl _) _
    go_wp2_with fail
    go_step3
    exact hK.out _ _ (Fr52.of _ rfl) kO.drew hbo.drew
  · have kL : Cl (((W.alloc (.cells #[.bool h, .bool d] 86)).alloc (.cells #[.int .i64 3, .int .u64 q.c0, .int .u64 q.c1, .int .u64 q.c2, .int .u64 q.c3, .int .i64 (ia : Nat), .int .i64 (ib : Nat), .int .i64 q.l, .int .i64 q.m, .bool q.z] 43)).drew) N 86 (bws f n) := ((hL.alloc (.cells #[.bool h, .bool d] 86)).alloc (.cells #[.int .i64 3, .int .u64 q.c0, .int .u64 q.c1, .int .u64 q.c2, .int .u64 q.c3, .int .i64 (ia : Nat), .int .i64 (ib : Nat), .int .i64 q.l, .int .i64 q.m, .bool q.z] 43)).drew
    have hBB : Below W.heap.size W (((W.alloc (.cells #[.bool h, .bool d] 86)).alloc (.cells #[.int .i64 3, .int .u64 q.c0, .int .u64 q.c1, .int .u64 q.c2, .int .u64 q.c3, .int .i64 (ia : Nat), .int .i64 (ib : Nat), .int .i64 q.l, .int .i64 q.m, .bool q.z] 43)).drew) := (below2 W (.cells #[.bool h, .bool d] 86) (.cells #[.int .i64 3, .int .u64 q.c0, .int .u64 q.c1, .int .u64 q.c2, .int .u64 q.c3, .int .i64 (ia : Nat), .int .i64 (ib : Nat), .int .i64 q.l, .int .i64 q.m, .bool q.z] 43)).drew
    have kf : Cl (((W.alloc (.cells #[.bool h, .bool d] 86)).alloc (.cells #[.int .i64 3, .int .u64 q.c0, .int .u64 q.c1, .int .u64 q.c2, .int .u64 q.c3, .int .i64 (ia : Nat), .int .i64 (ib : Nat), .int .i64 q.l, .int .i64 q.m, .bool q.z] 43)).drew) W.heap.size 86 [.bool h, .bool d] := ((Cl.new W 86 [.bool h, .bool d]).alloc (.cells #[.int .i64 3, .int .u64 q.c0, .int .u64 q.c1, .int .u64 q.c2, .int .u64 q.c3, .int .i64 (ia : Nat), .int .i64 (ib : Nat), .int .i64 q.l, .int .i64 q.m, .bool q.z] 43)).drew
    have ks : Cl (((W.alloc (.cells #[.bool h, .bool d] 86)).alloc (.cells #[.int .i64 3, .int .u64 q.c0, .int .u64 q.c1, .int .u64 q.c2, .int .u64 q.c3, .int .i64 (ia : Nat), .int .i64 (ib : Nat), .int .i64 q.l, .int .i64 q.m, .bool q.z] 43)).drew) (W.heap.size + 1) 43 [.int .i64 3, .int .u64 q.c0, .int .u64 q.c1, .int .u64 q.c2, .int .u64 q.c3, .int .i64 (ia : Nat), .int .i64 (ib : Nat), .int .i64 q.l, .int .i64 q.m, .bool q.z] := by
      have := (Cl.new (W.alloc (.cells #[.bool h, .bool d] 86)) 43 [.int .i64 3, .int .u64 q.c0, .int .u64 q.c1, .int .u64 q.c2, .int .u64 q.c3, .int .i64 (ia : Nat), .int .i64 (ib : Nat), .int .i64 q.l, .int .i64 q.m, .bool q.z]).drew
      simpa only [World.size_alloc] using this
    clear e0_0 e0_1 e0_2 e0_3 e0_4 e0_5 e0_6 e1_0 e1_1 e1_2 e1_3 e1_4 e1_5 e1_6 e2_0 e2_1 e2_2 e2_3 e2_4 e2_5 e2_6 e3_0 e3_1 e3_2 e3_3 e3_4 e3_5 e3_6 e4_0 e4_1 e4_2 e4_3 e4_4 e4_5 e4_6 e5_0 e5_1 e5_2 e5_3 e5_4 e5_5 e5_6 e6_0 e6_1 e6_2 e6_3 e6_4 e6_5 e6_6 e7_0 e7_1 e7_2 e7_3 e7_4 e7_5 e7_6 e8_0 e8_1 e8_2 e8_3 e8_4 e8_5 e8_6 e9_0 e9_1 e9_2 e9_3 e9_4 e9_5 e9_6 e0 e1 e2 e3 e4 e5 e6 e7 e8 e9 w0 w1 w0_0 w0_1 w0_2 w0_3 w0_4 w0_5 w0_6 w1_0 w1_1 w1_2 w1_3 w1_4 w1_5 w1_6 hbb
    have t0 := ks.cell 0 rfl
    have t5 := ks.cell 5 rfl
    have t6 := ks.cell 6 rfl
    have y0 := kf.cell 0 rfl
    have y1 := kf.cell 1 rfl
    generalize hVV : ((W.alloc (.cells #[.bool h, .bool d] 86)).alloc (.cells #[.int .i64 3, .int .u64 q.c0, .int .u64 q.c1, .int .u64 q.c2, .int .u64 q.c3, .int .i64 (ia : Nat), .int .i64 (ib : Nat), .int .i64 q.l, .int .i64 q.m, .bool q.z] 43)).drew = VV at *
    clear hVV
    have z0 := kL.cell (ia * 2) (bws_get0 f hia)
    have z1 := kL.cell (ia * 2 + 1) (bws_get1 f hia)
    have z2 := kL.cell (ib * 2) (bws_get0 f hib)
    have z3 := kL.cell (ib * 2 + 1) (bws_get1 f hib)
    have fz0 := kL.frozen (ia * 2)
    have fz1 := kL.frozen (ia * 2 + 1)
    have fz2 := kL.frozen (ib * 2)
    have fz3 := kL.frozen (ib * 2 + 1)
    have kM := kL.set (ia * 2) (.bool h)
    rw [bws_set0 f n ia h hia] at kM
    have z5 := kM.cell (ib * 2 + 1) (bws_get1 _ hib)
    have fz5 := kM.frozen (ib * 2 + 1)
    have kO := kM.set (ib * 2 + 1) (.bool d)
    rw [bws_set1 _ n ib d hib, updB_ne _ _ hne] at kO
    go_wp2_with fail
    go_region
    clear t0 t5 t6 y0 y1 z0 z1 z2 z3 fz0 fz1 fz2 fz3 z5 fz5 kM kf ks
    have hbo : Below N W (((VV.setCell ⟨N, ia * 2, none⟩ (.bool h)).setCell ⟨N, ib * 2 + 1, none⟩ (.bool d))) := ((hBB.mono (Nat.le_of_lt hNN)).setCell (p := ⟨N, ia * 2, none⟩) (Nat.le_refl _) _).setCell (p := ⟨N, ib * 2 + 1, none⟩) (Nat.le_refl _) _
    go_wp2_with fail
    go_step3
    exact hK.out _ _ (Fr52.of _ rfl) kO.drew hbo.drew
end Go.Proofs.YtiiecppkabdkgabDoor
