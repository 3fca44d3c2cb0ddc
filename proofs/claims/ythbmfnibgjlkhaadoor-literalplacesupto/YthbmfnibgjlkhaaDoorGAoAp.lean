/- anchorsMay: its round where two are joined. anchorsMay: the walk. -/
import Derived.Test.YthbmfnibgjlkhaaDoorAm
import Derived.Test.YthbmfnibgjlkhaaDoorGAnAq
namespace Go.Proofs.YthbmfnibgjlkhaaDoor
open Go.RowKit
/-- Pairs of bools as cells. -/
def bws (f : Nat → Bool × Bool) : Nat → List Value
  | 0 => []
  | n + 1 => bws f n ++ [.bool (f n).1, .bool (f n).2]
def updB (f : Nat → Bool × Bool) (i : Nat) (v : Bool × Bool) : Nat → Bool × Bool := fun j => if j = i then v else f j
theorem bws_length (f : Nat → Bool × Bool) : ∀ n, (bws f n).length = n * 2
  | 0 => rfl
  | n + 1 => by rw [bws, List.length_append, bws_length f n]; simp; omega
theorem bws_get0 (f : Nat → Bool × Bool) : ∀ {n i : Nat}, i < n → (bws f n)[i * 2]? = some (.bool (f i).1)
  | 0, i, h => by omega
  | n + 1, i, h => by
    have hl := bws_length f n
    rw [bws]
    by_cases hi : i < n
    · rw [List.getElem?_append_left (by omega)]; exact bws_get0 f hi
    · have : i = n := by omega
      subst this
      rw [List.getElem?_append_right (by omega), hl, Nat.sub_self]; rfl
theorem bws_get1 (f : Nat → Bool × Bool) : ∀ {n i : Nat}, i < n → (bws f n)[i * 2 + 1]? = some (.bool (f i).2)
  | 0, i, h => by omega
  | n + 1, i, h => by
    have hl := bws_length f n
    rw [bws]
    by_cases hi : i < n
    · rw [List.getElem?_append_left (by omega)]; exact bws_get1 f hi
    · have : i = n := by omega
      subst this
      rw [List.getElem?_append_right (by omega), hl, show i * 2 + 1 - i * 2 = 1 by omega]; rfl
theorem bws_congr {f g : Nat → Bool × Bool} : ∀ {n : Nat}, (∀ i, i < n → f i = g i) → bws f n = bws g n
  | 0, _ => rfl
  | n + 1, h => by rw [bws, bws, bws_congr (fun i hi => h i (by omega)), h n (by omega)]
theorem bws_set0 (f : Nat → Bool × Bool) (n i : Nat) (b : Bool) (_hi : i < n) : (bws f n).set (i * 2) (.bool b) = bws (updB f i (b, (f i).2)) n := by
  apply List.ext_getElem?
  intro q
  by_cases hq : q < n * 2
  · have hd : q = q / 2 * 2 + q % 2 := by omega
    rw [List.getElem?_set]
    by_cases e : i * 2 = q
    · rw [if_pos e, bws_length, if_pos (by omega), ← e, bws_get0 _ (by omega)]
      simp [updB]
    · rw [if_neg e, hd]
      rcases Nat.mod_two_eq_zero_or_one q with h | h
      · rw [h, Nat.add_zero, bws_get0 _ (by omega), bws_get0 _ (by omega)]
        simp [updB, show ¬ q / 2 = i by omega]
      · rw [h, bws_get1 _ (by omega), bws_get1 _ (by omega)]
        by_cases e2 : q / 2 = i
        · simp [updB, e2]
        · simp [updB, e2]
  · rw [List.getElem?_eq_none (by simp [bws_length]; omega), List.getElem?_eq_none (by simp [bws_length]; omega)]
theorem bws_set1 (f : Nat → Bool × Bool) (n i : Nat) (b : Bool) (_hi : i < n) : (bws f n).set (i * 2 + 1) (.bool b) = bws (updB f i ((f i).1, b)) n := by
  apply List.ext_getElem?
  intro q
  by_cases hq : q < n * 2
  · have hd : q = q / 2 * 2 + q % 2 := by omega
    rw [List.getElem?_set]
    by_cases e : i * 2 + 1 = q
    · rw [if_pos e, bws_length, if_pos (by omega), ← e, bws_get1 _ (by omega)]
      simp [updB]
    · rw [if_neg e, hd]
      rcases Nat.mod_two_eq_zero_or_one q with h | h
      · rw [h, Nat.add_zero, bws_get0 _ (by omega), bws_get0 _ (by omega)]
        by_cases e2 : q / 2 = i
        · simp [updB, e2]
        · simp [updB, e2]
      · rw [h, bws_get1 _ (by omega), bws_get1 _ (by omega)]
        simp [updB, show ¬ q / 2 = i by omega]
  · rw [List.getElem?_eq_none (by simp [bws_length]; omega), List.getElem?_eq_none (by simp [bws_length]; omega)]
theorem updB_two (f : Nat → Bool × Bool) (i : Nat) (v v' : Bool × Bool) : updB (updB f i v) i v' = updB f i v' := by
  funext j; by_cases h : j = i <;> simp [updB, h]
theorem updB_at (f : Nat → Bool × Bool) (i : Nat) (v : Bool × Bool) : updB f i v i = v := by simp [updB]
theorem updB_ne (f : Nat → Bool × Bool) {i j : Nat} (v : Bool × Bool) (h : j ≠ i) : updB f i v j = f j := by simp [updB, h]
set_option maxRecDepth 20000 in
set_option maxHeartbeats 4000000 in
theorem am_alt {K : Nat → Act → World → Prop} {R : Ending → World → Prop} (bb off n cap N k ia ib : Nat) (u : Nat → Value) (q : Nd) (h d : Bool) (f : Nat → Bool × Bool) {W : World} (hbb : bb < W.heap.size) (hL : Cl W N 138 (bws f n)) (hkn : k < n) (hn : (n : Int) ≤ 2048) (hk : 0 < k) (hia : ia < n) (hib : ib < n) (_hne : ib ≠ ia) (e0 : W.cell? ⟨bb, off + k * 10, none⟩ = some (.int .i64 4)) (e1 : W.cell? ⟨bb, off + k * 10 + 1, none⟩ = some (.int .u64 q.c0)) (e2 : W.cell? ⟨bb, off + k * 10 + 2, none⟩ = some (.int .u64 q.c1)) (e3 : W.cell? ⟨bb, off + k * 10 + 3, none⟩ = some (.int .u64 q.c2)) (e4 : W.cell? ⟨bb, off + k * 10 + 4, none⟩ = some (.int .u64 q.c3)) (e5 : W.cell? ⟨bb, off + k * 10 + 5, none⟩ = some (.int .i64 (ia : Nat))) (e6 : W.cell? ⟨bb, off + k * 10 + 6, none⟩ = some (.int .i64 (ib : Nat))) (e7 : W.cell? ⟨bb, off + k * 10 + 7, none⟩ = some (.int .i64 q.l)) (e8 : W.cell? ⟨bb, off + k * 10 + 8, none⟩ = some (.int .i64 q.m)) (e9 : W.cell? ⟨bb, off + k * 10 + 9, none⟩ = some (.bool q.z)) (w0 : W.cell? ⟨N, k * 2, none⟩ = some (.bool h)) (w1 : W.cell? ⟨N, k * 2 + 1, none⟩ = some (.bool d))
    (hK : Hid (∀ tm W', Fr52 (some ⟨bb, off, none⟩) n cap N ((k : Int) - 1) tm → Cl W' N 138 (bws (updB (updB f ia (h, d)) ib (h, d)) n) → Below N W W' → K 0 ⟨tm, []⟩ W')) : Code.wp Tryd.prog (labelIn Tryd.f94 0) (jumps K (bodyPost Tryd.prog Tryd.f94 R)) ⟨fr52 (some ⟨bb, off, none⟩) n cap N k u, []⟩ W := by
  have hNN := hL.lt
  have hki : (k : Int) < (n : Int) := by omega
  have hk2 : (k : Int) > 0 := by omega
  have hai : (ia : Int) < (n : Int) := by omega
  have hbi : (ib : Int) < (n : Int) := by omega
  have e0_0 : ((W.alloc (.cells #[.bool false, .bool false] 138)).alloc (.cells #[.int .i64 0, .int .u64 0, .int .u64 0, .int .u64 0, .int .u64 0, .int .i64 0, .int .i64 0, .int .i64 0, .int .i64 0, .bool false] 82)).cell? ⟨bb, off + k * 10, none⟩ = some (.int .i64 4) := ((below2 W _ _).cell (p := ⟨bb, off + k * 10, none⟩) hbb).trans e0
  have e1_0 : ((W.alloc (.cells #[.bool false, .bool false] 138)).alloc (.cells #[.int .i64 0, .int .u64 0, .int .u64 0, .int .u64 0, .int .u64 0, .int .i64 0, .int .i64 0, .int .i64 0, .int .i64 0, .bool false] 82)).cell? ⟨bb, off + k * 10 + 1, none⟩ = some (.int .u64 q.c0) := ((below2 W _ _).cell (p := ⟨bb, off + k * 10 + 1, none⟩) hbb).trans e1
  have e2_0 : ((W.alloc (.cells #[.bool false, .bool false] 138)).alloc (.cells #[.int .i64 0, .int .u64 0, .int .u64 0, .int .u64 0, .int .u64 0, .int .i64 0, .int .i64 0, .int .i64 0, .int .i64 0, .bool false] 82)).cell? ⟨bb, off + k * 10 + 2, none⟩ = some (.int .u64 q.c1) := ((below2 W _ _).cell (p := ⟨bb, off + k * 10 + 2, none⟩) hbb).trans e2
  have e3_0 : ((W.alloc (.cells #[.bool false, .bool false] 138)).alloc (.cells #[.int .i64 0, .int .u64 0, .int .u64 0, .int .u64 0, .int .u64 0, .int .i64 0, .int .i64 0, .int .i64 0, .int .i64 0, .bool false] 82)).cell? ⟨bb, off + k * 10 + 3, none⟩ = some (.int .u64 q.c2) := ((below2 W _ _).cell (p := ⟨bb, off + k * 10 + 3, none⟩) hbb).trans e3
  have e4_0 : ((W.alloc (.cells #[.bool false, .bool false] 138)).alloc (.cells #[.int .i64 0, .int .u64 0, .int .u64 0, .int .u64 0, .int .u64 0, .int .i64 0, .int .i64 0, .int .i64 0, .int .i64 0, .bool false] 82)).cell? ⟨bb, off + k * 10 + 4, none⟩ = some (.int .u64 q.c3) := ((below2 W _ _).cell (p := ⟨bb, off + k * 10 + 4, none⟩) hbb).trans e4
  have e5_0 : ((W.alloc (.cells #[.bool false, .bool false] 138)).alloc (.cells #[.int .i64 0, .int .u64 0, .int .u64 0, .int .u64 0, .int .u64 0, .int .i64 0, .int .i64 0, .int .i64 0, .int .i64 0, .bool false] 82)).cell? ⟨bb, off + k * 10 + 5, none⟩ = some (.int .i64 (ia : Nat)) := ((below2 W _ _).cell (p := ⟨bb, off + k * 10 + 5, none⟩) hbb).trans e5
  have e6_0 : ((W.alloc (.cells #[.bool false, .bool false] 138)).alloc (.cells #[.int .i64 0, .int .u64 0, .int .u64 0, .int .u64 0, .int .u64 0, .int .i64 0, .int .i64 0, .int .i64 0, .int .i64 0, .bool false] 82)).cell? ⟨bb, off + k * 10 + 6, none⟩ = some (.int .i64 (ib : Nat)) := ((below2 W _ _).cell (p := ⟨bb, off + k * 10 + 6, none⟩) hbb).trans e6
  have e7_0 : ((W.alloc (.cells #[.bool false, .bool false] 138)).alloc (.cells #[.int .i64 0, .int .u64 0, .int .u64 0, .int .u64 0, .int .u64 0, .int .i64 0, .int .i64 0, .int .i64 0, .int .i64 0, .bool false] 82)).cell? ⟨bb, off + k * 10 + 7, none⟩ = some (.int .i64 q.l) := ((below2 W _ _).cell (p := ⟨bb, off + k * 10 + 7, none⟩) hbb).trans e7
  have e8_0 : ((W.alloc (.cells #[.bool false, .bool false] 138)).alloc (.cells #[.int .i64 0, .int .u64 0, .int .u64 0, .int .u64 0, .int .u64 0, .int .i64 0, .int .i64 0, .int .i64 0, .int .i64 0, .bool false] 82)).cell? ⟨bb, off + k * 10 + 8, none⟩ = some (.int .i64 q.m) := ((below2 W _ _).cell (p := ⟨bb, off + k * 10 + 8, none⟩) hbb).trans e8
  have e9_0 : ((W.alloc (.cells #[.bool false, .bool false] 138)).alloc (.cells #[.int .i64 0, .int .u64 0, .int .u64 0, .int .u64 0, .int .u64 0, .int .i64 0, .int .i64 0, .int .i64 0, .int .i64 0, .bool false] 82)).cell? ⟨bb, off + k * 10 + 9, none⟩ = some (.bool q.z) := ((below2 W _ _).cell (p := ⟨bb, off + k * 10 + 9, none⟩) hbb).trans e9
  have e0_1 : ((W.alloc (.cells #[.int .i64 0, .int .u64 0, .int .u64 0, .int .u64 0, .int .u64 0, .int .i64 0, .int .i64 0, .int .i64 0, .int .i64 0, .bool false] 82)).alloc (.cells #[.bool false, .bool false] 138)).cell? ⟨bb, off + k * 10, none⟩ = some (.int .i64 4) := ((below2 W _ _).cell (p := ⟨bb, off + k * 10, none⟩) hbb).trans e0
  have e1_1 : ((W.alloc (.cells #[.int .i64 0, .int .u64 0, .int .u64 0, .int .u64 0, .int .u64 0, .int .i64 0, .int .i64 0, .int .i64 0, .int .i64 0, .bool false] 82)).alloc (.cells #[.bool false, .bool false] 138)).cell? ⟨bb, off + k * 10 + 1, none⟩ = some (.int .u64 q.c0) := ((below2 W _ _).cell (p := ⟨bb, off + k * 10 + 1, none⟩) hbb).trans e1
  have e2_1 : ((W.alloc (.cells #[.int .i64 0, .int .u64 0, .int .u64 0, .int .u64 0, .int .u64 0, .int .i64 0, .int .i64 0, .int .i64 0, .int .i64 0, .bool false] 82)).alloc (.cells #[.bool false, .bool false] 138)).cell? ⟨bb, off + k * 10 + 2, none⟩ = some (.int .u64 q.c1) := ((below2 W _ _).cell (p := ⟨bb, off + k * 10 + 2, none⟩) hbb).trans e2
  have e3_1 : ((W.alloc (.cells #[.int .i64 0, .int .u64 0, .int .u64 0, .int .u64 0, .int .u64 0, .int .i64 0, .int .i64 0, .int .i64 0, .int .i64 0, .bool false] 82)).alloc (.cells #[.bool false, .bool false] 138)).cell? ⟨bb, off + k * 10 + 3, none⟩ = some (.int .u64 q.c2) := ((below2 W _ _).cell (p := ⟨bb, off + k * 10 + 3, none⟩) hbb).trans e3
  have e4_1 : ((W.alloc (.cells #[.int .i64 0, .int .u64 0, .int .u64 0, .int .u64 0, .int .u64 0, .int .i64 0, .int .i64 0, .int .i64 0, .int .i64 0, .bool false] 82)).alloc (.cells #[.bool false, .bool false] 138)).cell? ⟨bb, off + k * 10 + 4, none⟩ = some (.int .u64 q.c3) := ((below2 W _ _).cell (p := ⟨bb, off + k * 10 + 4, none⟩) hbb).trans e4
  have e5_1 : ((W.alloc (.cells #[.int .i64 0, .int .u64 0, .int .u64 0, .int .u64 0, .int .u64 0, .int .i64 0, .int .i64 0, .int .i64 0, .int .i64 0, .bool false] 82)).alloc (.cells #[.bool false, .bool false] 138)).cell? ⟨bb, off + k * 10 + 5, none⟩ = some (.int .i64 (ia : Nat)) := ((below2 W _ _).cell (p := ⟨bb, off + k * 10 + 5, none⟩) hbb).trans e5
  have e6_1 : ((W.alloc (.cells #[.int .i64 0, .int .u64 0, .int .u64 0, .int .u64 0, .int .u64 0, .int .i64 0, .int .i64 0, .int .i64 0, .int .i64 0, .bool false] 82)).alloc (.cells #[.bool false, .bool false] 138)).cell? ⟨bb, off + k * 10 + 6, none⟩ = some (.int .i64 (ib : Nat)) := ((below2 W _ _).cell (p := ⟨bb, off + k * 10 + 6, none⟩) hbb).trans e6
  have e7_1 : ((W.alloc (.cells #[.int .i64 0, .int .u64 0, .int .u64 0, .int .u64 0, .int .u64 0, .int .i64 0, .int .i64 0, .int .i64 0, .int .i64 0, .bool false] 82)).alloc (.cells #[.bool false, .bool false] 138)).cell? ⟨bb, off + k * 10 + 7, none⟩ = some (.int .i64 q.l) := ((below2 W _ _).cell (p := ⟨bb, off + k * 10 + 7, none⟩) hbb).trans e7
  have e8_1 : ((W.alloc (.cells #[.int .i64 0, .int .u64 0, .int .u64 0, .int .u64 0, .int .u64 0, .int .i64 0, .int .i64 0, .int .i64 0, .int .i64 0, .bool false] 82)).alloc (.cells #[.bool false, .bool false] 138)).cell? ⟨bb, off + k * 10 + 8, none⟩ = some (.int .i64 q.m) := ((below2 W _ _).cell (p := ⟨bb, off + k * 10 + 8, none⟩) hbb).trans e8
  have e9_1 : ((W.alloc (.cells #[.int .i64 0, .int .u64 0, .int .u64 0, .int .u64 0, .int .u64 0, .int .i64 0, .int .i64 0, .int .i64 0, .int .i64 0, .bool false] 82)).alloc (.cells #[.bool false, .bool false] 138)).cell? ⟨bb, off + k * 10 + 9, none⟩ = some (.bool q.z) := ((below2 W _ _).cell (p := ⟨bb, off + k * 10 + 9, none⟩) hbb).trans e9
  have e0_2 : ((W.alloc (.cells #[.bool h, .bool d] 138)).alloc (.cells #[.int .i64 0, .int .u64 0, .int .u64 0, .int .u64 0, .int .u64 0, .int .i64 0, .int .i64 0, .int .i64 0, .int .i64 0, .bool false] 82)).cell? ⟨bb, off + k * 10, none⟩ = some (.int .i64 4) := ((below2 W _ _).cell (p := ⟨bb, off + k * 10, none⟩) hbb).trans e0
  have e1_2 : ((W.alloc (.cells #[.bool h, .bool d] 138)).alloc (.cells #[.int .i64 0, .int .u64 0, .int .u64 0, .int .u64 0, .int .u64 0, .int .i64 0, .int .i64 0, .int .i64 0, .int .i64 0, .bool false] 82)).cell? ⟨bb, off + k * 10 + 1, none⟩ = some (.int .u64 q.c0) := ((below2 W _ _).cell (p := ⟨bb, off + k * 10 + 1, none⟩) hbb).trans e1
  have e2_2 : ((W.alloc (.cells #[.bool h, .bool d] 138)).alloc (.cells #[.int .i64 0, .int .u64 0, .int .u64 0, .int .u64 0, .int .u64 0, .int .i64 0, .int .i64 0, .int .i64 0, .int .i64 0, .bool false] 82)).cell? ⟨bb, off + k * 10 + 2, none⟩ = some (.int .u64 q.c1) := ((below2 W _ _).cell (p := ⟨bb, off + k * 10 + 2, none⟩) hbb).trans e2
  have e3_2 : ((W.alloc (.cells #[.bool h, .bool d] 138)).alloc (.cells #[.int .i64 0, .int .u64 0, .int .u64 0, .int .u64 0, .int .u64 0, .int .i64 0, .int .i64 0, .int .i64 0, .int .i64 0, .bool false] 82)).cell? ⟨bb, off + k * 10 + 3, none⟩ = some (.int .u64 q.c2) := ((below2 W _ _).cell (p := ⟨bb, off + k * 10 + 3, none⟩) hbb).trans e3
  have e4_2 : ((W.alloc (.cells #[.bool h, .bool d] 138)).alloc (.cells #[.int .i64 0, .int .u64 0, .int .u64 0, .int .u64 0, .int .u64 0, .int .i64 0, .int .i64 0, .int .i64 0, .int .i64 0, .bool false] 82)).cell? ⟨bb, off + k * 10 + 4, none⟩ = some (.int .u64 q.c3) := ((below2 W _ _).cell (p := ⟨bb, off + k * 10 + 4, none⟩) hbb).trans e4
  have e5_2 : ((W.alloc (.cells #[.bool h, .bool d] 138)).alloc (.cells #[.int .i64 0, .int .u64 0, .int .u64 0, .int .u64 0, .int .u64 0, .int .i64 0, .int .i64 0, .int .i64 0, .int .i64 0, .bool false] 82)).cell? ⟨bb, off + k * 10 + 5, none⟩ = some (.int .i64 (ia : Nat)) := ((below2 W _ _).cell (p := ⟨bb, off + k * 10 + 5, none⟩) hbb).trans e5
  have e6_2 : ((W.alloc (.cells #[.bool h, .bool d] 138)).alloc (.cells #[.int .i64 0, .int .u64 0, .int .u64 0, .int .u64 0, .int .u64 0, .int .i64 0, .int .i64 0, .int .i64 0, .int .i64 0, .bool false] 82)).cell? ⟨bb, off + k * 10 + 6, none⟩ = some (.int .i64 (ib : Nat)) := ((below2 W _ _).cell (p := ⟨bb, off + k * 10 + 6, none⟩) hbb).trans e6
  have e7_2 : ((W.alloc (.cells #[.bool h, .bool d] 138)).alloc (.cells #[.int .i64 0, .int .u64 0, .int .u64 0, .int .u64 0, .int .u64 0, .int .i64 0, .int .i64 0, .int .i64 0, .int .i64 0, .bool false] 82)).cell? ⟨bb, off + k * 10 + 7, none⟩ = some (.int .i64 q.l) := ((below2 W _ _).cell (p := ⟨bb, off + k * 10 + 7, none⟩) hbb).trans e7
  have e8_2 : ((W.alloc (.cells #[.bool h, .bool d] 138)).alloc (.cells #[.int .i64 0, .int .u64 0, .int .u64 0, .int .u64 0, .int .u64 0, .int .i64 0, .int .i64 0, .int .i64 0, .int .i64 0, .bool false] 82)).cell? ⟨bb, off + k * 10 + 8, none⟩ = some (.int .i64 q.m) := ((below2 W _ _).cell (p := ⟨bb, off + k * 10 + 8, none⟩) hbb).trans e8
  have e9_2 : ((W.alloc (.cells #[.bool h, .bool d] 138)).alloc (.cells #[.int .i64 0, .int .u64 0, .int .u64 0, .int .u64 0, .int .u64 0, .int .i64 0, .int .i64 0, .int .i64 0, .int .i64 0, .bool false] 82)).cell? ⟨bb, off + k * 10 + 9, none⟩ = some (.bool q.z) := ((below2 W _ _).cell (p := ⟨bb, off + k * 10 + 9, none⟩) hbb).trans e9
  have e0_3 : ((W.alloc (.cells #[.int .i64 0, .int .u64 0, .int .u64 0, .int .u64 0, .int .u64 0, .int .i64 0, .int .i64 0, .int .i64 0, .int .i64 0, .bool false] 82)).alloc (.cells #[.bool h, .bool d] 138)).cell? ⟨bb, off + k * 10, none⟩ = some (.int .i64 4) := ((below2 W _ _).cell (p := ⟨bb, off + k * 10, none⟩) hbb).trans e0
  have e1_3 : ((W.alloc (.cells #[.int .i64 0, .int .u64 0, .int .u64 0, .int .u64 0, .int .u64 0, .int .i64 0, .int .i64 0, .int .i64 0, .int .i64 0, .bool false] 82)).alloc (.cells #[.bool h, .bool d] 138)).cell? ⟨bb, off + k * 10 + 1, none⟩ = some (.int .u64 q.c0) := ((below2 W _ _).cell (p := ⟨bb, off + k * 10 + 1, none⟩) hbb).trans e1
  have e2_3 : ((W.alloc (.cells #[.int .i64 0, .int .u64 0, .int .u64 0, .int .u64 0, .int .u64 0, .int .i64 0, .int .i64 0, .int .i64 0, .int .i64 0, .bool false] 82)).alloc (.cells #[.bool h, .bool d] 138)).cell? ⟨bb, off + k * 10 + 2, none⟩ = some (.int .u64 q.c1) := ((below2 W _ _).cell (p := ⟨bb, off + k * 10 + 2, none⟩) hbb).trans e2
  have e3_3 : ((W.alloc (.cells #[.int .i64 0, .int .u64 0, .int .u64 0, .int .u64 0, .int .u64 0, .int .i64 0, .int .i64 0, .int .i64 0, .int .i64 0, .bool false] 82)).alloc (.cells #[.bool h, .bool d] 138)).cell? ⟨bb, off + k * 10 + 3, none⟩ = some (.int .u64 q.c2) := ((below2 W _ _).cell (p := ⟨bb, off + k * 10 + 3, none⟩) hbb).trans e3
  have e4_3 : ((W.alloc (.cells #[.int .i64 0, .int .u64 0, .int .u64 0, .int .u64 0, .int .u64 0, .int .i64 0, .int .i64 0, .int .i64 0, .int .i64 0, .bool false] 82)).alloc (.cells #[.bool h, .bool d] 138)).cell? ⟨bb, off + k * 10 + 4, none⟩ = some (.int .u64 q.c3) := ((below2 W _ _).cell (p := ⟨bb, off + k * 10 + 4, none⟩) hbb).trans e4
  have e5_3 : ((W.alloc (.cells #[.int .i64 0, .int .u64 0, .int .u64 0, .int .u64 0, .int .u64 0, .int .i64 0, .int .i64 0, .int .i64 0, .int .i64 0, .bool false] 82)).alloc (.cells #[.bool h, .bool d] 138)).cell? ⟨bb, off + k * 10 + 5, none⟩ = some (.int .i64 (ia : Nat)) := ((below2 W _ _).cell (p := ⟨bb, off + k * 10 + 5, none⟩) hbb).trans e5
  have e6_3 : ((W.alloc (.cells #[.int .i64 0, .int .u64 0, .int .u64 0, .int .u64 0, .int .u64 0, .int .i64 0, .int .i64 0, .int .i64 0, .int .i64 0, .bool false] 82)).alloc (.cells #[.bool h, .bool d] 138)).cell? ⟨bb, off + k * 10 + 6, none⟩ = some (.int .i64 (ib : Nat)) := ((below2 W _ _).cell (p := ⟨bb, off + k * 10 + 6, none⟩) hbb).trans e6
  have e7_3 : ((W.alloc (.cells #[.int .i64 0, .int .u64 0, .int .u64 0, .int .u64 0, .int .u64 0, .int .i64 0, .int .i64 0, .int .i64 0, .int .i64 0, .bool false] 82)).alloc (.cells #[.bool h, .bool d] 138)).cell? ⟨bb, off + k * 10 + 7, none⟩ = some (.int .i64 q.l) := ((below2 W _ _).cell (p := ⟨bb, off + k * 10 + 7, none⟩) hbb).trans e7
  have e8_3 : ((W.alloc (.cells #[.int .i64 0, .int .u64 0, .int .u64 0, .int .u64 0, .int .u64 0, .int .i64 0, .int .i64 0, .int .i64 0, .int .i64 0, .bool false] 82)).alloc (.cells #[.bool h, .bool d] 138)).cell? ⟨bb, off + k * 10 + 8, none⟩ = some (.int .i64 q.m) := ((below2 W _ _).cell (p := ⟨bb, off + k * 10 + 8, none⟩) hbb).trans e8
  have e9_3 : ((W.alloc (.cells #[.int .i64 0, .int .u64 0, .int .u64 0, .int .u64 0, .int .u64 0, .int .i64 0, .int .i64 0, .int .i64 0, .int .i64 0, .bool false] 82)).alloc (.cells #[.bool h, .bool d] 138)).cell? ⟨bb, off + k * 10 + 9, none⟩ = some (.bool q.z) := ((below2 W _ _).cell (p := ⟨bb, off + k * 10 + 9, none⟩) hbb).trans e9
  have e0_4 : (W.alloc (.cells #[.bool false, .bool false] 138)).cell? ⟨bb, off + k * 10, none⟩ = some (.int .i64 4) := ((below1 W _).cell (p := ⟨bb, off + k * 10, none⟩) hbb).trans e0
  have e1_4 : (W.alloc (.cells #[.bool false, .bool false] 138)).cell? ⟨bb, off + k * 10 + 1, none⟩ = some (.int .u64 q.c0) := ((below1 W _).cell (p := ⟨bb, off + k * 10 + 1, none⟩) hbb).trans e1
  have e2_4 : (W.alloc (.cells #[.bool false, .bool false] 138)).cell? ⟨bb, off + k * 10 + 2, none⟩ = some (.int .u64 q.c1) := ((below1 W _).cell (p := ⟨bb, off + k * 10 + 2, none⟩) hbb).trans e2
  have e3_4 : (W.alloc (.cells #[.bool false, .bool false] 138)).cell? ⟨bb, off + k * 10 + 3, none⟩ = some (.int .u64 q.c2) := ((below1 W _).cell (p := ⟨bb, off + k * 10 + 3, none⟩) hbb).trans e3
  have e4_4 : (W.alloc (.cells #[.bool false, .bool false] 138)).cell? ⟨bb, off + k * 10 + 4, none⟩ = some (.int .u64 q.c3) := ((below1 W _).cell (p := ⟨bb, off + k * 10 + 4, none⟩) hbb).trans e4
  have e5_4 : (W.alloc (.cells #[.bool false, .bool false] 138)).cell? ⟨bb, off + k * 10 + 5, none⟩ = some (.int .i64 (ia : Nat)) := ((below1 W _).cell (p := ⟨bb, off + k * 10 + 5, none⟩) hbb).trans e5
  have e6_4 : (W.alloc (.cells #[.bool false, .bool false] 138)).cell? ⟨bb, off + k * 10 + 6, none⟩ = some (.int .i64 (ib : Nat)) := ((below1 W _).cell (p := ⟨bb, off + k * 10 + 6, none⟩) hbb).trans e6
  have e7_4 : (W.alloc (.cells #[.bool false, .bool false] 138)).cell? ⟨bb, off + k * 10 + 7, none⟩ = some (.int .i64 q.l) := ((below1 W _).cell (p := ⟨bb, off + k * 10 + 7, none⟩) hbb).trans e7
  have e8_4 : (W.alloc (.cells #[.bool false, .bool false] 138)).cell? ⟨bb, off + k * 10 + 8, none⟩ = some (.int .i64 q.m) := ((below1 W _).cell (p := ⟨bb, off + k * 10 + 8, none⟩) hbb).trans e8
  have e9_4 : (W.alloc (.cells #[.bool false, .bool false] 138)).cell? ⟨bb, off + k * 10 + 9, none⟩ = some (.bool q.z) := ((below1 W _).cell (p := ⟨bb, off + k * 10 + 9, none⟩) hbb).trans e9
  have e0_5 : (W.alloc (.cells #[.int .i64 0, .int .u64 0, .int .u64 0, .int .u64 0, .int .u64 0, .int .i64 0, .int .i64 0, .int .i64 0, .int .i64 0, .bool false] 82)).cell? ⟨bb, off + k * 10, none⟩ = some (.int .i64 4) := ((below1 W _).cell (p := ⟨bb, off + k * 10, none⟩) hbb).trans e0
  have e1_5 : (W.alloc (.cells #[.int .i64 0, .int .u64 0, .int .u64 0, .int .u64 0, .int .u64 0, .int .i64 0, .int .i64 0, .int .i64 0, .int .i64 0, .bool false] 82)).cell? ⟨bb, off + k * 10 + 1, none⟩ = some (.int .u64 q.c0) := ((below1 W _).cell (p := ⟨bb, off + k * 10 + 1, none⟩) hbb).trans e1
  have e2_5 : (W.alloc (.cells #[.int .i64 0, .int .u64 0, .int .u64 0, .int .u64 0, .int .u64 0, .int .i64 0, .int .i64 0, .int .i64 0, .int .i64 0, .bool false] 82)).cell? ⟨bb, off + k * 10 + 2, none⟩ = some (.int .u64 q.c1) := ((below1 W _).cell (p := ⟨bb, off + k * 10 + 2, none⟩) hbb).trans e2
  have e3_5 : (W.alloc (.cells #[.int .i64 0, .int .u64 0, .int .u64 0, .int .u64 0, .int .u64 0, .int .i64 0, .int .i64 0, .int .i64 0, .int .i64 0, .bool false] 82)).cell? ⟨bb, off + k * 10 + 3, none⟩ = some (.int .u64 q.c2) := ((below1 W _).cell (p := ⟨bb, off + k * 10 + 3, none⟩) hbb).trans e3
  have e4_5 : (W.alloc (.cells #[.int .i64 0, .int .u64 0, .int .u64 0, .int .u64 0, .int .u64 0, .int .i64 0, .int .i64 0, .int .i64 0, .int .i64 0, .bool false] 82)).cell? ⟨bb, off + k * 10 + 4, none⟩ = some (.int .u64 q.c3) := ((below1 W _).cell (p := ⟨bb, off + k * 10 + 4, none⟩) hbb).trans e4
  have e5_5 : (W.alloc (.cells #[.int .i64 0, .int .u64 0, .int .u64 0, .int .u64 0, .int .u64 0, .int .i64 0, .int .i64 0, .int .i64 0, .int .i64 0, .bool false] 82)).cell? ⟨bb, off + k * 10 + 5, none⟩ = some (.int .i64 (ia : Nat)) := ((below1 W _).cell (p := ⟨bb, off + k * 10 + 5, none⟩) hbb).trans e5
  have e6_5 : (W.alloc (.cells #[.int .i64 0, .int .u64 0, .int .u64 0, .int .u64 0, .int .u64 0, .int .i64 0, .int .i64 0, .int .i64 0, .int .i64 0, .bool false] 82)).cell? ⟨bb, off + k * 10 + 6, none⟩ = some (.int .i64 (ib : Nat)) := ((below1 W _).cell (p := ⟨bb, off + k * 10 + 6, none⟩) hbb).trans e6
  have e7_5 : (W.alloc (.cells #[.int .i64 0, .int .u64 0, .int .u64 0, .int .u64 0, .int .u64 0, .int .i64 0, .int .i64 0, .int .i64 0, .int .i64 0, .bool false] 82)).cell? ⟨bb, off + k * 10 + 7, none⟩ = some (.int .i64 q.l) := ((below1 W _).cell (p := ⟨bb, off + k * 10 + 7, none⟩) hbb).trans e7
  have e8_5 : (W.alloc (.cells #[.int .i64 0, .int .u64 0, .int .u64 0, .int .u64 0, .int .u64 0, .int .i64 0, .int .i64 0, .int .i64 0, .int .i64 0, .bool false] 82)).cell? ⟨bb, off + k * 10 + 8, none⟩ = some (.int .i64 q.m) := ((below1 W _).cell (p := ⟨bb, off + k * 10 + 8, none⟩) hbb).trans e8
  have e9_5 : (W.alloc (.cells #[.int .i64 0, .int .u64 0, .int .u64 0, .int .u64 0, .int .u64 0, .int .i64 0, .int .i64 0, .int .i64 0, .int .i64 0, .bool false] 82)).cell? ⟨bb, off + k * 10 + 9, none⟩ = some (.bool q.z) := ((below1 W _).cell (p := ⟨bb, off + k * 10 + 9, none⟩) hbb).trans e9
  have e0_6 : (W.alloc (.cells #[.bool h, .bool d] 138)).cell? ⟨bb, off + k * 10, none⟩ = some (.int .i64 4) := ((below1 W _).cell (p := ⟨bb, off + k * 10, none⟩) hbb).trans e0
  have e1_6 : (W.alloc (.cells #[.bool h, .bool d] 138)).cell? ⟨bb, off + k * 10 + 1, none⟩ = some (.int .u64 q.c0) := ((below1 W _).cell (p := ⟨bb, off + k * 10 + 1, none⟩) hbb).trans e1
  have e2_6 : (W.alloc (.cells #[.bool h, .bool d] 138)).cell? ⟨bb, off + k * 10 + 2, none⟩ = some (.int .u64 q.c1) := ((below1 W _).cell (p := ⟨bb, off + k * 10 + 2, none⟩) hbb).trans e2
  have e3_6 : (W.alloc (.cells #[.bool h, .bool d] 138)).cell? ⟨bb, off + k * 10 + 3, none⟩ = some (.int .u64 q.c2) := ((below1 W _).cell (p := ⟨bb, off + k * 10 + 3, none⟩) hbb).trans e3
  have e4_6 : (W.alloc (.cells #[.bool h, .bool d] 138)).cell? ⟨bb, off + k * 10 + 4, none⟩ = some (.int .u64 q.c3) := ((below1 W _).cell (p := ⟨bb, off + k * 10 + 4, none⟩) hbb).trans e4
  have e5_6 : (W.alloc (.cells #[.bool h, .bool d] 138)).cell? ⟨bb, off + k * 10 + 5, none⟩ = some (.int .i64 (ia : Nat)) := ((below1 W _).cell (p := ⟨bb, off + k * 10 + 5, none⟩) hbb).trans e5
  have e6_6 : (W.alloc (.cells #[.bool h, .bool d] 138)).cell? ⟨bb, off + k * 10 + 6, none⟩ = some (.int .i64 (ib : Nat)) := ((below1 W _).cell (p := ⟨bb, off + k * 10 + 6, none⟩) hbb).trans e6
  have e7_6 : (W.alloc (.cells #[.bool h, .bool d] 138)).cell? ⟨bb, off + k * 10 + 7, none⟩ = some (.int .i64 q.l) := ((below1 W _).cell (p := ⟨bb, off + k * 10 + 7, none⟩) hbb).trans e7
  have e8_6 : (W.alloc (.cells #[.bool h, .bool d] 138)).cell? ⟨bb, off + k * 10 + 8, none⟩ = some (.int .i64 q.m) := ((below1 W _).cell (p := ⟨bb, off + k * 10 + 8, none⟩) hbb).trans e8
  have e9_6 : (W.alloc (.cells #[.bool h, .bool d] 138)).cell? ⟨bb, off + k * 10 + 9, none⟩ = some (.bool q.z) := ((below1 W _).cell (p := ⟨bb, off + k * 10 + 9, none⟩) hbb).trans e9
  have w0_0 : ((W.alloc (.cells #[.bool false, .bool false] 138)).alloc (.cells #[.int .i64 0, .int .u64 0, .int .u64 0, .int .u64 0, .int .u64 0, .int .i64 0, .int .i64 0, .int .i64 0, .int .i64 0, .bool false] 82)).cell? ⟨N, k * 2, none⟩ = some (.bool h) := ((below2 W _ _).cell (p := ⟨N, k * 2, none⟩) hNN).trans w0
  have w1_0 : ((W.alloc (.cells #[.bool false, .bool false] 138)).alloc (.cells #[.int .i64 0, .int .u64 0, .int .u64 0, .int .u64 0, .int .u64 0, .int .i64 0, .int .i64 0, .int .i64 0, .int .i64 0, .bool false] 82)).cell? ⟨N, k * 2 + 1, none⟩ = some (.bool d) := ((below2 W _ _).cell (p := ⟨N, k * 2 + 1, none⟩) hNN).trans w1
  have w0_1 : ((W.alloc (.cells #[.int .i64 0, .int .u64 0, .int .u64 0, .int .u64 0, .int .u64 0, .int .i64 0, .int .i64 0, .int .i64 0, .int .i64 0, .bool false] 82)).alloc (.cells #[.bool false, .bool false] 138)).cell? ⟨N, k * 2, none⟩ = some (.bool h) := ((below2 W _ _).cell (p := ⟨N, k * 2, none⟩) hNN).trans w0
  have w1_1 : ((W.alloc (.cells #[.int .i64 0, .int .u64 0, .int .u64 0, .int .u64 0, .int .u64 0, .int .i64 0, .int .i64 0, .int .i64 0, .int .i64 0, .bool false] 82)).alloc (.cells #[.bool false, .bool false] 138)).cell? ⟨N, k * 2 + 1, none⟩ = some (.bool d) := ((below2 W _ _).cell (p := ⟨N, k * 2 + 1, none⟩) hNN).trans w1
  have w0_2 : ((W.alloc (.cells #[.bool false, .bool false] 138)).alloc (.cells #[.int .i64 4, .int .u64 q.c0, .int .u64 q.c1, .int .u64 q.c2, .int .u64 q.c3, .int .i64 (ia : Nat), .int .i64 (ib : Nat), .int .i64 q.l, .int .i64 q.m, .bool q.z] 82)).cell? ⟨N, k * 2, none⟩ = some (.bool h) := ((below2 W _ _).cell (p := ⟨N, k * 2, none⟩) hNN).trans w0
  have w1_2 : ((W.alloc (.cells #[.bool false, .bool false] 138)).alloc (.cells #[.int .i64 4, .int .u64 q.c0, .int .u64 q.c1, .int .u64 q.c2, .int .u64 q.c3, .int .i64 (ia : Nat), .int .i64 (ib : Nat), .int .i64 q.l, .int .i64 q.m, .bool q.z] 82)).cell? ⟨N, k * 2 + 1, none⟩ = some (.bool d) := ((below2 W _ _).cell (p := ⟨N, k * 2 + 1, none⟩) hNN).trans w1
  have w0_3 : ((W.alloc (.cells #[.int .i64 4, .int .u64 q.c0, .int .u64 q.c1, .int .u64 q.c2, .int .u64 q.c3, .int .i64 (ia : Nat), .int .i64 (ib : Nat), .int .i64 q.l, .int .i64 q.m, .bool q.z] 82)).alloc (.cells #[.bool false, .bool false] 138)).cell? ⟨N, k * 2, none⟩ = some (.bool h) := ((below2 W _ _).cell (p := ⟨N, k * 2, none⟩) hNN).trans w0
  have w1_3 : ((W.alloc (.cells #[.int .i64 4, .int .u64 q.c0, .int .u64 q.c1, .int .u64 q.c2, .int .u64 q.c3, .int .i64 (ia : Nat), .int .i64 (ib : Nat), .int .i64 q.l, .int .i64 q.m, .bool q.z] 82)).alloc (.cells #[.bool false, .bool false] 138)).cell? ⟨N, k * 2 + 1, none⟩ = some (.bool d) := ((below2 W _ _).cell (p := ⟨N, k * 2 + 1, none⟩) hNN).trans w1
  have w0_4 : (W.alloc (.cells #[.bool false, .bool false] 138)).cell? ⟨N, k * 2, none⟩ = some (.bool h) := ((below1 W _).cell (p := ⟨N, k * 2, none⟩) hNN).trans w0
  have w1_4 : (W.alloc (.cells #[.bool false, .bool false] 138)).cell? ⟨N, k * 2 + 1, none⟩ = some (.bool d) := ((below1 W _).cell (p := ⟨N, k * 2 + 1, none⟩) hNN).trans w1
  have w0_5 : (W.alloc (.cells #[.int .i64 0, .int .u64 0, .int .u64 0, .int .u64 0, .int .u64 0, .int .i64 0, .int .i64 0, .int .i64 0, .int .i64 0, .bool false] 82)).cell? ⟨N, k * 2, none⟩ = some (.bool h) := ((below1 W _).cell (p := ⟨N, k * 2, none⟩) hNN).trans w0
  have w1_5 : (W.alloc (.cells #[.int .i64 0, .int .u64 0, .int .u64 0, .int .u64 0, .int .u64 0, .int .i64 0, .int .i64 0, .int .i64 0, .int .i64 0, .bool false] 82)).cell? ⟨N, k * 2 + 1, none⟩ = some (.bool d) := ((below1 W _).cell (p := ⟨N, k * 2 + 1, none⟩) hNN).trans w1
  have w0_6 : (W.alloc (.cells #[.int .i64 4, .int .u64 q.c0, .int .u64 q.c1, .int .u64 q.c2, .int .u64 q.c3, .int .i64 (ia : Nat), .int .i64 (ib : Nat), .int .i64 q.l, .int .i64 q.m, .bool q.z] 82)).cell? ⟨N, k * 2, none⟩ = some (.bool h) := ((below1 W _).cell (p := ⟨N, k * 2, none⟩) hNN).trans w0
  have w1_6 : (W.alloc (.cells #[.int .i64 4, .int .u64 q.c0, .int .u64 q.c1, .int .u64 q.c2, .int .u64 q.c3, .int .i64 (ia : Nat), .int .i64 (ib : Nat), .int .i64 q.l, .int .i64 q.m, .bool q.z] 82)).cell? ⟨N, k * 2 + 1, none⟩ = some (.bool d) := ((below1 W _).cell (p := ⟨N, k * 2 + 1, none⟩) hNN).trans w1
  unfold fr52
  conv => arg 2; whnf
  go_wp2_with fail
  go_region
  · have kL : Cl (((W.alloc (.cells #[.int .i64 4, .int .u64 q.c0, .int .u64 q.c1, .int .u64 q.c2, .int .u64 q.c3, .int .i64 (ia : Nat), .int .i64 (ib : Nat), .int .i64 q.l, .int .i64 q.m, .bool q.z] 82)).alloc (.cells #[.bool h, .bool d] 138)).drew) N 138 (bws f n) := ((hL.alloc (.cells #[.int .i64 4, .int .u64 q.c0, .int .u64 q.c1, .int .u64 q.c2, .int .u64 q.c3, .int .i64 (ia : Nat), .int .i64 (ib : Nat), .int .i64 q.l, .int .i64 q.m, .bool q.z] 82)).alloc (.cells #[.bool h, .bool d] 138)).drew
    have hBB : Below W.heap.size W (((W.alloc (.cells #[.int .i64 4, .int .u64 q.c0, .int .u64 q.c1, .int .u64 q.c2, .int .u64 q.c3, .int .i64 (ia : Nat), .int .i64 (ib : Nat), .int .i64 q.l, .int .i64 q.m, .bool q.z] 82)).alloc (.cells #[.bool h, .bool d] 138)).drew) := (below2 W (.cells #[.int .i64 4, .int .u64 q.c0, .int .u64 q.c1, .int .u64 q.c2, .int .u64 q.c3, .int .i64 (ia : Nat), .int .i64 (ib : Nat), .int .i64 q.l, .int .i64 q.m, .bool q.z] 82) (.cells #[.bool h, .bool d] 138)).drew
    have kf : Cl (((W.alloc (.cells #[.int .i64 4, .int .u64 q.c0, .int .u64 q.c1, .int .u64 q.c2, .int .u64 q.c3, .int .i64 (ia : Nat), .int .i64 (ib : Nat), .int .i64 q.l, .int .i64 q.m, .bool q.z] 82)).alloc (.cells #[.bool h, .bool d] 138)).drew) W.heap.size 82 [.int .i64 4, .int .u64 q.c0, .int .u64 q.c1, .int .u64 q.c2, .int .u64 q.c3, .int .i64 (ia : Nat), .int .i64 (ib : Nat), .int .i64 q.l, .int .i64 q.m, .bool q.z] := ((Cl.new W 82 [.int .i64 4, .int .u64 q.c0, .int .u64 q.c1, .int .u64 q.c2, .int .u64 q.c3, .int .i64 (ia : Nat), .int .i64 (ib : Nat), .int .i64 q.l, .int .i64 q.m, .bool q.z]).alloc (.cells #[.bool h, .bool d] 138)).drew
    have ks : Cl (((W.alloc (.cells #[.int .i64 4, .int .u64 q.c0, .int .u64 q.c1, .int .u64 q.c2, .int .u64 q.c3, .int .i64 (ia : Nat), .int .i64 (ib : Nat), .int .i64 q.l, .int .i64 q.m, .bool q.z] 82)).alloc (.cells #[.bool h, .bool d] 138)).drew) (W.heap.size + 1) 138 [.bool h, .bool d] := by
      have := (Cl.new (W.alloc (.cells #[.int .i64 4, .int .u64 q.c0, .int .u64 q.c1, .int .u64 q.c2, .int .u64 q.c3, .int .i64 (ia : Nat), .int .i64 (ib : Nat), .int .i64 q.l, .int .i64 q.m, .bool q.z] 82)) 138 [.bool h, .bool d]).drew
      simpa only [World.size_alloc] using this
    clear e0_0 e0_1 e0_2 e0_3 e0_4 e0_5 e0_6 e1_0 e1_1 e1_2 e1_3 e1_4 e1_5 e1_6 e2_0 e2_1 e2_2 e2_3 e2_4 e2_5 e2_6 e3_0 e3_1 e3_2 e3_3 e3_4 e3_5 e3_6 e4_0 e4_1 e4_2 e4_3 e4_4 e4_5 e4_6 e5_0 e5_1 e5_2 e5_3 e5_4 e5_5 e5_6 e6_0 e6_1 e6_2 e6_3 e6_4 e6_5 e6_6 e7_0 e7_1 e7_2 e7_3 e7_4 e7_5 e7_6 e8_0 e8_1 e8_2 e8_3 e8_4 e8_5 e8_6 e9_0 e9_1 e9_2 e9_3 e9_4 e9_5 e9_6 e0 e1 e2 e3 e4 e5 e6 e7 e8 e9 w0 w1 w0_0 w0_1 w0_2 w0_3 w0_4 w0_5 w0_6 w1_0 w1_1 w1_2 w1_3 w1_4 w1_5 w1_6 hbb
    have t0 := kf.cell 0 rfl
    have t5 := kf.cell 5 rfl
    have t6 := kf.cell 6 rfl
    have y0 := ks.cell 0 rfl
    have y1 := ks.cell 1 rfl
    generalize hVV : ((W.alloc (.cells #[.int .i64 4, .int .u64 q.c0, .int .u64 q.c1, .int .u64 q.c2, .int .u64 q.c3, .int .i64 (ia : Nat), .int .i64 (ib : Nat), .int .i64 q.l, .int .i64 q.m, .bool q.z] 82)).alloc (.cells #[.bool h, .bool d] 138)).drew = VV at *
    clear hVV
    have z0 := kL.cell (ia * 2) (bws_get0 f hia)
    have z1 := kL.cell (ia * 2 + 1) (bws_get1 f hia)
    have z2 := kL.cell (ib * 2) (bws_get0 f hib)
    have z3 := kL.cell (ib * 2 + 1) (bws_get1 f hib)
    have fz0 := kL.frozen (ia * 2)
    have fz1 := kL.frozen (ia * 2 + 1)
    have fz2 := kL.frozen (ib * 2)
    have fz3 := kL.frozen (ib * 2 + 1)
    have kM := (kL.set (ia * 2) (.bool h)).set (ia * 2 + 1) (.bool d)
    rw [bws_set0 f n ia h hia, bws_set1 _ n ia d hia, updB_two, updB_at] at kM
    have z4 := kM.cell (ib * 2) (bws_get0 _ hib)
    have z5 := kM.cell (ib * 2 + 1) (bws_get1 _ hib)
    have fz4 := kM.frozen (ib * 2)
    have fz5 := kM.frozen (ib * 2 + 1)
    have kO := (kM.set (ib * 2) (.bool h)).set (ib * 2 + 1) (.bool d)
    rw [bws_set0 _ n ib h hib, bws_set1 _ n ib d hib, updB_two, updB_at] at kO
    go_wp2_with fail
    go_region
    clear t0 t5 t6 y0 y1 z0 z1 z2 z3 fz0 fz1 fz2 fz3 z4 z5 fz4 fz5 kM kf ks
    have hbo : Below N W (((((VV.setCell ⟨N, ia * 2, none⟩ (.bool h)).setCell ⟨N, ia * 2 + 1, none⟩ (.bool d)).setCell ⟨N, ib * 2, none⟩ (.bool h)).setCell ⟨N, ib * 2 + 1, none⟩ (.bool d))) := ((((hBB.mono (Nat.le_of_lt hNN)).setCell (p := ⟨N, ia * 2, none⟩) (Nat.le_refl _) _).setCell (p := ⟨N, ia * 2 + 1, none⟩) (Nat.le_refl _) _).setCell (p := ⟨N, ib * 2, none⟩) (Nat.le_refl _) _).setCell (p := ⟨N, ib * 2 + 1, none⟩) (Nat.le_refl _) _
    go_wp2_with fail
    go_step3
    exact hK.out _ _ (Fr52.of _ rfl) kO.drew hbo.drew
  · have kL : Cl (((W.alloc (.cells #[.bool h, .bool d] 138)).alloc (.cells #[.int .i64 4, .int .u64 q.c0, .int .u64 q.c1, .int .u64 q.c2, .int .u64 q.c3, .int .i64 (ia : Nat), .int .i64 (ib : Nat), .int .i64 q.l, .int .i64 q.m, .bool q.z] 82)).drew) N 138 (bws f n) := ((hL.alloc (.cells #[.bool h, .bool d] 138)).alloc (.cells #[.int .i64 4, .int .u64 q.c0, .int .u64 q.c1, .int .u64 q.c2, .int .u64 q.c3, .int .i64 (ia : Nat), .int .i64 (ib : Nat), .int .i64 q.l, .int .i64 q.m, .bool q.z] 82)).drew
    have hBB : Below W.heap.size W (((W.alloc (.cells #[.bool h, .bool d] 138)).alloc (.cells #[.int .i64 4, .int .u64 q.c0, .int .u64 q.c1, .int .u64 q.c2, .int .u64 q.c3, .int .i64 (ia : Nat), .int .i64 (ib : Nat), .int .i64 q.l, .int .i64 q.m, .bool q.z] 82)).drew) := (below2 W (.cells #[.bool h, .bool d] 138) (.cells #[.int .i64 4, .int .u64 q.c0, .int .u64 q.c1, .int .u64 q.c2, .int .u64 q.c3, .int .i64 (ia : Nat), .int .i64 (ib : Nat), .int .i64 q.l, .int .i64 q.m, .bool q.z] 82)).drew
    have kf : Cl (((W.alloc (.cells #[.bool h, .bool d] 138)).alloc (.cells #[.int .i64 4, .int .u64 q.c0, .int .u64 q.c1, .int .u64 q.c2, .int .u64 q.c3, .int .i64 (ia : Nat), .int .i64 (ib : Nat), .int .i64 q.l, .int .i64 q.m, .bool q.z] 82)).drew) W.heap.size 138 [.bool h, .bool d] := ((Cl.new W 138 [.bool h, .bool d]).alloc (.cells #[.int .i64 4, .int .u64 q.c0, .int .u64 q.c1, .int .u64 q.c2, .int .u64 q.c3, .int .i64 (ia : Nat), .int .i64 (ib : Nat), .int .i64 q.l, .int .i64 q.m, .bool q.z] 82)).drew
    have ks : Cl (((W.alloc (.cells #[.bool h, .bool d] 138)).alloc (.cells #[.int .i64 4, .int .u64 q.c0, .int .u64 q.c1, .int .u64 q.c2, .int .u64 q.c3, .int .i64 (ia : Nat), .int .i64 (ib : Nat), .int .i64 q.l, .int .i64 q.m, .bool q.z] 82)).drew) (W.heap.size + 1) 82 [.int .i64 4, .int .u64 q.c0, .int .u64 q.c1, .int .u64 q.c2, .int .u64 q.c3, .int .i64 (ia : Nat), .int .i64 (ib : Nat), .int .i64 q.l, .int .i64 q.m, .bool q.z] := by
      have := (Cl.new (W.alloc (.cells #[.bool h, .bool d] 138)) 82 [.int .i64 4, .int .u64 q.c0, .int .u64 q.c1, .int .u64 q.c2, .int .u64 q.c3, .int .i64 (ia : Nat), .int .i64 (ib : Nat), .int .i64 q.l, .int .i64 q.m, .bool q.z]).drew
      simpa only [World.size_alloc] using this
    clear e0_0 e0_1 e0_2 e0_3 e0_4 e0_5 e0_6 e1_0 e1_1 e1_2 e1_3 e1_4 e1_5 e1_6 e2_0 e2_1 e2_2 e2_3 e2_4 e2_5 e2_6 e3_0 e3_1 e3_2 e3_3 e3_4 e3_5 e3_6 e4_0 e4_1 e4_2 e4_3 e4_4 e4_5 e4_6 e5_0 e5_1 e5_2 e5_3 e5_4 e5_5 e5_6 e6_0 e6_1 e6_2 e6_3 e6_4 e6_5 e6_6 e7_0 e7_1 e7_2 e7_3 e7_4 e7_5 e7_6 e8_0 e8_1 e8_2 e8_3 e8_4 e8_5 e8_6 e9_0 e9_1 e9_2 e9_3 e9_4 e9_5 e9_6 e0 e1 e2 e3 e4 e5 e6 e7 e8 e9 w0 w1 w0_0 w0_1 w0_2 w0_3 w0_4 w0_5 w0_6 w1_0 w1_1 w1_2 w1_3 w1_4 w1_5 w1_6 hbb
    have t0 := ks.cell 0 rfl
    have t5 := ks.cell 5 rfl
    have t6 := ks.cell 6 rfl
    have y0 := kf.cell 0 rfl
    have y1 := kf.cell 1 rfl
    generalize hVV : ((W.alloc (.cells #[.bool h, .bool d] 138)).alloc (.cells #[.int .i64 4, .int .u64 q.c0, .int .u64 q.c1, .int .u64 q.c2, .int .u64 q.c3, .int .i64 (ia : Nat), .int .i64 (ib : Nat), .int .i64 q.l, .int .i64 q.m, .bool q.z] 82)).drew = VV at *
    clear hVV
    have z0 := kL.cell (ia * 2) (bws_get0 f hia)
    have z1 := kL.cell (ia * 2 + 1) (bws_get1 f hia)
    have z2 := kL.cell (ib * 2) (bws_get0 f hib)
    have z3 := kL.cell (ib * 2 + 1) (bws_get1 f hib)
    have fz0 := kL.frozen (ia * 2)
    have fz1 := kL.frozen (ia * 2 + 1)
    have fz2 := kL.frozen (ib * 2)
    have fz3 := kL.frozen (ib * 2 + 1)
    have kM := (kL.set (ia * 2) (.bool h)).set (ia * 2 + 1) (.bool d)
    rw [bws_set0 f n ia h hia, bws_set1 _ n ia d hia, updB_two, updB_at] at kM
    have z4 := kM.cell (ib * 2) (bws_get0 _ hib)
    have z5 := kM.cell (ib * 2 + 1) (bws_get1 _ hib)
    have fz4 := kM.frozen (ib * 2)
    have fz5 := kM.frozen (ib * 2 + 1)
    have kO := (kM.set (ib * 2) (.bool h)).set (ib * 2 + 1) (.bool d)
    rw [bws_set0 _ n ib h hib, bws_set1 _ n ib d hib, updB_two, updB_at] at kO
    go_wp2_with fail
    go_region
    clear t0 t5 t6 y0 y1 z0 z1 z2 z3 fz0 fz1 fz2 fz3 z4 z5 fz4 fz5 kM kf ks
    have hbo : Below N W (((((VV.setCell ⟨N, ia * 2, none⟩ (.bool h)).setCell ⟨N, ia * 2 + 1, none⟩ (.bool d)).setCell ⟨N, ib * 2, none⟩ (.bool h)).setCell ⟨N, ib * 2 + 1, none⟩ (.bool d))) := ((((hBB.mono (Nat.le_of_lt hNN)).setCell (p := ⟨N, ia * 2, none⟩) (Nat.le_refl _) _).setCell (p := ⟨N, ia * 2 + 1, none⟩) (Nat.le_refl _) _).setCell (p := ⟨N, ib * 2, none⟩) (Nat.le_refl _) _).setCell (p := ⟨N, ib * 2 + 1, none⟩) (Nat.le_refl _) _
    go_wp2_with fail
    go_step3
    exact hK.out _ _ (Fr52.of _ rfl) kO.drew hbo.drew
set_option maxRecDepth 20000 in
set_option maxHeartbeats 4000000 in
theorem am_cat {K : Nat → Act → World → Prop} {R : Ending → World → Prop} (bb off n cap N k ia ib : Nat) (u : Nat → Value) (q : Nd) (h d : Bool) (f : Nat → Bool × Bool) {W : World} (hbb : bb < W.heap.size) (hL : Cl W N 138 (bws f n)) (hkn : k < n) (hn : (n : Int) ≤ 2048) (hk : 0 < k) (hia : ia < n) (hib : ib < n) (hne : ib ≠ ia) (e0 : W.cell? ⟨bb, off + k * 10, none⟩ = some (.int .i64 3)) (e1 : W.cell? ⟨bb, off + k * 10 + 1, none⟩ = some (.int .u64 q.c0)) (e2 : W.cell? ⟨bb, off + k * 10 + 2, none⟩ = some (.int .u64 q.c1)) (e3 : W.cell? ⟨bb, off + k * 10 + 3, none⟩ = some (.int .u64 q.c2)) (e4 : W.cell? ⟨bb, off + k * 10 + 4, none⟩ = some (.int .u64 q.c3)) (e5 : W.cell? ⟨bb, off + k * 10 + 5, none⟩ = some (.int .i64 (ia : Nat))) (e6 : W.cell? ⟨bb, off + k * 10 + 6, none⟩ = some (.int .i64 (ib : Nat))) (e7 : W.cell? ⟨bb, off + k * 10 + 7, none⟩ = some (.int .i64 q.l)) (e8 : W.cell? ⟨bb, off + k * 10 + 8, none⟩ = some (.int .i64 q.m)) (e9 : W.cell? ⟨bb, off + k * 10 + 9, none⟩ = some (.bool q.z)) (w0 : W.cell? ⟨N, k * 2, none⟩ = some (.bool h)) (w1 : W.cell? ⟨N, k * 2 + 1, none⟩ = some (.bool d))
    (hK : Hid (∀ tm W', Fr52 (some ⟨bb, off, none⟩) n cap N ((k : Int) - 1) tm → Cl W' N 138 (bws (updB (updB f ia (h, (f ia).2)) ib ((f ib).1, d)) n) → Below N W W' → K 0 ⟨tm, []⟩ W')) : Code.wp Tryd.prog (labelIn Tryd.f94 0) (jumps K (bodyPost Tryd.prog Tryd.f94 R)) ⟨fr52 (some ⟨bb, off, none⟩) n cap N k u, []⟩ W := by
  have hNN := hL.lt
  have hki : (k : Int) < (n : Int) := by omega
  have hk2 : (k : Int) > 0 := by omega
  have hai : (ia : Int) < (n : Int) := by omega
  have hbi : (ib : Int) < (n : Int) := by omega
  have e0_0 : ((W.alloc (.cells #[.bool false, .bool false] 138)).alloc (.cells #[.int .i64 0, .int .u64 0, .int .u64 0, .int .u64 0, .int .u64 0, .int .i64 0, .int .i64 0, .int .i64 0, .int .i64 0, .bool false] 82)).cell? ⟨bb, off + k * 10, none⟩ = some (.int .i64 3) := ((below2 W _ _).cell (p := ⟨bb, off + k * 10, none⟩) hbb).trans e0
  have e1_0 : ((W.alloc (.cells #[.bool false, .bool false] 138)).alloc (.cells #[.int .i64 0, .int .u64 0, .int .u64 0, .int .u64 0, .int .u64 0, .int .i64 0, .int .i64 0, .int .i64 0, .int .i64 0, .bool false] 82)).cell? ⟨bb, off + k * 10 + 1, none⟩ = some (.int .u64 q.c0) := ((below2 W _ _).cell (p := ⟨bb, off + k * 10 + 1, none⟩) hbb).trans e1
  have e2_0 : ((W.alloc (.cells #[.bool false, .bool false] 138)).alloc (.cells #[.int .i64 0, .int .u64 0, .int .u64 0, .int .u64 0, .int .u64 0, .int .i64 0, .int .i64 0, .int .i64 0, .int .i64 0, .bool false] 82)).cell? ⟨bb, off + k * 10 + 2, none⟩ = some (.int .u64 q.c1) := ((below2 W _ _).cell (p := ⟨bb, off + k * 10 + 2, none⟩) hbb).trans e2
  have e3_0 : ((W.alloc (.cells #[.bool false, .bool false] 138)).alloc (.cells #[.int .i64 0, .int .u64 0, .int .u64 0, .int .u64 0, .int .u64 0, .int .i64 0, .int .i64 0, .int .i64 0, .int .i64 0, .bool false] 82)).cell? ⟨bb, off + k * 10 + 3, none⟩ = some (.int .u64 q.c2) := ((below2 W _ _).cell (p := ⟨bb, off + k * 10 + 3, none⟩) hbb).trans e3
  have e4_0 : ((W.alloc (.cells #[.bool false, .bool false] 138)).alloc (.cells #[.int .i64 0, .int .u64 0, .int .u64 0, .int .u64 0, .int .u64 0, .int .i64 0, .int .i64 0, .int .i64 0, .int .i64 0, .bool false] 82)).cell? ⟨bb, off + k * 10 + 4, none⟩ = some (.int .u64 q.c3) := ((below2 W _ _).cell (p := ⟨bb, off + k * 10 + 4, none⟩) hbb).trans e4
  have e5_0 : ((W.alloc (.cells #[.bool false, .bool false] 138)).alloc (.cells #[.int .i64 0, .int .u64 0, .int .u64 0, .int .u64 0, .int .u64 0, .int .i64 0, .int .i64 0, .int .i64 0, .int .i64 0, .bool false] 82)).cell? ⟨bb, off + k * 10 + 5, none⟩ = some (.int .i64 (ia : Nat)) := ((below2 W _ _).cell (p := ⟨bb, off + k * 10 + 5, none⟩) hbb).trans e5
  have e6_0 : ((W.alloc (.cells #[.bool false, .bool false] 138)).alloc (.cells #[.int .i64 0, .int .u64 0, .int .u64 0, .int .u64 0, .int .u64 0, .int .i64 0, .int .i64 0, .int .i64 0, .int .i64 0, .bool false] 82)).cell? ⟨bb, off + k * 10 + 6, none⟩ = some (.int .i64 (ib : Nat)) := ((below2 W _ _).cell (p := ⟨bb, off + k * 10 + 6, none⟩) hbb).trans e6
  have e7_0 : ((W.alloc (.cells #[.bool false, .bool false] 138)).alloc (.cells #[.int .i64 0, .int .u64 0, .int .u64 0, .int .u64 0, .int .u64 0, .int .i64 0, .int .i64 0, .int .i64 0, .int .i64 0, .bool false] 82)).cell? ⟨bb, off + k * 10 + 7, none⟩ = some (.int .i64 q.l) := ((below2 W _ _).cell (p := ⟨bb, off + k * 10 + 7, none⟩) hbb).trans e7
  have e8_0 : ((W.alloc (.cells #[.bool false, .bool false] 138)).alloc (.cells #[.int .i64 0, .int .u64 0, .int .u64 0, .int .u64 0, .int .u64 0, .int .i64 0, .int .i64 0, .int .i64 0, .int .i64 0, .bool false] 82)).cell? ⟨bb, off + k * 10 + 8, none⟩ = some (.int .i64 q.m) := ((below2 W _ _).cell (p := ⟨bb, off + k * 10 + 8, none⟩) hbb).trans e8
  have e9_0 : ((W.alloc (.cells #[.bool false, .bool false] 138)).alloc (.cells #[.int .i64 0, .int .u64 0, .int .u64 0, .int .u64 0, .int .u64 0, .int .i64 0, .int .i64 0, .int .i64 0, .int .i64 0, .bool false] 82)).cell? ⟨bb, off + k * 10 + 9, none⟩ = some (.bool q.z) := ((below2 W _ _).cell (p := ⟨bb, off + k * 10 + 9, none⟩) hbb).trans e9
  have e0_1 : ((W.alloc (.cells #[.int .i64 0, .int .u64 0, .int .u64 0, .int .u64 0, .int .u64 0, .int .i64 0, .int .i64 0, .int .i64 0, .int .i64 0, .bool false] 82)).alloc (.cells #[.bool false, .bool false] 138)).cell? ⟨bb, off + k * 10, none⟩ = some (.int .i64 3) := ((below2 W _ _).cell (p := ⟨bb, off + k * 10, none⟩) hbb).trans e0
  have e1_1 : ((W.alloc (.cells #[.int .i64 0, .int .u64 0, .int .u64 0, .int .u64 0, .int .u64 0, .int .i64 0, .int .i64 0, .int .i64 0, .int .i64 0, .bool false] 82)).alloc (.cells #[.bool false, .bool false] 138)).cell? ⟨bb, off + k * 10 + 1, none⟩ = some (.int .u64 q.c0) := ((below2 W _ _).cell (p := ⟨bb, off + k * 10 + 1, none⟩) hbb).trans e1
  have e2_1 : ((W.alloc (.cells #[.int .i64 0, .int .u64 0, .int .u64 0, .int .u64 0, .int .u64 0, .int .i64 0, .int .i64 0, .int .i64 0, .int .i64 0, .bool false] 82)).alloc (.cells #[.bool false, .bool false] 138)).cell? ⟨bb, off + k * 10 + 2, none⟩ = some (.int .u64 q.c1) := ((below2 W _ _).cell (p := ⟨bb, off + k * 10 + 2, none⟩) hbb).trans e2
  have e3_1 : ((W.alloc (.cells #[.int .i64 0, .int .u64 0, .int .u64 0, .int .u64 0, .int .u64 0, .int .i64 0, .int .i64 0, .int .i64 0, .int .i64 0, .bool false] 82)).alloc (.cells #[.bool false, .bool false] 138)).cell? ⟨bb, off + k * 10 + 3, none⟩ = some (.int .u64 q.c2) := ((below2 W _ _).cell (p := ⟨bb, off + k * 10 + 3, none⟩) hbb).trans e3
  have e4_1 : ((W.alloc (.cells #[.int .i64 0, .int .u64 0, .int .u64 0, .int .u64 0, .int .u64 0, .int .i64 0, .int .i64 0, .int .i64 0, .int .i64 0, .bool false] 82)).alloc (.cells #[.bool false, .bool false] 138)).cell? ⟨bb, off + k * 10 + 4, none⟩ = some (.int .u64 q.c3) := ((below2 W _ _).cell (p := ⟨bb, off + k * 10 + 4, none⟩) hbb).trans e4
  have e5_1 : ((W.alloc (.cells #[.int .i64 0, .int .u64 0, .int .u64 0, .int .u64 0, .int .u64 0, .int .i64 0, .int .i64 0, .int .i64 0, .int .i64 0, .bool false] 82)).alloc (.cells #[.bool false, .bool false] 138)).cell? ⟨bb, off + k * 10 + 5, none⟩ = some (.int .i64 (ia : Nat)) := ((below2 W _ _).cell (p := ⟨bb, off + k * 10 + 5, none⟩) hbb).trans e5
  have e6_1 : ((W.alloc (.cells #[.int .i64 0, .int .u64 0, .int .u64 0, .int .u64 0, .int .u64 0, .int .i64 0, .int .i64 0, .int .i64 0, .int .i64 0, .bool false] 82)).alloc (.cells #[.bool false, .bool false] 138)).cell? ⟨bb, off + k * 10 + 6, none⟩ = some (.int .i64 (ib : Nat)) := ((below2 W _ _).cell (p := ⟨bb, off + k * 10 + 6, none⟩) hbb).trans e6
  have e7_1 : ((W.alloc (.cells #[.int .i64 0, .int .u64 0, .int .u64 0, .int .u64 0, .int .u64 0, .int .i64 0, .int .i64 0, .int .i64 0, .int .i64 0, .bool false] 82)).alloc (.cells #[.bool false, .bool false] 138)).cell? ⟨bb, off + k * 10 + 7, none⟩ = some (.int .i64 q.l) := ((below2 W _ _).cell (p := ⟨bb, off + k * 10 + 7, none⟩) hbb).trans e7
  have e8_1 : ((W.alloc (.cells #[.int .i64 0, .int .u64 0, .int .u64 0, .int .u64 0, .int .u64 0, .int .i64 0, .int .i64 0, .int .i64 0, .int .i64 0, .bool false] 82)).alloc (.cells #[.bool false, .bool false] 138)).cell? ⟨bb, off + k * 10 + 8, none⟩ = some (.int .i64 q.m) := ((below2 W _ _).cell (p := ⟨bb, off + k * 10 + 8, none⟩) hbb).trans e8
  have e9_1 : ((W.alloc (.cells #[.int .i64 0, .int .u64 0, .int .u64 0, .int .u64 0, .int .u64 0, .int .i64 0, .int .i64 0, .int .i64 0, .int .i64 0, .bool false] 82)).alloc (.cells #[.bool false, .bool false] 138)).cell? ⟨bb, off + k * 10 + 9, none⟩ = some (.bool q.z) := ((below2 W _ _).cell (p := ⟨bb, off + k * 10 + 9, none⟩) hbb).trans e9
  have e0_2 : ((W.alloc (.cells #[.bool h, .bool d] 138)).alloc (.cells #[.int .i64 0, .int .u64 0, .int .u64 0, .int .u64 0, .int .u64 0, .int .i64 0, .int .i64 0, .int .i64 0, .int .i64 0, .bool false] 82)).cell? ⟨bb, off + k * 10, none⟩ = some (.int .i64 3) := ((below2 W _ _).cell (p := ⟨bb, off + k * 10, none⟩) hbb).trans e0
  have e1_2 : ((W.alloc (.cells #[.bool h, .bool d] 138)).alloc (.cells #[.int .i64 0, .int .u64 0, .int .u64 0, .int .u64 0, .int .u64 0, .int .i64 0, .int .i64 0, .int .i64 0, .int .i64 0, .bool false] 82)).cell? ⟨bb, off + k * 10 + 1, none⟩ = some (.int .u64 q.c0) := ((below2 W _ _).cell (p := ⟨bb, off + k * 10 + 1, none⟩) hbb).trans e1
  have e2_2 : ((W.alloc (.cells #[.bool h, .bool d] 138)).alloc (.cells #[.int .i64 0, .int .u64 0, .int .u64 0, .int .u64 0, .int .u64 0, .int .i64 0, .int .i64 0, .int .i64 0, .int .i64 0, .bool false] 82)).cell? ⟨bb, off + k * 10 + 2, none⟩ = some (.int .u64 q.c1) := ((below2 W _ _).cell (p := ⟨bb, off + k * 10 + 2, none⟩) hbb).trans e2
  have e3_2 : ((W.alloc (.cells #[.bool h, .bool d] 138)).alloc (.cells #[.int .i64 0, .int .u64 0, .int .u64 0, .int .u64 0, .int .u64 0, .int .i64 0, .int .i64 0, .int .i64 0, .int .i64 0, .bool false] 82)).cell? ⟨bb, off + k * 10 + 3, none⟩ = some (.int .u64 q.c2) := ((below2 W _ _).cell (p := ⟨bb, off + k * 10 + 3, none⟩) hbb).trans e3
  have e4_2 : ((W.alloc (.cells #[.bool h, .bool d] 138)).alloc (.cells #[.int .i64 0, .int .u64 0, .int .u64 0, .int .u64 0, .int .u64 0, .int .i64 0, .int .i64 0, .int .i64 0, .int .i64 0, .bool false] 82)).cell? ⟨bb, off + k * 10 + 4, none⟩ = some (.int .u64 q.c3) := ((below2 W _ _).cell (p := ⟨bb, off + k * 10 + 4, none⟩) hbb).trans e4
  have e5_2 : ((W.alloc (.cells #[.bool h, .bool d] 138)).alloc (.cells #[.int .i64 0, .int .u64 0, .int .u64 0, .int .u64 0, .int .u64 0, .int .i64 0, .int .i64 0, .int .i64 0, .int .i64 0, .bool false] 82)).cell? ⟨bb, off + k * 10 + 5, none⟩ = some (.int .i64 (ia : Nat)) := ((below2 W _ _).cell (p := ⟨bb, off + k * 10 + 5, none⟩) hbb).trans e5
  have e6_2 : ((W.alloc (.cells #[.bool h, .bool d] 138)).alloc (.cells #[.int .i64 0, .int .u64 0, .int .u64 0, .int .u64 0, .int .u64 0, .int .i64 0, .int .i64 0, .int .i64 0, .int .i64 0, .bool false] 82)).cell? ⟨bb, off + k * 10 + 6, none⟩ = some (.int .i64 (ib : Nat)) := ((below2 W _ _).cell (p := ⟨bb, off + k * 10 + 6, none⟩) hbb).trans e6
  have e7_2 : ((W.alloc (.cells #[.bool h, .bool d] 138)).alloc (.cells #[.int .i64 0, .int .u64 0, .int .u64 0, .int .u64 0, .int .u64 0, .int .i64 0, .int .i64 0, .int .i64 0, .int .i64 0, .bool false] 82)).cell? ⟨bb, off + k * 10 + 7, none⟩ = some (.int .i64 q.l) := ((below2 W _ _).cell (p := ⟨bb, off + k * 10 + 7, none⟩) hbb).trans e7
  have e8_2 : ((W.alloc (.cells #[.bool h, .bool d] 138)).alloc (.cells #[.int .i64 0, .int .u64 0, .int .u64 0, .int .u64 0, .int .u64 0, .int .i64 0, .int .i64 0, .int .i64 0, .int .i64 0, .bool false] 82)).cell? ⟨bb, off + k * 10 + 8, none⟩ = some (.int .i64 q.m) := ((below2 W _ _).cell (p := ⟨bb, off + k * 10 + 8, none⟩) hbb).trans e8
  have e9_2 : ((W.alloc (.cells #[.bool h, .bool d] 138)).alloc (.cells #[.int .i64 0, .int .u64 0, .int .u64 0, .int .u64 0, .int .u64 0, .int .i64 0, .int .i64 0, .int .i64 0, .int .i64 0, .bool false] 82)).cell? ⟨bb, off + k * 10 + 9, none⟩ = some (.bool q.z) := ((below2 W _ _).cell (p := ⟨bb, off + k * 10 + 9, none⟩) hbb).trans e9
  have e0_3 : ((W.alloc (.cells #[.int .i64 0, .int .u64 0, .int .u64 0, .int .u64 0, .int .u64 0, .int .i64 0, .int .i64 0, .int .i64 0, .int .i64 0, .bool false] 82)).alloc (.cells #[.bool h, .bool d] 138)).cell? ⟨bb, off + k * 10, none⟩ = some (.int .i64 3) := ((below2 W _ _).cell (p := ⟨bb, off + k * 10, none⟩) hbb).trans e0
  have e1_3 : ((W.alloc (.cells #[.int .i64 0, .int .u64 0, .int .u64 0, .int .u64 0, .int .u64 0, .int .i64 0, .int .i64 0, .int .i64 0, .int .i64 0, .bool false] 82)).alloc (.cells #[.bool h, .bool d] 138)).cell? ⟨bb, off + k * 10 + 1, none⟩ = some (.int .u64 q.c0) := ((below2 W _ _).cell (p := ⟨bb, off + k * 10 + 1, none⟩) hbb).trans e1
  have e2_3 : ((W.alloc (.cells #[.int .i64 0, .int .u64 0, .int .u64 0, .int .u64 0, .int .u64 0, .int .i64 0, .int .i64 0, .int .i64 0, .int .i64 0, .bool false] 82)).alloc (.cells #[.bool h, .bool d] 138)).cell? ⟨bb, off + k * 10 + 2, none⟩ = some (.int .u64 q.c1) := ((below2 W _ _).cell (p := ⟨bb, off + k * 10 + 2, none⟩) hbb).trans e2
  have e3_3 : ((W.alloc (.cells #[.int .i64 0, .int .u64 0, .int .u64 0, .int .u64 0, .int .u64 0, .int .i64 0, .int .i64 0, .int .i64 0, .int .i64 0, .bool false] 82)).alloc (.cells #[.bool h, .bool d] 138)).cell? ⟨bb, off + k * 10 + 3, none⟩ = some (.int .u64 q.c2) := ((below2 W _ _).cell (p := ⟨bb, off + k * 10 + 3, none⟩) hbb).trans e3
  have e4_3 : ((W.alloc (.cells #[.int .i64 0, .int .u64 0, .int .u64 0, .int .u64 0, .int .u64 0, .int .i64 0, .int .i64 0, .int .i64 0, .int .i64 0, .bool false] 82)).alloc (.cells #[.bool h, .bool d] 138)).cell? ⟨bb, off + k * 10 + 4, none⟩ = some (.int .u64 q.c3) := ((below2 W _ _).cell (p := ⟨bb, off + k * 10 + 4, none⟩) hbb).trans e4
  have e5_3 : ((W.alloc (.cells #[.int .i64 0, .int .u64 0, .int .u64 0, .int .u64 0, .int .u64 0, .int .i64 0, .int .i64 0, .int .i64 0, .int .i64 0, .bool false] 82)).alloc (.cells #[.bool h, .bool d] 138)).cell? ⟨bb, off + k * 10 + 5, none⟩ = some (.int .i64 (ia : Nat)) := ((below2 W _ _).cell (p := ⟨bb, off + k * 10 + 5, none⟩) hbb).trans e5
  have e6_3 : ((W.alloc (.cells #[.int .i64 0, .int .u64 0, .int .u64 0, .int .u64 0, .int .u64 0, .int .i64 0, .int .i64 0, .int .i64 0, .int .i64 0, .bool false] 82)).alloc (.cells #[.bool h, .bool d] 138)).cell? ⟨bb, off + k * 10 + 6, none⟩ = some (.int .i64 (ib : Nat)) := ((below2 W _ _).cell (p := ⟨bb, off + k * 10 + 6, none⟩) hbb).trans e6
  have e7_3 : ((W.alloc (.cells #[.int .i64 0, .int .u64 0, .int .u64 0, .int .u64 0, .int .u64 0, .int .i64 0, .int .i64 0, .int .i64 0, .int .i64 0, .bool false] 82)).alloc (.cells #[.bool h, .bool d] 138)).cell? ⟨bb, off + k * 10 + 7, none⟩ = some (.int .i64 q.l) := ((below2 W _ _).cell (p := ⟨bb, off + k * 10 + 7, none⟩) hbb).trans e7
  have e8_3 : ((W.alloc (.cells #[.int .i64 0, .int .u64 0, .int .u64 0, .int .u64 0, .int .u64 0, .int .i64 0, .int .i64 0, .int .i64 0, .int .i64 0, .bool false] 82)).alloc (.cells #[.bool h, .bool d] 138)).cell? ⟨bb, off + k * 10 + 8, none⟩ = some (.int .i64 q.m) := ((below2 W _ _).cell (p := ⟨bb, off + k * 10 + 8, none⟩) hbb).trans e8
  have e9_3 : ((W.alloc (.cells #[.int .i64 0, .int .u64 0, .int .u64 0, .int .u64 0, .int .u64 0, .int .i64 0, .int .i64 0, .int .i64 0, .int .i64 0, .bool false] 82)).alloc (.cells #[.bool h, .bool d] 138)).cell? ⟨bb, off + k * 10 + 9, none⟩ = some (.bool q.z) := ((below2 W _ _).cell (p := ⟨bb, off + k * 10 + 9, none⟩) hbb).trans e9
  have e0_4 : (W.alloc (.cells #[.bool false, .bool false] 138)).cell? ⟨bb, off + k * 10, none⟩ = some (.int .i64 3) := ((below1 W _).cell (p := ⟨bb, off + k * 10, none⟩) hbb).trans e0
  have e1_4 : (W.alloc (.cells #[.bool false, .bool false] 138)).cell? ⟨bb, off + k * 10 + 1, none⟩ = some (.int .u64 q.c0) := ((below1 W _).cell (p := ⟨bb, off + k * 10 + 1, none⟩) hbb).trans e1
  have e2_4 : (W.alloc (.cells #[.bool false, .bool false] 138)).cell? ⟨bb, off + k * 10 + 2, none⟩ = some (.int .u64 q.c1) := ((below1 W _).cell (p := ⟨bb, off + k * 10 + 2, none⟩) hbb).trans e2
  have e3_4 : (W.alloc (.cells #[.bool false, .bool false] 138)).cell? ⟨bb, off + k * 10 + 3, none⟩ = some (.int .u64 q.c2) := ((below1 W _).cell (p := ⟨bb, off + k * 10 + 3, none⟩) hbb).trans e3
  have e4_4 : (W.alloc (.cells #[.bool false, .bool false] 138)).cell? ⟨bb, off + k * 10 + 4, none⟩ = some (.int .u64 q.c3) := ((below1 W _).cell (p := ⟨bb, off + k * 10 + 4, none⟩) hbb).trans e4
  have e5_4 : (W.alloc (.cells #[.bool false, .bool false] 138)).cell? ⟨bb, off + k * 10 + 5, none⟩ = some (.int .i64 (ia : Nat)) := ((below1 W _).cell (p := ⟨bb, off + k * 10 + 5, none⟩) hbb).trans e5
  have e6_4 : (W.alloc (.cells #[.bool false, .bool false] 138)).cell? ⟨bb, off + k * 10 + 6, none⟩ = some (.int .i64 (ib : Nat)) := ((below1 W _).cell (p := ⟨bb, off + k * 10 + 6, none⟩) hbb).trans e6
  have e7_4 : (W.alloc (.cells #[.bool false, .bool false] 138)).cell? ⟨bb, off + k * 10 + 7, none⟩ = some (.int .i64 q.l) := ((below1 W _).cell (p := ⟨bb, off + k * 10 + 7, none⟩) hbb).trans e7
  have e8_4 : (W.alloc (.cells #[.bool false, .bool false] 138)).cell? ⟨bb, off + k * 10 + 8, none⟩ = some (.int .i64 q.m) := ((below1 W _).cell (p := ⟨bb, off + k * 10 + 8, none⟩) hbb).trans e8
  have e9_4 : (W.alloc (.cells #[.bool false, .bool false] 138)).cell? ⟨bb, off + k * 10 + 9, none⟩ = some (.bool q.z) := ((below1 W _).cell (p := ⟨bb, off + k * 10 + 9, none⟩) hbb).trans e9
  have e0_5 : (W.alloc (.cells #[.int .i64 0, .int .u64 0, .int .u64 0, .int .u64 0, .int .u64 0, .int .i64 0, .int .i64 0, .int .i64 0, .int .i64 0, .bool false] 82)).cell? ⟨bb, off + k * 10, none⟩ = some (.int .i64 3) := ((below1 W _).cell (p := ⟨bb, off + k * 10, none⟩) hbb).trans e0
  have e1_5 : (W.alloc (.cells #[.int .i64 0, .int .u64 0, .int .u64 0, .int .u64 0, .int .u64 0, .int .i64 0, .int .i64 0, .int .i64 0, .int .i64 0, .bool false] 82)).cell? ⟨bb, off + k * 10 + 1, none⟩ = some (.int .u64 q.c0) := ((below1 W _).cell (p := ⟨bb, off + k * 10 + 1, none⟩) hbb).trans e1
  have e2_5 : (W.alloc (.cells #[.int .i64 0, .int .u64 0, .int .u64 0, .int .u64 0, .int .u64 0, .int .i64 0, .int .i64 0, .int .i64 0, .int .i64 0, .bool false] 82)).cell? ⟨bb, off + k * 10 + 2, none⟩ = some (.int .u64 q.c1) := ((below1 W _).cell (p := ⟨bb, off + k * 10 + 2, none⟩) hbb).trans e2
  have e3_5 : (W.alloc (.cells #[.int .i64 0, .int .u64 0, .int .u64 0, .int .u64 0, .int .u64 0, .int .i64 0, .int .i64 0, .int .i64 0, .int .i64 0, .bool false] 82)).cell? ⟨bb, off + k * 10 + 3, none⟩ = some (.int .u64 q.c2) := ((below1 W _).cell (p := ⟨bb, off + k * 10 + 3, none⟩) hbb).trans e3
  have e4_5 : (W.alloc (.cells #[.int .i64 0, .int .u64 0, .int .u64 0, .int .u64 0, .int .u64 0, .int .i64 0, .int .i64 0, .int .i64 0, .int .i64 0, .bool false] 82)).cell? ⟨bb, off + k * 10 + 4, none⟩ = some (.int .u64 q.c3) := ((below1 W _).cell (p := ⟨bb, off + k * 10 + 4, none⟩) hbb).trans e4
  have e5_5 : (W.alloc (.cells #[.int .i64 0, .int .u64 0, .int .u64 0, .int .u64 0, .int .u64 0, .int .i64 0, .int .i64 0, .int .i64 0, .int .i64 0, .bool false] 82)).cell? ⟨bb, off + k * 10 + 5, none⟩ = some (.int .i64 (ia : Nat)) := ((below1 W _).cell (p := ⟨bb, off + k * 10 + 5, none⟩) hbb).trans e5
  have e6_5 : (W.alloc (.cells #[.int .i64 0, .int .u64 0, .int .u64 0, .int .u64 0, .int .u64 0, .int .i64 0, .int .i64 0, .int .i64 0, .int .i64 0, .bool false] 82)).cell? ⟨bb, off + k * 10 + 6, none⟩ = some (.int .i64 (ib : Nat)) := ((below1 W _).cell (p := ⟨bb, off + k * 10 + 6, none⟩) hbb).trans e6
  have e7_5 : (W.alloc (.cells #[.int .i64 0, .int .u64 0, .int .u64 0, .int .u64 0, .int .u64 0, .int .i64 0, .int .i64 0, .int .i64 0, .int .i64 0, .bool false] 82)).cell? ⟨bb, off + k * 10 + 7, none⟩ = some (.int .i64 q.l) := ((below1 W _).cell (p := ⟨bb, off + k * 10 + 7, none⟩) hbb).trans e7
  have e8_5 : (W.alloc (.cells #[.int .i64 0, .int .u64 0, .int .u64 0, .int .u64 0, .int .u64 0, .int .i64 0, .int .i64 0, .int .i64 0, .int .i64 0, .bool false] 82)).cell? ⟨bb, off + k * 10 + 8, none⟩ = some (.int .i64 q.m) := ((below1 W _).cell (p := ⟨bb, off + k * 10 + 8, none⟩) hbb).trans e8
  have e9_5 : (W.alloc (.cells #[.int .i64 0, .int .u64 0, .int .u64 0, .int .u64 0, .int .u64 0, .int .i64 0, .int .i64 0, .int .i64 0, .int .i64 0, .bool false] 82)).cell? ⟨bb, off + k * 10 + 9, none⟩ = some (.bool q.z) := ((below1 W _).cell (p := ⟨bb, off + k * 10 + 9, none⟩) hbb).trans e9
  have e0_6 : (W.alloc (.cells #[.bool h, .bool d] 138)).cell? ⟨bb, off + k * 10, none⟩ = some (.int .i64 3) := ((below1 W _).cell (p := ⟨bb, off + k * 10, none⟩) hbb).trans e0
  have e1_6 : (W.alloc (.cells #[.bool h, .bool d] 138)).cell? ⟨bb, off + k * 10 + 1, none⟩ = some (.int .u64 q.c0) := ((below1 W _).cell (p := ⟨bb, off + k * 10 + 1, none⟩) hbb).trans e1
  have e2_6 : (W.alloc (.cells #[.bool h, .bool d] 138)).cell? ⟨bb, off + k * 10 + 2, none⟩ = some (.int .u64 q.c1) := ((below1 W _).cell (p := ⟨bb, off + k * 10 + 2, none⟩) hbb).trans e2
  have e3_6 : (W.alloc (.cells #[.bool h, .bool d] 138)).cell? ⟨bb, off + k * 10 + 3, none⟩ = some (.int .u64 q.c2) := ((below1 W _).cell (p := ⟨bb, off + k * 10 + 3, none⟩) hbb).trans e3
  have e4_6 : (W.alloc (.cells #[.bool h, .bool d] 138)).cell? ⟨bb, off + k * 10 + 4, none⟩ = some (.int .u64 q.c3) := ((below1 W _).cell (p := ⟨bb, off + k * 10 + 4, none⟩) hbb).trans e4
  have e5_6 : (W.alloc (.cells #[.bool h, .bool d] 138)).cell? ⟨bb, off + k * 10 + 5, none⟩ = some (.int .i64 (ia : Nat)) := ((below1 W _).cell (p := ⟨bb, off + k * 10 + 5, none⟩) hbb).trans e5
  have e6_6 : (W.alloc (.cells #[.bool h, .bool d] 138)).cell? ⟨bb, off + k * 10 + 6, none⟩ = some (.int .i64 (ib : Nat)) := ((below1 W _).cell (p := ⟨bb, off + k * 10 + 6, none⟩) hbb).trans e6
  have e7_6 : (W.alloc (.cells #[.bool h, .bool d] 138)).cell? ⟨bb, off + k * 10 + 7, none⟩ = some (.int .i64 q.l) := ((below1 W _).cell (p := ⟨bb, off + k * 10 + 7, none⟩) hbb).trans e7
  have e8_6 : (W.alloc (.cells #[.bool h, .bool d] 138)).cell? ⟨bb, off + k * 10 + 8, none⟩ = some (.int .i64 q.m) := ((below1 W _).cell (p := ⟨bb, off + k * 10 + 8, none⟩) hbb).trans e8
  have e9_6 : (W.alloc (.cells #[.bool h, .bool d] 138)).cell? ⟨bb, off + k * 10 + 9, none⟩ = some (.bool q.z) := ((below1 W _).cell (p := ⟨bb, off + k * 10 + 9, none⟩) hbb).trans e9
  have w0_0 : ((W.alloc (.cells #[.bool false, .bool false] 138)).alloc (.cells #[.int .i64 0, .int .u64 0, .int .u64 0, .int .u64 0, .int .u64 0, .int .i64 0, .int .i64 0, .int .i64 0, .int .i64 0, .bool false] 82)).cell? ⟨N, k * 2, none⟩ = some (.bool h) := ((below2 W _ _).cell (p := ⟨N, k * 2, none⟩) hNN).trans w0
  have w1_0 : ((W.alloc (.cells #[.bool false, .bool false] 138)).alloc (.cells #[.int .i64 0, .int .u64 0, .int .u64 0, .int .u64 0, .int .u64 0, .int .i64 0, .int .i64 0, .int .i64 0, .int .i64 0, .bool false] 82)).cell? ⟨N, k * 2 + 1, none⟩ = some (.bool d) := ((below2 W _ _).cell (p := ⟨N, k * 2 + 1, none⟩) hNN).trans w1
  have w0_1 : ((W.alloc (.cells #[.int .i64 0, .int .u64 0, .int .u64 0, .int .u64 0, .int .u64 0, .int .i64 0, .int .i64 0, .int .i64 0, .int .i64 0, .bool false] 82)).alloc (.cells #[.bool false, .bool false] 138)).cell? ⟨N, k * 2, none⟩ = some (.bool h) := ((below2 W _ _).cell (p := ⟨N, k * 2, none⟩) hNN).trans w0
  have w1_1 : ((W.alloc (.cells #[.int .i64 0, .int .u64 0, .int .u64 0, .int .u64 0, .int .u64 0, .int .i64 0, .int .i64 0, .int .i64 0, .int .i64 0, .bool false] 82)).alloc (.cells #[.bool false, .bool false] 138)).cell? ⟨N, k * 2 + 1, none⟩ = some (.bool d) := ((below2 W _ _).cell (p := ⟨N, k * 2 + 1, none⟩) hNN).trans w1
  have w0_2 : ((W.alloc (.cells #[.bool false, .bool false] 138)).alloc (.cells #[.int .i64 3, .int .u64 q.c0, .int .u64 q.c1, .int .u64 q.c2, .int .u64 q.c3, .int .i64 (ia : Nat), .int .i64 (ib : Nat), .int .i64 q.l, .int .i64 q.m, .bool q.z] 82)).cell? ⟨N, k * 2, none⟩ = some (.bool h) := ((below2 W _ _).cell (p := ⟨N, k * 2, none⟩) hNN).trans w0
  have w1_2 : ((W.alloc (.cells #[.bool false, .bool false] 138)).alloc (.cells #[.int .i64 3, .int .u64 q.c0, .int .u64 q.c1, .int .u64 q.c2, .int .u64 q.c3, .int .i64 (ia : Nat), .int .i64 (ib : Nat), .int .i64 q.l, .int .i64 q.m, .bool q.z] 82)).cell? ⟨N, k * 2 + 1, none⟩ = some (.bool d) := ((below2 W _ _).cell (p := ⟨N, k * 2 + 1, none⟩) hNN).trans w1
  have w0_3 : ((W.alloc (.cells #[.int .i64 3, .int .u64 q.c0, .int .u64 q.c1, .int .u64 q.c2, .int .u64 q.c3, .int .i64 (ia : Nat), .int .i64 (ib : Nat), .int .i64 q.l, .int .i64 q.m, .bool q.z] 82)).alloc (.cells #[.bool false, .bool false] 138)).cell? ⟨N, k * 2, none⟩ = some (.bool h) := ((below2 W _ _).cell (p := ⟨N, k * 2, none⟩) hNN).trans w0
  have w1_3 : ((W.alloc (.cells #[.int .i64 3, .int .u64 q.c0, .int .u64 q.c1, .int .u64 q.c2, .int .u64 q.c3, .int .i64 (ia : Nat), .int .i64 (ib : Nat), .int .i64 q.l, .int .i64 q.m, .bool q.z] 82)).alloc (.cells #[.bool false, .bool false] 138)).cell? ⟨N, k * 2 + 1, none⟩ = some (.bool d) := ((below2 W _ _).cell (p := ⟨N, k * 2 + 1, none⟩) hNN).trans w1
  have w0_4 : (W.alloc (.cells #[.bool false, .bool false] 138)).cell? ⟨N, k * 2, none⟩ = some (.bool h) := ((below1 W _).cell (p := ⟨N, k * 2, none⟩) hNN).trans w0
  have w1_4 : (W.alloc (.cells #[.bool false, .bool false] 138)).cell? ⟨N, k * 2 + 1, none⟩ = some (.bool d) := ((below1 W _).cell (p := ⟨N, k * 2 + 1, none⟩) hNN).trans w1
  have w0_5 : (W.alloc (.cells #[.int .i64 0, .int .u64 0, .int .u64 0, .int .u64 0, .int .u64 0, .int .i64 0, .int .i64 0, .int .i64 0, .int .i64 0, .bool false] 82)).cell? ⟨N, k * 2, none⟩ = some (.bool h) := ((below1 W _).cell (p := ⟨N, k * 2, none⟩) hNN).trans w0
  have w1_5 : (W.alloc (.cells #[.int .i64 0, .int .u64 0, .int .u64 0, .int .u64 0, .int .u64 0, .int .i64 0, .int .i64 0, .int .i64 0, .int .i64 0, .bool false] 82)).cell? ⟨N, k * 2 + 1, none⟩ = some (.bool d) := ((below1 W _).cell (p := ⟨N, k * 2 + 1, none⟩) hNN).trans w1
  have w0_6 : (W.alloc (.cells #[.int .i64 3, .int .u64 q.c0, .int .u64 q.c1, .int .u64 q.c2, .int .u64 q.c3, .int .i64 (ia : Nat), .int .i64 (ib : Nat), .int .i64 q.l, .int .i64 q.m, .bool q.z] 82)).cell? ⟨N, k * 2, none⟩ = some (.bool h) := ((below1 W _).cell (p := ⟨N, k * 2, none⟩) hNN).trans w0
  have w1_6 : (W.alloc (.cells #[.int .i64 3, .int .u64 q.c0, .int .u64 q.c1, .int .u64 q.c2, .int .u64 q.c3, .int .i64 (ia : Nat), .int .i64 (ib : Nat), .int .i64 q.l, .int .i64 q.m, .bool q.z] 82)).cell? ⟨N, k * 2 + 1, none⟩ = some (.bool d) := ((below1 W _).cell (p := ⟨N, k * 2 + 1, none⟩) hNN).trans w1
  unfold fr52
  conv => arg 2; whnf
  go_wp2_with fail
  go_region
  · have kL : Cl (((W.alloc (.cells #[.int .i64 3, .int .u64 q.c0, .int .u64 q.c1, .int .u64 q.c2, .int .u64 q.c3, .int .i64 (ia : Nat), .int .i64 (ib : Nat), .int .i64 q.l, .int .i64 q.m, .bool q.z] 82)).alloc (.cells #[.bool h, .bool d] 138)).drew) N 138 (bws f n) := ((hL.alloc (.cells #[.int .i64 3, .int .u64 q.c0, .int .u64 q.c1, .int .u64 q.c2, .int .u64 q.c3, .int .i64 (ia : Nat), .int .i64 (ib : Nat), .int .i64 q.l, .int .i64 q.m, .bool q.z] 82)).alloc (.cells #[.bool h, .bool d] 138)).drew
    have hBB : Below W.heap.size W (((W.alloc (.cells #[.int .i64 3, .int .u64 q.c0, .int .u64 q.c1, .int .u64 q.c2, .int .u64 q.c3, .int .i64 (ia : Nat), .int .i64 (ib : Nat), .int .i64 q.l, .int .i64 q.m, .bool q.z] 82)).alloc (.cells #[.bool h, .bool d] 138)).drew) := (below2 W (.cells #[.int .i64 3, .int .u64 q.c0, .int .u64 q.c1, .int .u64 q.c2, .int .u64 q.c3, .int .i64 (ia : Nat), .int .i64 (ib : Nat), .int .i64 q.l, .int .i64 q.m, .bool q.z] 82) (.cells #[.bool h, .bool d] 138)).drew
    have kf : Cl (((W.alloc (.cells #[.int .i64 3, .int .u64 q.c0, .int .u64 q.c1, .int .u64 q.c2, .int .u64 q.c3, .int .i64 (ia : Nat), .int .i64 (ib : Nat), .int .i64 q.l, .int .i64 q.m, .bool q.z] 82)).alloc (.cells #[.bool h, .bool d] 138)).drew) W.heap.size 82 [.int .i64 3, .int .u64 q.c0, .int .u64 q.c1, .int .u64 q.c2, .int .u64 q.c3, .int .i64 (ia : Nat), .int .i64 (ib : Nat), .int .i64 q.l, .int .i64 q.m, .bool q.z] := ((Cl.new W 82 [.int .i64 3, .int .u64 q.c0, .int .u64 q.c1, .int .u64 q.c2, .int .u64 q.c3, .int .i64 (ia : Nat), .int .i64 (ib : Nat), .int .i64 q.l, .int .i64 q.m, .bool q.z]).alloc (.cells #[.bool h, .bool d] 138)).drew
    have ks : Cl (((W.alloc (.cells #[.int .i64 3, .int .u64 q.c0, .int .u64 q.c1, .int .u64 q.c2, .int .u64 q.c3, .int .i64 (ia : Nat), .int .i64 (ib : Nat), .int .i64 q.l, .int .i64 q.m, .bool q.z] 82)).alloc (.cells #[.bool h, .bool d] 138)).drew) (W.heap.size + 1) 138 [.bool h, .bool d] := by
      have := (Cl.new (W.alloc (.cells #[.int .i64 3, .int .u64 q.c0, .int .u64 q.c1, .int .u64 q.c2, .int .u64 q.c3, .int .i64 (ia : Nat), .int .i64 (ib : Nat), .int .i64 q.l, .int .i64 q.m, .bool q.z] 82)) 138 [.bool h, .bool d]).drew
      simpa only [World.size_alloc] using this
    clear e0_0 e0_1 e0_2 e0_3 e0_4 e0_5 e0_6 e1_0 e1_1 e1_2 e1_3 e1_4 e1_5 e1_6 e2_0 e2_1 e2_2 e2_3 e2_4 e2_5 e2_6 e3_0 e3_1 e3_2 e3_3 e3_4 e3_5 e3_6 e4_0 e4_1 e4_2 e4_3 e4_4 e4_5 e4_6 e5_0 e5_1 e5_2 e5_3 e5_4 e5_5 e5_6 e6_0 e6_1 e6_2 e6_3 e6_4 e6_5 e6_6 e7_0 e7_1 e7_2 e7_3 e7_4 e7_5 e7_6 e8_0 e8_1 e8_2 e8_3 e8_4 e8_5 e8_6 e9_0 e9_1 e9_2 e9_3 e9_4 e9_5 e9_6 e0 e1 e2 e3 e4 e5 e6 e7 e8 e9 w0 w1 w0_0 w0_1 w0_2 w0_3 w0_4 w0_5 w0_6 w1_0 w1_1 w1_2 w1_3 w1_4 w1_5 w1_6 hbb
    have t0 := kf.cell 0 rfl
    have t5 := kf.cell 5 rfl
    have t6 := kf.cell 6 rfl
    have y0 := ks.cell 0 rfl
    have y1 := ks.cell 1 rfl
    generalize hVV : ((W.alloc (.cells #[.int .i64 3, .int .u64 q.c0, .int .u64 q.c1, .int .u64 q.c2, .int .u64 q.c3, .int .i64 (ia : Nat), .int .i64 (ib : Nat), .int .i64 q.l, .int .i64 q.m, .bool q.z] 82)).alloc (.cells #[.bool h, .bool d] 138)).drew = VV at *
    clear hVV
    have z0 := kL.cell (ia * 2) (bws_get0 f hia)
    have z1 := kL.cell (ia * 2 + 1) (bws_get1 f hia)
    have z2 := kL.cell (ib * 2) (bws_get0 f hib)
    have z3 := kL.cell (ib * 2 + 1) (bws_get1 f hib)
    have fz0 := kL.frozen (ia * 2)
    have fz1 := kL.frozen (ia * 2 + 1)
    have fz2 := kL.frozen (ib * 2)
    have fz3 := kL.frozen (ib * 2 + 1)
    have kM := kL.set (ia * 2) (.bool h)
    rw [bws_set0 f n ia h hia] at kM
    have z5 := kM.cell (ib * 2 + 1) (bws_get1 _ hib)
    have fz5 := kM.frozen (ib * 2 + 1)
    have kO := kM.set (ib * 2 + 1) (.bool d)
    rw [bws_set1 _ n ib d hib, updB_ne _ _ hne] at kO
    go_wp2_with fail
    go_region
    clear t0 t5 t6 y0 y1 z0 z1 z2 z3 fz0 fz1 fz2 fz3 z5 fz5 kM kf ks
    have hbo : Below N W (((VV.setCell ⟨N, ia * 2, none⟩ (.bool h)).setCell ⟨N, ib * 2 + 1, none⟩ (.bool d))) := ((hBB.mono (Nat.le_of_lt hNN)).setCell (p := ⟨N, ia * 2, none⟩) (Nat.le_refl _) _).setCell (p := ⟨N, ib * 2 + 1, none⟩) (Nat.le_refl _) _
    go_wp2_with fail
    go_step3
    exact hK.out _ _ (Fr52.of _ rfl) kO.drew hbo.drew
  · have kL : Cl (((W.alloc (.cells #[.bool h, .bool d] 138)).alloc (.cells #[.int .i64 3, .int .u64 q.c0, .int .u64 q.c1, .int .u64 q.c2, .int .u64 q.c3, .int .i64 (ia : Nat), .int .i64 (ib : Nat), .int .i64 q.l, .int .i64 q.m, .bool q.z] 82)).drew) N 138 (bws f n) := ((hL.alloc (.cells #[.bool h, .bool d] 138)).alloc (.cells #[.int .i64 3, .int .u64 q.c0, .int .u64 q.c1, .int .u64 q.c2, .int .u64 q.c3, .int .i64 (ia : Nat), .int .i64 (ib : Nat), .int .i64 q.l, .int .i64 q.m, .bool q.z] 82)).drew
    have hBB : Below W.heap.size W (((W.alloc (.cells #[.bool h, .bool d] 138)).alloc (.cells #[.int .i64 3, .int .u64 q.c0, .int .u64 q.c1, .int .u64 q.c2, .int .u64 q.c3, .int .i64 (ia : Nat), .int .i64 (ib : Nat), .int .i64 q.l, .int .i64 q.m, .bool q.z] 82)).drew) := (below2 W (.cells #[.bool h, .bool d] 138) (.cells #[.int .i64 3, .int .u64 q.c0, .int .u64 q.c1, .int .u64 q.c2, .int .u64 q.c3, .int .i64 (ia : Nat), .int .i64 (ib : Nat), .int .i64 q.l, .int .i64 q.m, .bool q.z] 82)).drew
    have kf : Cl (((W.alloc (.cells #[.bool h, .bool d] 138)).alloc (.cells #[.int .i64 3, .int .u64 q.c0, .int .u64 q.c1, .int .u64 q.c2, .int .u64 q.c3, .int .i64 (ia : Nat), .int .i64 (ib : Nat), .int .i64 q.l, .int .i64 q.m, .bool q.z] 82)).drew) W.heap.size 138 [.bool h, .bool d] := ((Cl.new W 138 [.bool h, .bool d]).alloc (.cells #[.int .i64 3, .int .u64 q.c0, .int .u64 q.c1, .int .u64 q.c2, .int .u64 q.c3, .int .i64 (ia : Nat), .int .i64 (ib : Nat), .int .i64 q.l, .int .i64 q.m, .bool q.z] 82)).drew
    have ks : Cl (((W.alloc (.cells #[.bool h, .bool d] 138)).alloc (.cells #[.int .i64 3, .int .u64 q.c0, .int .u64 q.c1, .int .u64 q.c2, .int .u64 q.c3, .int .i64 (ia : Nat), .int .i64 (ib : Nat), .int .i64 q.l, .int .i64 q.m, .bool q.z] 82)).drew) (W.heap.size + 1) 82 [.int .i64 3, .int .u64 q.c0, .int .u64 q.c1, .int .u64 q.c2, .int .u64 q.c3, .int .i64 (ia : Nat), .int .i64 (ib : Nat), .int .i64 q.l, .int .i64 q.m, .bool q.z] := by
      have := (Cl.new (W.alloc (.cells #[.bool h, .bool d] 138)) 82 [.int .i64 3, .int .u64 q.c0, .int .u64 q.c1, .int .u64 q.c2, .int .u64 q.c3, .int .i64 (ia : Nat), .int .i64 (ib : Nat), .int .i64 q.l, .int .i64 q.m, .bool q.z]).drew
      simpa only [World.size_alloc] using this
    clear e0_0 e0_1 e0_2 e0_3 e0_4 e0_5 e0_6 e1_0 e1_1 e1_2 e1_3 e1_4 e1_5 e1_6 e2_0 e2_1 e2_2 e2_3 e2_4 e2_5 e2_6 e3_0 e3_1 e3_2 e3_3 e3_4 e3_5 e3_6 e4_0 e4_1 e4_2 e4_3 e4_4 e4_5 e4_6 e5_0 e5_1 e5_2 e5_3 e5_4 e5_5 e5_6 e6_0 e6_1 e6_2 e6_3 e6_4 e6_5 e6_6 e7_0 e7_1 e7_2 e7_3 e7_4 e7_5 e7_6 e8_0 e8_1 e8_2 e8_3 e8_4 e8_5 e8_6 e9_0 e9_1 e9_2 e9_3 e9_4 e9_5 e9_6 e0 e1 e2 e3 e4 e5 e6 e7 e8 e9 w0 w1 w0_0 w0_1 w0_2 w0_3 w0_4 w0_5 w0_6 w1_0 w1_1 w1_2 w1_3 w1_4 w1_5 w1_6 hbb
    have t0 := ks.cell 0 rfl
    have t5 := ks.cell 5 rfl
    have t6 := ks.cell 6 rfl
    have y0 := kf.cell 0 rfl
    have y1 := kf.cell 1 rfl
    generalize hVV : ((W.alloc (.cells #[.bool h, .bool d] 138)).alloc (.cells #[.int .i64 3, .int .u64 q.c0, .int .u64 q.c1, .int .u64 q.c2, .int .u64 q.c3, .int .i64 (ia : Nat), .int .i64 (ib : Nat), .int .i64 q.l, .int .i64 q.m, .bool q.z] 82)).drew = VV at *
    clear hVV
    have z0 := kL.cell (ia * 2) (bws_get0 f hia)
    have z1 := kL.cell (ia * 2 + 1) (bws_get1 f hia)
    have z2 := kL.cell (ib * 2) (bws_get0 f hib)
    have z3 := kL.cell (ib * 2 + 1) (bws_get1 f hib)
    have fz0 := kL.frozen (ia * 2)
    have fz1 := kL.frozen (ia * 2 + 1)
    have fz2 := kL.frozen (ib * 2)
    have fz3 := kL.frozen (ib * 2 + 1)
    have kM := kL.set (ia * 2) (.bool h)
    rw [bws_set0 f n ia h hia] at kM
    have z5 := kM.cell (ib * 2 + 1) (bws_get1 _ hib)
    have fz5 := kM.frozen (ib * 2 + 1)
    have kO := kM.set (ib * 2 + 1) (.bool d)
    rw [bws_set1 _ n ib d hib, updB_ne _ _ hne] at kO
    go_wp2_with fail
    go_region
    clear t0 t5 t6 y0 y1 z0 z1 z2 z3 fz0 fz1 fz2 fz3 z5 fz5 kM kf ks
    have hbo : Below N W (((VV.setCell ⟨N, ia * 2, none⟩ (.bool h)).setCell ⟨N, ib * 2 + 1, none⟩ (.bool d))) := ((hBB.mono (Nat.le_of_lt hNN)).setCell (p := ⟨N, ia * 2, none⟩) (Nat.le_refl _) _).setCell (p := ⟨N, ib * 2 + 1, none⟩) (Nat.le_refl _) _
    go_wp2_with fail
    go_step3
    exact hK.out _ _ (Fr52.of _ rfl) kO.drew hbo.drew
end Go.Proofs.YthbmfnibgjlkhaaDoor
namespace Go.Proofs.YthbmfnibgjlkhaaDoor
open Go.RowKit
def RetBo (w : World) (b : Bool) (e : Ending) (w' : World) : Prop := e = .returned (.bool b) ∧ Below w.heap.size w w'
/-- What holds where the label is met. -/
structure AmI (w : World) (t : Tre) (k : Nat) (W : World) : Prop where
  lt : k < t.size
  ways : Cl W w.heap.size 138 (bws (stW t k) t.size)
  bel : Below w.heap.size w W
  met : ∀ p u, k < p → t.subs[p]? = some u → okA u (wy t (true, true) p) = true
def AmJ (w : World) (ao : Option Addr) (cap : Nat) (t : Tre) (l m : Nat) (a : Act) (W : World) : Prop :=
  l = 0 ∧ ∃ k tm, m = k + 1 ∧ Fr52 ao t.size cap w.heap.size (k : Int) tm ∧ a = ⟨tm, []⟩ ∧ AmI w t k W
theorem am_pass (w : World) (bb off cap : Nat) (t : Tre) (ho : t.ok = true) (hs : t.size ≤ 2048) (hr : RdN w (some ⟨bb, off, none⟩) t.size (nodes t)) (k : Nat) (u : Nat → Value) (W : World) (hI : AmI w t k W) :
    Code.wp Tryd.prog (labelIn Tryd.f94 0) (jumps (fun l' a' w' => ∃ m', m' < k + 1 ∧ AmJ w (some ⟨bb, off, none⟩) cap t l' m' a' w') (bodyPost Tryd.prog Tryd.f94 (RetBo w (anc t (true, true))))) ⟨fr52 (some ⟨bb, off, none⟩) t.size cap w.heap.size (k : Int) u, []⟩ W := by
  obtain ⟨hk, hL, hb, hmet⟩ := hI
  obtain ⟨bb', off', ea, hbb0, hc⟩ := hr (by omega)
  obtain ⟨rfl, rfl⟩ : bb = bb' ∧ off = off' := by simpa using ea
  have hbb : bb < W.heap.size := Nat.lt_of_lt_of_le hbb0 hb.size
  obtain ⟨c0, c1, c2, c3, c4, c5, c6, c7, c8, c9⟩ := hc k hk
  rw [← hb.cell (p := ⟨bb, _, none⟩) hbb0] at c0 c1 c2 c3 c4 c5 c6 c7 c8 c9
  have v0 := hL.cell (k * 2) (bws_get0 _ hk)
  have v1 := hL.cell (k * 2 + 1) (bws_get1 _ hk)
  rw [stW_self t k hk] at v0 v1
  have hl : k < t.subs.length := by rw [Tre.subs_length]; exact hk
  have e := List.getElem?_eq_getElem hl
  rw [nodes_get e] at c0 c1 c2 c3 c4 c5 c6 c7 c8 c9
  have hok := subs_ok t k _ ho e
  -- what comes behind
  have hfalse : okA t.subs[k] (wy t (true, true) k) = false → ∀ W', Below W.heap.size W W' → RetBo w (anc t (true, true)) (.returned (.bool false)) W' := by
    intro hf W' hW'
    have : anc t (true, true) = false := by
      cases h : anc t (true, true) with
      | false => rfl
      | true => rw [(anc_iff t _).1 h k _ e] at hf; cases hf
    rw [this]
    exact ⟨rfl, hb.trans (hW'.mono hb.size)⟩
  have htrue : okA t.subs[k] (wy t (true, true) k) = true → ∀ p v, k - 1 < p → t.subs[p]? = some v → okA v (wy t (true, true) p) = true := by
    intro hf p v hp hv
    by_cases hpk : p = k
    · subst hpk
      rw [e] at hv
      obtain rfl := Option.some.inj hv
      exact hf
    · exact hmet p v (by omega) hv
  have hend : ¬ 0 < k → okA t.subs[k] (wy t (true, true) k) = true → ∀ W', Below W.heap.size W W' → RetBo w (anc t (true, true)) (.returned (.bool true)) W' := by
    intro h0 hf W' hW'
    have : anc t (true, true) = true := (anc_iff t _).2 fun p v hv => by
      by_cases hpk : p = k
      · subst hpk
        rw [e] at hv
        obtain rfl := Option.some.inj hv
        exact hf
      · exact hmet p v (by omega) hv
    rw [this]
    exact ⟨rfl, hb.trans (hW'.mono hb.size)⟩
  have hnext : 0 < k → okA t.subs[k] (wy t (true, true) k) = true → ∀ (L : List Value), L = bws (stW t (k - 1)) t.size → ∀ tm W', Fr52 (some ⟨bb, off, none⟩) t.size cap w.heap.size ((k : Int) - 1) tm → Cl W' w.heap.size 138 L → Below w.heap.size W W' → ∃ m', m' < k + 1 ∧ AmJ w (some ⟨bb, off, none⟩) cap t 0 m' ⟨tm, []⟩ W' := by
    intro h0 hf L hLL tm W' hF hC hB
    subst hLL
    refine ⟨k, by omega, rfl, k - 1, tm, by omega, ?_, rfl, by omega, hC, hb.trans hB, htrue hf⟩
    rw [show ((k - 1 : Nat) : Int) = (k : Int) - 1 by omega]
    exact hF
  have hn : (t.size : Int) ≤ 2048 := by omega
  have hbW := hb.size
  cases hu : t.subs[k] with
  | leaf n =>
    rw [hu] at c0 c1 c2 c3 c4 c5 c6 c7 c8 c9 hok hfalse hend hnext e
    simp only [Tre.nd] at c0 c1 c2 c3 c4 c5 c6 c7 c8 c9
    have hkk := lf_kind hok
    have hst : 0 < k → bws (stW t k) t.size = bws (stW t (k - 1)) t.size := fun h0 => bws_congr fun q hq => stW_leaf e h0 q hq
    by_cases k6 : n.k = 6
    · rw [k6] at c0
      cases hh : (wy t (true, true) k).1 with
      | false =>
        rw [hh] at v0
        exact am_hatf bb off t.size cap _ k u n _ _ hbb hL hk c0 c1 c2 c3 c4 c5 c6 c7 c8 c9 v0 v1 (hfalse (by simp [okA, k6, hh]))
      | true =>
        rw [hh] at v0
        have hq : okA (.leaf n) (wy t (true, true) k) = true := by simp [okA, k6, hh]
        by_cases h0 : 0 < k
        · exact am_hatn bb off t.size cap _ k u n _ _ hbb hL hk hn h0 c0 c1 c2 c3 c4 c5 c6 c7 c8 c9 v0 v1 (fun tm W' hF hC hB => hnext h0 hq _ (hst h0) tm W' hF hC (hB.mono hbW))
        · exact am_hat0 bb off t.size cap _ k u n _ _ hbb hL hk h0 c0 c1 c2 c3 c4 c5 c6 c7 c8 c9 v0 v1 (hend h0 hq)
    · by_cases k7 : n.k = 7
      · rw [k7] at c0
        cases hh : (wy t (true, true) k).2 with
        | false =>
          rw [hh] at v1
          exact am_dolf bb off t.size cap _ k u n _ _ hbb hL hk c0 c1 c2 c3 c4 c5 c6 c7 c8 c9 v0 v1 (hfalse (by simp [okA, k7, hh]))
        | true =>
          rw [hh] at v1
          have hq : okA (.leaf n) (wy t (true, true) k) = true := by simp [okA, k7, hh]
          by_cases h0 : 0 < k
          · exact am_doln bb off t.size cap _ k u n _ _ hbb hL hk hn h0 c0 c1 c2 c3 c4 c5 c6 c7 c8 c9 v0 v1 (fun tm W' hF hC hB => hnext h0 hq _ (hst h0) tm W' hF hC (hB.mono hbW))
          · exact am_dol0 bb off t.size cap _ k u n _ _ hbb hL hk h0 c0 c1 c2 c3 c4 c5 c6 c7 c8 c9 v0 v1 (hend h0 hq)
      · have hq : okA (.leaf n) (wy t (true, true) k) = true := by simp [okA, k6, k7]
        by_cases h0 : 0 < k
        · exact am_othern bb off t.size cap _ k u n _ _ (by omega) _ hbb hL hk hn h0 c0 c1 c2 c3 c4 c5 c6 c7 c8 c9 v0 v1 (fun tm W' hF hC hB => hnext h0 hq _ (hst h0) tm W' hF hC (hB.mono hbW))
        · exact am_other0 bb off t.size cap _ k u n _ _ (by omega) _ hbb hL hk h0 c0 c1 c2 c3 c4 c5 c6 c7 c8 c9 v0 v1 (hend h0 hq)
  | two kk x y =>
    rw [hu] at c0 c1 c2 c3 c4 c5 c6 c7 c8 c9 hok hnext e
    have sx := x.size_pos
    have sy := y.size_pos
    obtain ⟨h1, _, _⟩ := subs_two e
    obtain ⟨z1, z2⟩ := stW_unset e
    have h0 : 0 < k := by omega
    have hst := fun q hq => stW_two e q hq
    simp only [Tre.nd] at c0 c1 c2 c3 c4 c5 c6 c7 c8 c9
    rw [show (k : Int) - 1 - y.size = ((k - 1 - y.size : Nat) : Int) by omega] at c5
    rw [show (k : Int) - 1 = ((k - 1 : Nat) : Int) by omega] at c6
    simp [Tre.ok] at hok
    rcases hok.1.1 with rfl | rfl
    · refine am_cat bb off t.size cap _ k (k - 1 - y.size) (k - 1) u ⟨3, 0, 0, 0, 0, 0, 0, 0, 0, false⟩ _ _ _ hbb hL hk hn h0 (by omega) (by omega) (by omega) c0 c1 c2 c3 c4 c5 c6 c7 c8 c9 v0 v1 (fun tm W' hF hC hB => hnext h0 rfl _ (bws_congr fun q hq => ?_) tm W' hF hC hB)
      rw [hst q hq, z1, z2]
      simp only [updB, hdA, hdB]
      split
      · rename_i e1; subst e1; rfl
      · split <;> rfl
    · refine am_alt bb off t.size cap _ k (k - 1 - y.size) (k - 1) u ⟨4, 0, 0, 0, 0, 0, 0, 0, 0, false⟩ _ _ _ hbb hL hk hn h0 (by omega) (by omega) (by omega) c0 c1 c2 c3 c4 c5 c6 c7 c8 c9 v0 v1 (fun tm W' hF hC hB => hnext h0 rfl _ (bws_congr fun q hq => ?_) tm W' hF hC hB)
      rw [hst q hq]
      simp only [updB, hdA, hdB]
      split
      · rfl
      · split <;> rfl
  | rep x l m z =>
    rw [hu] at c0 c1 c2 c3 c4 c5 c6 c7 c8 c9 hok hnext hend e
    have sx := x.size_pos
    obtain ⟨h1, _⟩ := subs_rep e
    have h0 : 0 < k := by omega
    simp only [Tre.nd] at c0 c1 c2 c3 c4 c5 c6 c7 c8 c9
    exact am_othern bb off t.size cap _ k u ⟨5, 0, 0, 0, 0, (k : Int) - 1, 0, l, m, z⟩ _ _ (by simp) _ hbb hL hk hn h0 c0 c1 c2 c3 c4 c5 c6 c7 c8 c9 v0 v1 (fun tm W' hF hC hB => hnext h0 rfl _ (bws_congr fun q hq => stW_rep e h0 q hq) tm W' hF hC (hB.mono hbW))
theorem b_way : (Tryd.prog.info? 138).map (fun i => (i.zero, i.size, i.bytes)) = some (some (.agg #[.bool false, .bool false]), 2, 2) := by kernel_rfl
theorem make_ways (n : Nat) (hn : n ≤ 2048) (w : World) : (Instr.makeSlice 136 (.int .i64 (n : Nat)) (.int .i64 (n : Nat))).run Tryd.prog w = .ok (.slice (some ⟨w.heap.size, 0, none⟩) n n) (w.alloc (.cells (bws (fun _ => (false, false)) n).toArray 138)) := by
  obtain ⟨i, hi, hz, hs, hb⟩ := info_parts b_way
  have := run_make (P := Tryd.prog) w 136 138 i _ Tryd.underlying136 hi hz .i64 .i64 (n : Int) (n : Int) (by omega) (by omega) (by rw [hb]; omega) (by omega)
  rw [this, hs]
  have e : madeCells #[Value.bool false, Value.bool false] (n * 2) = (bws (fun _ => (false, false)) n).toArray := by
    apply Array.ext_getElem?
    intro q
    by_cases hq : q < n * 2
    · have hd : q = q / 2 * 2 + q % 2 := by omega
      have hm : (madeCells #[Value.bool false, Value.bool false] (n * 2))[q]? = some (.bool false) := by
        have hs : q < (madeCells #[Value.bool false, Value.bool false] (n * 2)).size := by rw [size_madeCells]; exact hq
        rw [Array.getElem?_eq_getElem hs]
        simp only [madeCells, Array.getElem_map, Array.getElem_range]
        rcases Nat.mod_two_eq_zero_or_one q with h | h <;> simp [h]
      rw [hm, List.getElem?_toArray, hd]
      rcases Nat.mod_two_eq_zero_or_one q with h | h
      · rw [h, Nat.add_zero, bws_get0 _ (by omega)]
      · rw [h, bws_get1 _ (by omega)]
    · rw [Array.getElem?_eq_none (by rw [size_madeCells]; omega), Array.getElem?_eq_none (by simp [bws_length]; omega)]
  simp [Value.cells, e]
theorem am_labels (w : World) (bb off cap : Nat) (t : Tre) (ho : t.ok = true) (hs : t.size ≤ 2048) (hr : RdN w (some ⟨bb, off, none⟩) t.size (nodes t)) (l m : Nat) (a : Act) (W : World) (hJ : AmJ w (some ⟨bb, off, none⟩) cap t l m a W) :
    ∃ rest, findLabel (scopeIn Tryd.f94) l = some rest ∧ rest.wp Tryd.prog (jumps (fun l' a' w' => ∃ m', m' < m ∧ AmJ w (some ⟨bb, off, none⟩) cap t l' m' a' w') (bodyPost Tryd.prog Tryd.f94 (RetBo w (anc t (true, true))))) a W := by
  obtain ⟨rfl, k, tm, rfl, ⟨u, rfl⟩, rfl, hI⟩ := hJ
  exact ⟨_, am_label, wp_skip_seq (am_pass w bb off cap t ho hs hr k u W hI)⟩
set_option maxRecDepth 20000 in
set_option maxHeartbeats 4000000 in
theorem anchors_any (w : World) (bb off cap : Nat) (t : Tre) (ho : t.ok = true) (hs : t.size ≤ 2048) (hr : RdN w (some ⟨bb, off, none⟩) t.size (nodes t)) : Calls Tryd.prog 94 #[.slice (some ⟨bb, off, none⟩) t.size cap] w (RetBo w (anc t (true, true))) := by
  have hp := t.size_pos
  have hmk := make_ways t.size hs
  have HL : Hid (∀ l m a W, AmJ w (some ⟨bb, off, none⟩) cap t l m a W → _) := fun l m a W hJ => am_labels w bb off cap t ho hs hr l m a W hJ
  have k0 := Cl.new w 138 (bws (fun _ => (false, false)) t.size)
  have kM := Cl.new w 138 (((bws (fun _ => (false, false)) t.size).set ((t.size - 1) * 2) (.bool true)).set ((t.size - 1) * 2 + 1) (.bool true))
  have hst : ((bws (fun _ => (false, false)) t.size).set ((t.size - 1) * 2) (.bool true)).set ((t.size - 1) * 2 + 1) (.bool true) = bws (stW t (t.size - 1)) t.size := by
    rw [bws_set0 _ _ _ _ (by omega), bws_set1 _ _ _ _ (by omega), updB_two, updB_at]
    exact bws_congr fun q hq => by rw [stW_start t q hq]; rfl
  have z0 := k0.cell ((t.size - 1) * 2) (bws_get0 _ (by omega))
  have z1 := k0.cell ((t.size - 1) * 2 + 1) (bws_get1 _ (by omega))
  have k1 := Cl.new w 138 ((bws (fun _ => (false, false)) t.size).set ((t.size - 1) * 2) (.bool true))
  have z2 := k1.cell ((t.size - 1) * 2 + 1) (v := .bool false) (by rw [List.getElem?_set_ne (by omega)]; exact bws_get1 _ (by omega))
  have f0 := k0.frozen ((t.size - 1) * 2)
  have f1 := k0.frozen ((t.size - 1) * 2 + 1)
  have f2 := k1.frozen ((t.size - 1) * 2 + 1)
  have HI : Hid (AmI w t (t.size - 1) (w.alloc (.cells (((bws (fun _ => (false, false)) t.size).set ((t.size - 1) * 2) (.bool true)).set ((t.size - 1) * 2 + 1) (.bool true)).toArray 138))) := ⟨by omega, by rw [← hst]; exact kM, below1 _ _, fun p v hp hv => by
    have := (List.getElem?_eq_some_iff.1 hv).1
    rw [Tre.subs_length] at this
    omega⟩
  have HP : Hid (∀ (W : World) (tm : Array Value), Fr52 (some ⟨bb, off, none⟩) t.size cap w.heap.size ((t.size : Int) - 1) tm → AmI w t (t.size - 1) W → Code.wp Tryd.prog (labelIn Tryd.f94 0) (jumps (fun l' a' w' => ∃ m', m' < t.size - 1 + 1 ∧ AmJ w (some ⟨bb, off, none⟩) cap t l' m' a' w') (bodyPost Tryd.prog Tryd.f94 (RetBo w (anc t (true, true))))) ⟨tm, []⟩ W) := by
    intro W tm ⟨u, hu⟩ hI
    rw [hu, show (t.size : Int) - 1 = ((t.size - 1 : Nat) : Int) by omega]
    exact am_pass w bb off cap t ho hs hr _ u W hI
  have h1 : ((t.size : Int) - 1).toNat = t.size - 1 := by omega
  have h2 : (0 : Int) ≤ (t.size : Int) - 1 := by omega
  have h3 : (t.size : Int) - 1 < (t.size : Int) := by omega
  have h4 : (t.size : Int) ≤ 2048 := by omega
  clear hr kM hst
  go_enter Tryd.func94, Tryd.ntmps94
  go_wp2_with fail
  refine wp_scope_labels (AmJ w (some ⟨bb, off, none⟩) cap t) ?_ (fun l m a W hJ => HL.out l m a W hJ)
  go_wp2_with fail
  go_step3
  rename_i K hK
  refine hK _ _ ?_
  clear hK
  refine Code.wp_mono (jumps_mono (fun l a w hq => ?_)) (HP.out _ _ (Fr52.of _ rfl) HI.out)
  obtain ⟨m, _, hm⟩ := hq
  exact ⟨m, hm⟩
end Go.Proofs.YthbmfnibgjlkhaaDoor
