/- plus, times, greater: the walks. weightOf: the walk. Widths and weights of trees: plain facts. -/
import Derived.Test.YthbmfnibgjlkhaaDoorNb
import Derived.Test.YthbmfnibgjlkhaaDoorGStSo
namespace Go.Proofs.YthbmfnibgjlkhaaDoor
open Go.RowKit
def pl (a b : Int) : Int := if a = -1 ∨ b = -1 then -1 else a + min b (1073741824 - a)
def tm (a b : Int) : Int := if a = 0 ∨ b = 0 then 0 else if a = -1 ∨ b = -1 then -1 else if a > (1073741824 : Int).tdiv b then 1073741824 else a * b
def gr (a b : Int) : Int := if a = -1 ∨ b = -1 then -1 else max a b
end Go.Proofs.YthbmfnibgjlkhaaDoor
namespace Go.Proofs.YthbmfnibgjlkhaaDoor
open Go.RowKit
def RetI (w : World) (v : Int) (e : Ending) (w' : World) : Prop := e = .returned (.int .i64 v) ∧ Below w.heap.size w w'
end Go.Proofs.YthbmfnibgjlkhaaDoor
namespace Go.Proofs.YthbmfnibgjlkhaaDoor
open Go.RowKit
def wt : Tre → Int
  | .leaf n => if n.k = 2 then 1 else 0
  | .two _ x y => pl (wt x) (wt y)
  | .rep x l m _ => tm (if m = -1 then l + 1 else m) (wt x)
def wl : Tre → Int
  | .leaf n => if n.k = 2 then 1 else 0
  | .two k x y => if k = 3 then pl (wl x) (wl y) else min (wl x) (wl y)
  | .rep x l _ _ => tm l (wl x)
def wg : Tre → Int
  | .leaf n => if n.k = 2 then 1 else 0
  | .two k x y => if k = 3 then pl (wg x) (wg y) else gr (wg x) (wg y)
  | .rep x _ m _ => tm m (wg x)
theorem pl_nn {a b : Int} (ha : 0 ≤ a ∧ a ≤ 1073741824) (hb : 0 ≤ b ∧ b ≤ 1073741824) : 0 ≤ pl a b ∧ pl a b ≤ 1073741824 := by
  unfold pl; rw [if_neg (by omega)]; omega
theorem pl_in {a b : Int} (ha : -1 ≤ a ∧ a ≤ 1073741824) (hb : -1 ≤ b ∧ b ≤ 1073741824) : -1 ≤ pl a b ∧ pl a b ≤ 1073741824 := by
  unfold pl; split <;> omega
theorem gr_in {a b : Int} (ha : -1 ≤ a ∧ a ≤ 1073741824) (hb : -1 ≤ b ∧ b ≤ 1073741824) : -1 ≤ gr a b ∧ gr a b ≤ 1073741824 := by
  unfold gr; split <;> omega
theorem tm_in {a b : Int} (ha : -1 ≤ a) (hb : -1 ≤ b ∧ b ≤ 1073741824) : -1 ≤ tm a b ∧ tm a b ≤ 1073741824 := by
  unfold tm
  split
  · omega
  · split
    · omega
    · split
      · omega
      · rename_i h1 h2 h3
        rw [Int.tdiv_eq_ediv_of_nonneg (by omega)] at h3
        have hb0 : 0 < b := by omega
        have h4 : a ≤ 1073741824 / b := by omega
        have h5 := (Int.le_ediv_iff_mul_le hb0).1 h4
        have h6 : 0 ≤ a * b := Int.mul_nonneg (by omega) (by omega)
        omega
theorem tm_nn {a b : Int} (ha : 0 ≤ a) (hb : 0 ≤ b ∧ b ≤ 1073741824) : 0 ≤ tm a b ∧ tm a b ≤ 1073741824 := by
  refine ⟨?_, (tm_in (by omega) (by omega)).2⟩
  unfold tm
  split
  · omega
  · rw [if_neg (by omega)]
    split
    · omega
    · exact Int.mul_nonneg (by omega) (by omega)
theorem mayR_in {l m : Int} (h : Tre.mayR l m = true) : 0 ≤ l ∧ l ≤ 1000 ∧ -1 ≤ m ∧ m ≤ 1000 := by
  simp [Tre.mayR] at h; omega
theorem wt_in : ∀ t : Tre, t.ok = true → 0 ≤ wt t ∧ wt t ≤ 1073741824
  | .leaf n, _ => by unfold wt; split <;> omega
  | .two k x y, h => by
    simp [Tre.ok] at h
    exact pl_nn (wt_in x h.1.2) (wt_in y h.2)
  | .rep x l m z, h => by
    simp [Tre.ok] at h
    have := mayR_in h.1
    unfold wt
    exact tm_nn (by split <;> omega) (wt_in x h.2)
theorem wl_in : ∀ t : Tre, t.ok = true → 0 ≤ wl t ∧ wl t ≤ 1073741824
  | .leaf n, _ => by unfold wl; split <;> omega
  | .two k x y, h => by
    simp [Tre.ok] at h
    have hx := wl_in x h.1.2
    have hy := wl_in y h.2
    unfold wl
    split
    · exact pl_nn hx hy
    · omega
  | .rep x l m z, h => by
    simp [Tre.ok] at h
    have := mayR_in h.1
    exact tm_nn (by omega) (wl_in x h.2)
theorem wg_in : ∀ t : Tre, t.ok = true → -1 ≤ wg t ∧ wg t ≤ 1073741824
  | .leaf n, _ => by unfold wg; split <;> omega
  | .two k x y, h => by
    simp [Tre.ok] at h
    have hx := wg_in x h.1.2
    have hy := wg_in y h.2
    unfold wg
    split
    · exact pl_in hx hy
    · exact gr_in hx hy
  | .rep x l m z, h => by
    simp [Tre.ok] at h
    have := mayR_in h.1
    exact tm_in (by omega) (wg_in x h.2)
/-- What is told of the subtree at a place. -/
def atP (f : Tre → Int) (t : Tre) (p : Nat) : Int := f ((t.subs[p]?).getD t)
theorem atP_get {f : Tre → Int} {t : Tre} {p : Nat} {u : Tre} (h : t.subs[p]? = some u) : atP f t p = f u := by simp [atP, h]
end Go.Proofs.YthbmfnibgjlkhaaDoor
