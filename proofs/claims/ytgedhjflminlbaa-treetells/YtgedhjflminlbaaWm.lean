/- Widths and weights of trees: plain facts. -/
import Derived.Test.YtgedhjflminlbaaWo
namespace Go.Proofs.Ytgedhjflminlbaa
open Go.RowKit
def wt : Tre → Int
  | .leaf n => if n.k = 2 then 1 else 0
  | .two _ x y => pl (wt x) (wt y)
  | .rep x l m _ => tm (if m = -1 then l + 1 else m) (wt x)
def wl : Tre → Int
  | .leaf n => if n.k = 2 then 1 else 0
  | .two k x y => if k = 3 then pl (wl x) (wl y) else min (wl x) (wl y)
  | .rep x l _ _ => tm l (wl x)
def wg : Tre → Int
  | .leaf n => if n.k = 2 then 1 else 0
  | .two k x y => if k = 3 then pl (wg x) (wg y) else gr (wg x) (wg y)
  | .rep x _ m _ => tm m (wg x)
theorem pl_nn {a b : Int} (ha : 0 ≤ a ∧ a ≤ 1073741824) (hb : 0 ≤ b ∧ b ≤ 1073741824) : 0 ≤ pl a b ∧ pl a b ≤ 1073741824 := by
  unfold pl; rw [if_neg (by omega)]; omega
theorem pl_in {a b : Int} (ha : -1 ≤ a ∧ a ≤ 1073741824) (hb : -1 ≤ b ∧ b ≤ 1073741824) : -1 ≤ pl a b ∧ pl a b ≤ 1073741824 := by
  unfold pl; split <;> omega
theorem gr_in {a b : Int} (ha : -1 ≤ a ∧ a ≤ 1073741824) (hb : -1 ≤ b ∧ b ≤ 1073741824) : -1 ≤ gr a b ∧ gr a b ≤ 1073741824 := by
  unfold gr; split <;> omega
theorem tm_in {a b : Int} (ha : -1 ≤ a) (hb : -1 ≤ b ∧ b ≤ 1073741824) : -1 ≤ tm a b ∧ tm a b ≤ 1073741824 := by
  unfold tm
  split
  · omega
  · split
    · omega
    · split
      · omega
      · rename_i h1 h2 h3
        rw [Int.tdiv_eq_ediv_of_nonneg (by omega)] at h3
        have hb0 : 0 < b := by omega
        have h4 : a ≤ 1073741824 / b := by omega
        have h5 := (Int.le_ediv_iff_mul_le hb0).1 h4
        have h6 : 0 ≤ a * b := Int.mul_nonneg (by omega) (by omega)
        omega
theorem tm_nn {a b : Int} (ha : 0 ≤ a) (hb : 0 ≤ b ∧ b ≤ 1073741824) : 0 ≤ tm a b ∧ tm a b ≤ 1073741824 := by
  refine ⟨?_, (tm_in (by omega) (by omega)).2⟩
  unfold tm
  split
  · omega
  · rw [if_neg (by omega)]
    split
    · omega
    · exact Int.mul_nonneg (by omega) (by omega)
theorem mayR_in {l m : Int} (h : Tre.mayR l m = true) : 0 ≤ l ∧ l ≤ 1000 ∧ -1 ≤ m ∧ m ≤ 1000 := by
  simp [Tre.mayR] at h; omega
theorem wt_in : ∀ t : Tre, t.ok = true → 0 ≤ wt t ∧ wt t ≤ 1073741824
  | .leaf n, _ => by unfold wt; split <;> omega
  | .two k x y, h => by
    simp [Tre.ok] at h
    exact pl_nn (wt_in x h.1.2) (wt_in y h.2)
  | .rep x l m z, h => by
    simp [Tre.ok] at h
    have := mayR_in h.1
    unfold wt
    exact tm_nn (by split <;> omega) (wt_in x h.2)
theorem wl_in : ∀ t : Tre, t.ok = true → 0 ≤ wl t ∧ wl t ≤ 1073741824
  | .leaf n, _ => by unfold wl; split <;> omega
  | .two k x y, h => by
    simp [Tre.ok] at h
    have hx := wl_in x h.1.2
    have hy := wl_in y h.2
    unfold wl
    split
    · exact pl_nn hx hy
    · omega
  | .rep x l m z, h => by
    simp [Tre.ok] at h
    have := mayR_in h.1
    exact tm_nn (by omega) (wl_in x h.2)
theorem wg_in : ∀ t : Tre, t.ok = true → -1 ≤ wg t ∧ wg t ≤ 1073741824
  | .leaf n, _ => by unfold wg; split <;> omega
  | .two k x y, h => by
    simp [Tre.ok] at h
    have hx := wg_in x h.1.2
    have hy := wg_in y h.2
    unfold wg
    split
    · exact pl_in hx hy
    · exact gr_in hx hy
  | .rep x l m z, h => by
    simp [Tre.ok] at h
    have := mayR_in h.1
    exact tm_in (by omega) (wg_in x h.2)
/-- What is told of the subtree at a place. -/
def atP (f : Tre → Int) (t : Tre) (p : Nat) : Int := f ((t.subs[p]?).getD t)
theorem atP_get {f : Tre → Int} {t : Tre} {p : Nat} {u : Tre} (h : t.subs[p]? = some u) : atP f t p = f u := by simp [atP, h]
theorem weightOf_any (t : Tre) (ho : t.ok = true) (p : Nat) (hp : p < t.size) (ao : Option Addr) (cap : Nat) (w : World) (hr : RdI w ao p (atP wt t)) : Calls Try.prog 55 #[ndV (nodes t p), .slice ao p cap] w (RetI w (atP wt t p)) := by
  have hl : p < t.subs.length := by rw [Tre.subs_length]; exact hp
  have e := List.getElem?_eq_getElem hl
  have hok := subs_ok t p _ ho e
  rw [nodes_get e, atP_get e]
  generalize t.subs[p] = u at *
  cases u with
  | leaf n =>
    have := lf_kind hok
    exact weightOf_leaf n.k n.c0 n.c1 n.c2 n.c3 n.a n.b n.l n.m n.z ao p cap w (by omega)
  | two k x y =>
    have sx := x.size_pos
    have sy := y.size_pos
    obtain ⟨h1, h2, h3⟩ := subs_two e
    simp [Tre.ok] at hok
    have gx := atP_get (f := wt) h3
    have gy := atP_get (f := wt) h2
    have := weightOf_two k 0 0 0 0 0 0 false (p - 1 - y.size) (p - 1) ao p cap (atP wt t) w hok.1.1 hr (by omega) (by omega) (by rw [gx]; have := wt_in x hok.1.2; omega) (by rw [gy]; have := wt_in y hok.2; omega)
    rw [gx, gy, show (((p - 1 - y.size : Nat)) : Int) = (p : Int) - 1 - y.size by omega, show (((p - 1 : Nat)) : Int) = (p : Int) - 1 by omega] at this
    exact this
  | rep x l m z =>
    have sx := x.size_pos
    obtain ⟨h1, h2⟩ := subs_rep e
    simp [Tre.ok] at hok
    have hm := mayR_in hok.1
    have gx := atP_get (f := wt) h2
    have := weightOf_rep 0 0 0 0 0 l m z (p - 1) ao p cap (atP wt t) w hr (by omega) (by rw [gx]; have := wt_in x hok.2; omega) (by omega) (by omega)
    rw [gx, show (((p - 1 : Nat)) : Int) = (p : Int) - 1 by omega] at this
    exact this
end Go.Proofs.Ytgedhjflminlbaa
