/- Mirror: the round of its loop. -/
import Derived.Test.YtgedhjflminlbaaBw
import Derived.Test.YtgedhjflminlbaaMi
import Derived.Test.YtgedhjflminlbaaRp
import Derived.Test.YtgedhjflminlbaaMv
import Derived.Test.YtgedhjflminlbaaSc
import Derived.Test.YtgedhjflminlbaaRd
import Derived.Sort.CutIn
import Derived.Sort.BigQuietIn
import Derived.BigRegionIn
namespace Go.Proofs.Ytgedhjflminlbaa
open Go.RowKit Go.Shelf
attribute [local go_sem] Oper.semAt_some
/-- The body of the first range over a function. -/
def bodyR : Code → Option Code
  | .rangeFunc _ _ _ c => some c
  | .seq a b => match bodyR a with
    | some c => some c
    | none => bodyR b
  | .block _ c => bodyR c
  | .scope c => bodyR c
  | _ => none
noncomputable def body17 : Code := ((Try.f17.body.bind bodyR).getD .skip)
/-- Only three blocks turned. -/
structure But3 (x y z : Nat) (A B : World) : Prop where
  os : B.os = A.os
  tape : B.tape = A.tape
  output : B.output = A.output
  size : A.heap.size ≤ B.heap.size
  block : ∀ k, k < A.heap.size → k ≠ x → k ≠ y → k ≠ z → B.heap[k]? = A.heap[k]?
def fr17 (X1 X2 X3 X4 X5 nb p : Nat) (u : Nat → Value) : Array Value := #[u 0, .pointer (some ⟨X1, 0, none⟩), .pointer (some ⟨X2, 0, none⟩), .pointer (some ⟨X3, 0, none⟩), .pointer (some ⟨X4, 0, none⟩), .pointer (some ⟨X5, 0, none⟩), .int .i64 (p : Nat), .pointer (some ⟨nb, 0, none⟩), u 8, u 9, u 10, u 11, u 12, u 13, u 14, u 15, u 16, u 17, u 18, u 19, u 20, u 21, u 22, u 23, u 24, u 25, u 26, u 27, u 28, u 29, u 30, u 31, u 32, u 33, u 34, u 35, u 36, u 37, u 38, u 39, u 40, u 41, u 42, u 43, u 44, u 45, u 46, u 47, u 48, u 49, u 50, u 51, u 52, u 53, u 54, u 55, u 56, u 57, u 58, u 59, u 60, u 61, u 62, u 63, u 64, u 65, u 66, u 67, u 68, u 69, u 70, u 71, u 72, u 73, u 74, u 75, u 76, u 77, u 78, u 79, u 80, u 81, u 82, u 83, u 84, u 85, u 86, u 87, u 88, u 89, u 90, u 91, u 92, u 93, u 94, u 95, u 96, u 97, u 98, u 99, u 100, u 101, u 102, u 103, u 104, u 105, u 106, u 107, u 108, u 109]
theorem But3.of_below {x y z : Nat} {A B : World} (h : Below A.heap.size A B) : But3 x y z A B := ⟨h.os, h.tape, h.output, h.size, fun k hk _ _ _ => h.block k hk⟩
theorem But3.trans {x y z : Nat} {A B C : World} (h : But3 x y z A B) (k : But3 x y z B C) : But3 x y z A C := ⟨k.os.trans h.os, k.tape.trans h.tape, k.output.trans h.output, Nat.le_trans h.size k.size, fun i hi a b c => (k.block i (Nat.lt_of_lt_of_le hi h.size) a b c).trans (h.block i hi a b c)⟩
theorem set_heap (A : World) (a : Addr) (v : Value) (k : Nat) (h : k ≠ a.block) : (A.setCell a v).heap[k]? = A.heap[k]? := Below.heap_setCell _ _ _ _ h
theorem But3.set {x y z : Nat} {A B : World} (h : But3 x y z A B) {b : Nat} (hb : b = x ∨ b = y ∨ b = z) (i : Nat) (v : Value) : But3 x y z A (B.setCell ⟨b, i, none⟩ v) := by
  have e := (Below.refl 0 B).setCell (p := ⟨b, i, none⟩) (Nat.zero_le _) v
  refine ⟨e.os.trans h.os, e.tape.trans h.tape, e.output.trans h.output, by simpa using h.size, fun k hk a1 a2 a3 => ?_⟩
  rw [set_heap _ _ _ _ (by rcases hb with rfl | rfl | rfl <;> assumption)]
  exact h.block k hk a1 a2 a3
theorem But3.cl {x y z : Nat} {A B : World} (h : But3 x y z A B) {b : Nat} {t : TypeId} {vs : List Value} (k : Cl A b t vs) (h1 : b ≠ x) (h2 : b ≠ y) (h3 : b ≠ z) : Cl B b t vs := by unfold Cl; rw [h.block b k.lt h1 h2 h3]; exact k
/-- How things stand within a round. -/
structure St (W : World) (BT BB nb n : Nat) (T : Nat → Nd) (x : Nd) (g : Nat → Int) (wx : World) : Prop where
  but : But3 BT BB nb W wx
  kt : Cl wx BT 29 (ndsL T n)
  kg : Cl wx BB 3 (ints g n)
  kn : Cl wx nb 29 (ndL x)
theorem St.below {W wx wy : World} {BT BB nb n : Nat} {T : Nat → Nd} {x : Nd} {g : Nat → Int} (h : St W BT BB nb n T x g wx) (hb : Below wx.heap.size wx wy) : St W BT BB nb n T x g wy := ⟨h.but.trans (But3.of_below hb), h.kt.below hb, h.kg.below hb, h.kn.below hb⟩
theorem St.setG {W wx : World} {BT BB nb n : Nat} {T : Nat → Nd} {x : Nd} {g : Nat → Int} (h : St W BT BB nb n T x g wx) (i : Nat) (v : Int) (h1 : BB ≠ BT) (h2 : BB ≠ nb) : St W BT BB nb n T x (updI g i v) (wx.setCell ⟨BB, i, none⟩ (.int .i64 v)) :=
  ⟨h.but.set (.inr (.inl rfl)) _ _, h.kt.other h1 _ _, by have := h.kg.set i (.int .i64 v); rwa [ints_set] at this, h.kn.other h2 _ _⟩
theorem store10 {W : World} {BT n : Nat} {T : Nat → Nd} (h : Cl W BT 29 (ndsL T n)) {i : Nat} (hi : i < n) (x : Nd) : (W.cell? ⟨BT, i * 10, none⟩ = some (.int .i64 (T i).k) ∧ W.frozen? ⟨BT, i * 10, none⟩ = false) ∧ ((W.setCell ⟨BT, i * 10, none⟩ (.int .i64 x.k)).cell? ⟨BT, i * 10 + 1, none⟩ = some (.int .u64 (T i).c0) ∧ (W.setCell ⟨BT, i * 10, none⟩ (.int .i64 x.k)).frozen? ⟨BT, i * 10 + 1, none⟩ = false) ∧ (((W.setCell ⟨BT, i * 10, none⟩ (.int .i64 x.k)).setCell ⟨BT, i * 10 + 1, none⟩ (.int .u64 x.c0)).cell? ⟨BT, i * 10 + 2, none⟩ = some (.int .u64 (T i).c1) ∧ ((W.setCell ⟨BT, i * 10, none⟩ (.int .i64 x.k)).setCell ⟨BT, i * 10 + 1, none⟩ (.int .u64 x.c0)).frozen? ⟨BT, i * 10 + 2, none⟩ = false) ∧ ((((W.setCell ⟨BT, i * 10, none⟩ (.int .i64 x.k)).setCell ⟨BT, i * 10 + 1, none⟩ (.int .u64 x.c0)).setCell ⟨BT, i * 10 + 2, none⟩ (.int .u64 x.c1)).cell? ⟨BT, i * 10 + 3, none⟩ = some (.int .u64 (T i).c2) ∧ (((W.setCell ⟨BT, i * 10, none⟩ (.int .i64 x.k)).setCell ⟨BT, i * 10 + 1, none⟩ (.int .u64 x.c0)).setCell ⟨BT, i * 10 + 2, none⟩ (.int .u64 x.c1)).frozen? ⟨BT, i * 10 + 3, none⟩ = false) ∧ (((((W.setCell ⟨BT, i * 10, none⟩ (.int .i64 x.k)).setCell ⟨BT, i * 10 + 1, none⟩ (.int .u64 x.c0)).setCell ⟨BT, i * 10 + 2, none⟩ (.int .u64 x.c1)).setCell ⟨BT, i * 10 + 3, none⟩ (.int .u64 x.c2)).cell? ⟨BT, i * 10 + 4, none⟩ = some (.int .u64 (T i).c3) ∧ ((((W.setCell ⟨BT, i * 10, none⟩ (.int .i64 x.k)).setCell ⟨BT, i * 10 + 1, none⟩ (.int .u64 x.c0)).setCell ⟨BT, i * 10 + 2, none⟩ (.int .u64 x.c1)).setCell ⟨BT, i * 10 + 3, none⟩ (.int .u64 x.c2)).frozen? ⟨BT, i * 10 + 4, none⟩ = false) ∧ ((((((W.setCell ⟨BT, i * 10, none⟩ (.int .i64 x.k)).setCell ⟨BT, i * 10 + 1, none⟩ (.int .u64 x.c0)).setCell ⟨BT, i * 10 + 2, none⟩ (.int .u64 x.c1)).setCell ⟨BT, i * 10 + 3, none⟩ (.int .u64 x.c2)).setCell ⟨BT, i * 10 + 4, none⟩ (.int .u64 x.c3)).cell? ⟨BT, i * 10 + 5, none⟩ = some (.int .i64 (T i).a) ∧ (((((W.setCell ⟨BT, i * 10, none⟩ (.int .i64 x.k)).setCell ⟨BT, i * 10 + 1, none⟩ (.int .u64 x.c0)).setCell ⟨BT, i * 10 + 2, none⟩ (.int .u64 x.c1)).setCell ⟨BT, i * 10 + 3, none⟩ (.int .u64 x.c2)).setCell ⟨BT, i * 10 + 4, none⟩ (.int .u64 x.c3)).frozen? ⟨BT, i * 10 + 5, none⟩ = false) ∧ (((((((W.setCell ⟨BT, i * 10, none⟩ (.int .i64 x.k)).setCell ⟨BT, i * 10 + 1, none⟩ (.int .u64 x.c0)).setCell ⟨BT, i * 10 + 2, none⟩ (.int .u64 x.c1)).setCell ⟨BT, i * 10 + 3, none⟩ (.int .u64 x.c2)).setCell ⟨BT, i * 10 + 4, none⟩ (.int .u64 x.c3)).setCell ⟨BT, i * 10 + 5, none⟩ (.int .i64 x.a)).cell? ⟨BT, i * 10 + 6, none⟩ = some (.int .i64 (T i).b) ∧ ((((((W.setCell ⟨BT, i * 10, none⟩ (.int .i64 x.k)).setCell ⟨BT, i * 10 + 1, none⟩ (.int .u64 x.c0)).setCell ⟨BT, i * 10 + 2, none⟩ (.int .u64 x.c1)).setCell ⟨BT, i * 10 + 3, none⟩ (.int .u64 x.c2)).setCell ⟨BT, i * 10 + 4, none⟩ (.int .u64 x.c3)).setCell ⟨BT, i * 10 + 5, none⟩ (.int .i64 x.a)).frozen? ⟨BT, i * 10 + 6, none⟩ = false) ∧ ((((((((W.setCell ⟨BT, i * 10, none⟩ (.int .i64 x.k)).setCell ⟨BT, i * 10 + 1, none⟩ (.int .u64 x.c0)).setCell ⟨BT, i * 10 + 2, none⟩ (.int .u64 x.c1)).setCell ⟨BT, i * 10 + 3, none⟩ (.int .u64 x.c2)).setCell ⟨BT, i * 10 + 4, none⟩ (.int .u64 x.c3)).setCell ⟨BT, i * 10 + 5, none⟩ (.int .i64 x.a)).setCell ⟨BT, i * 10 + 6, none⟩ (.int .i64 x.b)).cell? ⟨BT, i * 10 + 7, none⟩ = some (.int .i64 (T i).l) ∧ (((((((W.setCell ⟨BT, i * 10, none⟩ (.int .i64 x.k)).setCell ⟨BT, i * 10 + 1, none⟩ (.int .u64 x.c0)).setCell ⟨BT, i * 10 + 2, none⟩ (.int .u64 x.c1)).setCell ⟨BT, i * 10 + 3, none⟩ (.int .u64 x.c2)).setCell ⟨BT, i * 10 + 4, none⟩ (.int .u64 x.c3)).setCell ⟨BT, i * 10 + 5, none⟩ (.int .i64 x.a)).setCell ⟨BT, i * 10 + 6, none⟩ (.int .i64 x.b)).frozen? ⟨BT, i * 10 + 7, none⟩ = false) ∧ (((((((((W.setCell ⟨BT, i * 10, none⟩ (.int .i64 x.k)).setCell ⟨BT, i * 10 + 1, none⟩ (.int .u64 x.c0)).setCell ⟨BT, i * 10 + 2, none⟩ (.int .u64 x.c1)).setCell ⟨BT, i * 10 + 3, none⟩ (.int .u64 x.c2)).setCell ⟨BT, i * 10 + 4, none⟩ (.int .u64 x.c3)).setCell ⟨BT, i * 10 + 5, none⟩ (.int .i64 x.a)).setCell ⟨BT, i * 10 + 6, none⟩ (.int .i64 x.b)).setCell ⟨BT, i * 10 + 7, none⟩ (.int .i64 x.l)).cell? ⟨BT, i * 10 + 8, none⟩ = some (.int .i64 (T i).m) ∧ ((((((((W.setCell ⟨BT, i * 10, none⟩ (.int .i64 x.k)).setCell ⟨BT, i * 10 + 1, none⟩ (.int .u64 x.c0)).setCell ⟨BT, i * 10 + 2, none⟩ (.int .u64 x.c1)).setCell ⟨BT, i * 10 + 3, none⟩ (.int .u64 x.c2)).setCell ⟨BT, i * 10 + 4, none⟩ (.int .u64 x.c3)).setCell ⟨BT, i * 10 + 5, none⟩ (.int .i64 x.a)).setCell ⟨BT, i * 10 + 6, none⟩ (.int .i64 x.b)).setCell ⟨BT, i * 10 + 7, none⟩ (.int .i64 x.l)).frozen? ⟨BT, i * 10 + 8, none⟩ = false) ∧ ((((((((((W.setCell ⟨BT, i * 10, none⟩ (.int .i64 x.k)).setCell ⟨BT, i * 10 + 1, none⟩ (.int .u64 x.c0)).setCell ⟨BT, i * 10 + 2, none⟩ (.int .u64 x.c1)).setCell ⟨BT, i * 10 + 3, none⟩ (.int .u64 x.c2)).setCell ⟨BT, i * 10 + 4, none⟩ (.int .u64 x.c3)).setCell ⟨BT, i * 10 + 5, none⟩ (.int .i64 x.a)).setCell ⟨BT, i * 10 + 6, none⟩ (.int .i64 x.b)).setCell ⟨BT, i * 10 + 7, none⟩ (.int .i64 x.l)).setCell ⟨BT, i * 10 + 8, none⟩ (.int .i64 x.m)).cell? ⟨BT, i * 10 + 9, none⟩ = some (.bool (T i).z) ∧ (((((((((W.setCell ⟨BT, i * 10, none⟩ (.int .i64 x.k)).setCell ⟨BT, i * 10 + 1, none⟩ (.int .u64 x.c0)).setCell ⟨BT, i * 10 + 2, none⟩ (.int .u64 x.c1)).setCell ⟨BT, i * 10 + 3, none⟩ (.int .u64 x.c2)).setCell ⟨BT, i * 10 + 4, none⟩ (.int .u64 x.c3)).setCell ⟨BT, i * 10 + 5, none⟩ (.int .i64 x.a)).setCell ⟨BT, i * 10 + 6, none⟩ (.int .i64 x.b)).setCell ⟨BT, i * 10 + 7, none⟩ (.int .i64 x.l)).setCell ⟨BT, i * 10 + 8, none⟩ (.int .i64 x.m)).frozen? ⟨BT, i * 10 + 9, none⟩ = false) ∧ Cl ((((((((((W.setCell ⟨BT, i * 10, none⟩ (.int .i64 x.k)).setCell ⟨BT, i * 10 + 1, none⟩ (.int .u64 x.c0)).setCell ⟨BT, i * 10 + 2, none⟩ (.int .u64 x.c1)).setCell ⟨BT, i * 10 + 3, none⟩ (.int .u64 x.c2)).setCell ⟨BT, i * 10 + 4, none⟩ (.int .u64 x.c3)).setCell ⟨BT, i * 10 + 5, none⟩ (.int .i64 x.a)).setCell ⟨BT, i * 10 + 6, none⟩ (.int .i64 x.b)).setCell ⟨BT, i * 10 + 7, none⟩ (.int .i64 x.l)).setCell ⟨BT, i * 10 + 8, none⟩ (.int .i64 x.m)).setCell ⟨BT, i * 10 + 9, none⟩ (.bool x.z)) BT 29 (ndsL (updN T i x) n) := by
  have step : ∀ (V : World) (G : Nat → Nd) (j : Nat) (u u0 : Value) (y : Nd), Cl V BT 29 (ndsL G n) → j < 10 → (ndL (G i))[j]? = some u0 → (ndL (G i)).set j u = ndL y → (V.cell? ⟨BT, i * 10 + j, none⟩ = some u0 ∧ V.frozen? ⟨BT, i * 10 + j, none⟩ = false) ∧ Cl (V.setCell ⟨BT, i * 10 + j, none⟩ u) BT 29 (ndsL (updN G i y) n) := by
    intro V G j u u0 y hV hj h0 hy
    refine ⟨⟨hV.cell _ (by rw [ndsL_get G n i j hi hj]; exact h0), hV.frozen _⟩, ?_⟩
    have := hV.set (i * 10 + j) u
    rwa [ndsL_set G n i j u y hi hj hy] at this
  have s0 := step _ T 0 (.int .i64 x.k) (.int .i64 (T i).k) ⟨x.k, (T i).c0, (T i).c1, (T i).c2, (T i).c3, (T i).a, (T i).b, (T i).l, (T i).m, (T i).z⟩ h (by decide) (by simp [ndL]) (by simp [ndL])
  have s1 := step _ (updN T i ⟨x.k, (T i).c0, (T i).c1, (T i).c2, (T i).c3, (T i).a, (T i).b, (T i).l, (T i).m, (T i).z⟩) 1 (.int .u64 x.c0) (.int .u64 (T i).c0) ⟨x.k, x.c0, (T i).c1, (T i).c2, (T i).c3, (T i).a, (T i).b, (T i).l, (T i).m, (T i).z⟩ s0.2 (by decide) (by simp [ndL, updN]) (by simp [ndL, updN])
  have s2 := step _ (updN (updN T i ⟨x.k, (T i).c0, (T i).c1, (T i).c2, (T i).c3, (T i).a, (T i).b, (T i).l, (T i).m, (T i).z⟩) i ⟨x.k, x.c0, (T i).c1, (T i).c2, (T i).c3, (T i).a, (T i).b, (T i).l, (T i).m, (T i).z⟩) 2 (.int .u64 x.c1) (.int .u64 (T i).c1) ⟨x.k, x.c0, x.c1, (T i).c2, (T i).c3, (T i).a, (T i).b, (T i).l, (T i).m, (T i).z⟩ s1.2 (by decide) (by simp [ndL, updN]) (by simp [ndL, updN])
  have s3 := step _ (updN (updN (updN T i ⟨x.k, (T i).c0, (T i).c1, (T i).c2, (T i).c3, (T i).a, (T i).b, (T i).l, (T i).m, (T i).z⟩) i ⟨x.k, x.c0, (T i).c1, (T i).c2, (T i).c3, (T i).a, (T i).b, (T i).l, (T i).m, (T i).z⟩) i ⟨x.k, x.c0, x.c1, (T i).c2, (T i).c3, (T i).a, (T i).b, (T i).l, (T i).m, (T i).z⟩) 3 (.int .u64 x.c2) (.int .u64 (T i).c2) ⟨x.k, x.c0, x.c1, x.c2, (T i).c3, (T i).a, (T i).b, (T i).l, (T i).m, (T i).z⟩ s2.2 (by decide) (by simp [ndL, updN]) (by simp [ndL, updN])
  have s4 := step _ (updN (updN (updN (updN T i ⟨x.k, (T i).c0, (T i).c1, (T i).c2, (T i).c3, (T i).a, (T i).b, (T i).l, (T i).m, (T i).z⟩) i ⟨x.k, x.c0, (T i).c1, (T i).c2, (T i).c3, (T i).a, (T i).b, (T i).l, (T i).m, (T i).z⟩) i ⟨x.k, x.c0, x.c1, (T i).c2, (T i).c3, (T i).a, (T i).b, (T i).l, (T i).m, (T i).z⟩) i ⟨x.k, x.c0, x.c1, x.c2, (T i).c3, (T i).a, (T i).b, (T i).l, (T i).m, (T i).z⟩) 4 (.int .u64 x.c3) (.int .u64 (T i).c3) ⟨x.k, x.c0, x.c1, x.c2, x.c3, (T i).a, (T i).b, (T i).l, (T i).m, (T i).z⟩ s3.2 (by decide) (by simp [ndL, updN]) (by simp [ndL, updN])
  have s5 := step _ (updN (updN (updN (updN (updN T i ⟨x.k, (T i).c0, (T i).c1, (T i).c2, (T i).c3, (T i).a, (T i).b, (T i).l, (T i).m, (T i).z⟩) i ⟨x.k, x.c0, (T i).c1, (T i).c2, (T i).c3, (T i).a, (T i).b, (T i).l, (T i).m, (T i).z⟩) i ⟨x.k, x.c0, x.c1, (T i).c2, (T i).c3, (T i).a, (T i).b, (T i).l, (T i).m, (T i).z⟩) i ⟨x.k, x.c0, x.c1, x.c2, (T i).c3, (T i).a, (T i).b, (T i).l, (T i).m, (T i).z⟩) i ⟨x.k, x.c0, x.c1, x.c2, x.c3, (T i).a, (T i).b, (T i).l, (T i).m, (T i).z⟩) 5 (.int .i64 x.a) (.int .i64 (T i).a) ⟨x.k, x.c0, x.c1, x.c2, x.c3, x.a, (T i).b, (T i).l, (T i).m, (T i).z⟩ s4.2 (by decide) (by simp [ndL, updN]) (by simp [ndL, updN])
  have s6 := step _ (updN (updN (updN (updN (updN (updN T i ⟨x.k, (T i).c0, (T i).c1, (T i).c2, (T i).c3, (T i).a, (T i).b, (T i).l, (T i).m, (T i).z⟩) i ⟨x.k, x.c0, (T i).c1, (T i).c2, (T i).c3, (T i).a, (T i).b, (T i).l, (T i).m, (T i).z⟩) i ⟨x.k, x.c0, x.c1, (T i).c2, (T i).c3, (T i).a, (T i).b, (T i).l, (T i).m, (T i).z⟩) i ⟨x.k, x.c0, x.c1, x.c2, (T i).c3, (T i).a, (T i).b, (T i).l, (T i).m, (T i).z⟩) i ⟨x.k, x.c0, x.c1, x.c2, x.c3, (T i).a, (T i).b, (T i).l, (T i).m, (T i).z⟩) i ⟨x.k, x.c0, x.c1, x.c2, x.c3, x.a, (T i).b, (T i).l, (T i).m, (T i).z⟩) 6 (.int .i64 x.b) (.int .i64 (T i).b) ⟨x.k, x.c0, x.c1, x.c2, x.c3, x.a, x.b, (T i).l, (T i).m, (T i).z⟩ s5.2 (by decide) (by simp [ndL, updN]) (by simp [ndL, updN])
  have s7 := step _ (updN (updN (updN (updN (updN (updN (updN T i ⟨x.k, (T i).c0, (T i).c1, (T i).c2, (T i).c3, (T i).a, (T i).b, (T i).l, (T i).m, (T i).z⟩) i ⟨x.k, x.c0, (T i).c1, (T i).c2, (T i).c3, (T i).a, (T i).b, (T i).l, (T i).m, (T i).z⟩) i ⟨x.k, x.c0, x.c1, (T i).c2, (T i).c3, (T i).a, (T i).b, (T i).l, (T i).m, (T i).z⟩) i ⟨x.k, x.c0, x.c1, x.c2, (T i).c3, (T i).a, (T i).b, (T i).l, (T i).m, (T i).z⟩) i ⟨x.k, x.c0, x.c1, x.c2, x.c3, (T i).a, (T i).b, (T i).l, (T i).m, (T i).z⟩) i ⟨x.k, x.c0, x.c1, x.c2, x.c3, x.a, (T i).b, (T i).l, (T i).m, (T i).z⟩) i ⟨x.k, x.c0, x.c1, x.c2, x.c3, x.a, x.b, (T i).l, (T i).m, (T i).z⟩) 7 (.int .i64 x.l) (.int .i64 (T i).l) ⟨x.k, x.c0, x.c1, x.c2, x.c3, x.a, x.b, x.l, (T i).m, (T i).z⟩ s6.2 (by decide) (by simp [ndL, updN]) (by simp [ndL, updN])
  have s8 := step _ (updN (updN (updN (updN (updN (updN (updN (updN T i ⟨x.k, (T i).c0, (T i).c1, (T i).c2, (T i).c3, (T i).a, (T i).b, (T i).l, (T i).m, (T i).z⟩) i ⟨x.k, x.c0, (T i).c1, (T i).c2, (T i).c3, (T i).a, (T i).b, (T i).l, (T i).m, (T i).z⟩) i ⟨x.k, x.c0, x.c1, (T i).c2, (T i).c3, (T i).a, (T i).b, (T i).l, (T i).m, (T i).z⟩) i ⟨x.k, x.c0, x.c1, x.c2, (T i).c3, (T i).a, (T i).b, (T i).l, (T i).m, (T i).z⟩) i ⟨x.k, x.c0, x.c1, x.c2, x.c3, (T i).a, (T i).b, (T i).l, (T i).m, (T i).z⟩) i ⟨x.k, x.c0, x.c1, x.c2, x.c3, x.a, (T i).b, (T i).l, (T i).m, (T i).z⟩) i ⟨x.k, x.c0, x.c1, x.c2, x.c3, x.a, x.b, (T i).l, (T i).m, (T i).z⟩) i ⟨x.k, x.c0, x.c1, x.c2, x.c3, x.a, x.b, x.l, (T i).m, (T i).z⟩) 8 (.int .i64 x.m) (.int .i64 (T i).m) ⟨x.k, x.c0, x.c1, x.c2, x.c3, x.a, x.b, x.l, x.m, (T i).z⟩ s7.2 (by decide) (by simp [ndL, updN]) (by simp [ndL, updN])
  have s9 := step _ (updN (updN (updN (updN (updN (updN (updN (updN (updN T i ⟨x.k, (T i).c0, (T i).c1, (T i).c2, (T i).c3, (T i).a, (T i).b, (T i).l, (T i).m, (T i).z⟩) i ⟨x.k, x.c0, (T i).c1, (T i).c2, (T i).c3, (T i).a, (T i).b, (T i).l, (T i).m, (T i).z⟩) i ⟨x.k, x.c0, x.c1, (T i).c2, (T i).c3, (T i).a, (T i).b, (T i).l, (T i).m, (T i).z⟩) i ⟨x.k, x.c0, x.c1, x.c2, (T i).c3, (T i).a, (T i).b, (T i).l, (T i).m, (T i).z⟩) i ⟨x.k, x.c0, x.c1, x.c2, x.c3, (T i).a, (T i).b, (T i).l, (T i).m, (T i).z⟩) i ⟨x.k, x.c0, x.c1, x.c2, x.c3, x.a, (T i).b, (T i).l, (T i).m, (T i).z⟩) i ⟨x.k, x.c0, x.c1, x.c2, x.c3, x.a, x.b, (T i).l, (T i).m, (T i).z⟩) i ⟨x.k, x.c0, x.c1, x.c2, x.c3, x.a, x.b, x.l, (T i).m, (T i).z⟩) i ⟨x.k, x.c0, x.c1, x.c2, x.c3, x.a, x.b, x.l, x.m, (T i).z⟩) 9 (.bool x.z) (.bool (T i).z) ⟨x.k, x.c0, x.c1, x.c2, x.c3, x.a, x.b, x.l, x.m, x.z⟩ s8.2 (by decide) (by simp [ndL, updN]) (by simp [ndL, updN])
  have e : ∀ G : Nat → Nd, (∀ q, q ≠ i → G q = T q) → ndsL (updN G i x) n = ndsL (updN T i x) n := fun G hG => ndsL_congr fun q _ => by
    unfold updN; split
    · rfl
    · rename_i hq; exact hG q hq
  simp only [Nat.add_zero] at s0
  refine ⟨s0.1, s1.1, s2.1, s3.1, s4.1, s5.1, s6.1, s7.1, s8.1, s9.1, ?_⟩
  have s := s9.2
  rwa [e _ (fun q hq => by simp [updN, hq])] at s
set_option maxRecDepth 100000 in
set_option maxHeartbeats 4000000 in
theorem mr_leaf {b l i : Nat} {Old : Nat → Prop} {I : Nat → World → Prop} (X1 X2 X3 X4 X5 nb p n BF BT BB pl : Nat) (u : Nat → Value) (q : Nd) (T : Nat → Nd) (g f : Nat → Int) {W : World}
    (hk3 : Cl W X3 50 [.slice (some ⟨BF, 0, none⟩) n n]) (hk4 : Cl W X4 22 [.slice (some ⟨BT, 0, none⟩) n n]) (hk5 : Cl W X5 50 [.slice (some ⟨BB, 0, none⟩) n n]) (hF : Cl W BF 3 (ints f n)) (hG : Cl W BB 3 (ints g n)) (hT : Cl W BT 29 (ndsL T n)) (hN : Cl W nb 29 (ndL q))
    (hne : (X3 ≠ BT ∧ X3 ≠ BB ∧ X3 ≠ nb) ∧ (X4 ≠ BT ∧ X4 ≠ BB ∧ X4 ≠ nb) ∧ (X5 ≠ BT ∧ X5 ≠ BB ∧ X5 ≠ nb) ∧ (BF ≠ BT ∧ BF ≠ BB ∧ BF ≠ nb) ∧ BB ≠ BT ∧ BB ≠ nb ∧ BT ≠ nb)
    (hp : p < n) (hn : n ≤ 2048) (hgp : 0 ≤ g p ∧ g p ≤ 2048) (hfp : 0 ≤ f p ∧ f p ≤ 2048) (hg : g p + p - f p = (pl : Nat)) (hpl : pl < n) (hq : q.k ≠ 3 ∧ q.k ≠ 4 ∧ q.k ≠ 5 ∧ q.k ≠ 6 ∧ q.k ≠ 7)
    (hK : Hid (∀ W', But3 BT BB nb W W' → Cl W' BT 29 (ndsL (updN T pl q) n) → Cl W' BB 3 (ints g n) → KeepT b Old W W' ∧ I (i + 1) W')) :
    body17.wpIn (Fence.wide.inRound l) 3 Try.prog (stepPost b Old I i W) ⟨fr17 X1 X2 X3 X4 X5 nb p u, []⟩ W := by
  obtain ⟨⟨n31, n32, n33⟩, ⟨n41, n42, n43⟩, ⟨n51, n52, n53⟩, ⟨nf1, nf2, nf3⟩, nbt, nbn, ntn⟩ := hne
  have hpi : (p : Int) < (n : Int) := by omega
  have d3 := hk3.cell 0 rfl
  have d4 := hk4.cell 0 rfl
  have d5 := hk5.cell 0 rfl
  have dF := hF.cell p (ints_get f hp)
  have dG := hG.cell p (ints_get g hp)
  have S0 : St W BT BB nb n T q g W := ⟨But3.of_below (Below.refl _ _), hT, hG, hN⟩
  unfold fr17
  conv => arg 4; whnf
  obtain ⟨hg1, hg2⟩ := hgp
  obtain ⟨hf1, hf2⟩ := hfp
  have hpl' : (pl : Int) < (n : Int) := by omega
  gi_wp2_with fail
  gi_cut [8] from 29 (fun c wx => c = .int .i64 (pl : Nat) ∧ Below W.heap.size W wx)
  case first =>
    have n3 := Near.cell d3 hk3.lt
    have n5 := Near.cell d5 hk5.lt
    have nF := Near.cell dF hF.lt
    have nG := Near.cell dG hG.lt
    refine round_quiet_tail 11 (fun w' => ∃ u : World, w' = near W u) (by kernel_rfl) (by kernel_rfl) (by kernel_rfl) (fun ⟨_, _, h⟩ => h) (Near.start _) ?_
    simp only [List.take_succ_cons, List.take_zero, List.drop_succ_cons, List.drop_zero]
    repeat (go_big_quiet_step (fail))
    refine wpQuiet_nil ?_
    rintro _ ⟨u, rfl⟩
    go_wp2
    gi_meet
    exact ⟨by rw [← hg], near_below _ _⟩
  case rest =>
    obtain ⟨rfl, hB⟩ := hcut
    have S1 := S0.below hB
    clear d3 d4 d5 dF dG S0 hB
    obtain ⟨W1, hW1⟩ : ∃ V, V = wc := ⟨_, rfl⟩
    subst hW1
    have j3 := S1.but.cl hk3 n31 n32 n33
    have j4 := S1.but.cl hk4 n41 n42 n43
    have j5 := S1.but.cl hk5 n51 n52 n53
    have jF := S1.but.cl hF nf1 nf2 nf3
    have h3 : (q.k == 3) = false := by simpa using hq.1
    have h4 : (q.k == 4) = false := by simpa using hq.2.1
    have h5 : (q.k == 5) = false := by simpa using hq.2.2.1
    have h6 : (q.k == 6) = false := by simpa using hq.2.2.2.1
    have h7 : (q.k == 7) = false := by simpa using hq.2.2.2.2
    have kn9 := S1.kn
    unfold ndL at kn9
    obtain ⟨⟨y0, y1, y2, y3, y4, y5, y6, y7, y8, y9⟩, _⟩ := kn9.ten
    obtain ⟨⟨s0, z0⟩, ⟨s1, z1⟩, ⟨s2, z2⟩, ⟨s3, z3⟩, ⟨s4, z4⟩, ⟨s5, z5⟩, ⟨s6, z6⟩, ⟨s7, z7⟩, ⟨s8, z8⟩, ⟨s9, z9⟩, kT9⟩ := store10 S1.kt hpl q
    have d49 := (S1.but.cl hk4 n41 n42 n43).cell 0 rfl
    have HZ : Hid _ := hK.out _ ((((((((((S1.but.set (.inl rfl) _ _).set (.inl rfl) _ _).set (.inl rfl) _ _).set (.inl rfl) _ _).set (.inl rfl) _ _).set (.inl rfl) _ _).set (.inl rfl) _ _).set (.inl rfl) _ _).set (.inl rfl) _ _).set (.inl rfl) _ _) kT9 ((((((((((S1.kg.other nbt.symm _ _).other nbt.symm _ _).other nbt.symm _ _).other nbt.symm _ _).other nbt.symm _ _).other nbt.symm _ _).other nbt.symm _ _).other nbt.symm _ _).other nbt.symm _ _).other nbt.symm _ _)
    clear kT9 kn9 hK hg hg1 hg2 hf1 hf2 hk3 hk4 hk5 hF hG hT hN
    gi_wp2_with fail
    exact HZ.out
set_option maxRecDepth 100000 in
set_option maxHeartbeats 4000000 in
theorem mr_hat {b l i : Nat} {Old : Nat → Prop} {I : Nat → World → Prop} (X1 X2 X3 X4 X5 nb p n BF BT BB pl : Nat) (u : Nat → Value) (c0 c1 c2 c3 a b0 l0 m0 : Int) (z : Bool) (T : Nat → Nd) (g f : Nat → Int) {W : World}
    (hk3 : Cl W X3 50 [.slice (some ⟨BF, 0, none⟩) n n]) (hk4 : Cl W X4 22 [.slice (some ⟨BT, 0, none⟩) n n]) (hk5 : Cl W X5 50 [.slice (some ⟨BB, 0, none⟩) n n]) (hF : Cl W BF 3 (ints f n)) (hG : Cl W BB 3 (ints g n)) (hT : Cl W BT 29 (ndsL T n)) (hN : Cl W nb 29 (ndL ⟨6, c0, c1, c2, c3, a, b0, l0, m0, z⟩))
    (hne : (X3 ≠ BT ∧ X3 ≠ BB ∧ X3 ≠ nb) ∧ (X4 ≠ BT ∧ X4 ≠ BB ∧ X4 ≠ nb) ∧ (X5 ≠ BT ∧ X5 ≠ BB ∧ X5 ≠ nb) ∧ (BF ≠ BT ∧ BF ≠ BB ∧ BF ≠ nb) ∧ BB ≠ BT ∧ BB ≠ nb ∧ BT ≠ nb)
    (hp : p < n) (hn : n ≤ 2048) (hgp : 0 ≤ g p ∧ g p ≤ 2048) (hfp : 0 ≤ f p ∧ f p ≤ 2048) (hg : g p + p - f p = (pl : Nat)) (hpl : pl < n)
    (hK : Hid (∀ W', But3 BT BB nb W W' → Cl W' BT 29 (ndsL (updN T pl ⟨7, c0, c1, c2, c3, a, b0, l0, m0, z⟩) n) → Cl W' BB 3 (ints g n) → KeepT b Old W W' ∧ I (i + 1) W')) :
    body17.wpIn (Fence.wide.inRound l) 3 Try.prog (stepPost b Old I i W) ⟨fr17 X1 X2 X3 X4 X5 nb p u, []⟩ W := by
  obtain ⟨⟨n31, n32, n33⟩, ⟨n41, n42, n43⟩, ⟨n51, n52, n53⟩, ⟨nf1, nf2, nf3⟩, nbt, nbn, ntn⟩ := hne
  have hpi : (p : Int) < (n : Int) := by omega
  have d3 := hk3.cell 0 rfl
  have d4 := hk4.cell 0 rfl
  have d5 := hk5.cell 0 rfl
  have dF := hF.cell p (ints_get f hp)
  have dG := hG.cell p (ints_get g hp)
  have S0 : St W BT BB nb n T ⟨6, c0, c1, c2, c3, a, b0, l0, m0, z⟩ g W := ⟨But3.of_below (Below.refl _ _), hT, hG, hN⟩
  unfold fr17
  conv => arg 4; whnf
  obtain ⟨hg1, hg2⟩ := hgp
  obtain ⟨hf1, hf2⟩ := hfp
  have hpl' : (pl : Int) < (n : Int) := by omega
  gi_wp2_with fail
  gi_cut [8] from 29 (fun c wx => c = .int .i64 (pl : Nat) ∧ Below W.heap.size W wx)
  case first =>
    have n3 := Near.cell d3 hk3.lt
    have n5 := Near.cell d5 hk5.lt
    have nF := Near.cell dF hF.lt
    have nG := Near.cell dG hG.lt
    refine round_quiet_tail 11 (fun w' => ∃ u : World, w' = near W u) (by kernel_rfl) (by kernel_rfl) (by kernel_rfl) (fun ⟨_, _, h⟩ => h) (Near.start _) ?_
    simp only [List.take_succ_cons, List.take_zero, List.drop_succ_cons, List.drop_zero]
    repeat (go_big_quiet_step (fail))
    refine wpQuiet_nil ?_
    rintro _ ⟨u, rfl⟩
    go_wp2
    gi_meet
    exact ⟨by rw [← hg], near_below _ _⟩
  case rest =>
    obtain ⟨rfl, hB⟩ := hcut
    have S1 := S0.below hB
    clear d3 d4 d5 dF dG S0 hB
    obtain ⟨W1, hW1⟩ : ∃ V, V = wc := ⟨_, rfl⟩
    subst hW1
    have j3 := S1.but.cl hk3 n31 n32 n33
    have j4 := S1.but.cl hk4 n41 n42 n43
    have j5 := S1.but.cl hk5 n51 n52 n53
    have jF := S1.but.cl hF nf1 nf2 nf3
    have kn1 := S1.kn
    unfold ndL at kn1
    obtain ⟨⟨x0, _⟩, xz0, _⟩ := kn1.ten
    have S2 : St W BT BB nb n T ⟨7, c0, c1, c2, c3, a, b0, l0, m0, z⟩ g (W1.setCell ⟨nb, 0, none⟩ (.int .i64 7)) := ⟨S1.but.set (.inr (.inr rfl)) _ _, S1.kt.other ntn.symm _ _, S1.kg.other nbn.symm _ _, by have := kn1.set 0 (.int .i64 7); simpa [ndL] using this⟩
    have kn9 := S2.kn
    unfold ndL at kn9
    obtain ⟨⟨y0, y1, y2, y3, y4, y5, y6, y7, y8, y9⟩, _⟩ := kn9.ten
    obtain ⟨⟨s0, z0⟩, ⟨s1, z1⟩, ⟨s2, z2⟩, ⟨s3, z3⟩, ⟨s4, z4⟩, ⟨s5, z5⟩, ⟨s6, z6⟩, ⟨s7, z7⟩, ⟨s8, z8⟩, ⟨s9, z9⟩, kT9⟩ := store10 S2.kt hpl ⟨7, c0, c1, c2, c3, a, b0, l0, m0, z⟩
    have d49 := (S2.but.cl hk4 n41 n42 n43).cell 0 rfl
    have HZ : Hid _ := hK.out _ ((((((((((S2.but.set (.inl rfl) _ _).set (.inl rfl) _ _).set (.inl rfl) _ _).set (.inl rfl) _ _).set (.inl rfl) _ _).set (.inl rfl) _ _).set (.inl rfl) _ _).set (.inl rfl) _ _).set (.inl rfl) _ _).set (.inl rfl) _ _) kT9 ((((((((((S2.kg.other nbt.symm _ _).other nbt.symm _ _).other nbt.symm _ _).other nbt.symm _ _).other nbt.symm _ _).other nbt.symm _ _).other nbt.symm _ _).other nbt.symm _ _).other nbt.symm _ _).other nbt.symm _ _)
    clear kT9 kn9 hK hg hg1 hg2 hf1 hf2 hk3 hk4 hk5 hF hG hT hN
    gi_wp2_with fail
    exact HZ.out
set_option maxRecDepth 100000 in
set_option maxHeartbeats 4000000 in
theorem mr_dol {b l i : Nat} {Old : Nat → Prop} {I : Nat → World → Prop} (X1 X2 X3 X4 X5 nb p n BF BT BB pl : Nat) (u : Nat → Value) (c0 c1 c2 c3 a b0 l0 m0 : Int) (z : Bool) (T : Nat → Nd) (g f : Nat → Int) {W : World}
    (hk3 : Cl W X3 50 [.slice (some ⟨BF, 0, none⟩) n n]) (hk4 : Cl W X4 22 [.slice (some ⟨BT, 0, none⟩) n n]) (hk5 : Cl W X5 50 [.slice (some ⟨BB, 0, none⟩) n n]) (hF : Cl W BF 3 (ints f n)) (hG : Cl W BB 3 (ints g n)) (hT : Cl W BT 29 (ndsL T n)) (hN : Cl W nb 29 (ndL ⟨7, c0, c1, c2, c3, a, b0, l0, m0, z⟩))
    (hne : (X3 ≠ BT ∧ X3 ≠ BB ∧ X3 ≠ nb) ∧ (X4 ≠ BT ∧ X4 ≠ BB ∧ X4 ≠ nb) ∧ (X5 ≠ BT ∧ X5 ≠ BB ∧ X5 ≠ nb) ∧ (BF ≠ BT ∧ BF ≠ BB ∧ BF ≠ nb) ∧ BB ≠ BT ∧ BB ≠ nb ∧ BT ≠ nb)
    (hp : p < n) (hn : n ≤ 2048) (hgp : 0 ≤ g p ∧ g p ≤ 2048) (hfp : 0 ≤ f p ∧ f p ≤ 2048) (hg : g p + p - f p = (pl : Nat)) (hpl : pl < n)
    (hK : Hid (∀ W', But3 BT BB nb W W' → Cl W' BT 29 (ndsL (updN T pl ⟨6, c0, c1, c2, c3, a, b0, l0, m0, z⟩) n) → Cl W' BB 3 (ints g n) → KeepT b Old W W' ∧ I (i + 1) W')) :
    body17.wpIn (Fence.wide.inRound l) 3 Try.prog (stepPost b Old I i W) ⟨fr17 X1 X2 X3 X4 X5 nb p u, []⟩ W := by
  obtain ⟨⟨n31, n32, n33⟩, ⟨n41, n42, n43⟩, ⟨n51, n52, n53⟩, ⟨nf1, nf2, nf3⟩, nbt, nbn, ntn⟩ := hne
  have hpi : (p : Int) < (n : Int) := by omega
  have d3 := hk3.cell 0 rfl
  have d4 := hk4.cell 0 rfl
  have d5 := hk5.cell 0 rfl
  have dF := hF.cell p (ints_get f hp)
  have dG := hG.cell p (ints_get g hp)
  have S0 : St W BT BB nb n T ⟨7, c0, c1, c2, c3, a, b0, l0, m0, z⟩ g W := ⟨But3.of_below (Below.refl _ _), hT, hG, hN⟩
  unfold fr17
  conv => arg 4; whnf
  obtain ⟨hg1, hg2⟩ := hgp
  obtain ⟨hf1, hf2⟩ := hfp
  have hpl' : (pl : Int) < (n : Int) := by omega
  gi_wp2_with fail
  gi_cut [8] from 29 (fun c wx => c = .int .i64 (pl : Nat) ∧ Below W.heap.size W wx)
  case first =>
    have n3 := Near.cell d3 hk3.lt
    have n5 := Near.cell d5 hk5.lt
    have nF := Near.cell dF hF.lt
    have nG := Near.cell dG hG.lt
    refine round_quiet_tail 11 (fun w' => ∃ u : World, w' = near W u) (by kernel_rfl) (by kernel_rfl) (by kernel_rfl) (fun ⟨_, _, h⟩ => h) (Near.start _) ?_
    simp only [List.take_succ_cons, List.take_zero, List.drop_succ_cons, List.drop_zero]
    repeat (go_big_quiet_step (fail))
    refine wpQuiet_nil ?_
    rintro _ ⟨u, rfl⟩
    go_wp2
    gi_meet
    exact ⟨by rw [← hg], near_below _ _⟩
  case rest =>
    obtain ⟨rfl, hB⟩ := hcut
    have S1 := S0.below hB
    clear d3 d4 d5 dF dG S0 hB
    obtain ⟨W1, hW1⟩ : ∃ V, V = wc := ⟨_, rfl⟩
    subst hW1
    have j3 := S1.but.cl hk3 n31 n32 n33
    have j4 := S1.but.cl hk4 n41 n42 n43
    have j5 := S1.but.cl hk5 n51 n52 n53
    have jF := S1.but.cl hF nf1 nf2 nf3
    have kn1 := S1.kn
    unfold ndL at kn1
    obtain ⟨⟨x0, _⟩, xz0, _⟩ := kn1.ten
    have S2 : St W BT BB nb n T ⟨6, c0, c1, c2, c3, a, b0, l0, m0, z⟩ g (W1.setCell ⟨nb, 0, none⟩ (.int .i64 6)) := ⟨S1.but.set (.inr (.inr rfl)) _ _, S1.kt.other ntn.symm _ _, S1.kg.other nbn.symm _ _, by have := kn1.set 0 (.int .i64 6); simpa [ndL] using this⟩
    have kn9 := S2.kn
    unfold ndL at kn9
    obtain ⟨⟨y0, y1, y2, y3, y4, y5, y6, y7, y8, y9⟩, _⟩ := kn9.ten
    obtain ⟨⟨s0, z0⟩, ⟨s1, z1⟩, ⟨s2, z2⟩, ⟨s3, z3⟩, ⟨s4, z4⟩, ⟨s5, z5⟩, ⟨s6, z6⟩, ⟨s7, z7⟩, ⟨s8, z8⟩, ⟨s9, z9⟩, kT9⟩ := store10 S2.kt hpl ⟨6, c0, c1, c2, c3, a, b0, l0, m0, z⟩
    have d49 := (S2.but.cl hk4 n41 n42 n43).cell 0 rfl
    have HZ : Hid _ := hK.out _ ((((((((((S2.but.set (.inl rfl) _ _).set (.inl rfl) _ _).set (.inl rfl) _ _).set (.inl rfl) _ _).set (.inl rfl) _ _).set (.inl rfl) _ _).set (.inl rfl) _ _).set (.inl rfl) _ _).set (.inl rfl) _ _).set (.inl rfl) _ _) kT9 ((((((((((S2.kg.other nbt.symm _ _).other nbt.symm _ _).other nbt.symm _ _).other nbt.symm _ _).other nbt.symm _ _).other nbt.symm _ _).other nbt.symm _ _).other nbt.symm _ _).other nbt.symm _ _).other nbt.symm _ _)
    clear kT9 kn9 hK hg hg1 hg2 hf1 hf2 hk3 hk4 hk5 hF hG hT hN
    gi_wp2_with fail
    exact HZ.out
set_option maxRecDepth 100000 in
set_option maxHeartbeats 4000000 in
theorem mr_rep {b l i : Nat} {Old : Nat → Prop} {I : Nat → World → Prop} (X1 X2 X3 X4 X5 nb p n BF BT BB pl : Nat) (u : Nat → Value) (pa : Nat) (c0 c1 c2 c3 b0 l0 m0 : Int) (z : Bool) (T : Nat → Nd) (g f : Nat → Int) {W : World}
    (hk3 : Cl W X3 50 [.slice (some ⟨BF, 0, none⟩) n n]) (hk4 : Cl W X4 22 [.slice (some ⟨BT, 0, none⟩) n n]) (hk5 : Cl W X5 50 [.slice (some ⟨BB, 0, none⟩) n n]) (hF : Cl W BF 3 (ints f n)) (hG : Cl W BB 3 (ints g n)) (hT : Cl W BT 29 (ndsL T n)) (hN : Cl W nb 29 (ndL ⟨5, c0, c1, c2, c3, (pa : Nat), b0, l0, m0, z⟩))
    (hne : (X3 ≠ BT ∧ X3 ≠ BB ∧ X3 ≠ nb) ∧ (X4 ≠ BT ∧ X4 ≠ BB ∧ X4 ≠ nb) ∧ (X5 ≠ BT ∧ X5 ≠ BB ∧ X5 ≠ nb) ∧ (BF ≠ BT ∧ BF ≠ BB ∧ BF ≠ nb) ∧ BB ≠ BT ∧ BB ≠ nb ∧ BT ≠ nb)
    (hp : p < n) (hn : n ≤ 2048) (hgp : 0 ≤ g p ∧ g p ≤ 2048) (hfp : 0 ≤ f p ∧ f p ≤ 2048) (hg : g p + p - f p = (pl : Nat)) (hpl : pl < n) (hpa : pa < n)
    (hK : Hid (∀ W', But3 BT BB nb W W' → Cl W' BT 29 (ndsL (updN T pl ⟨5, c0, c1, c2, c3, ((pl : Int) - 1), b0, l0, m0, z⟩) n) → Cl W' BB 3 (ints (updI g pa (g p)) n) → KeepT b Old W W' ∧ I (i + 1) W')) :
    body17.wpIn (Fence.wide.inRound l) 3 Try.prog (stepPost b Old I i W) ⟨fr17 X1 X2 X3 X4 X5 nb p u, []⟩ W := by
  obtain ⟨⟨n31, n32, n33⟩, ⟨n41, n42, n43⟩, ⟨n51, n52, n53⟩, ⟨nf1, nf2, nf3⟩, nbt, nbn, ntn⟩ := hne
  have hpi : (p : Int) < (n : Int) := by omega
  have d3 := hk3.cell 0 rfl
  have d4 := hk4.cell 0 rfl
  have d5 := hk5.cell 0 rfl
  have dF := hF.cell p (ints_get f hp)
  have dG := hG.cell p (ints_get g hp)
  have S0 : St W BT BB nb n T ⟨5, c0, c1, c2, c3, (pa : Nat), b0, l0, m0, z⟩ g W := ⟨But3.of_below (Below.refl _ _), hT, hG, hN⟩
  unfold fr17
  conv => arg 4; whnf
  obtain ⟨hg1, hg2⟩ := hgp
  obtain ⟨hf1, hf2⟩ := hfp
  have hpl' : (pl : Int) < (n : Int) := by omega
  gi_wp2_with fail
  gi_cut [8] from 29 (fun c wx => c = .int .i64 (pl : Nat) ∧ Below W.heap.size W wx)
  case first =>
    have n3 := Near.cell d3 hk3.lt
    have n5 := Near.cell d5 hk5.lt
    have nF := Near.cell dF hF.lt
    have nG := Near.cell dG hG.lt
    refine round_quiet_tail 11 (fun w' => ∃ u : World, w' = near W u) (by kernel_rfl) (by kernel_rfl) (by kernel_rfl) (fun ⟨_, _, h⟩ => h) (Near.start _) ?_
    simp only [List.take_succ_cons, List.take_zero, List.drop_succ_cons, List.drop_zero]
    repeat (go_big_quiet_step (fail))
    refine wpQuiet_nil ?_
    rintro _ ⟨u, rfl⟩
    go_wp2
    gi_meet
    exact ⟨by rw [← hg], near_below _ _⟩
  case rest =>
    obtain ⟨rfl, hB⟩ := hcut
    have S1 := S0.below hB
    clear d3 d4 d5 dF dG S0 hB
    obtain ⟨W1, hW1⟩ : ∃ V, V = wc := ⟨_, rfl⟩
    subst hW1
    have j3 := S1.but.cl hk3 n31 n32 n33
    have j4 := S1.but.cl hk4 n41 n42 n43
    have j5 := S1.but.cl hk5 n51 n52 n53
    have jF := S1.but.cl hF nf1 nf2 nf3
    have kn1 := S1.kn
    unfold ndL at kn1
    obtain ⟨⟨x0, x1, x2, x3, x4, x5, x6, x7, x8, x9⟩, _⟩ := kn1.ten
    have hpai : (pa : Int) < (n : Int) := by omega
    gi_upto_region 14 with fail
    gi_cut [8] from 29 (fun c wx => c = .int .i64 (pl : Nat) ∧ St W BT BB nb n T ⟨5, c0, c1, c2, c3, (pa : Nat), b0, l0, m0, z⟩ (updI g pa (g p)) wx)
    case first =>
      have m5 := Near.cell (j5.cell 0 rfl) j5.lt
      have mG := Near.cell (S1.kg.cell p (ints_get g hp)) S1.kg.lt
      have mN := Near.cell x5 kn1.lt
      have HS : Hid _ := fun u : World => (S1.below (near_below W1 u)).setG pa (g p) nbt nbn
      have hco : ∀ u : World, (near W1 u).cell? ⟨BB, pa, none⟩ = some (.int .i64 (g pa)) := fun u => (S1.kg.below (near_below W1 u)).cell pa (ints_get g hpa)
      have hfo : ∀ u : World, (near W1 u).frozen? ⟨BB, pa, none⟩ = false := fun u => (S1.kg.below (near_below W1 u)).frozen pa
      refine round_quiet_tail 8 (fun w' => ∃ u : World, w' = near W1 u) (by kernel_rfl) (by kernel_rfl) (by kernel_rfl) (fun ⟨_, _, h⟩ => h) (Near.start _) ?_
      simp only [List.take_succ_cons, List.take_zero, List.drop_succ_cons, List.drop_zero]
      repeat (go_big_quiet_step (fail))
      refine wpQuiet_nil ?_
      rintro _ ⟨u, rfl⟩
      go_wp2
      gi_meet
      exact ⟨rfl, HS.out u⟩
    case rest =>
      obtain ⟨rfl, S2⟩ := hcut
      clear x0 x1 x2 x3 x4 x5 x6 x7 x8 x9 kn1
      have kn2 := S2.kn
      unfold ndL at kn2
      obtain ⟨⟨_, _, _, _, _, v5, _⟩, _, _, _, _, _, vz5, _⟩ := kn2.ten
      have hpo : (0 : Int) ≤ pl := by omega
      have S3 : St W BT BB nb n T ⟨5, c0, c1, c2, c3, ((pl : Int) - 1), b0, l0, m0, z⟩ (updI g pa (g p)) (wc.setCell ⟨nb, 5, none⟩ (.int .i64 ((pl : Int) - 1))) := ⟨S2.but.set (.inr (.inr rfl)) _ _, S2.kt.other ntn.symm _ _, S2.kg.other nbn.symm _ _, by have := kn2.set 5 (.int .i64 ((pl : Int) - 1)); simpa [ndL] using this⟩
      have kn9 := S3.kn
      unfold ndL at kn9
      obtain ⟨⟨y0, y1, y2, y3, y4, y5, y6, y7, y8, y9⟩, _⟩ := kn9.ten
      obtain ⟨⟨s0, z0⟩, ⟨s1, z1⟩, ⟨s2, z2⟩, ⟨s3, z3⟩, ⟨s4, z4⟩, ⟨s5, z5⟩, ⟨s6, z6⟩, ⟨s7, z7⟩, ⟨s8, z8⟩, ⟨s9, z9⟩, kT9⟩ := store10 S3.kt hpl ⟨5, c0, c1, c2, c3, ((pl : Int) - 1), b0, l0, m0, z⟩
      have d49 := (S3.but.cl hk4 n41 n42 n43).cell 0 rfl
      have HZ : Hid _ := hK.out _ ((((((((((S3.but.set (.inl rfl) _ _).set (.inl rfl) _ _).set (.inl rfl) _ _).set (.inl rfl) _ _).set (.inl rfl) _ _).set (.inl rfl) _ _).set (.inl rfl) _ _).set (.inl rfl) _ _).set (.inl rfl) _ _).set (.inl rfl) _ _) kT9 ((((((((((S3.kg.other nbt.symm _ _).other nbt.symm _ _).other nbt.symm _ _).other nbt.symm _ _).other nbt.symm _ _).other nbt.symm _ _).other nbt.symm _ _).other nbt.symm _ _).other nbt.symm _ _).other nbt.symm _ _)
      clear kT9 kn9 hK hg hg1 hg2 hf1 hf2 hk3 hk4 hk5 hF hG hT hN
      gi_wp2_with fail
      exact HZ.out
set_option maxRecDepth 100000 in
set_option maxHeartbeats 4000000 in
theorem mr_cat {b l i : Nat} {Old : Nat → Prop} {I : Nat → World → Prop} (X1 X2 X3 X4 X5 nb p n BF BT BB pl : Nat) (u : Nat → Value) (pa pb : Nat) (c0 c1 c2 c3 l0 m0 sv : Int) (z : Bool) (T : Nat → Nd) (g f : Nat → Int) {W : World}
    (hk3 : Cl W X3 50 [.slice (some ⟨BF, 0, none⟩) n n]) (hk4 : Cl W X4 22 [.slice (some ⟨BT, 0, none⟩) n n]) (hk5 : Cl W X5 50 [.slice (some ⟨BB, 0, none⟩) n n]) (hF : Cl W BF 3 (ints f n)) (hG : Cl W BB 3 (ints g n)) (hT : Cl W BT 29 (ndsL T n)) (hN : Cl W nb 29 (ndL ⟨3, c0, c1, c2, c3, (pa : Nat), (pb : Nat), l0, m0, z⟩))
    (hne : (X3 ≠ BT ∧ X3 ≠ BB ∧ X3 ≠ nb) ∧ (X4 ≠ BT ∧ X4 ≠ BB ∧ X4 ≠ nb) ∧ (X5 ≠ BT ∧ X5 ≠ BB ∧ X5 ≠ nb) ∧ (BF ≠ BT ∧ BF ≠ BB ∧ BF ≠ nb) ∧ BB ≠ BT ∧ BB ≠ nb ∧ BT ≠ nb)
    (hp : p < n) (hn : n ≤ 2048) (hgp : 0 ≤ g p ∧ g p ≤ 2048) (hfp : 0 ≤ f p ∧ f p ≤ 2048) (hg : g p + p - f p = (pl : Nat)) (hpl : pl < n) (hpa : pa < n) (hpb : pb < n) (hff : 0 ≤ f pb ∧ f pb ≤ 2048) (hsv : g p + (pb : Nat) - f pb + 1 = sv)
    (hK : Hid (∀ W', But3 BT BB nb W W' → Cl W' BT 29 (ndsL (updN T pl ⟨3, c0, c1, c2, c3, (sv - 1), ((pl : Int) - 1), l0, m0, z⟩) n) → Cl W' BB 3 (ints (updI (updI g pb (g p)) pa sv) n) → KeepT b Old W W' ∧ I (i + 1) W')) :
    body17.wpIn (Fence.wide.inRound l) 3 Try.prog (stepPost b Old I i W) ⟨fr17 X1 X2 X3 X4 X5 nb p u, []⟩ W := by
  obtain ⟨⟨n31, n32, n33⟩, ⟨n41, n42, n43⟩, ⟨n51, n52, n53⟩, ⟨nf1, nf2, nf3⟩, nbt, nbn, ntn⟩ := hne
  have hpi : (p : Int) < (n : Int) := by omega
  have d3 := hk3.cell 0 rfl
  have d4 := hk4.cell 0 rfl
  have d5 := hk5.cell 0 rfl
  have dF := hF.cell p (ints_get f hp)
  have dG := hG.cell p (ints_get g hp)
  have S0 : St W BT BB nb n T ⟨3, c0, c1, c2, c3, (pa : Nat), (pb : Nat), l0, m0, z⟩ g W := ⟨But3.of_below (Below.refl _ _), hT, hG, hN⟩
  unfold fr17
  conv => arg 4; whnf
  obtain ⟨hg1, hg2⟩ := hgp
  obtain ⟨hf1, hf2⟩ := hfp
  have hpl' : (pl : Int) < (n : Int) := by omega
  gi_wp2_with fail
  gi_cut [8] from 29 (fun c wx => c = .int .i64 (pl : Nat) ∧ Below W.heap.size W wx)
  case first =>
    have n3 := Near.cell d3 hk3.lt
    have n5 := Near.cell d5 hk5.lt
    have nF := Near.cell dF hF.lt
    have nG := Near.cell dG hG.lt
    refine round_quiet_tail 11 (fun w' => ∃ u : World, w' = near W u) (by kernel_rfl) (by kernel_rfl) (by kernel_rfl) (fun ⟨_, _, h⟩ => h) (Near.start _) ?_
    simp only [List.take_succ_cons, List.take_zero, List.drop_succ_cons, List.drop_zero]
    repeat (go_big_quiet_step (fail))
    refine wpQuiet_nil ?_
    rintro _ ⟨u, rfl⟩
    go_wp2
    gi_meet
    exact ⟨by rw [← hg], near_below _ _⟩
  case rest =>
    obtain ⟨rfl, hB⟩ := hcut
    have S1 := S0.below hB
    clear d3 d4 d5 dF dG S0 hB
    obtain ⟨W1, hW1⟩ : ∃ V, V = wc := ⟨_, rfl⟩
    subst hW1
    have j3 := S1.but.cl hk3 n31 n32 n33
    have j4 := S1.but.cl hk4 n41 n42 n43
    have j5 := S1.but.cl hk5 n51 n52 n53
    have jF := S1.but.cl hF nf1 nf2 nf3
    have kn1 := S1.kn
    unfold ndL at kn1
    obtain ⟨⟨x0, x1, x2, x3, x4, x5, x6, x7, x8, x9⟩, _⟩ := kn1.ten
    obtain ⟨hff1, hff2⟩ := hff
    have hsv1 : -4096 ≤ sv ∧ sv ≤ 8192 := by omega
    have hpai : (pa : Int) < (n : Int) := by omega
    have hpbi : (pb : Int) < (n : Int) := by omega
    gi_upto_region 18 with fail
    gi_cut [8, 9, 10] from 29 (fun c c9 c10 wx => c = .int .i64 (pl : Nat) ∧ c9 = .int .i64 (pa : Nat) ∧ c10 = .int .i64 (pb : Nat) ∧ St W BT BB nb n T ⟨3, c0, c1, c2, c3, (pa : Nat), (pb : Nat), l0, m0, z⟩ g wx)
    case first =>
      have m5 := Near.cell x5 kn1.lt
      have m6 := Near.cell x6 kn1.lt
      refine round_quiet_tail 5 (fun w' => ∃ u : World, w' = near W1 u) (by kernel_rfl) (by kernel_rfl) (by kernel_rfl) (fun ⟨_, _, h⟩ => h) (Near.start _) ?_
      simp only [List.take_succ_cons, List.take_zero, List.drop_succ_cons, List.drop_zero]
      repeat (go_big_quiet_step (fail))
      refine wpQuiet_nil ?_
      rintro _ ⟨u, rfl⟩
      go_wp2
      gi_meet
      exact ⟨rfl, rfl, rfl, S1.below (near_below W1 u)⟩
    case rest =>
      obtain ⟨rfl, rfl, rfl, S2⟩ := hcut
      obtain ⟨W2, hW2⟩ : ∃ V, V = wc := ⟨_, rfl⟩
      subst hW2
      clear x0 x1 x2 x3 x4 x5 x6 x7 x8 x9 kn1
      have kn2 := S2.kn
      unfold ndL at kn2
      obtain ⟨⟨v0, _⟩, _⟩ := kn2.ten
      have i5 := S2.but.cl hk5 n51 n52 n53
      gi_upto_region 21 with fail
      gi_cut [8, 9, 10] from 29 (fun c c9 c10 wx => c = .int .i64 (pl : Nat) ∧ c9 = .int .i64 (pb : Nat) ∧ c10 = .int .i64 (pa : Nat) ∧ St W BT BB nb n T ⟨3, c0, c1, c2, c3, (pa : Nat), (pb : Nat), l0, m0, z⟩ (updI g pb (g p)) wx)
      case first =>
        have m5 := Near.cell (i5.cell 0 rfl) i5.lt
        have mG := Near.cell (S2.kg.cell p (ints_get g hp)) S2.kg.lt
        have HS : Hid _ := fun u : World => (S2.below (near_below W2 u)).setG pb (g p) nbt nbn
        have hco : ∀ u : World, (near W2 u).cell? ⟨BB, pb, none⟩ = some (.int .i64 (g pb)) := fun u => (S2.kg.below (near_below W2 u)).cell pb (ints_get g (by omega))
        have hfo : ∀ u : World, (near W2 u).frozen? ⟨BB, pb, none⟩ = false := fun u => (S2.kg.below (near_below W2 u)).frozen pb
        refine round_quiet_tail 7 (fun w' => ∃ u : World, w' = near W2 u) (by kernel_rfl) (by kernel_rfl) (by kernel_rfl) (fun ⟨_, _, h⟩ => h) (Near.start _) ?_
        simp only [List.take_succ_cons, List.take_zero, List.drop_succ_cons, List.drop_zero]
        repeat (go_big_quiet_step (fail))
        refine wpQuiet_nil ?_
        rintro _ ⟨u, rfl⟩
        go_wp2
        gi_meet
        exact ⟨rfl, rfl, rfl, HS.out u⟩
      case rest =>
        obtain ⟨rfl, rfl, rfl, S3⟩ := hcut
        obtain ⟨W3, hW3⟩ : ∃ V, V = wc := ⟨_, rfl⟩
        subst hW3
        clear v0 kn2 i5
        have i5 := S3.but.cl hk5 n51 n52 n53
        have i3 := S3.but.cl hk3 n31 n32 n33
        have iF := S3.but.cl hF nf1 nf2 nf3
        have eg : updI g pb (g p) p = g p := by simp [updI]
        gi_upto_region 22 with fail
        gi_cut [8, 9, 10] from 29 (fun c c9 c10 wx => c = .int .i64 (pl : Nat) ∧ c9 = .int .i64 (pb : Nat) ∧ c10 = .int .i64 (pa : Nat) ∧ St W BT BB nb n T ⟨3, c0, c1, c2, c3, (pa : Nat), (pb : Nat), l0, m0, z⟩ (updI (updI g pb (g p)) pa sv) wx)
        case first =>
          have m5 := Near.cell (i5.cell 0 rfl) i5.lt
          have m3 := Near.cell (i3.cell 0 rfl) i3.lt
          have mF := Near.cell (iF.cell pb (ints_get f (by omega))) iF.lt
          have mG := Near.cell (S3.kg.cell p (ints_get _ hp)) S3.kg.lt
          rw [eg] at mG
          have HS : Hid _ := fun u : World => (S3.below (near_below W3 u)).setG pa sv nbt nbn
          have hco : ∀ u : World, (near W3 u).cell? ⟨BB, pa, none⟩ = some (.int .i64 (updI g pb (g p) pa)) := fun u => (S3.kg.below (near_below W3 u)).cell pa (ints_get _ (by omega))
          have hfo : ∀ u : World, (near W3 u).frozen? ⟨BB, pa, none⟩ = false := fun u => (S3.kg.below (near_below W3 u)).frozen pa
          refine round_quiet_tail 15 (fun w' => ∃ u : World, w' = near W3 u) (by kernel_rfl) (by kernel_rfl) (by kernel_rfl) (fun ⟨_, _, h⟩ => h) (Near.start _) ?_
          simp only [List.take_succ_cons, List.take_zero, List.drop_succ_cons, List.drop_zero]
          repeat (go_big_quiet_step (fail))
          refine wpQuiet_nil ?_
          rintro _ ⟨u, rfl⟩
          go_wp2
          gi_meet
          exact ⟨rfl, rfl, rfl, HS.out u⟩
        case rest =>
          obtain ⟨rfl, rfl, rfl, S4⟩ := hcut
          clear eg i5 i3 iF
          have i5 := (S4.but.cl hk5 n51 n52 n53).cell 0 rfl
          have eg : updI (updI g pb (g p)) pa sv pa = sv := by simp [updI]
          have mG := S4.kg.cell pa (ints_get _ (by omega))
          rw [eg] at mG
          have kn4 := S4.kn
          unfold ndL at kn4
          obtain ⟨⟨_, _, _, _, _, v5, _⟩, _, _, _, _, _, vz5, _⟩ := kn4.ten
          have kn5 := kn4.set 5 (.int .i64 (sv - 1))
          simp only [List.set_cons_succ, List.set_cons_zero] at kn5
          obtain ⟨⟨_, _, _, _, _, _, v6, _⟩, _, _, _, _, _, _, vz6, _⟩ := kn5.ten
          have S5 : St W BT BB nb n T ⟨3, c0, c1, c2, c3, (sv - 1), ((pl : Int) - 1), l0, m0, z⟩ (updI (updI g pb (g p)) pa sv) ((wc.setCell ⟨nb, 5, none⟩ (.int .i64 (sv - 1))).setCell ⟨nb, 6, none⟩ (.int .i64 ((pl : Int) - 1))) := ⟨(S4.but.set (.inr (.inr rfl)) _ _).set (.inr (.inr rfl)) _ _, (S4.kt.other ntn.symm _ _).other ntn.symm _ _, (S4.kg.other nbn.symm _ _).other nbn.symm _ _, by have := kn5.set 6 (.int .i64 ((pl : Int) - 1)); simpa [ndL] using this⟩
          have kn9 := S5.kn
          unfold ndL at kn9
          obtain ⟨⟨y0, y1, y2, y3, y4, y5, y6, y7, y8, y9⟩, _⟩ := kn9.ten
          obtain ⟨⟨s0, z0⟩, ⟨s1, z1⟩, ⟨s2, z2⟩, ⟨s3, z3⟩, ⟨s4, z4⟩, ⟨s5, z5⟩, ⟨s6, z6⟩, ⟨s7, z7⟩, ⟨s8, z8⟩, ⟨s9, z9⟩, kT9⟩ := store10 S5.kt hpl ⟨3, c0, c1, c2, c3, (sv - 1), ((pl : Int) - 1), l0, m0, z⟩
          have d49 := (S5.but.cl hk4 n41 n42 n43).cell 0 rfl
          have HZ : Hid _ := hK.out _ ((((((((((S5.but.set (.inl rfl) _ _).set (.inl rfl) _ _).set (.inl rfl) _ _).set (.inl rfl) _ _).set (.inl rfl) _ _).set (.inl rfl) _ _).set (.inl rfl) _ _).set (.inl rfl) _ _).set (.inl rfl) _ _).set (.inl rfl) _ _) kT9 ((((((((((S5.kg.other nbt.symm _ _).other nbt.symm _ _).other nbt.symm _ _).other nbt.symm _ _).other nbt.symm _ _).other nbt.symm _ _).other nbt.symm _ _).other nbt.symm _ _).other nbt.symm _ _).other nbt.symm _ _)
          clear kT9 kn9 hK hg hg1 hg2 hf1 hf2 hk3 hk4 hk5 hF hG hT hN
          gi_wp2_with fail
          exact HZ.out
set_option maxRecDepth 100000 in
set_option maxHeartbeats 4000000 in
theorem mr_alt {b l i : Nat} {Old : Nat → Prop} {I : Nat → World → Prop} (X1 X2 X3 X4 X5 nb p n BF BT BB pl : Nat) (u : Nat → Value) (pa pb : Nat) (c0 c1 c2 c3 l0 m0 sv : Int) (z : Bool) (T : Nat → Nd) (g f : Nat → Int) {W : World}
    (hk3 : Cl W X3 50 [.slice (some ⟨BF, 0, none⟩) n n]) (hk4 : Cl W X4 22 [.slice (some ⟨BT, 0, none⟩) n n]) (hk5 : Cl W X5 50 [.slice (some ⟨BB, 0, none⟩) n n]) (hF : Cl W BF 3 (ints f n)) (hG : Cl W BB 3 (ints g n)) (hT : Cl W BT 29 (ndsL T n)) (hN : Cl W nb 29 (ndL ⟨4, c0, c1, c2, c3, (pa : Nat), (pb : Nat), l0, m0, z⟩))
    (hne : (X3 ≠ BT ∧ X3 ≠ BB ∧ X3 ≠ nb) ∧ (X4 ≠ BT ∧ X4 ≠ BB ∧ X4 ≠ nb) ∧ (X5 ≠ BT ∧ X5 ≠ BB ∧ X5 ≠ nb) ∧ (BF ≠ BT ∧ BF ≠ BB ∧ BF ≠ nb) ∧ BB ≠ BT ∧ BB ≠ nb ∧ BT ≠ nb)
    (hp : p < n) (hn : n ≤ 2048) (hgp : 0 ≤ g p ∧ g p ≤ 2048) (hfp : 0 ≤ f p ∧ f p ≤ 2048) (hg : g p + p - f p = (pl : Nat)) (hpl : pl < n) (hpa : pa < n) (hpb : pb < n) (hff : 0 ≤ f pa ∧ f pa ≤ 2048) (hsv : g p + (pa : Nat) - f pa + 1 = sv)
    (hK : Hid (∀ W', But3 BT BB nb W W' → Cl W' BT 29 (ndsL (updN T pl ⟨4, c0, c1, c2, c3, (sv - 1), ((pl : Int) - 1), l0, m0, z⟩) n) → Cl W' BB 3 (ints (updI (updI g pa (g p)) pb sv) n) → KeepT b Old W W' ∧ I (i + 1) W')) :
    body17.wpIn (Fence.wide.inRound l) 3 Try.prog (stepPost b Old I i W) ⟨fr17 X1 X2 X3 X4 X5 nb p u, []⟩ W := by
  obtain ⟨⟨n31, n32, n33⟩, ⟨n41, n42, n43⟩, ⟨n51, n52, n53⟩, ⟨nf1, nf2, nf3⟩, nbt, nbn, ntn⟩ := hne
  have hpi : (p : Int) < (n : Int) := by omega
  have d3 := hk3.cell 0 rfl
  have d4 := hk4.cell 0 rfl
  have d5 := hk5.cell 0 rfl
  have dF := hF.cell p (ints_get f hp)
  have dG := hG.cell p (ints_get g hp)
  have S0 : St W BT BB nb n T ⟨4, c0, c1, c2, c3, (pa : Nat), (pb : Nat), l0, m0, z⟩ g W := ⟨But3.of_below (Below.refl _ _), hT, hG, hN⟩
  unfold fr17
  conv => arg 4; whnf
  obtain ⟨hg1, hg2⟩ := hgp
  obtain ⟨hf1, hf2⟩ := hfp
  have hpl' : (pl : Int) < (n : Int) := by omega
  gi_wp2_with fail
  gi_cut [8] from 29 (fun c wx => c = .int .i64 (pl : Nat) ∧ Below W.heap.size W wx)
  case first =>
    have n3 := Near.cell d3 hk3.lt
    have n5 := Near.cell d5 hk5.lt
    have nF := Near.cell dF hF.lt
    have nG := Near.cell dG hG.lt
    refine round_quiet_tail 11 (fun w' => ∃ u : World, w' = near W u) (by kernel_rfl) (by kernel_rfl) (by kernel_rfl) (fun ⟨_, _, h⟩ => h) (Near.start _) ?_
    simp only [List.take_succ_cons, List.take_zero, List.drop_succ_cons, List.drop_zero]
    repeat (go_big_quiet_step (fail))
    refine wpQuiet_nil ?_
    rintro _ ⟨u, rfl⟩
    go_wp2
    gi_meet
    exact ⟨by rw [← hg], near_below _ _⟩
  case rest =>
    obtain ⟨rfl, hB⟩ := hcut
    have S1 := S0.below hB
    clear d3 d4 d5 dF dG S0 hB
    obtain ⟨W1, hW1⟩ : ∃ V, V = wc := ⟨_, rfl⟩
    subst hW1
    have j3 := S1.but.cl hk3 n31 n32 n33
    have j4 := S1.but.cl hk4 n41 n42 n43
    have j5 := S1.but.cl hk5 n51 n52 n53
    have jF := S1.but.cl hF nf1 nf2 nf3
    have kn1 := S1.kn
    unfold ndL at kn1
    obtain ⟨⟨x0, x1, x2, x3, x4, x5, x6, x7, x8, x9⟩, _⟩ := kn1.ten
    obtain ⟨hff1, hff2⟩ := hff
    have hsv1 : -4096 ≤ sv ∧ sv ≤ 8192 := by omega
    have hpai : (pa : Int) < (n : Int) := by omega
    have hpbi : (pb : Int) < (n : Int) := by omega
    gi_upto_region 18 with fail
    gi_cut [8, 9, 10] from 29 (fun c c9 c10 wx => c = .int .i64 (pl : Nat) ∧ c9 = .int .i64 (pa : Nat) ∧ c10 = .int .i64 (pb : Nat) ∧ St W BT BB nb n T ⟨4, c0, c1, c2, c3, (pa : Nat), (pb : Nat), l0, m0, z⟩ g wx)
    case first =>
      have m5 := Near.cell x5 kn1.lt
      have m6 := Near.cell x6 kn1.lt
      refine round_quiet_tail 5 (fun w' => ∃ u : World, w' = near W1 u) (by kernel_rfl) (by kernel_rfl) (by kernel_rfl) (fun ⟨_, _, h⟩ => h) (Near.start _) ?_
      simp only [List.take_succ_cons, List.take_zero, List.drop_succ_cons, List.drop_zero]
      repeat (go_big_quiet_step (fail))
      refine wpQuiet_nil ?_
      rintro _ ⟨u, rfl⟩
      go_wp2
      gi_meet
      exact ⟨rfl, rfl, rfl, S1.below (near_below W1 u)⟩
    case rest =>
      obtain ⟨rfl, rfl, rfl, S2⟩ := hcut
      obtain ⟨W2, hW2⟩ : ∃ V, V = wc := ⟨_, rfl⟩
      subst hW2
      clear x0 x1 x2 x3 x4 x5 x6 x7 x8 x9 kn1
      have kn2 := S2.kn
      unfold ndL at kn2
      obtain ⟨⟨v0, _⟩, _⟩ := kn2.ten
      have i5 := S2.but.cl hk5 n51 n52 n53
      gi_upto_region 21 with fail
      gi_cut [8, 9, 10] from 29 (fun c c9 c10 wx => c = .int .i64 (pl : Nat) ∧ c9 = .int .i64 (pa : Nat) ∧ c10 = .int .i64 (pb : Nat) ∧ St W BT BB nb n T ⟨4, c0, c1, c2, c3, (pa : Nat), (pb : Nat), l0, m0, z⟩ (updI g pa (g p)) wx)
      case first =>
        have m5 := Near.cell (i5.cell 0 rfl) i5.lt
        have mG := Near.cell (S2.kg.cell p (ints_get g hp)) S2.kg.lt
        have HS : Hid _ := fun u : World => (S2.below (near_below W2 u)).setG pa (g p) nbt nbn
        have hco : ∀ u : World, (near W2 u).cell? ⟨BB, pa, none⟩ = some (.int .i64 (g pa)) := fun u => (S2.kg.below (near_below W2 u)).cell pa (ints_get g (by omega))
        have hfo : ∀ u : World, (near W2 u).frozen? ⟨BB, pa, none⟩ = false := fun u => (S2.kg.below (near_below W2 u)).frozen pa
        refine round_quiet_tail 7 (fun w' => ∃ u : World, w' = near W2 u) (by kernel_rfl) (by kernel_rfl) (by kernel_rfl) (fun ⟨_, _, h⟩ => h) (Near.start _) ?_
        simp only [List.take_succ_cons, List.take_zero, List.drop_succ_cons, List.drop_zero]
        repeat (go_big_quiet_step (fail))
        refine wpQuiet_nil ?_
        rintro _ ⟨u, rfl⟩
        go_wp2
        gi_meet
        exact ⟨rfl, rfl, rfl, HS.out u⟩
      case rest =>
        obtain ⟨rfl, rfl, rfl, S3⟩ := hcut
        obtain ⟨W3, hW3⟩ : ∃ V, V = wc := ⟨_, rfl⟩
        subst hW3
        clear v0 kn2 i5
        have i5 := S3.but.cl hk5 n51 n52 n53
        have i3 := S3.but.cl hk3 n31 n32 n33
        have iF := S3.but.cl hF nf1 nf2 nf3
        have eg : updI g pa (g p) p = g p := by simp [updI]
        gi_upto_region 22 with fail
        gi_cut [8, 9, 10] from 29 (fun c c9 c10 wx => c = .int .i64 (pl : Nat) ∧ c9 = .int .i64 (pa : Nat) ∧ c10 = .int .i64 (pb : Nat) ∧ St W BT BB nb n T ⟨4, c0, c1, c2, c3, (pa : Nat), (pb : Nat), l0, m0, z⟩ (updI (updI g pa (g p)) pb sv) wx)
        case first =>
          have m5 := Near.cell (i5.cell 0 rfl) i5.lt
          have m3 := Near.cell (i3.cell 0 rfl) i3.lt
          have mF := Near.cell (iF.cell pa (ints_get f (by omega))) iF.lt
          have mG := Near.cell (S3.kg.cell p (ints_get _ hp)) S3.kg.lt
          rw [eg] at mG
          have HS : Hid _ := fun u : World => (S3.below (near_below W3 u)).setG pb sv nbt nbn
          have hco : ∀ u : World, (near W3 u).cell? ⟨BB, pb, none⟩ = some (.int .i64 (updI g pa (g p) pb)) := fun u => (S3.kg.below (near_below W3 u)).cell pb (ints_get _ (by omega))
          have hfo : ∀ u : World, (near W3 u).frozen? ⟨BB, pb, none⟩ = false := fun u => (S3.kg.below (near_below W3 u)).frozen pb
          refine round_quiet_tail 15 (fun w' => ∃ u : World, w' = near W3 u) (by kernel_rfl) (by kernel_rfl) (by kernel_rfl) (fun ⟨_, _, h⟩ => h) (Near.start _) ?_
          simp only [List.take_succ_cons, List.take_zero, List.drop_succ_cons, List.drop_zero]
          repeat (go_big_quiet_step (fail))
          refine wpQuiet_nil ?_
          rintro _ ⟨u, rfl⟩
          go_wp2
          gi_meet
          exact ⟨rfl, rfl, rfl, HS.out u⟩
        case rest =>
          obtain ⟨rfl, rfl, rfl, S4⟩ := hcut
          clear eg i5 i3 iF
          have i5 := (S4.but.cl hk5 n51 n52 n53).cell 0 rfl
          have eg : updI (updI g pa (g p)) pb sv pb = sv := by simp [updI]
          have mG := S4.kg.cell pb (ints_get _ (by omega))
          rw [eg] at mG
          have kn4 := S4.kn
          unfold ndL at kn4
          obtain ⟨⟨_, _, _, _, _, v5, _⟩, _, _, _, _, _, vz5, _⟩ := kn4.ten
          have kn5 := kn4.set 5 (.int .i64 (sv - 1))
          simp only [List.set_cons_succ, List.set_cons_zero] at kn5
          obtain ⟨⟨_, _, _, _, _, _, v6, _⟩, _, _, _, _, _, _, vz6, _⟩ := kn5.ten
          have S5 : St W BT BB nb n T ⟨4, c0, c1, c2, c3, (sv - 1), ((pl : Int) - 1), l0, m0, z⟩ (updI (updI g pa (g p)) pb sv) ((wc.setCell ⟨nb, 5, none⟩ (.int .i64 (sv - 1))).setCell ⟨nb, 6, none⟩ (.int .i64 ((pl : Int) - 1))) := ⟨(S4.but.set (.inr (.inr rfl)) _ _).set (.inr (.inr rfl)) _ _, (S4.kt.other ntn.symm _ _).other ntn.symm _ _, (S4.kg.other nbn.symm _ _).other nbn.symm _ _, by have := kn5.set 6 (.int .i64 ((pl : Int) - 1)); simpa [ndL] using this⟩
          have kn9 := S5.kn
          unfold ndL at kn9
          obtain ⟨⟨y0, y1, y2, y3, y4, y5, y6, y7, y8, y9⟩, _⟩ := kn9.ten
          obtain ⟨⟨s0, z0⟩, ⟨s1, z1⟩, ⟨s2, z2⟩, ⟨s3, z3⟩, ⟨s4, z4⟩, ⟨s5, z5⟩, ⟨s6, z6⟩, ⟨s7, z7⟩, ⟨s8, z8⟩, ⟨s9, z9⟩, kT9⟩ := store10 S5.kt hpl ⟨4, c0, c1, c2, c3, (sv - 1), ((pl : Int) - 1), l0, m0, z⟩
          have d49 := (S5.but.cl hk4 n41 n42 n43).cell 0 rfl
          have HZ : Hid _ := hK.out _ ((((((((((S5.but.set (.inl rfl) _ _).set (.inl rfl) _ _).set (.inl rfl) _ _).set (.inl rfl) _ _).set (.inl rfl) _ _).set (.inl rfl) _ _).set (.inl rfl) _ _).set (.inl rfl) _ _).set (.inl rfl) _ _).set (.inl rfl) _ _) kT9 ((((((((((S5.kg.other nbt.symm _ _).other nbt.symm _ _).other nbt.symm _ _).other nbt.symm _ _).other nbt.symm _ _).other nbt.symm _ _).other nbt.symm _ _).other nbt.symm _ _).other nbt.symm _ _).other nbt.symm _ _)
          clear kT9 kn9 hK hg hg1 hg2 hf1 hf2 hk3 hk4 hk5 hF hG hT hN
          gi_wp2_with fail
          exact HZ.out
end Go.Proofs.Ytgedhjflminlbaa
