/- Ported: TtJ. -/
import Derived.Test.YtobgmgpclcfkcaaTtS
namespace Go.Proofs.Ytobgmgpclcfkcaa.T
open Go.RowKit
def behind : Code → Code
  | .seq _ b => b
  | c => c
/-- The value at a place of a frame. -/
def nth : List Value → Nat → Value
  | [], _ => undef
  | x :: _, 0 => x
  | _ :: xs, n + 1 => nth xs n
def hdA (k : Int) (h : Bool × Bool) : Bool × Bool := if k = 4 then h else (h.1, false)
def hdB (k : Int) (h : Bool × Bool) : Bool × Bool := if k = 4 then h else (false, h.2)
/-- Which anchors may stand at a place. -/
def wy : Tre → Bool × Bool → Nat → Bool × Bool
  | .leaf _, h, _ => h
  | .two k x y, h, p => if p < x.size then wy x (hdA k h) p else if p < x.size + y.size then wy y (hdB k h) (p - x.size) else h
  | .rep x _ _ _, h, p => if p < x.size then wy x (false, false) p else h
/-- Where the node stands that a node is a part of. -/
def pr : Tre → Nat → Nat
  | .leaf _, _ => 1
  | .two _ x y, p => if p + 1 < x.size then pr x p else if p + 1 = x.size then x.size + y.size else if p + 1 < x.size + y.size then x.size + pr y (p - x.size) else if p + 1 = x.size + y.size then x.size + y.size else x.size + y.size + 1
  | .rep x _ _ _, p => if p + 1 < x.size then pr x p else if p + 1 = x.size then x.size else x.size + 1
theorem pr_root : ∀ (t : Tre), pr t (t.size - 1) = t.size
  | .leaf _ => rfl
  | .two k x y => by
    have := x.size_pos
    have := y.size_pos
    simp only [pr, Tre.size, Nat.add_sub_cancel]
    rw [if_neg (by omega), if_neg (by omega), if_neg (by omega), if_neg (by omega)]
  | .rep x _ _ _ => by
    have := x.size_pos
    simp only [pr, Tre.size, Nat.add_sub_cancel]
    rw [if_neg (by omega), if_neg (by omega)]
theorem pr_gt : ∀ (t : Tre) (q : Nat), q < t.size → q < pr t q
  | .leaf _, q, h => by simp [Tre.size] at h; simp [pr, h]
  | .two k x y, q, h => by
    simp only [Tre.size] at h
    unfold pr
    split
    · exact pr_gt x q (by omega)
    · split
      · omega
      · split
        · have := pr_gt y (q - x.size) (by omega); omega
        · split <;> omega
  | .rep x l m z, q, h => by
    simp only [Tre.size] at h
    unfold pr
    split
    · exact pr_gt x q (by omega)
    · split <;> omega
theorem pr_le : ∀ (t : Tre) (q : Nat), q + 1 < t.size → pr t q < t.size
  | .leaf _, q, h => by simp [Tre.size] at h
  | .two k x y, q, h => by
    simp only [Tre.size] at *
    unfold pr
    split
    · have := pr_le x q (by omega); omega
    · split
      · omega
      · split
        · have := pr_le y (q - x.size) (by omega); omega
        · split <;> omega
  | .rep x l m z, q, h => by
    simp only [Tre.size] at *
    unfold pr
    split
    · have := pr_le x q (by omega); omega
    · split <;> omega
/-- Whose part a node is. -/
theorem pr_is : ∀ (t : Tre) (q : Nat), q + 1 < t.size → (∃ k x y, t.subs[pr t q]? = some (.two k x y) ∧ (q = pr t q - 1 ∨ q = pr t q - 1 - y.size)) ∨ ∃ x l m z, t.subs[pr t q]? = some (.rep x l m z) ∧ q = pr t q - 1
  | .leaf _, q, h => by simp [Tre.size] at h
  | .two k x y, q, h => by
    have lx := Tre.subs_length x
    have ly := Tre.subs_length y
    have sx := x.size_pos
    have sy := y.size_pos
    have e := Tre.subs_last (.two k x y)
    simp only [Tre.size, Nat.add_sub_cancel] at e h
    by_cases c1 : q + 1 < x.size
    · have e1 : pr (.two k x y) q = pr x q := by simp only [pr]; rw [if_pos c1]
      have hl := pr_le x q c1
      rw [e1, Tre.subs, List.append_assoc, List.getElem?_append_left (by omega)]
      exact pr_is x q c1
    · by_cases c2 : q + 1 = x.size
      · have e1 : pr (.two k x y) q = x.size + y.size := by simp only [pr]; rw [if_neg c1, if_pos c2]
        rw [e1]
        exact .inl ⟨k, x, y, e, .inr (by omega)⟩
      · by_cases c3 : q + 1 < x.size + y.size
        · have e1 : pr (.two k x y) q = x.size + pr y (q - x.size) := by simp only [pr]; rw [if_neg c1, if_neg c2, if_pos c3]
          have hl := pr_le y (q - x.size) (by omega)
          have hg := pr_gt y (q - x.size) (by omega)
          rw [e1, Tre.subs, List.append_assoc, List.getElem?_append_right (by omega), lx, Nat.add_sub_cancel_left, List.getElem?_append_left (by omega)]
          rcases pr_is y (q - x.size) (by omega) with ⟨k', x', y', h1, h2⟩ | ⟨x', l', m', z', h1, h2⟩
          · have := (subs_two h1).1
            have := x'.size_pos
            exact .inl ⟨k', x', y', h1, by omega⟩
          · exact .inr ⟨x', l', m', z', h1, by omega⟩
        · have e1 : pr (.two k x y) q = x.size + y.size := by simp only [pr]; rw [if_neg c1, if_neg c2, if_neg c3, if_pos (by omega)]
          rw [e1]
          exact .inl ⟨k, x, y, e, .inl (by omega)⟩
  | .rep x l m z, q, h => by
    have lx := Tre.subs_length x
    have sx := x.size_pos
    have e := Tre.subs_last (.rep x l m z)
    simp only [Tre.size, Nat.add_sub_cancel] at e h
    by_cases c1 : q + 1 < x.size
    · have e1 : pr (.rep x l m z) q = pr x q := by simp only [pr]; rw [if_pos c1]
      have hl := pr_le x q c1
      rw [e1, Tre.subs, List.getElem?_append_left (by omega)]
      exact pr_is x q c1
    · have e1 : pr (.rep x l m z) q = x.size := by simp only [pr]; rw [if_neg c1, if_pos (by omega)]
      rw [e1]
      exact .inr ⟨x, l, m, z, e, by omega⟩
/-- The frame of anchorsMay. -/
def fr52 (ao : Option Addr) (n cap N : Nat) (k : Int) (u : Nat → Value) : Array Value := #[.slice ao n cap, u 1, u 2, .slice (some ⟨N, 0, none⟩) n n, .int .i64 k, u 5, u 6, u 7, u 8, u 9, u 10, u 11, u 12, u 13, u 14, u 15, u 16, u 17, u 18, u 19, u 20, u 21, u 22, u 23, u 24, u 25, u 26, u 27, u 28, u 29, u 30, u 31, u 32, u 33, u 34, u 35, u 36, u 37, u 38, u 39, u 40, u 41, u 42, u 43, u 44, u 45, u 46, u 47, u 48, u 49, u 50, u 51, u 52, u 53, u 54, u 55, u 56, u 57, u 58, u 59, u 60, u 61, u 62, u 63, u 64, u 65, u 66, u 67, u 68]
def Fr52 (ao : Option Addr) (n cap N : Nat) (k : Int) (tm : Array Value) : Prop := ∃ u, tm = fr52 ao n cap N k u
theorem Fr52.of {ao : Option Addr} {n cap N : Nat} {k : Int} (tm : Array Value) (h : tm = fr52 ao n cap N k (nth tm.toList)) : Fr52 ao n cap N k tm := ⟨_, h⟩
theorem pr_child : ∀ (t : Tre) (p : Nat) (k : Int) (x y : Tre), t.subs[p]? = some (.two k x y) → pr t (p - 1) = p ∧ pr t (p - 1 - y.size) = p
  | .leaf _, p, k, x, y, h => by
    have hp := (List.getElem?_eq_some_iff.1 h).1
    simp [Tre.subs] at hp
    subst hp
    simp [Tre.subs] at h
  | .two k' x' y', p, k, x, y, h => by
    have lx := Tre.subs_length x'
    have ly := Tre.subs_length y'
    have sx := x.size_pos
    have sy := y.size_pos
    have sx' := x'.size_pos
    have sy' := y'.size_pos
    have hp := (List.getElem?_eq_some_iff.1 h).1
    rw [Tre.subs_length] at hp
    have hp' : p < x'.size + y'.size + 1 := hp
    by_cases c1 : p < x'.size
    · have hx : x'.subs[p]? = some (.two k x y) := by rw [Tre.subs, List.append_assoc, List.getElem?_append_left (by omega)] at h; exact h
      have hs := (subs_two hx).1
      obtain ⟨i1, i2⟩ := pr_child x' p k x y hx
      simp only [pr]
      rw [if_pos (by omega), if_pos (by omega)]
      exact ⟨i1, i2⟩
    · by_cases c2 : p < x'.size + y'.size
      · have hy : y'.subs[p - x'.size]? = some (.two k x y) := by rw [Tre.subs, List.append_assoc, List.getElem?_append_right (by omega), List.getElem?_append_left (by omega), lx] at h; exact h
        have hs := (subs_two hy).1
        obtain ⟨i1, i2⟩ := pr_child y' _ k x y hy
        simp only [pr]
        rw [if_neg (by omega), if_neg (by omega), if_pos (by omega), if_neg (by omega), if_neg (by omega), if_pos (by omega)]
        rw [show p - 1 - x'.size = p - x'.size - 1 by omega, show p - 1 - y.size - x'.size = p - x'.size - 1 - y.size by omega, i1, i2]
        omega
      · have : p = x'.size + y'.size := by omega
        subst this
        have e := Tre.subs_last (.two k' x' y')
        simp only [Tre.size, Nat.add_sub_cancel] at e
        rw [e] at h
        obtain ⟨rfl, rfl, rfl⟩ : k' = k ∧ x' = x ∧ y' = y := by simpa using h
        simp only [pr]
        rw [if_neg (by omega), if_neg (by omega), if_neg (by omega), if_pos (by omega), if_neg (by omega), if_pos (by omega)]
        exact ⟨rfl, rfl⟩
  | .rep x' l m z, p, k, x, y, h => by
    have lx := Tre.subs_length x'
    have sx := x.size_pos
    have sy := y.size_pos
    have hp := (List.getElem?_eq_some_iff.1 h).1
    rw [Tre.subs_length] at hp
    have hp' : p < x'.size + 1 := hp
    by_cases c1 : p < x'.size
    · have hx : x'.subs[p]? = some (.two k x y) := by rw [Tre.subs, List.getElem?_append_left (by omega)] at h; exact h
      have hs := (subs_two hx).1
      obtain ⟨i1, i2⟩ := pr_child x' p k x y hx
      simp only [pr]
      rw [if_pos (by omega), if_pos (by omega)]
      exact ⟨i1, i2⟩
    · have : p = x'.size := by omega
      subst this
      have e := Tre.subs_last (.rep x' l m z)
      simp only [Tre.size, Nat.add_sub_cancel] at e
      rw [e] at h
      cases h
theorem pr_two {t : Tre} {p : Nat} {k : Int} {x y : Tre} (h : t.subs[p]? = some (.two k x y)) : ∀ q, q < t.size → (pr t q = p ↔ q = p - 1 ∨ q = p - 1 - y.size) := by
  intro q hq
  have hkl := (List.getElem?_eq_some_iff.1 h).1
  rw [Tre.subs_length] at hkl
  obtain ⟨i1, i2⟩ := pr_child t p k x y h
  constructor
  · intro e
    have hq1 : q + 1 < t.size := by
      rcases Nat.lt_or_ge (q + 1) t.size with h' | h'
      · exact h'
      · have : q = t.size - 1 := by omega
        subst this
        rw [pr_root] at e; omega
    rcases pr_is t q hq1 with ⟨k', x', y', h1, h2⟩ | ⟨_, _, _, _, h1, _⟩
    · rw [e, h] at h1
      obtain ⟨rfl, rfl, rfl⟩ : k = k' ∧ x = x' ∧ y = y' := by simpa using h1
      rw [e] at h2
      exact h2
    · rw [e, h] at h1; cases h1
  · rintro (rfl | rfl)
    · exact i1
    · exact i2
def RetBo (w : World) (b : Bool) (e : Ending) (w' : World) : Prop := e = .returned (.bool b) ∧ Below w.heap.size w w'

section
variable {P : Program} {ops : Array Oper} {md : Region.Mode} {C : World → Prop}

end
/-- u, but all that was there in W is as it was. -/
def near (W u : World) : World := { u with os := W.os, tape := W.tape, output := W.output, heap := W.heap ++ u.heap.extract W.heap.size }
theorem near_below (W u : World) : Below W.heap.size W (near W u) := by
  refine ⟨rfl, rfl, rfl, ?_, fun k hk => ?_⟩
  · show W.heap.size ≤ (W.heap ++ u.heap.extract W.heap.size).size
    rw [Array.size_append]; omega
  · show (W.heap ++ u.heap.extract W.heap.size)[k]? = _
    rw [Array.getElem?_append_left hk]
theorem near_self {W w : World} (h : Below W.heap.size W w) : near W w = w := by
  have e : W.heap ++ w.heap.extract W.heap.size = w.heap := by
    apply Array.ext_getElem?
    intro i
    by_cases hi : i < W.heap.size
    · rw [Array.getElem?_append_left hi, h.block i hi]
    · rw [Array.getElem?_append_right (by omega), Array.getElem?_extract]
      have := h.size
      by_cases h2 : i < w.heap.size
      · rw [if_pos (by omega), show W.heap.size + (i - W.heap.size) = i by omega]
      · rw [if_neg (by omega), Array.getElem?_eq_none (by omega)]
  unfold near
  rw [e, ← h.os, ← h.tape, ← h.output]
theorem Near.cell {W : World} {b o : Nat} {v : Value} (hc : W.cell? ⟨b, o, none⟩ = some v) (hb : b < W.heap.size) : ∀ u : World, (near W u).cell? ⟨b, o, none⟩ = some v := fun u => by
  rw [(near_below W u).cell (p := ⟨b, o, none⟩) hb]; exact hc
theorem Near.frozen {W : World} {b o : Nat} {v : Bool} (hc : W.frozen? ⟨b, o, none⟩ = v) (hb : b < W.heap.size) : ∀ u : World, (near W u).frozen? ⟨b, o, none⟩ = v := fun u => by
  rw [(near_below W u).frozen (p := ⟨b, o, none⟩) hb]; exact hc
theorem Near.start (W : World) : ∃ u : World, { W with drawn := W.drawn + 1 } = near W u := ⟨W.drew, (near_self (Below.refl _ _).drew).symm⟩
theorem Near.call {P : Program} {f : FuncId} {args : Array Value} {W : World} {u : World} {v : Value} (h : Calls P f args (near W u) fun e w' => e = .returned v ∧ Below (near W u).heap.size (near W u) w') :
    Calls P f args (near W u) fun e w' => e = .returned v ∧ ∃ u' : World, w' = near W u' :=
  h.mono fun _ w' h => ⟨h.1, w', (near_self ((near_below W u).trans (h.2.mono (near_below W u).size))).symm⟩
theorem Near.same {P : Program} {f : FuncId} {args : Array Value} {W : World} {u : World} {v : Value} (h : Calls P f args (near W u) fun e w' => e = .returned v ∧ w' = near W u) :
    Calls P f args (near W u) fun e w' => e = .returned v ∧ ∃ u' : World, w' = near W u' :=
  h.mono fun _ _ h => ⟨h.1, u, h.2⟩
/-- The cells of a slice of widths can be read. -/
def RdW (w : World) (ao : Option Addr) (n : Nat) (f g : Nat → Int) : Prop := 0 < n → ∃ bb off, ao = some ⟨bb, off, none⟩ ∧ bb < w.heap.size ∧ ∀ i, i < n → w.cell? ⟨bb, off + i * 2, none⟩ = some (.int .i64 (f i)) ∧ w.cell? ⟨bb, off + i * 2 + 1, none⟩ = some (.int .i64 (g i))
theorem RdW.below {w w' : World} {ao : Option Addr} {n : Nat} {f g : Nat → Int} (h : RdW w ao n f g) (hb : Below w.heap.size w w') : RdW w' ao n f g := by
  intro hn
  obtain ⟨bb, off, e, hlt, hc⟩ := h hn
  refine ⟨bb, off, e, Nat.lt_of_lt_of_le hlt hb.size, fun i hi => ?_⟩
  have := hc i hi
  simpa only [hb.cell (p := ⟨bb, _, none⟩) hlt] using this
set_option maxHeartbeats 400000 in
theorem may_any (a : Option Addr) (n c : Nat) (F : Nat → Nd) (w : World) (ha : RdN w a n F) (hn : (n : Int) ≤ 9223372036854775807) : Calls Try.prog 62 #[.agg #[.slice a n c]] w (RetBo w (treeOf F n).isSome) := by
  have hW0 := below1 w (.cells #[.slice a n c] 47)
  have HM := sizes_any a n c F _ (ha.below hW0) hn
  clear ha
  have HX : Hid (∀ w3 : World, Below (w.heap.size + 1) (w.alloc (.cells #[.slice a n c] 47)) w3 → Below w.heap.size w w3) := fun w3 h => hW0.trans (h.mono (by omega))
  go_enter Try.func62, Try.ntmps62
  go_wp2_with (go_at_call 70; refine HM.mono ?_; rintro e w3 ⟨⟨v, rfl, hv⟩, hb3⟩; clear hv)
  go_ret
  exact ⟨rfl, HX.out _ (by simpa using hb3)⟩
set_option maxHeartbeats 400000 in
theorem rempty_any (w : World) : Calls Try.prog 60 #[] w (RetT w 1 (nodes emp)) := by
  have ho := own_one (w.alloc (.cells #[.slice (some ⟨w.heap.size + 1, 0, none⟩) 1 1] 47)) w.heap.size (by simp) _ (nodes emp) nodes_emp
  simp only [World.size_alloc] at ho
  unfold ndL at ho
  dsimp only at ho
  have hb := below2 w (.cells #[.slice (some ⟨w.heap.size + 1, 0, none⟩) 1 1] 47) (.cells #[.int .i64 1, .int .u64 0, .int .u64 0, .int .u64 0, .int .u64 0, .int .i64 0, .int .i64 0, .int .i64 0, .int .i64 0, .bool false] 70)
  go_enter Try.func60, Try.ntmps60
  go_wp2
  exact bodyPost_ret (by simp [results, Try.results60, go_sem]) rfl ⟨_, _, rfl, ho, hb⟩
set_option maxRecDepth 10000 in
set_option maxHeartbeats 400000 in
theorem rleaf_any (n : Nd) (w : World) : Calls Try.prog 42 #[ndV n] w (RetT w 1 (fun _ => leafN n)) := by
  by_cases h : n.k = 1 ∨ n.k = 2 ∨ n.k = 6 ∨ n.k = 7
  · have e : leafN n = { n with a := 0, b := 0 } := by simp [leafN, h]
    rw [e]
    clear e
    obtain ⟨k, c0, c1, c2, c3, a, b, l, m, z⟩ := n
    dsimp only at *
    have ho := own_one ((w.alloc (.cells #[.int .i64 k, .int .u64 c0, .int .u64 c1, .int .u64 c2, .int .u64 c3, .int .i64 0, .int .i64 0, .int .i64 l, .int .i64 m, .bool z] 70)).alloc (.cells #[.slice (some ⟨w.heap.size + 1 + 1, 0, none⟩) 1 1] 47)) w.heap.size (by simp; omega) ⟨k, c0, c1, c2, c3, 0, 0, l, m, z⟩ (fun _ => ⟨k, c0, c1, c2, c3, 0, 0, l, m, z⟩) rfl
    have hb := (below2 w (.cells #[.int .i64 k, .int .u64 c0, .int .u64 c1, .int .u64 c2, .int .u64 c3, .int .i64 0, .int .i64 0, .int .i64 l, .int .i64 m, .bool z] 70) (.cells #[.slice (some ⟨w.heap.size + 1 + 1, 0, none⟩) 1 1] 47)).alloc (by simp; omega) (.cells #[.int .i64 k, .int .u64 c0, .int .u64 c1, .int .u64 c2, .int .u64 c3, .int .i64 0, .int .i64 0, .int .i64 l, .int .i64 m, .bool z] 70)
    simp only [World.size_alloc] at ho
    unfold ndL at ho
    dsimp only at ho
    unfold ndV
    dsimp only
    rcases h with rfl | rfl | rfl | rfl
    all_goals
      go_enter Try.func42, Try.ntmps42
      go_wp2
      exact bodyPost_ret (by simp [results, Try.results42, go_sem]) rfl ⟨_, _, rfl, ho, hb⟩
  · have e : leafN n = nodes emp 0 := by rw [leafN, if_neg h, nodes_emp]
    have HE := rempty_any
    have hB := below2 w (.cells #[.int .i64 n.k, .int .u64 n.c0, .int .u64 n.c1, .int .u64 n.c2, .int .u64 n.c3, .int .i64 n.a, .int .i64 n.b, .int .i64 n.l, .int .i64 n.m, .bool n.z] 70) (.cells #[.slice none 0 0] 47)
    have d2 : Cl ((w.alloc (.cells #[.int .i64 n.k, .int .u64 n.c0, .int .u64 n.c1, .int .u64 n.c2, .int .u64 n.c3, .int .i64 n.a, .int .i64 n.b, .int .i64 n.l, .int .i64 n.m, .bool n.z] 70)).alloc (.cells #[.slice none 0 0] 47)) (w.heap.size + 1) 47 [.slice none 0 0] := by
      have := Cl.new (w.alloc (.cells #[.int .i64 n.k, .int .u64 n.c0, .int .u64 n.c1, .int .u64 n.c2, .int .u64 n.c3, .int .i64 n.a, .int .i64 n.b, .int .i64 n.l, .int .i64 n.m, .bool n.z] 70)) 47 [.slice none 0 0]
      simpa only [World.size_alloc] using this
    have HR : Hid (∀ e w', RetT w 1 (nodes emp) e w' → RetT w 1 (fun _ => leafN n) e w') := fun e' w' hr => hr.congr fun i hi => by rw [e]; congr 1; omega
    have hc : n.k = 3 ∨ n.k = 4 ∨ n.k = 5 ∨ n.k < 1 ∨ n.k > 7 := by omega
    clear h e
    unfold ndV
    generalize leafN n = q at *
    obtain ⟨k, c0, c1, c2', c3, a, b, l, m, z⟩ := n
    dsimp only at *
    have hways : ∀ k : Int, k < 1 ∨ k > 7 → (k == 3) = false ∧ (k == 4) = false ∧ (k == 5) = false := fun k h => by simp; omega
    rcases hc with rfl | rfl | rfl | hc | hc
    · clear hways
      go_enter Try.func42, Try.ntmps42
      go_wp2_with (go_at_call 60; refine (HE _).mono ?_; rintro e w2 ⟨ao2, c2, rfl, ho2, hb2⟩; have d3 := d2.below hb2; obtain ⟨d31, d32⟩ := d3.one)
      have dd := (d3.set 0 (.slice ao2 1 c2)).cell 0 rfl
      have hsz2 := hb2.size
      simp only [World.size_alloc] at hsz2
      have ho3 : OwN (w2.setCell ⟨w.heap.size + 1, 0, none⟩ (.slice ao2 1 c2)) w.heap.size ao2 1 c2 (nodes emp) := by
        refine ownsRow_base (ownsRow_at ho2 fun g' h1 h2 => ?_) (by simp; omega)
        simp only [World.size_alloc] at h1
        rw [Below.heap_setCell _ _ _ _ (by simp; omega)]
      exact bodyPost_ret (by simp [results, Try.results42, go_sem, dd]) rfl (HR.out _ _ ⟨ao2, c2, rfl, ho3, (hB.trans (hb2.mono (by simp; omega))).setCell (p := ⟨w.heap.size + 1, 0, none⟩) (by simp) _⟩)
    · clear hways
      go_enter Try.func42, Try.ntmps42
      go_wp2_with (go_at_call 60; refine (HE _).mono ?_; rintro e w2 ⟨ao2, c2, rfl, ho2, hb2⟩; have d3 := d2.below hb2; obtain ⟨d31, d32⟩ := d3.one)
      have dd := (d3.set 0 (.slice ao2 1 c2)).cell 0 rfl
      have hsz2 := hb2.size
      simp only [World.size_alloc] at hsz2
      have ho3 : OwN (w2.setCell ⟨w.heap.size + 1, 0, none⟩ (.slice ao2 1 c2)) w.heap.size ao2 1 c2 (nodes emp) := by
        refine ownsRow_base (ownsRow_at ho2 fun g' h1 h2 => ?_) (by simp; omega)
        simp only [World.size_alloc] at h1
        rw [Below.heap_setCell _ _ _ _ (by simp; omega)]
      exact bodyPost_ret (by simp [results, Try.results42, go_sem, dd]) rfl (HR.out _ _ ⟨ao2, c2, rfl, ho3, (hB.trans (hb2.mono (by simp; omega))).setCell (p := ⟨w.heap.size + 1, 0, none⟩) (by simp) _⟩)
    · clear hways
      go_enter Try.func42, Try.ntmps42
      go_wp2_with (go_at_call 60; refine (HE _).mono ?_; rintro e w2 ⟨ao2, c2, rfl, ho2, hb2⟩; have d3 := d2.below hb2; obtain ⟨d31, d32⟩ := d3.one)
      have dd := (d3.set 0 (.slice ao2 1 c2)).cell 0 rfl
      have hsz2 := hb2.size
      simp only [World.size_alloc] at hsz2
      have ho3 : OwN (w2.setCell ⟨w.heap.size + 1, 0, none⟩ (.slice ao2 1 c2)) w.heap.size ao2 1 c2 (nodes emp) := by
        refine ownsRow_base (ownsRow_at ho2 fun g' h1 h2 => ?_) (by simp; omega)
        simp only [World.size_alloc] at h1
        rw [Below.heap_setCell _ _ _ _ (by simp; omega)]
      exact bodyPost_ret (by simp [results, Try.results42, go_sem, dd]) rfl (HR.out _ _ ⟨ao2, c2, rfl, ho3, (hB.trans (hb2.mono (by simp; omega))).setCell (p := ⟨w.heap.size + 1, 0, none⟩) (by simp) _⟩)
    · obtain ⟨d3, d4, d5⟩ := hways k (.inl hc)
      clear hways
      go_enter Try.func42, Try.ntmps42
      go_wp2_with (go_at_call 60; refine (HE _).mono ?_; rintro e w2 ⟨ao2, c2, rfl, ho2, hb2⟩; have d3 := d2.below hb2; obtain ⟨d31, d32⟩ := d3.one)
      have dd := (d3.set 0 (.slice ao2 1 c2)).cell 0 rfl
      have hsz2 := hb2.size
      simp only [World.size_alloc] at hsz2
      have ho3 : OwN (w2.setCell ⟨w.heap.size + 1, 0, none⟩ (.slice ao2 1 c2)) w.heap.size ao2 1 c2 (nodes emp) := by
        refine ownsRow_base (ownsRow_at ho2 fun g' h1 h2 => ?_) (by simp; omega)
        simp only [World.size_alloc] at h1
        rw [Below.heap_setCell _ _ _ _ (by simp; omega)]
      exact bodyPost_ret (by simp [results, Try.results42, go_sem, dd]) rfl (HR.out _ _ ⟨ao2, c2, rfl, ho3, (hB.trans (hb2.mono (by simp; omega))).setCell (p := ⟨w.heap.size + 1, 0, none⟩) (by simp) _⟩)
    · obtain ⟨d3, d4, d5⟩ := hways k (.inr hc)
      have hc2 : ¬ k < 1 := by omega
      clear hways
      go_enter Try.func42, Try.ntmps42
      go_wp2_with (go_at_call 60; refine (HE _).mono ?_; rintro e w2 ⟨ao2, c2, rfl, ho2, hb2⟩; have d3 := d2.below hb2; obtain ⟨d31, d32⟩ := d3.one)
      have dd := (d3.set 0 (.slice ao2 1 c2)).cell 0 rfl
      have hsz2 := hb2.size
      simp only [World.size_alloc] at hsz2
      have ho3 : OwN (w2.setCell ⟨w.heap.size + 1, 0, none⟩ (.slice ao2 1 c2)) w.heap.size ao2 1 c2 (nodes emp) := by
        refine ownsRow_base (ownsRow_at ho2 fun g' h1 h2 => ?_) (by simp; omega)
        simp only [World.size_alloc] at h1
        rw [Below.heap_setCell _ _ _ _ (by simp; omega)]
      exact bodyPost_ret (by simp [results, Try.results42, go_sem, dd]) rfl (HR.out _ _ ⟨ao2, c2, rfl, ho3, (hB.trans (hb2.mono (by simp; omega))).setCell (p := ⟨w.heap.size + 1, 0, none⟩) (by simp) _⟩)
/-- From A to B only the blocks b and b + 1 may have turned. -/
structure Turn (b : Nat) (A B : World) : Prop where
  os : B.os = A.os
  tape : B.tape = A.tape
  output : B.output = A.output
  size : A.heap.size ≤ B.heap.size
  block : ∀ k, k < A.heap.size → (k < b ∨ b + 2 ≤ k) → B.heap[k]? = A.heap[k]?
theorem Turn.of_below {b : Nat} {A B : World} (h : Below A.heap.size A B) : Turn b A B := ⟨h.os, h.tape, h.output, h.size, fun k hk _ => h.block k hk⟩
theorem Turn.put {b : Nat} {A : World} (l : Nat) (o : Obj) (hl : b ≤ l ∧ l < b + 2) : Turn b A (A.putObj l o) :=
  ⟨rfl, rfl, rfl, by simp, fun k _ hk => World.putObj_heap_other (by omega)⟩
/-- What a round of the body keeps: the old blocks, and b and b + 1. -/
structure KeepT (b : Nat) (Old : Nat → Prop) (A B : World) : Prop where
  size : A.heap.size ≤ B.heap.size
  same : ∀ k, (Old k ∨ (b ≤ k ∧ k < b + 2)) → B.heap[k]? = A.heap[k]?
theorem KeepT.refl (b : Nat) (Old : Nat → Prop) (A : World) : KeepT b Old A A := ⟨Nat.le_refl _, fun _ _ => rfl⟩
theorem KeepT.trans {b : Nat} {Old : Nat → Prop} {A B C : World} (h : KeepT b Old A B) (k : KeepT b Old B C) : KeepT b Old A C := ⟨Nat.le_trans h.size k.size, fun i hi => (k.same i hi).trans (h.same i hi)⟩
def swp (n : Nd) : Nd := if n.k = 6 then { n with k := 7 } else if n.k = 7 then { n with k := 6 } else n
/-- A tree turned round. -/
def mir : Tre → Tre
  | .leaf n => .leaf (swp n)
  | .two k x y => if k = 3 then .two k (mir y) (mir x) else .two k (mir x) (mir y)
  | .rep x l m z => .rep (mir x) l m z
theorem mir_size : ∀ t : Tre, (mir t).size = t.size
  | .leaf n => rfl
  | .two k x y => by
    have hx := mir_size x
    have hy := mir_size y
    unfold mir
    split
    · simp only [Tre.size, hx, hy]; omega
    · simp only [Tre.size, hx, hy]
  | .rep x l m z => by
    have hx := mir_size x
    simp only [mir, Tre.size, hx]
/-- Where the subtree of a node begins when it is turned. -/
def bg : Tre → Nat → Nat → Nat
  | .leaf _, o, _ => o
  | .two k x y, o, p => if k = 3 then (if p < x.size then bg x (o + y.size) p else if p < x.size + y.size then bg y o (p - x.size) else o) else (if p < x.size then bg x o p else if p < x.size + y.size then bg y (o + x.size) (p - x.size) else o)
  | .rep x _ _ _, o, p => if p < x.size then bg x o p else o
theorem bg_root : ∀ (t : Tre) (o : Nat), bg t o (t.size - 1) = o
  | .leaf _, o => rfl
  | .two k x y, o => by
    by_cases hk : k = 3
    · simp only [bg, Tre.size, Nat.add_sub_cancel, if_pos hk, if_neg (show ¬ x.size + y.size < x.size by omega), if_neg (show ¬ x.size + y.size < x.size + y.size by omega)]
    · simp only [bg, Tre.size, Nat.add_sub_cancel, if_neg hk, if_neg (show ¬ x.size + y.size < x.size by omega), if_neg (show ¬ x.size + y.size < x.size + y.size by omega)]
  | .rep x _ _ _, o => by
    simp only [bg, Tre.size, Nat.add_sub_cancel]
    rw [if_neg (by omega)]
theorem two_subs {k : Int} {x y : Tre} {p : Nat} {u : Tre} (h : (Tre.two k x y).subs[p]? = some u) : (p < x.size ∧ x.subs[p]? = some u) ∨ (x.size ≤ p ∧ p < x.size + y.size ∧ y.subs[p - x.size]? = some u) ∨ (p = x.size + y.size ∧ u = .two k x y) := by
  have lx := Tre.subs_length x
  have ly := Tre.subs_length y
  have hp := (List.getElem?_eq_some_iff.1 h).1
  rw [Tre.subs_length] at hp
  have hp' : p < x.size + y.size + 1 := hp
  rw [Tre.subs, List.append_assoc] at h
  by_cases c1 : p < x.size
  · rw [List.getElem?_append_left (by omega)] at h
    exact .inl ⟨c1, h⟩
  · rw [List.getElem?_append_right (by omega), lx] at h
    by_cases c2 : p < x.size + y.size
    · rw [List.getElem?_append_left (by omega)] at h
      exact .inr (.inl ⟨by omega, c2, h⟩)
    · rw [List.getElem?_append_right (by omega), ly, show p - x.size - y.size = 0 by omega] at h
      exact .inr (.inr ⟨by omega, by simpa using h.symm⟩)
theorem rep_subs {x : Tre} {l m : Int} {z : Bool} {p : Nat} {u : Tre} (h : (Tre.rep x l m z).subs[p]? = some u) : (p < x.size ∧ x.subs[p]? = some u) ∨ (p = x.size ∧ u = .rep x l m z) := by
  have lx := Tre.subs_length x
  have hp := (List.getElem?_eq_some_iff.1 h).1
  rw [Tre.subs_length] at hp
  have hp' : p < x.size + 1 := hp
  rw [Tre.subs] at h
  by_cases c1 : p < x.size
  · rw [List.getElem?_append_left (by omega)] at h
    exact .inl ⟨c1, h⟩
  · rw [List.getElem?_append_right (by omega), lx, show p - x.size = 0 by omega] at h
    exact .inr ⟨by omega, by simpa using h.symm⟩
theorem leaf_subs {n : Nd} {p : Nat} {u : Tre} (h : (Tre.leaf n).subs[p]? = some u) : p = 0 ∧ u = .leaf n := by
  have hp := (List.getElem?_eq_some_iff.1 h).1
  simp [Tre.subs] at hp
  subst hp
  simp [Tre.subs] at h
  exact ⟨rfl, h.symm⟩
theorem subs_two_l {k : Int} {x y : Tre} {i : Nat} (h : i < x.size) : (Tre.two k x y).subs[i]? = x.subs[i]? := by
  rw [Tre.subs, List.append_assoc, List.getElem?_append_left (by rw [Tre.subs_length]; exact h)]
theorem subs_two_r {k : Int} {x y : Tre} {i : Nat} (h : i < y.size) : (Tre.two k x y).subs[x.size + i]? = y.subs[i]? := by
  have lx := Tre.subs_length x
  have ly := Tre.subs_length y
  rw [Tre.subs, List.append_assoc, List.getElem?_append_right (by omega), List.getElem?_append_left (by omega), lx, Nat.add_sub_cancel_left]
theorem subs_rep_l {x : Tre} {l m : Int} {z : Bool} {i : Nat} (h : i < x.size) : (Tre.rep x l m z).subs[i]? = x.subs[i]? := by
  rw [Tre.subs, List.getElem?_append_left (by rw [Tre.subs_length]; exact h)]
/-- Where it lies, it is the subtree turned. -/
theorem bg_at : ∀ (t : Tre) (o p : Nat) (u : Tre), t.subs[p]? = some u → o ≤ bg t o p ∧ bg t o p + u.size ≤ o + t.size ∧ (mir t).subs[bg t o p - o + u.size - 1]? = some (mir u)
  | .leaf n, o, p, u, h => by
    obtain ⟨rfl, rfl⟩ := leaf_subs h
    simp [bg, Tre.size, mir, Tre.subs]
  | .two k x y, o, p, u, h => by
    have sx := mir_size x
    have sy := mir_size y
    have pu := u.size_pos
    by_cases hk : k = 3
    · have hm : mir (.two k x y) = .two k (mir y) (mir x) := by simp [mir, hk]
      rcases two_subs h with ⟨h1, h2⟩ | ⟨h0, h1, h2⟩ | ⟨rfl, rfl⟩
      · obtain ⟨a1, a2, a3⟩ := bg_at x (o + y.size) p u h2
        simp only [bg, hk, if_true, if_pos h1, Tre.size]
        refine ⟨by omega, by omega, ?_⟩
        rw [← hk, hm, ← a3, show bg x (o + y.size) p - o + u.size - 1 = (mir y).size + (bg x (o + y.size) p - (o + y.size) + u.size - 1) by omega]
        exact subs_two_r (by omega)
      · obtain ⟨a1, a2, a3⟩ := bg_at y o (p - x.size) u h2
        simp only [bg, hk, if_true, if_neg (show ¬ p < x.size by omega), if_pos h1, Tre.size]
        refine ⟨by omega, by omega, ?_⟩
        rw [← hk, hm, ← a3]
        exact subs_two_l (by omega)
      · simp only [bg, hk, if_true, if_neg (show ¬ x.size + y.size < x.size by omega), if_neg (show ¬ x.size + y.size < x.size + y.size by omega), Tre.size]
        refine ⟨by omega, by omega, ?_⟩
        have := Tre.subs_last (mir (.two k x y))
        rw [mir_size] at this
        rw [← hk, show o - o + (x.size + y.size + 1) - 1 = (Tre.two k x y).size - 1 by simp only [Tre.size]; omega]
        exact this
    · have hm : mir (.two k x y) = .two k (mir x) (mir y) := by simp [mir, hk]
      rcases two_subs h with ⟨h1, h2⟩ | ⟨h0, h1, h2⟩ | ⟨rfl, rfl⟩
      · obtain ⟨a1, a2, a3⟩ := bg_at x o p u h2
        simp only [bg, if_neg hk, if_pos h1, Tre.size]
        refine ⟨by omega, by omega, ?_⟩
        rw [hm, ← a3]
        exact subs_two_l (by omega)
      · obtain ⟨a1, a2, a3⟩ := bg_at y (o + x.size) (p - x.size) u h2
        simp only [bg, if_neg hk, if_neg (show ¬ p < x.size by omega), if_pos h1, Tre.size]
        refine ⟨by omega, by omega, ?_⟩
        rw [hm, ← a3, show bg y (o + x.size) (p - x.size) - o + u.size - 1 = (mir x).size + (bg y (o + x.size) (p - x.size) - (o + x.size) + u.size - 1) by omega]
        exact subs_two_r (by omega)
      · simp only [bg, if_neg hk, if_neg (show ¬ x.size + y.size < x.size by omega), if_neg (show ¬ x.size + y.size < x.size + y.size by omega), Tre.size]
        refine ⟨by omega, by omega, ?_⟩
        have := Tre.subs_last (mir (.two k x y))
        rw [mir_size] at this
        rw [show o - o + (x.size + y.size + 1) - 1 = (Tre.two k x y).size - 1 by simp only [Tre.size]; omega]
        exact this
  | .rep x l m z, o, p, u, h => by
    have sx := mir_size x
    have pu := u.size_pos
    rcases rep_subs h with ⟨h1, h2⟩ | ⟨rfl, rfl⟩
    · obtain ⟨a1, a2, a3⟩ := bg_at x o p u h2
      simp only [bg, if_pos h1, Tre.size]
      refine ⟨by omega, by omega, ?_⟩
      rw [mir, ← a3]
      exact subs_rep_l (by omega)
    · simp only [bg, if_neg (show ¬ x.size < x.size by omega), Tre.size]
      refine ⟨by omega, by omega, ?_⟩
      have := Tre.subs_last (mir (.rep x l m z))
      rw [mir_size] at this
      rw [show o - o + (x.size + 1) - 1 = (Tre.rep x l m z).size - 1 by simp only [Tre.size]; omega]
      exact this
/-- Where the parts of two begin. -/
theorem bg_two : ∀ (t : Tre) (o p : Nat) (k : Int) (x y : Tre), t.subs[p]? = some (.two k x y) → (k = 3 → bg t o (p - 1) = bg t o p ∧ bg t o (p - 1 - y.size) = bg t o p + y.size) ∧ (k ≠ 3 → bg t o (p - 1 - y.size) = bg t o p ∧ bg t o (p - 1) = bg t o p + x.size)
  | .leaf n, o, p, k, x, y, h => by
    obtain ⟨_, h⟩ := leaf_subs h
    cases h
  | .two k' x' y', o, p, k, x, y, h => by
    have hq := subs_two h
    have px := x.size_pos
    have py := y.size_pos
    have px' := x'.size_pos
    have py' := y'.size_pos
    rcases two_subs h with ⟨h1, h2⟩ | ⟨h0, h1, h2⟩ | ⟨rfl, e⟩
    · have hs := (subs_two h2).1
      by_cases hk : k' = 3
      · simp only [bg, if_pos hk, if_pos h1, if_pos (show p - 1 < x'.size by omega), if_pos (show p - 1 - y.size < x'.size by omega)]
        exact bg_two x' (o + y'.size) p k x y h2
      · simp only [bg, if_neg hk, if_pos h1, if_pos (show p - 1 < x'.size by omega), if_pos (show p - 1 - y.size < x'.size by omega)]
        exact bg_two x' o p k x y h2
    · have hs := (subs_two h2).1
      have e1 : p - 1 - x'.size = p - x'.size - 1 := by omega
      have e2 : p - 1 - y.size - x'.size = p - x'.size - 1 - y.size := by omega
      by_cases hk : k' = 3
      · simp only [bg, if_pos hk, if_neg (show ¬ p < x'.size by omega), if_pos h1, if_neg (show ¬ p - 1 < x'.size by omega), if_pos (show p - 1 < x'.size + y'.size by omega), if_neg (show ¬ p - 1 - y.size < x'.size by omega), if_pos (show p - 1 - y.size < x'.size + y'.size by omega), e1, e2]
        exact bg_two y' o (p - x'.size) k x y h2
      · simp only [bg, if_neg hk, if_neg (show ¬ p < x'.size by omega), if_pos h1, if_neg (show ¬ p - 1 < x'.size by omega), if_pos (show p - 1 < x'.size + y'.size by omega), if_neg (show ¬ p - 1 - y.size < x'.size by omega), if_pos (show p - 1 - y.size < x'.size + y'.size by omega), e1, e2]
        exact bg_two y' (o + x'.size) (p - x'.size) k x y h2
    · obtain ⟨rfl, rfl, rfl⟩ : k = k' ∧ x = x' ∧ y = y' := by simpa using e
      have rx := bg_root x
      have ry := bg_root y
      have e1 : x.size + y.size - 1 - x.size = y.size - 1 := by omega
      have e2 : x.size + y.size - 1 - y.size = x.size - 1 := by omega
      refine ⟨fun hk => ?_, fun hk => ?_⟩
      · simp only [bg, if_pos hk, if_neg (show ¬ x.size + y.size < x.size by omega), if_neg (show ¬ x.size + y.size < x.size + y.size by omega), if_neg (show ¬ x.size + y.size - 1 < x.size by omega), if_pos (show x.size + y.size - 1 < x.size + y.size by omega), e1, e2, if_pos (show x.size - 1 < x.size by omega), rx, ry]
        exact ⟨trivial, trivial⟩
      · simp only [bg, if_neg hk, if_neg (show ¬ x.size + y.size < x.size by omega), if_neg (show ¬ x.size + y.size < x.size + y.size by omega), if_neg (show ¬ x.size + y.size - 1 < x.size by omega), if_pos (show x.size + y.size - 1 < x.size + y.size by omega), e1, e2, if_pos (show x.size - 1 < x.size by omega), rx, ry]
        exact ⟨trivial, trivial⟩
  | .rep x' l m z, o, p, k, x, y, h => by
    have hq := subs_two h
    have px := x.size_pos
    rcases rep_subs h with ⟨h1, h2⟩ | ⟨rfl, e⟩
    · simp only [bg, if_pos h1, if_pos (show p - 1 < x'.size by omega), if_pos (show p - 1 - y.size < x'.size by omega)]
      exact bg_two x' o p k x y h2
    · cases e
theorem bg_rep : ∀ (t : Tre) (o p : Nat) (x : Tre) (l m : Int) (z : Bool), t.subs[p]? = some (.rep x l m z) → bg t o (p - 1) = bg t o p
  | .leaf n, o, p, x, l, m, z, h => by
    obtain ⟨_, h⟩ := leaf_subs h
    cases h
  | .two k' x' y', o, p, x, l, m, z, h => by
    have hq := subs_rep h
    have px := x.size_pos
    have px' := x'.size_pos
    rcases two_subs h with ⟨h1, h2⟩ | ⟨h0, h1, h2⟩ | ⟨rfl, e⟩
    · by_cases hk : k' = 3
      · simp only [bg, if_pos hk, if_pos h1, if_pos (show p - 1 < x'.size by omega)]
        exact bg_rep x' (o + y'.size) p x l m z h2
      · simp only [bg, if_neg hk, if_pos h1, if_pos (show p - 1 < x'.size by omega)]
        exact bg_rep x' o p x l m z h2
    · have hs := (subs_rep h2).1
      have e1 : p - 1 - x'.size = p - x'.size - 1 := by omega
      by_cases hk : k' = 3
      · simp only [bg, if_pos hk, if_neg (show ¬ p < x'.size by omega), if_pos h1, if_neg (show ¬ p - 1 < x'.size by omega), if_pos (show p - 1 < x'.size + y'.size by omega), e1]
        exact bg_rep y' o (p - x'.size) x l m z h2
      · simp only [bg, if_neg hk, if_neg (show ¬ p < x'.size by omega), if_pos h1, if_neg (show ¬ p - 1 < x'.size by omega), if_pos (show p - 1 < x'.size + y'.size by omega), e1]
        exact bg_rep y' (o + x'.size) (p - x'.size) x l m z h2
    · cases e
  | .rep x' l' m' z', o, p, x, l, m, z, h => by
    have hq := subs_rep h
    have px := x.size_pos
    rcases rep_subs h with ⟨h1, h2⟩ | ⟨rfl, e⟩
    · simp only [bg, if_pos h1, if_pos (show p - 1 < x'.size by omega)]
      exact bg_rep x' o p x l m z h2
    · obtain ⟨rfl, rfl, rfl, rfl⟩ : x = x' ∧ l = l' ∧ m = m' ∧ z = z' := by simpa using e
      simp only [bg, if_neg (show ¬ x.size < x.size by omega), if_pos (show x.size - 1 < x.size by omega)]
      exact bg_root x o
attribute [local go_sem] Oper.semAt_some
/-- Only three blocks turned. -/
structure But3 (x y z : Nat) (A B : World) : Prop where
  os : B.os = A.os
  tape : B.tape = A.tape
  output : B.output = A.output
  size : A.heap.size ≤ B.heap.size
  block : ∀ k, k < A.heap.size → k ≠ x → k ≠ y → k ≠ z → B.heap[k]? = A.heap[k]?
def fr17 (X1 X2 X3 X4 X5 nb p : Nat) (u : Nat → Value) : Array Value := #[u 0, .pointer (some ⟨X1, 0, none⟩), .pointer (some ⟨X2, 0, none⟩), .pointer (some ⟨X3, 0, none⟩), .pointer (some ⟨X4, 0, none⟩), .pointer (some ⟨X5, 0, none⟩), .int .i64 (p : Nat), .pointer (some ⟨nb, 0, none⟩), u 8, u 9, u 10, u 11, u 12, u 13, u 14, u 15, u 16, u 17, u 18, u 19, u 20, u 21, u 22, u 23, u 24, u 25, u 26, u 27, u 28, u 29, u 30, u 31, u 32, u 33, u 34, u 35, u 36, u 37, u 38, u 39, u 40, u 41, u 42, u 43, u 44, u 45, u 46, u 47, u 48, u 49, u 50, u 51, u 52, u 53, u 54, u 55, u 56, u 57, u 58, u 59, u 60, u 61, u 62, u 63, u 64, u 65, u 66, u 67, u 68, u 69, u 70, u 71, u 72, u 73, u 74, u 75, u 76, u 77, u 78, u 79, u 80, u 81, u 82, u 83, u 84, u 85, u 86, u 87, u 88, u 89, u 90, u 91, u 92, u 93, u 94, u 95, u 96, u 97, u 98, u 99, u 100, u 101, u 102, u 103, u 104, u 105, u 106, u 107, u 108, u 109]
theorem But3.of_below {x y z : Nat} {A B : World} (h : Below A.heap.size A B) : But3 x y z A B := ⟨h.os, h.tape, h.output, h.size, fun k hk _ _ _ => h.block k hk⟩
theorem But3.trans {x y z : Nat} {A B C : World} (h : But3 x y z A B) (k : But3 x y z B C) : But3 x y z A C := ⟨k.os.trans h.os, k.tape.trans h.tape, k.output.trans h.output, Nat.le_trans h.size k.size, fun i hi a b c => (k.block i (Nat.lt_of_lt_of_le hi h.size) a b c).trans (h.block i hi a b c)⟩
theorem set_heap (A : World) (a : Addr) (v : Value) (k : Nat) (h : k ≠ a.block) : (A.setCell a v).heap[k]? = A.heap[k]? := Below.heap_setCell _ _ _ _ h
theorem But3.set {x y z : Nat} {A B : World} (h : But3 x y z A B) {b : Nat} (hb : b = x ∨ b = y ∨ b = z) (i : Nat) (v : Value) : But3 x y z A (B.setCell ⟨b, i, none⟩ v) := by
  have e := (Below.refl 0 B).setCell (p := ⟨b, i, none⟩) (Nat.zero_le _) v
  refine ⟨e.os.trans h.os, e.tape.trans h.tape, e.output.trans h.output, by simpa using h.size, fun k hk a1 a2 a3 => ?_⟩
  rw [set_heap _ _ _ _ (by rcases hb with rfl | rfl | rfl <;> assumption)]
  exact h.block k hk a1 a2 a3
theorem But3.cl {x y z : Nat} {A B : World} (h : But3 x y z A B) {b : Nat} {t : TypeId} {vs : List Value} (k : Cl A b t vs) (h1 : b ≠ x) (h2 : b ≠ y) (h3 : b ≠ z) : Cl B b t vs := by unfold Cl; rw [h.block b k.lt h1 h2 h3]; exact k
/-- How things stand within a round. -/
structure St (W : World) (BT BB nb n : Nat) (T : Nat → Nd) (x : Nd) (g : Nat → Int) (wx : World) : Prop where
  but : But3 BT BB nb W wx
  kt : Cl wx BT 70 (ndsL T n)
  kg : Cl wx BB 3 (ints g n)
  kn : Cl wx nb 70 (ndL x)
theorem St.below {W wx wy : World} {BT BB nb n : Nat} {T : Nat → Nd} {x : Nd} {g : Nat → Int} (h : St W BT BB nb n T x g wx) (hb : Below wx.heap.size wx wy) : St W BT BB nb n T x g wy := ⟨h.but.trans (But3.of_below hb), h.kt.below hb, h.kg.below hb, h.kn.below hb⟩
theorem pr_rep_child : ∀ (t : Tre) (p : Nat) (x : Tre) (l m : Int) (z : Bool), t.subs[p]? = some (.rep x l m z) → pr t (p - 1) = p
  | .leaf _, p, x, l, m, z, h => by
    obtain ⟨_, h⟩ := leaf_subs h
    cases h
  | .two k' x' y', p, x, l, m, z, h => by
    have hq := subs_rep h
    have px := x.size_pos
    have px' := x'.size_pos
    rcases two_subs h with ⟨h1, h2⟩ | ⟨h0, h1, h2⟩ | ⟨rfl, e⟩
    · have i1 := pr_rep_child x' p x l m z h2
      simp only [pr]
      rw [if_pos (by omega)]
      exact i1
    · have hs := (subs_rep h2).1
      have i1 := pr_rep_child y' _ x l m z h2
      simp only [pr]
      rw [if_neg (by omega), if_neg (by omega), if_pos (by omega), show p - 1 - x'.size = p - x'.size - 1 by omega, i1]
      omega
    · cases e
  | .rep x' l' m' z', p, x, l, m, z, h => by
    have hq := subs_rep h
    have px := x.size_pos
    rcases rep_subs h with ⟨h1, h2⟩ | ⟨rfl, e⟩
    · have i1 := pr_rep_child x' p x l m z h2
      simp only [pr]
      rw [if_pos (by omega)]
      exact i1
    · obtain ⟨rfl, rfl, rfl, rfl⟩ : x = x' ∧ l = l' ∧ m = m' ∧ z = z' := by simpa using e
      simp only [pr]
      rw [if_neg (by omega), if_pos (by omega)]
/-- Behind i nodes, from the root on. -/
def Inv (t : Tre) (i : Nat) (T : Nat → Nd) (g : Nat → Int) : Prop :=
  (∀ q, q < t.size → t.size ≤ pr t q + i → g q = bg t 0 q) ∧ ∀ p u, t.size ≤ p + i → t.subs[p]? = some u → T (bg t 0 p + u.size - 1) = nodes (mir t) (bg t 0 p + u.size - 1)
theorem Inv.start (t : Tre) (T : Nat → Nd) : Inv t 0 T (fun _ => 0) := by
  refine ⟨fun q hq h => ?_, fun p u h hu => ?_⟩
  · have hr : q = t.size - 1 := by
      rcases Nat.lt_or_ge q (t.size - 1) with h' | h'
      · have := pr_le t q (by omega); omega
      · omega
    subst hr
    rw [bg_root]; rfl
  · have := (List.getElem?_eq_some_iff.1 hu).1
    rw [Tre.subs_length] at this
    omega
/-- The node that is told next. -/
structure Nxt (t : Tre) (i p : Nat) (u : Tre) : Prop where
  hi : i < t.size
  hp : p = t.size - 1 - i
  hu : t.subs[p]? = some u
theorem Nxt.lt {t : Tre} {i p : Nat} {u : Tre} (h : Nxt t i p u) : p < t.size ∧ p + i + 1 = t.size := by
  have := h.hi; have := h.hp; omega
theorem Nxt.at_ {t : Tre} {i p : Nat} {u : Tre} {T : Nat → Nd} {g : Nat → Int} (h : Nxt t i p u) (hI : Inv t i T g) : g p = bg t 0 p := by
  obtain ⟨h1, h2⟩ := h.lt
  exact hI.1 p h1 (by have := pr_gt t p h1; omega)
theorem Nxt.place {t : Tre} {i p : Nat} {u : Tre} (h : Nxt t i p u) : bg t 0 p + u.size - 1 < t.size ∧ u.size ≤ p + 1 ∧ nodes (mir t) (bg t 0 p + u.size - 1) = (mir u).nd ((bg t 0 p + u.size - 1 : Nat) : Int) := by
  obtain ⟨_, a2, a3⟩ := bg_at t 0 p u h.hu
  have := u.size_pos
  refine ⟨by omega, (subs_sub t p u h.hu).1, ?_⟩
  rw [Nat.sub_zero] at a3
  exact nodes_get a3
theorem Nxt.step {t : Tre} {i p : Nat} {u : Tre} {T : Nat → Nd} {g g' : Nat → Int} {x : Nd} (h : Nxt t i p u) (hI : Inv t i T g) (hx : x = (mir u).nd ((bg t 0 p + u.size - 1 : Nat) : Int)) (h1 : ∀ q, q < t.size → pr t q = p → g' q = bg t 0 q) (h2 : ∀ q, q < t.size → pr t q > p → g' q = g q) : Inv t (i + 1) (updN T (bg t 0 p + u.size - 1) x) g' := by
  obtain ⟨_, l2⟩ := h.lt
  refine ⟨fun q hq hp => ?_, fun p' u' hp' hu' => ?_⟩
  · by_cases e : pr t q = p
    · exact h1 q hq e
    · rw [h2 q hq (by omega)]
      exact hI.1 q hq (by omega)
  · unfold updN
    split
    · rename_i e
      rw [e, hx, h.place.2.2]
    · rename_i e
      by_cases e2 : p' = p
      · subst e2
        rw [h.hu] at hu'
        obtain rfl := Option.some.inj hu'
        exact absurd rfl e
      · exact hI.2 p' u' (by omega) hu'
theorem Nxt.leaf {t : Tre} {i p : Nat} {n : Nd} {T : Nat → Nd} {g : Nat → Int} (h : Nxt t i p (.leaf n)) (hI : Inv t i T g) : Inv t (i + 1) (updN T (bg t 0 p + (Tre.leaf n).size - 1) (swp n)) g := by
  refine h.step hI rfl (fun q hq e => ?_) (fun _ _ _ => rfl)
  exfalso
  obtain ⟨l1, _⟩ := h.lt
  have hq1 : q + 1 < t.size := by
    rcases Nat.lt_or_ge (q + 1) t.size with h' | h'
    · exact h'
    · have : q = t.size - 1 := by omega
      subst this
      rw [pr_root] at e; omega
  rcases pr_is t q hq1 with ⟨_, _, _, h1, _⟩ | ⟨_, _, _, _, h1, _⟩ <;> rw [e, h.hu] at h1 <;> cases h1
theorem Nxt.rep {t : Tre} {i p : Nat} {x : Tre} {l m : Int} {z : Bool} {T : Nat → Nd} {g : Nat → Int} (h : Nxt t i p (.rep x l m z)) (hI : Inv t i T g) :
    Inv t (i + 1) (updN T (bg t 0 p + (Tre.rep x l m z).size - 1) ⟨5, 0, 0, 0, 0, ((bg t 0 p + (Tre.rep x l m z).size - 1 : Nat) : Int) - 1, 0, l, m, z⟩) (updI g (p - 1) (g p)) := by
  have ha := h.at_ hI
  obtain ⟨l1, _⟩ := h.lt
  have hs := (subs_rep h.hu).1
  have px := x.size_pos
  have hone : ∀ q, q < t.size → pr t q = p → q = p - 1 := fun q hq e => by
    have hq1 : q + 1 < t.size := by
      rcases Nat.lt_or_ge (q + 1) t.size with h' | h'
      · exact h'
      · have : q = t.size - 1 := by omega
        subst this
        rw [pr_root] at e; omega
    rcases pr_is t q hq1 with ⟨_, _, _, h1, _⟩ | ⟨_, _, _, _, h1, h2⟩
    · rw [e, h.hu] at h1; cases h1
    · rw [e] at h2; exact h2
  have hpr := pr_rep_child t p x l m z h.hu
  refine h.step hI rfl (fun q hq e => ?_) (fun q hq e => ?_)
  · rw [hone q hq e, updI, if_pos rfl, ha, bg_rep t 0 p x l m z h.hu]
  · have : q ≠ p - 1 := by rintro rfl; omega
    simp [updI, this]
theorem Nxt.two {t : Tre} {i p : Nat} {k : Int} {x y : Tre} {T : Nat → Nd} {g : Nat → Int} (h : Nxt t i p (.two k x y)) (hI : Inv t i T g) (fi se : Nat) (sv : Int) (hk : (k = 3 ∧ fi = p - 1 ∧ se = p - 1 - y.size ∧ sv = g p + y.size) ∨ (k = 4 ∧ fi = p - 1 - y.size ∧ se = p - 1 ∧ sv = g p + x.size)) :
    Inv t (i + 1) (updN T (bg t 0 p + (Tre.two k x y).size - 1) ⟨k, 0, 0, 0, 0, sv - 1, ((bg t 0 p + (Tre.two k x y).size - 1 : Nat) : Int) - 1, 0, 0, false⟩) (updI (updI g fi (g p)) se sv) := by
  have ha := h.at_ hI
  obtain ⟨l1, _⟩ := h.lt
  have hs := (subs_two h.hu).1
  have px := x.size_pos
  have py := y.size_pos
  have hb := bg_two t 0 p k x y h.hu
  have hpr := pr_two h.hu
  obtain ⟨c1, c2⟩ := pr_child t p k x y h.hu
  have mx := mir_size x
  have my := mir_size y
  refine h.step hI ?_ (fun q hq e => ?_) (fun q hq e => ?_)
  · rcases hk with ⟨rfl, rfl, rfl, rfl⟩ | ⟨rfl, rfl, rfl, rfl⟩
    · simp only [mir, if_true, Tre.nd, Tre.size, mx, ha]
      congr 1
      omega
    · simp only [mir, Tre.nd, Tre.size, ha]
      rw [if_neg (by decide)]
      simp only [my]
      congr 1
      omega
  · have hq2 := (hpr q hq).1 e
    rcases hk with ⟨rfl, rfl, rfl, rfl⟩ | ⟨rfl, rfl, rfl, rfl⟩
    · obtain ⟨b1, b2⟩ := hb.1 rfl
      rcases hq2 with rfl | rfl
      · rw [updI, if_neg (by omega), updI, if_pos rfl, ha, b1]
      · rw [updI, if_pos rfl, ha, b2]; simp
    · obtain ⟨b1, b2⟩ := hb.2 (by decide)
      rcases hq2 with rfl | rfl
      · rw [updI, if_pos rfl, ha, b2]; simp
      · rw [updI, if_neg (by omega), updI, if_pos rfl, ha, b1]
  · have n1 : q ≠ p - 1 := by rintro rfl; omega
    have n2 : q ≠ p - 1 - y.size := by rintro rfl; omega
    rcases hk with ⟨_, rfl, rfl, _⟩ | ⟨_, rfl, rfl, _⟩ <;> simp [updI, n1, n2]
attribute [local go_sem] Oper.semAt_some
def zN : Nd := ⟨0, 0, 0, 0, 0, 0, 0, 0, 0, false⟩
def Fr17 (X1 X2 X3 X4 X5 nb p : Nat) (tm : Array Value) : Prop := ∃ u, tm = fr17 X1 X2 X3 X4 X5 nb p u
theorem Fr17.of {X1 X2 X3 X4 X5 nb p : Nat} (tm : Array Value) (h : tm = fr17 X1 X2 X3 X4 X5 nb p (nth tm.toList)) : Fr17 X1 X2 X3 X4 X5 nb p tm := ⟨_, h⟩
/-- What stands behind i rounds. -/
structure MI (w : World) (t : Tre) (N1 b1 cap1 : Nat) (a1 : Addr) (i : Nat) (W : World) (T : Nat → Nd) (g : Nat → Int) : Prop where
  inv : Inv t i T g
  sz : N1 + 6 ≤ W.heap.size
  k2 : Cl W (w.heap.size + 1) 47 [.slice none 0 0]
  k3 : Cl W N1 39 [.slice (some ⟨b1, 0, none⟩) t.size t.size]
  kF : Cl W b1 3 (ints (stF t) t.size)
  kT : Cl W (N1 + 1) 70 (ndsL T t.size)
  k4 : Cl W (N1 + 1 + 1) 45 [.slice (some ⟨N1 + 1, 0, none⟩) t.size t.size]
  kB : Cl W (N1 + 1 + 1 + 1) 3 (ints g t.size)
  k5 : Cl W (N1 + 1 + 1 + 1 + 1) 39 [.slice (some ⟨N1 + 1 + 1 + 1, 0, none⟩) t.size t.size]
  bel : Below w.heap.size w W
theorem MI.next {w : World} {t : Tre} {N1 b1 cap1 : Nat} {a1 : Addr} {i nb : Nat} {A B : World} {T T' : Nat → Nd} {g g' : Nat → Int} (h : MI w t N1 b1 cap1 a1 i A T g) (hb1 : b1 < N1) (hw : w.heap.size + 2 ≤ N1) (hnb : N1 + 8 ≤ nb) (hbut : But3 (N1 + 1) (N1 + 1 + 1 + 1) nb A B) (hT : Cl B (N1 + 1) 70 (ndsL T' t.size)) (hG : Cl B (N1 + 1 + 1 + 1) 3 (ints g' t.size)) (hI : Inv t (i + 1) T' g') : MI w t N1 b1 cap1 a1 (i + 1) B T' g' :=
  ⟨hI, Nat.le_trans h.sz hbut.size, hbut.cl h.k2 (by omega) (by omega) (by omega), hbut.cl h.k3 (by omega) (by omega) (by omega), hbut.cl h.kF (by omega) (by omega) (by omega), hT, hbut.cl h.k4 (by omega) (by omega) (by omega), hG, hbut.cl h.k5 (by omega) (by omega) (by omega),
   ⟨hbut.os.trans h.bel.os, hbut.tape.trans h.bel.tape, hbut.output.trans h.bel.output, Nat.le_trans h.bel.size hbut.size, fun k hk => (hbut.block k (Nat.lt_of_lt_of_le hk h.bel.size) (by omega) (by omega) (by omega)).trans (h.bel.block k hk)⟩⟩
end Go.Proofs.Ytobgmgpclcfkcaa.T
