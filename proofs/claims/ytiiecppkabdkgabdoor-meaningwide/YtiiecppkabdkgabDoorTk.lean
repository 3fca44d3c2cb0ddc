/- take: the walks. -/
import Derived.Test.YtiiecppkabdkgabDoorGSsWhWrPw
import Derived.Test.YtiiecppkabdkgabDoorGNbStSoSpSaNl
import Derived.Deep.RegionLaw
import Derived.Deep.AppendLies
namespace Go.Proofs.YtiiecppkabdkgabDoor
open Go.RowKit
theorem b_tab : (Tryd.prog.info? 47).map (fun i => (i.zero, i.size, i.bytes)) = some (some (.slice none 0 0), 1, 24) := by kernel_rfl
theorem slice_to80 (ao : Option Addr) (n cap x : Nat) (hx : x ≤ cap) (w : World) : (Instr.slice 65 (.slice ao n cap) none (some (.int .i64 (x : Nat))) none).run Tryd.prog w = .ok (.slice ao x cap) w := by
  have hxc : (x : Int) ≤ (cap : Int) := by omega
  have hs : ∀ w, (Go.sizeOf 47).run Tryd.prog w = .ok 1 w := fun w => by kernel_rfl
  by_cases h : cap = 0
  · subst h
    obtain rfl : x = 0 := by omega
    simp [go_sem, Tryd.underlying65, hs]
  · simp [go_sem, Tryd.underlying65, hxc, h, hs]
/-- Tables are where they are as long as no block of rows or words turns. -/
theorem TabV.kept {A B : World} {v : Value} {N : Nat} {T : Tab} (h : TabV A v N T) (hb : ∀ (b : Nat) cur t fz, A.heap[b]? = some (Obj.cells cur t fz) → (t = 52 ∨ t = 39) → B.heap[b]? = A.heap[b]?) : TabV B v N T := by
  obtain ⟨tb, e, M, h1, h2⟩ := h
  refine ⟨tb, e, M, by unfold Cl; rw [hb tb _ 52 _ h1 (.inl rfl)]; exact h1, fun j h3 h4 => (h2 j h3 h4).at_ fun b cur fz hc => hb b cur 39 fz hc (.inr rfl)⟩
/-- The tables that are left. -/
def LeftV (W : World) (B : Nat) (v : Value) (N : Nat) (Ts : List Tab) : Prop := ∃ M, W.ownsRow B 47 1 v Ts.length (vals M Ts.length) ∧ ∀ j T, Ts[j]? = some T → TabV W (M j) N T
theorem row_less {W : World} {B e : Nat} {ao : Option Addr} {n m cap : Nat} {M : Nat → Value} (h : W.ownsRow B e 1 (.slice ao n cap) n (vals M n)) (hm : m ≤ n) (h0 : 0 < n) : W.ownsRow B e 1 (.slice ao m cap) m (vals M m) := by
  rcases h.2 with ⟨h', h9⟩ | ⟨g, cap', cur, e1, hB, hc, hle, hmx, hsz, ht⟩
  · omega
  · injection e1 with e2 e3 e4
    subst e2 e4
    refine ⟨by simp [vals_len], .inr ⟨g, cap, cur, rfl, hB, hc, by omega, hmx, hsz, ?_⟩⟩
    have := congrArg (List.take m) ht
    rw [List.take_take, Nat.mul_one, Nat.min_eq_left hm] at this
    rw [Nat.mul_one, this]
    apply List.ext_getElem?
    intro q
    rw [List.getElem?_take]
    by_cases hq : q < m
    · rw [if_pos hq, vals_get _ (by omega), vals_get _ hq]
    · rw [if_neg hq, List.getElem?_eq_none (by simp [vals_len]; omega)]
theorem LeftV.below {W W' : World} {B : Nat} {v : Value} {N : Nat} {Ts : List Tab} (h : LeftV W B v N Ts) (hb : Below W.heap.size W W') : LeftV W' B v N Ts := by
  obtain ⟨M, h1, h2⟩ := h
  exact ⟨M, ownsRow_below h1 hb, fun j T hT => (h2 j T hT).below hb⟩
/-- What is left, with one table more behind the first ones. -/
theorem left_put {W W1 W2 : World} {B : Nat} {ao : Option Addr} {n cap N t2 : Nat} {M : Nat → Value} {Ts R : List Tab} {T : Tab} {v' : Value} {o : Obj} (hrow : W.ownsRow B 47 1 (.slice ao n cap) n (vals M n)) (hM : ∀ (j : Nat) (T : Tab), Ts[j]? = some T → TabV W (M j) N T) (hR : ∀ (j : Nat) (T : Tab), R[j]? = some T → Ts[j]? = some T) (hb : Below W.heap.size W W1) (hT : TabV W1 (.slice (some ⟨t2, 0, none⟩) N N) N T)
    (h1 : W2.ownsRow B 47 1 v' (R.length + 1) (vals M R.length ++ [.slice (some ⟨t2, 0, none⟩) N N])) (h2 : (W1.alloc o).grownBy W2 (Value.slice ao R.length cap).ownBlock) : LeftV W2 B v' N (R ++ [T]) := by
  have hkeep : ∀ (b : Nat) cur t fz, W1.heap[b]? = some (Obj.cells cur t fz) → (t = 52 ∨ t = 39) → W2.heap[b]? = W1.heap[b]? := by
    intro b cur t fz hc ht
    have hl := (Array.getElem?_eq_some_iff.1 hc).1
    have hne : some b ≠ (Value.slice ao R.length cap).ownBlock := by
      intro e
      rcases hrow.2 with ⟨h', _⟩ | ⟨g, cap', cur', e1, hB, hc', _⟩
      · injection h' with e2 e3 e4; rw [e2] at e; simp [Value.ownBlock] at e
      · injection e1 with e2 e3 e4
        rw [e2] at e
        have e5 : b = g := by simpa [Value.ownBlock] using e
        subst e5
        have hl' := (Array.getElem?_eq_some_iff.1 hc').1
        rw [hb.block b hl', hc'] at hc
        injection hc with hc
        injection hc with _ hc
        rcases ht with h | h <;> (rw [h] at hc; exact absurd hc (by decide))
    rw [h2.block b (by simp; omega) hne]
    exact Below.heap_alloc _ _ _ hl
  refine ⟨updV M R.length (.slice (some ⟨t2, 0, none⟩) N N), ?_, fun j T' hj => ?_⟩
  · have e : vals (updV M R.length (.slice (some ⟨t2, 0, none⟩) N N)) (R.length + 1) = vals M R.length ++ [.slice (some ⟨t2, 0, none⟩) N N] := by
      have e1 : vals (updV M R.length (.slice (some ⟨t2, 0, none⟩) N N)) (R.length + 1) = vals (updV M R.length (.slice (some ⟨t2, 0, none⟩) N N)) R.length ++ [updV M R.length (.slice (some ⟨t2, 0, none⟩) N N) R.length] := by simp [vals, List.range_succ]
      rw [e1]
      congr 1
      · apply List.map_congr_left
        intro i hi
        have : ¬ i = R.length := by have := List.mem_range.1 hi; omega
        simp [updV, this]
      · simp [updV]
    rw [List.length_append, List.length_singleton, e]
    exact h1
  · by_cases hj1 : j < R.length
    · rw [List.getElem?_append_left hj1] at hj
      have := (hM j T' (hR j T' hj)).below hb
      simp only [updV, show ¬ j = R.length by omega, if_false]
      exact this.kept hkeep
    · have hj2 : j = R.length := by
        have := (List.getElem?_eq_some_iff.1 hj).1
        simp at this; omega
      subst hj2
      rw [List.getElem?_append_right (Nat.le_refl _)] at hj
      simp at hj
      subst hj
      simp only [updV, if_true]
      exact hT.kept hkeep
theorem left_bel {W W1 W2 : World} {B : Nat} {ao : Option Addr} {n m cap : Nat} {xs : List Value} {o : Obj} (hrow : W.ownsRow B 47 1 (.slice ao n cap) n xs) (hBW : B ≤ W.heap.size) (hb : Below W.heap.size W W1) (h2 : (W1.alloc o).grownBy W2 (Value.slice ao m cap).ownBlock) : Below B W W2 := by
  have hs := hb.size
  refine ((hb.mono hBW).alloc (by omega) o).grown h2 (by simp; omega) fun g hg => ?_
  cases ao with
  | none => simp [Value.ownBlock] at hg
  | some a => exact ownsRow_own hrow g (by simpa [Value.ownBlock] using hg)
/-- What a cell holds. -/
def selO (g i : Nat) (w : World) : Option Value := w.cell? ⟨g, i, none⟩
theorem selO_is (g i : Nat) (w : World) : w.cell? ⟨g, i, none⟩ = selO g i w := rfl
theorem new_tab (w3 : World) (y : Value) : ∀ j u, [y][j]? = some u → (w3.alloc (.cells #[y] 47)).cell? (Addr.add ⟨w3.heap.size, 0, none⟩ j) = some u := fun j u hj => by
  have hj0 : j = 0 := by
    have := (List.getElem?_eq_some_iff.1 hj).1
    simpa using this
  subst hj0
  simpa [Addr.add] using (Cl.new w3 47 [y]).cell 0 hj
set_option maxRecDepth 10000 in
set_option maxHeartbeats 4000000 in
theorem take3 (ao : Option Addr) (n cap : Nat) (mu : Bool) (fr tt : Nat) (q : Nd) (hq : q.k = 3) (N : Nat) (R : List Tab) (a b : Tab) (B : Nat) (v : Value) (w : World) (hN : N ≤ 25) (hlen : R.length ≤ 2048) (hBw : B ≤ w.heap.size) (hL : LeftV w B v N (R ++ [a, b])) (hT : TabZ w) :
    Calls Tryd.prog 27 #[pgV ao n cap mu fr tt, ndV q, v] w fun e w' => ∃ v', e = .returned v' ∧ LeftV w' B v' N (R ++ [tCat a b]) ∧ Below B w w' := by
  obtain ⟨M, hrow, hM⟩ := hL
  rw [show (R ++ [a, b]).length = R.length + 2 by simp] at hrow
  obtain ⟨lo, lc, rfl⟩ := ownsRow_slice hrow
  obtain ⟨ta, ea, hA⟩ := hM R.length a (by simp)
  obtain ⟨tb, eb, hB⟩ := hM (R.length + 1) b (by rw [List.getElem?_append_right (by omega)]; simp)
  obtain ⟨g, rfl, hgl, hgB, hc, _⟩ := row_cell hrow (by omega)
  have d1 := hc R.length _ (vals_get M (by omega))
  have d2 := hc (R.length + 1) _ (vals_get M (by omega))
  rw [ea] at d1
  rw [eb] at d2
  have hcap := ownsRow_cap hrow
  have hless := row_less hrow (m := R.length) (by omega) (by omega)
  obtain ⟨i0, hi, hz0, hz1, hz2⟩ := info_parts b_tab
  have hbV := below2 w (.cells #[.slice ao n cap, .bool mu, .int .i64 (fr : Nat), .int .i64 (tt : Nat)] 50) (.cells (ndL q).toArray 43)
  have kn : Cl ((w.alloc (.cells #[.slice ao n cap, .bool mu, .int .i64 (fr : Nat), .int .i64 (tt : Nat)] 50)).alloc (.cells (ndL q).toArray 43)) (w.heap.size + 1) 43 (ndL q) := by
    have := Cl.new (w.alloc (.cells #[.slice ao n cap, .bool mu, .int .i64 (fr : Nat), .int .i64 (tt : Nat)] 50)) 43 (ndL q)
    simpa only [World.size_alloc] using this
  have d0 := kn.cell 0 rfl
  have HF : Hid (∀ U t3 w3 v' w4, Below w.heap.size w U → Below U.heap.size U w3 → Rows w3 t3 N 0 (wrd N (tCat a b)) → w4.ownsRow B 47 1 v' (R.length + 1) (vals M R.length ++ [.slice (some ⟨t3, 0, none⟩) N N]) → (w3.alloc (.cells #[.slice (some ⟨t3, 0, none⟩) N N] 47)).grownBy w4 (Value.slice (some ⟨g, 0, none⟩) R.length lc).ownBlock → ∃ v'', Ending.returned v' = Ending.returned v'' ∧ LeftV w4 B v'' N (R ++ [tCat a b]) ∧ Below B w w4) := fun U t3 w3 v' w4 hU h3 hr3 h4 h5 => by
    have hb3 := hU.trans (h3.mono hU.size)
    exact ⟨v', rfl, left_put hrow hM (fun j T hj => by rw [List.getElem?_append_left (List.getElem?_eq_some_iff.1 hj).1]; exact hj) hb3 ⟨t3, rfl, hr3⟩ h4 h5, left_bel hrow hBw hb3 h5⟩
  have HC : Hid (∀ U, Below w.heap.size w U → Calls Tryd.prog 37 #[.slice (some ⟨ta, 0, none⟩) N N, .slice (some ⟨tb, 0, none⟩) N N] U (RetTab U N (tCat a b))) := fun U hU => cat_any N ta tb a b U hN (hA.below hU) (hB.below hU) (hT.below hU)
  have HO : Hid (∀ w3 (t3 : Nat), Below w.heap.size w w3 → (w3.alloc (.cells #[.slice (some ⟨t3, 0, none⟩) N N] 47)).ownsRow B 47 1 (.slice (some ⟨g, 0, none⟩) R.length lc) R.length (vals M R.length)) := fun w3 t3 h => ownsRow_below (ownsRow_below hless h) (below1 _ _)
  generalize R.length = L at *
  have hsl := slice_to80 (some ⟨g, 0, none⟩) (L + 2) lc L (by omega)
  have h1 : ((L + 2 : Nat) : Int) - 1 = (L : Int) + 1 := by omega
  have h2 : (L : Int) + 1 - 1 = (L : Int) := by omega
  have h3 : (L : Int) < ((L + 2 : Nat) : Int) := by omega
  have h4 : (L : Int) + 1 < ((L + 2 : Nat) : Int) := by omega
  have h5 : ((L : Int) + 1).toNat = L + 1 := by omega
  have h6 : (L : Int) ≤ 2048 := by omega
  have h7 : (L : Int) + 2 - 1 = (L : Int) + 1 := by omega
  have h8 : (L : Int) < (L : Int) + 2 := by omega
  have h9 : (L : Int) + 1 < (L : Int) + 2 := by omega
  have k1 : IntKind.i64.wrap ((L : Int) + 1 - 1) = (L : Int) := by rw [h2, IntKind.wrap_i64]; omega
  have k2 : IntKind.i64.wrap (L : Int) = (L : Int) := by rw [h2] at k1; exact k1
  have k3 : (0 : Int) ≤ (L : Int) + 1 := by omega
  have k4 : (0 : Int) ≤ (L : Int) := by omega
  rw [hq] at d0
  clear hrow hM hA hB hT hc hless kn
  unfold ndL at d0 hbV
  unfold ndV
  rw [hq] at hbV ⊢
  go_enter Tryd.func27, Tryd.ntmps27
  go_upto_region 4 with fail
  clear d0 hq
  generalize (w.alloc (.cells #[.slice ao n cap, .bool mu, .int .i64 (fr : Nat), .int .i64 (tt : Nat)] 50)).alloc (.cells #[.int .i64 3, .int .u64 q.c0, .int .u64 q.c1, .int .u64 q.c2, .int .u64 q.c3, .int .i64 q.a, .int .i64 q.b, .int .i64 q.l, .int .i64 q.m, .bool q.z] 43) = V at *
  rw [← hbV.cell (p := ⟨g, _, none⟩) hgl] at d1 d2
  have hbU : Below w.heap.size w V.drew := hbV.drew
  have D1 : V.drew.cell? ⟨g, L, none⟩ = some (.slice (some ⟨ta, 0, none⟩) N N) := d1
  have D2 : V.drew.cell? ⟨g, L + 1, none⟩ = some (.slice (some ⟨tb, 0, none⟩) N N) := d2
  have HC2 := HC.out V.drew hbU
  clear d1 d2
  have E1 : selO g L V.drew = some (.slice (some ⟨ta, 0, none⟩) N N) := D1
  have E2 : selO g (L + 1) V.drew = some (.slice (some ⟨tb, 0, none⟩) N N) := D2
  go_region_law
    (first
      | (go_simp; go_at_call 37; refine HC2.mono ?_; rintro e w3 ⟨t3, rfl, hr3, hb3⟩; have ho3 := HO.out w3 t3 (hbU.trans (hb3.mono hbU.size)))
      | (refine step_append_lies _ (by rfl) _ _ 65 (by rfl) B 47 i0 _ 1 24 Tryd.underlying65 hi hz0 hz1 hz2 (by rfl) (by decide) (.slice (some ⟨g, 0, none⟩) L lc) L (vals M L) (by rfl) ho3 ⟨w3.heap.size, 0, none⟩ 1 1 [.slice (some ⟨t3, 0, none⟩) N N] (by rfl) (by rfl) (new_tab w3 _) (by simp [Value.oneCell']) (by decide) (by unfold maxLen; omega) (by omega) (by have := hb3.size; have := hbU.size; simp; omega) _ rfl ?_; intro g9 c9 w4 hown hgr hat hlt; have HY : Hid _ := HF.out V.drew t3 w3 _ w4 hbU hb3 hr3 hown hgr; clear hown hgr hat hlt))
  all_goals
    go_wp2_with fail
    go_ret
    exact HY.out
set_option maxRecDepth 10000 in
set_option maxHeartbeats 4000000 in
theorem take4 (ao : Option Addr) (n cap : Nat) (mu : Bool) (fr tt : Nat) (q : Nd) (hq : q.k = 4) (N : Nat) (R : List Tab) (a b : Tab) (B : Nat) (v : Value) (w : World) (hN : N ≤ 25) (hlen : R.length ≤ 2048) (hBw : B ≤ w.heap.size) (hL : LeftV w B v N (R ++ [a, b])) :
    Calls Tryd.prog 27 #[pgV ao n cap mu fr tt, ndV q, v] w fun e w' => ∃ v', e = .returned v' ∧ LeftV w' B v' N (R ++ [tAlt a b]) ∧ Below B w w' := by
  obtain ⟨M, hrow, hM⟩ := hL
  rw [show (R ++ [a, b]).length = R.length + 2 by simp] at hrow
  obtain ⟨lo, lc, rfl⟩ := ownsRow_slice hrow
  obtain ⟨ta, ea, hA⟩ := hM R.length a (by simp)
  obtain ⟨tb, eb, hB⟩ := hM (R.length + 1) b (by rw [List.getElem?_append_right (by omega)]; simp)
  obtain ⟨g, rfl, hgl, hgB, hc, _⟩ := row_cell hrow (by omega)
  have d1 := hc R.length _ (vals_get M (by omega))
  have d2 := hc (R.length + 1) _ (vals_get M (by omega))
  rw [ea] at d1
  rw [eb] at d2
  have hcap := ownsRow_cap hrow
  have hless := row_less hrow (m := R.length) (by omega) (by omega)
  obtain ⟨i0, hi, hz0, hz1, hz2⟩ := info_parts b_tab
  have hbV := below2 w (.cells #[.slice ao n cap, .bool mu, .int .i64 (fr : Nat), .int .i64 (tt : Nat)] 50) (.cells (ndL q).toArray 43)
  have kn : Cl ((w.alloc (.cells #[.slice ao n cap, .bool mu, .int .i64 (fr : Nat), .int .i64 (tt : Nat)] 50)).alloc (.cells (ndL q).toArray 43)) (w.heap.size + 1) 43 (ndL q) := by
    have := Cl.new (w.alloc (.cells #[.slice ao n cap, .bool mu, .int .i64 (fr : Nat), .int .i64 (tt : Nat)] 50)) 43 (ndL q)
    simpa only [World.size_alloc] using this
  have d0 := kn.cell 0 rfl
  have HF : Hid (∀ U t3 w3 v' w4, Below w.heap.size w U → Below U.heap.size U w3 → Rows w3 t3 N 0 (wrd N (tAlt a b)) → w4.ownsRow B 47 1 v' (R.length + 1) (vals M R.length ++ [.slice (some ⟨t3, 0, none⟩) N N]) → (w3.alloc (.cells #[.slice (some ⟨t3, 0, none⟩) N N] 47)).grownBy w4 (Value.slice (some ⟨g, 0, none⟩) R.length lc).ownBlock → ∃ v'', Ending.returned v' = Ending.returned v'' ∧ LeftV w4 B v'' N (R ++ [tAlt a b]) ∧ Below B w w4) := fun U t3 w3 v' w4 hU h3 hr3 h4 h5 => by
    have hb3 := hU.trans (h3.mono hU.size)
    exact ⟨v', rfl, left_put hrow hM (fun j T hj => by rw [List.getElem?_append_left (List.getElem?_eq_some_iff.1 hj).1]; exact hj) hb3 ⟨t3, rfl, hr3⟩ h4 h5, left_bel hrow hBw hb3 h5⟩
  have HC : Hid (∀ U, Below w.heap.size w U → Calls Tryd.prog 38 #[.slice (some ⟨ta, 0, none⟩) N N, .slice (some ⟨tb, 0, none⟩) N N] U (RetTab U N (tAlt a b))) := fun U hU => alt_any N ta tb a b U hN (hA.below hU) (hB.below hU)
  have HO : Hid (∀ w3 (t3 : Nat), Below w.heap.size w w3 → (w3.alloc (.cells #[.slice (some ⟨t3, 0, none⟩) N N] 47)).ownsRow B 47 1 (.slice (some ⟨g, 0, none⟩) R.length lc) R.length (vals M R.length)) := fun w3 t3 h => ownsRow_below (ownsRow_below hless h) (below1 _ _)
  generalize R.length = L at *
  have hsl := slice_to80 (some ⟨g, 0, none⟩) (L + 2) lc L (by omega)
  have h1 : ((L + 2 : Nat) : Int) - 1 = (L : Int) + 1 := by omega
  have h2 : (L : Int) + 1 - 1 = (L : Int) := by omega
  have h3 : (L : Int) < ((L + 2 : Nat) : Int) := by omega
  have h4 : (L : Int) + 1 < ((L + 2 : Nat) : Int) := by omega
  have h5 : ((L : Int) + 1).toNat = L + 1 := by omega
  have h6 : (L : Int) ≤ 2048 := by omega
  have h7 : (L : Int) + 2 - 1 = (L : Int) + 1 := by omega
  have h8 : (L : Int) < (L : Int) + 2 := by omega
  have h9 : (L : Int) + 1 < (L : Int) + 2 := by omega
  have k1 : IntKind.i64.wrap ((L : Int) + 1 - 1) = (L : Int) := by rw [h2, IntKind.wrap_i64]; omega
  have k2 : IntKind.i64.wrap (L : Int) = (L : Int) := by rw [h2] at k1; exact k1
  have k3 : (0 : Int) ≤ (L : Int) + 1 := by omega
  have k4 : (0 : Int) ≤ (L : Int) := by omega
  rw [hq] at d0
  clear hrow hM hA hB hc hless kn
  unfold ndL at d0 hbV
  unfold ndV
  rw [hq] at hbV ⊢
  go_enter Tryd.func27, Tryd.ntmps27
  go_upto_region 6 with fail
  clear d0 hq
  generalize (w.alloc (.cells #[.slice ao n cap, .bool mu, .int .i64 (fr : Nat), .int .i64 (tt : Nat)] 50)).alloc (.cells #[.int .i64 4, .int .u64 q.c0, .int .u64 q.c1, .int .u64 q.c2, .int .u64 q.c3, .int .i64 q.a, .int .i64 q.b, .int .i64 q.l, .int .i64 q.m, .bool q.z] 43) = V at *
  rw [← hbV.cell (p := ⟨g, _, none⟩) hgl] at d1 d2
  have hbU : Below w.heap.size w V.drew := hbV.drew
  have D1 : V.drew.cell? ⟨g, L, none⟩ = some (.slice (some ⟨ta, 0, none⟩) N N) := d1
  have D2 : V.drew.cell? ⟨g, L + 1, none⟩ = some (.slice (some ⟨tb, 0, none⟩) N N) := d2
  have HC2 := HC.out V.drew hbU
  clear d1 d2
  have E1 : selO g L V.drew = some (.slice (some ⟨ta, 0, none⟩) N N) := D1
  have E2 : selO g (L + 1) V.drew = some (.slice (some ⟨tb, 0, none⟩) N N) := D2
  go_region_law
    (first
      | (go_simp; go_at_call 38; refine HC2.mono ?_; rintro e w3 ⟨t3, rfl, hr3, hb3⟩; have ho3 := HO.out w3 t3 (hbU.trans (hb3.mono hbU.size)))
      | (refine step_append_lies _ (by rfl) _ _ 65 (by rfl) B 47 i0 _ 1 24 Tryd.underlying65 hi hz0 hz1 hz2 (by rfl) (by decide) (.slice (some ⟨g, 0, none⟩) L lc) L (vals M L) (by rfl) ho3 ⟨w3.heap.size, 0, none⟩ 1 1 [.slice (some ⟨t3, 0, none⟩) N N] (by rfl) (by rfl) (new_tab w3 _) (by simp [Value.oneCell']) (by decide) (by unfold maxLen; omega) (by omega) (by have := hb3.size; have := hbU.size; simp; omega) _ rfl ?_; intro g9 c9 w4 hown hgr hat hlt; have HY : Hid _ := HF.out V.drew t3 w3 _ w4 hbU hb3 hr3 hown hgr; clear hown hgr hat hlt))
  all_goals
    go_wp2_with fail
    go_ret
    exact HY.out
set_option maxRecDepth 10000 in
set_option maxHeartbeats 4000000 in
theorem takeR (ao : Option Addr) (n cap : Nat) (mu : Bool) (fr tt : Nat) (q : Nd) (hq : q.k = 5) (hlm : Tre.mayR q.l q.m = true) (N : Nat) (R : List Tab) (a : Tab) (B : Nat) (v : Value) (w : World) (hN : N ≤ 25) (h1N : 1 ≤ N) (hlen : R.length ≤ 2048) (hBw : B ≤ w.heap.size) (hL : LeftV w B v N (R ++ [a])) (hT : TabZ w) :
    Calls Tryd.prog 27 #[pgV ao n cap mu fr tt, ndV q, v] w fun e w' => ∃ v', e = .returned v' ∧ LeftV w' B v' N (R ++ [tRep a q.l q.m]) ∧ Below B w w' := by
  obtain ⟨M, hrow, hM⟩ := hL
  rw [show (R ++ [a]).length = R.length + 1 by simp] at hrow
  obtain ⟨lo, lc, rfl⟩ := ownsRow_slice hrow
  obtain ⟨ta, ea, hA⟩ := hM R.length a (by simp)
  obtain ⟨g, rfl, hgl, hgB, hc, _⟩ := row_cell hrow (by omega)
  have d1 := hc R.length _ (vals_get M (by omega))
  rw [ea] at d1
  have hcap := ownsRow_cap hrow
  have hless := row_less hrow (m := R.length) (by omega) (by omega)
  obtain ⟨i0, hi, hz0, hz1, hz2⟩ := info_parts b_tab
  have hbV := below2 w (.cells #[.slice ao n cap, .bool mu, .int .i64 (fr : Nat), .int .i64 (tt : Nat)] 50) (.cells (ndL q).toArray 43)
  have kn : Cl ((w.alloc (.cells #[.slice ao n cap, .bool mu, .int .i64 (fr : Nat), .int .i64 (tt : Nat)] 50)).alloc (.cells (ndL q).toArray 43)) (w.heap.size + 1) 43 (ndL q) := by
    have := Cl.new (w.alloc (.cells #[.slice ao n cap, .bool mu, .int .i64 (fr : Nat), .int .i64 (tt : Nat)] 50)) 43 (ndL q)
    simpa only [World.size_alloc] using this
  have d0 := kn.cell 0 rfl
  have d7 := kn.cell 7 rfl
  have d8 := kn.cell 8 rfl
  have HF : Hid (∀ U t3 w3 v' w4, Below w.heap.size w U → Below U.heap.size U w3 → Rows w3 t3 N 0 (wrd N (tRep a q.l q.m)) → w4.ownsRow B 47 1 v' (R.length + 1) (vals M R.length ++ [.slice (some ⟨t3, 0, none⟩) N N]) → (w3.alloc (.cells #[.slice (some ⟨t3, 0, none⟩) N N] 47)).grownBy w4 (Value.slice (some ⟨g, 0, none⟩) R.length lc).ownBlock → ∃ v'', Ending.returned v' = Ending.returned v'' ∧ LeftV w4 B v'' N (R ++ [tRep a q.l q.m]) ∧ Below B w w4) := fun U t3 w3 v' w4 hU h3 hr3 h4 h5 => by
    have hb3 := hU.trans (h3.mono hU.size)
    exact ⟨v', rfl, left_put hrow hM (fun j T hj => by rw [List.getElem?_append_left (List.getElem?_eq_some_iff.1 hj).1]; exact hj) hb3 ⟨t3, rfl, hr3⟩ h4 h5, left_bel hrow hBw hb3 h5⟩
  have HC : Hid (∀ U, Below w.heap.size w U → Calls Tryd.prog 39 #[.slice (some ⟨ta, 0, none⟩) N N, .int .i64 q.l, .int .i64 q.m] U (RetTab U N (tRep a q.l q.m))) := fun U hU => repeat_any N ta a q.l q.m U hN h1N hlm (hA.below hU) (hT.below hU)
  have HO : Hid (∀ w3 (t3 : Nat), Below w.heap.size w w3 → (w3.alloc (.cells #[.slice (some ⟨t3, 0, none⟩) N N] 47)).ownsRow B 47 1 (.slice (some ⟨g, 0, none⟩) R.length lc) R.length (vals M R.length)) := fun w3 t3 h => ownsRow_below (ownsRow_below hless h) (below1 _ _)
  generalize R.length = L at *
  have hsl := slice_to80 (some ⟨g, 0, none⟩) (L + 1) lc L (by omega)
  have h1 : ((L + 1 : Nat) : Int) - 1 = (L : Int) := by omega
  have h2 : (L : Int) + 1 - 1 = (L : Int) := by omega
  have h3 : (L : Int) < ((L + 1 : Nat) : Int) := by omega
  have h6 : (L : Int) ≤ 2048 := by omega
  have h8 : (L : Int) < (L : Int) + 1 := by omega
  have k1 : IntKind.i64.wrap ((L : Int) + 1 - 1) = (L : Int) := by rw [h2, IntKind.wrap_i64]; omega
  have k2 : IntKind.i64.wrap (L : Int) = (L : Int) := by rw [h2] at k1; exact k1
  have k4 : (0 : Int) ≤ (L : Int) := by omega
  rw [hq] at d0
  clear hrow hM hA hT hc hless kn hlm
  unfold ndL at d0 d7 d8 hbV
  unfold ndV
  rw [hq] at d7 d8 hbV ⊢
  go_enter Tryd.func27, Tryd.ntmps27
  go_upto_region 8 with fail
  clear d0 hq
  generalize (w.alloc (.cells #[.slice ao n cap, .bool mu, .int .i64 (fr : Nat), .int .i64 (tt : Nat)] 50)).alloc (.cells #[.int .i64 5, .int .u64 q.c0, .int .u64 q.c1, .int .u64 q.c2, .int .u64 q.c3, .int .i64 q.a, .int .i64 q.b, .int .i64 q.l, .int .i64 q.m, .bool q.z] 43) = V at *
  rw [← hbV.cell (p := ⟨g, _, none⟩) hgl] at d1
  have hbU : Below w.heap.size w V.drew := hbV.drew
  have D1 : V.drew.cell? ⟨g, L, none⟩ = some (.slice (some ⟨ta, 0, none⟩) N N) := d1
  have D7 : V.drew.cell? ⟨w.heap.size + 1, 7, none⟩ = some (.int .i64 q.l) := d7
  have D8 : V.drew.cell? ⟨w.heap.size + 1, 8, none⟩ = some (.int .i64 q.m) := d8
  have HC2 := HC.out V.drew hbU
  clear d1 d7 d8
  have E1 : selO g L V.drew = some (.slice (some ⟨ta, 0, none⟩) N N) := D1
  have E7 : selO (w.heap.size + 1) 7 V.drew = some (.int .i64 q.l) := D7
  have E8 : selO (w.heap.size + 1) 8 V.drew = some (.int .i64 q.m) := D8
  go_region_law
    (first
      | (go_simp; go_at_call 39; refine HC2.mono ?_; rintro e w3 ⟨t3, rfl, hr3, hb3⟩; have ho3 := HO.out w3 t3 (hbU.trans (hb3.mono hbU.size)))
      | (refine step_append_lies _ (by rfl) _ _ 65 (by rfl) B 47 i0 _ 1 24 Tryd.underlying65 hi hz0 hz1 hz2 (by rfl) (by decide) (.slice (some ⟨g, 0, none⟩) L lc) L (vals M L) (by rfl) ho3 ⟨w3.heap.size, 0, none⟩ 1 1 [.slice (some ⟨t3, 0, none⟩) N N] (by rfl) (by rfl) (new_tab w3 _) (by simp [Value.oneCell']) (by decide) (by unfold maxLen; omega) (by omega) (by have := hb3.size; have := hbU.size; simp; omega) _ rfl ?_; intro g9 c9 w4 hown hgr hat hlt; have HY : Hid _ := HF.out V.drew t3 w3 _ w4 hbU hb3 hr3 hown hgr; clear hown hgr hat hlt))
  all_goals
    go_wp2_with fail
    go_ret
    exact HY.out
set_option maxRecDepth 10000 in
set_option maxHeartbeats 4000000 in
theorem takeL (ao : Option Addr) (n cap : Nat) (mu : Bool) (fr tt : Nat) (f : Nat → Nat) (q : Nd) (h3 : q.k ≠ 3) (h4 : q.k ≠ 4) (h5 : q.k ≠ 5) (N : Nat) (R : List Tab) (B : Nat) (v : Value) (w : World) (hr : RdB w ao n f) (hn : n ≤ 24) (htn : tt ≤ n) (hft : fr ≤ tt) (hN : N = tt - fr + 1) (hq : wfN q) (hlen : R.length ≤ 2048) (hBw : B ≤ w.heap.size) (hL : LeftV w B v N R) :
    Calls Tryd.prog 27 #[pgV ao n cap mu fr tt, ndV q, v] w fun e w' => ∃ v', e = .returned v' ∧ LeftV w' B v' N (R ++ [tSh fr (mLeaf f n mu q)]) ∧ Below B w w' := by
  obtain ⟨M, hrow, hM⟩ := hL
  obtain ⟨lo, lc, rfl⟩ := ownsRow_slice hrow
  obtain ⟨i0, hi, hz0, hz1, hz2⟩ := info_parts b_tab
  have hbV := below2 w (.cells #[.slice ao n cap, .bool mu, .int .i64 (fr : Nat), .int .i64 (tt : Nat)] 50) (.cells (ndL q).toArray 43)
  have kn : Cl ((w.alloc (.cells #[.slice ao n cap, .bool mu, .int .i64 (fr : Nat), .int .i64 (tt : Nat)] 50)).alloc (.cells (ndL q).toArray 43)) (w.heap.size + 1) 43 (ndL q) := by
    have := Cl.new (w.alloc (.cells #[.slice ao n cap, .bool mu, .int .i64 (fr : Nat), .int .i64 (tt : Nat)] 50)) 43 (ndL q)
    simpa only [World.size_alloc] using this
  have kp : Cl ((w.alloc (.cells #[.slice ao n cap, .bool mu, .int .i64 (fr : Nat), .int .i64 (tt : Nat)] 50)).alloc (.cells (ndL q).toArray 43)) w.heap.size 50 (pgL ao n cap mu fr tt) := (Cl.new w 50 (pgL ao n cap mu fr tt)).alloc _
  have p0 := kp.cell 0 rfl
  have p1 := kp.cell 1 rfl
  have p2 := kp.cell 2 rfl
  have p3 := kp.cell 3 rfl
  have d0 := kn.cell 0 rfl
  have d1 := kn.cell 1 rfl
  have d2 := kn.cell 2 rfl
  have d3 := kn.cell 3 rfl
  have d4 := kn.cell 4 rfl
  have d5 := kn.cell 5 rfl
  have d6 := kn.cell 6 rfl
  have d7 := kn.cell 7 rfl
  have d8 := kn.cell 8 rfl
  have d9 := kn.cell 9 rfl
  have HC := leaf_any ao n cap mu fr tt f q N ((w.alloc (.cells #[.slice ao n cap, .bool mu, .int .i64 (fr : Nat), .int .i64 (tt : Nat)] 50)).alloc (.cells (ndL q).toArray 43)) (hr.below hbV) hn htn hft hN hq
  generalize tSh fr (mLeaf f n mu q) = TT at *
  have HF : Hid (∀ t3 w3 v' w4, Below w.heap.size w w3 → Rows w3 t3 N 0 (wrd N TT) → w4.ownsRow B 47 1 v' (R.length + 1) (vals M R.length ++ [.slice (some ⟨t3, 0, none⟩) N N]) → (w3.alloc (.cells #[.slice (some ⟨t3, 0, none⟩) N N] 47)).grownBy w4 (Value.slice lo R.length lc).ownBlock → ∃ v'', Ending.returned v' = Ending.returned v'' ∧ LeftV w4 B v'' N (R ++ [TT]) ∧ Below B w w4) := fun t3 w3 v' w4 hb3 hr3 h4 h5 =>
    ⟨v', rfl, left_put hrow hM (fun j T hj => hj) hb3 ⟨t3, rfl, hr3⟩ h4 h5, left_bel hrow hBw hb3 h5⟩
  have HO : Hid (∀ w3 (t3 : Nat), Below w.heap.size w w3 → (w3.alloc (.cells #[.slice (some ⟨t3, 0, none⟩) N N] 47)).ownsRow B 47 1 (.slice lo R.length lc) R.length (vals M R.length)) := fun w3 t3 h => ownsRow_below (ownsRow_below hrow h) (below1 _ _)
  have e3 : (q.k == 3) = false := by simpa using h3
  have e4 : (q.k == 4) = false := by simpa using h4
  have e5 : (q.k == 5) = false := by simpa using h5
  generalize R.length = L at *
  have hl9 : (L : Int) ≤ 2048 := by omega
  have k1 : IntKind.i64.wrap ((L : Int) - 1) = (L : Int) - 1 := by rw [IntKind.wrap_i64]; omega
  clear hrow hM hr kp kn hN h3 h4 h5
  unfold ndL at *
  unfold ndV
  go_enter Tryd.func27, Tryd.ntmps27
  go_wp2_with fail
  refine HC.mono ?_
  rintro e w3 ⟨t3, rfl, hr3, hb3⟩
  have hb9 := hbV.trans (hb3.mono hbV.size)
  have ho3 := HO.out w3 t3 hb9
  have hs9 := hb9.size
  clear HC HO hbV hb3
  go_wp2_with (at_builtin; refine wpList_append_own _ rfl _ _ 65 rfl B 47 i0 _ 1 24 Tryd.underlying65 hi hz0 hz1 hz2 rfl (by decide) _ _ _ rfl ho3 ⟨w3.heap.size, 0, none⟩ 1 1 [.slice (some ⟨t3, 0, none⟩) N N] rfl rfl (new_tab w3 _) (by simp [Value.oneCell']) (by unfold maxLen; omega) (by omega) (by simp; omega) ?_; intro v' w4 hown hgr hnil'; have HY : Hid _ := HF.out t3 w3 v' w4 hb9 hr3 hown hgr; obtain ⟨va, vc, rfl⟩ := ownsRow_slice hown; clear hown hgr hnil')
  go_ret
  exact HY.out
end Go.Proofs.YtiiecppkabdkgabDoor
