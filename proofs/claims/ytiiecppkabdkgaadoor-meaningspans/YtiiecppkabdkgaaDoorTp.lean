/- The reference's Starts, Ends: the walks. -/
import Derived.Test.YtiiecppkabdkgaaDoorTo
namespace Go.Proofs.YtiiecppkabdkgaaDoor
open Go.RowKit
theorem stK_not {T : Tab} {j i : Nat} (hi : i ≤ j) (h : ∀ i', i' < i → spB T i' j = false) : stK T i j = -1 := by
  unfold stK
  have : (List.range (min i j)).find? (fun i' => T i' (j - i')) = none := by
    rw [List.find?_eq_none]
    intro x hx
    have hx := List.mem_range.1 hx
    have h1 := h x (by omega)
    unfold spB at h1
    simp [show x ≤ j by omega] at h1
    simp [h1]
  rw [this]
theorem stT_at {T : Tab} {j i : Nat} (hi : i < j) (h : ∀ i', i' < i → spB T i' j = false) (hy : spB T i j = true) : stT T j = (i : Int) := by
  have h1 := stK_not (T := T) (Nat.le_of_lt hi) h
  have hy' : T i (j - i) = true := by unfold spB at hy; simp at hy; exact hy.2
  have h2 : stK T (i + 1) j = (i : Int) := by rw [stK_succ, if_pos ⟨h1, hi, hy'⟩]
  have h3 : ∀ q, stK T (i + 1 + q) j = (i : Int) := by
    intro q
    induction q with
    | zero => exact h2
    | succ q ih =>
      rw [show i + 1 + (q + 1) = (i + 1 + q) + 1 by omega, stK_succ, if_neg (by rw [ih]; omega)]
      exact ih
  have := h3 (j - (i + 1))
  rw [show i + 1 + (j - (i + 1)) = j by omega] at this
  exact this
theorem stT_no {T : Tab} {j : Nat} (h : ∀ i', i' < j → spB T i' j = false) : stT T j = -1 := stK_not (Nat.le_refl _) h
theorem intsL_ints (g : Nat → Int) (k : Nat) : ints g (k + 1) = ints g k ++ [.int .i64 (g k)] := by unfold ints; rw [List.range_succ, List.map_append]; rfl
theorem new_int (w3 : World) (y : Value) : ∀ j u, [y][j]? = some u → (w3.alloc (.cells #[y] 3)).cell? (Addr.add ⟨w3.heap.size, 0, none⟩ j) = some u := fun j u hj => by
  have hj0 : j = 0 := by
    have := (List.getElem?_eq_some_iff.1 hj).1
    simpa using this
  subst hj0
  simpa [Addr.add] using (Cl.new w3 3 [y]).cell 0 hj
/-- What a call answers that makes a row of numbers by and by. -/
def RetIo (w : World) (k : Nat) (g : Nat → Int) (e : Ending) (w' : World) : Prop := ∃ ao cap, e = .returned (.slice ao k cap) ∧ w'.ownsRow w.heap.size 3 1 (.slice ao k cap) k (ints g k) ∧ Below w.heap.size w w'
structure StR (w : World) (g N B : Nat) (T : Tab) (k : Nat) (v : Value) (W : World) : Prop where
  tab : RT W w.heap.size g N (spB T)
  own : W.ownsRow B 3 1 v k (ints (stT T) k)
  bel : Below w.heap.size w W
theorem RT.grow {W W' : World} {B B0 g N k : Nat} {p : Nat → Nat → Bool} {v : Value} {xs : List Value} (h : RT W B g N p) (hown : W.ownsRow B0 3 1 v k xs) (hg : W.grownBy W' v.ownBlock) : RT W' B g N p := by
  obtain ⟨h0, b, cur, h1, h2, h3⟩ := h
  have key : ∀ (c : Nat) (cu : Array Value) (t : TypeId), t ≠ 3 → W.heap[c]? = some (.cells cu t (0, 0)) → W'.heap[c]? = W.heap[c]? := fun c cu t ht hc => by
    refine hg.block c (Array.getElem?_eq_some_iff.1 hc).1 fun e => ?_
    rcases hown.2 with ⟨rfl, _⟩ | ⟨g', cap, cur', rfl, _, hg', _⟩
    · simp [Value.ownBlock] at e
    · have e : c = g' := by simpa [Value.ownBlock] using e
      subst e
      rw [hc] at hg'
      injection hg' with hg'
      injection hg' with _ hg'
      exact ht hg'
  exact ⟨h0, b, cur, (key g cur 47 (by decide) h1).trans h1, h2, ⟨h3.lo, h3.up, fun i hi => by
    have := h3.row i hi
    have e := key _ _ 4 (by decide) this
    unfold Cl at *; rw [e]; exact this⟩⟩
set_option maxRecDepth 10000 in
set_option maxHeartbeats 8000000 in
theorem starts18_any (to_ : Option Addr) (m c : Nat) (F : Nat → Nd) (ao : Option Addr) (n cap : Nat) (mu : Bool) (f : Nat → Nat) (w : World) (ht : RdN w to_ m F) (hm : m ≤ 60) (hF : ∀ i, i < m → wfN (F i)) (hr : RdB w ao n f) (hn : n ≤ 24) :
    Calls Tryd.prog 18 #[.agg #[.slice to_ m c], .bool mu, .slice ao n cap] w (RetIo w (n + 1) (stT (mTab f n mu F m))) := by
  obtain ⟨i0, hi, hz0, hz1, hz2⟩ := info_parts b_int
  have hb0 := below1 w (.cells #[.slice to_ m c] 24)
  have k0 := Cl.new w 24 [.slice to_ m c]
  have d0 := k0.cell 0 rfl
  have HS := spans13_any to_ m c F ao n cap mu f _ (ht.below hb0) hm hF (hr.below hb0) hn
  obtain ⟨N, hNe⟩ : ∃ N, n + 1 = N := ⟨_, rfl⟩
  have hN : N ≤ 25 := by omega
  have hni : (n : Int) ≤ 24 := by omega
  rw [hNe] at HS ⊢
  have HN0 : Hid (n + 1 = N) := hNe
  clear ht hF hr k0 hNe
  generalize mTab f n mu F m = T at *
  go_enter Tryd.func18, Tryd.ntmps18
  go_wp2_with fail
  refine HS.mono ?_
  rintro e w1 ⟨g, gc, rfl, hR, hb⟩
  have S0 : StR w g N w.heap.size T 0 (.slice none 0 0) w1 := ⟨hR.lower (by simp), World.ownsRow_nil _ _ _ _, hb0.trans (hb.mono hb0.size)⟩
  clear HS hR hb d0 hb0
  go_wp2_with fail
  go_loopw [8, 9] (fun v jv wr => ∃ j : Nat, j ≤ N ∧ jv = .int .i64 (j : Nat) ∧ StR w g N w.heap.size T j v wr) (fun _ jv _ => N - (intOf jv).toNat)
  case atStart => exact ⟨0, Nat.zero_le _, rfl, S0⟩
  case round =>
    obtain ⟨j, hj, rfl, hS⟩ := hrel
    clear S0
    obtain ⟨lo, lc, rfl⟩ := ownsRow_slice hS.own
    have hNN := HN0.out
    by_cases hlt : j < N
    · have hjn : (j : Int) ≤ (n : Int) := by omega
      have hjN : (j : Int) < (N : Int) := by omega
      clear hNN
      go_wp2_with fail
      go_loopw [10] (fun iv wr2 => wr = wr2 ∧ ∃ i : Nat, i ≤ j ∧ iv = .int .i64 (i : Nat) ∧ ∀ i', i' < i → spB T i' j = false) (fun iv _ => j - (intOf iv).toNat)
      case atStart => exact ⟨rfl, 0, Nat.zero_le _, rfl, fun i' h => by omega⟩
      case round =>
        obtain ⟨rfl, i, hi', rfl, hno⟩ := hrel
        have hown := hS.own
        have HFin : Hid (∀ x v' w4, stT T j = x → w4.ownsRow w.heap.size 3 1 v' (j + 1) (ints (stT T) j ++ [.int .i64 x]) → (wr.alloc (.cells #[.int .i64 x] 3)).grownBy w4 (Value.slice lo j lc).ownBlock → ∃ j' : Nat, j' ≤ N ∧ Value.int .i64 ((j : Int) + 1) = .int .i64 (j' : Nat) ∧ StR w g N w.heap.size T j' v' w4) := fun x v' w4 hx h4 h5 => by
          have hsw := hS.bel.size
          have hbA := below1 wr (.cells #[.int .i64 x] 3)
          have hbel : Below w.heap.size wr w4 := ((hbA.mono hsw)).grown h5 (by simp; omega) (fun g hg => ownsRow_own hown g hg)
          exact ⟨j + 1, by omega, by simp, (hS.tab.below hbA).grow (ownsRow_below hown hbA) h5, by rw [intsL_ints, hx]; exact h4, hS.bel.trans hbel⟩
        have HO : Hid (∀ y : Value, (wr.alloc (.cells #[y] 3)).ownsRow w.heap.size 3 1 (.slice lo j lc) j (ints (stT T) j)) := fun y => ownsRow_below hown (below1 _ _)
        have hsw := hS.bel.size
        by_cases hlti : i < j
        · have hii : (i : Int) < (j : Int) := by omega
          have hiN : (i : Int) < (N : Int) := by omega
          obtain ⟨b, _, _, _, e1, e2, _, _⟩ := hS.tab.get (i := i) (by omega)
          have e3 := e2 j hlt
          cases hx : spB T i j with
          | false =>
            rw [hx] at e3
            have HY : Hid (∀ i', i' < i + 1 → spB T i' j = false) := fun i' h => by
              by_cases he : i' = i
              · rw [he]; exact hx
              · exact hno i' (by omega)
            clear HFin HO hown hS e2 hno hx
            go_wp2_with fail
            go_roundw
            case rel => exact ⟨trivial, i + 1, by omega, by simp, HY.out⟩
            case measure => simp [intOf]; omega
          | true =>
            rw [hx] at e3
            have hst := stT_at hlti hno hx
            have HP2 : Hid (∀ v' w4, w4.ownsRow w.heap.size 3 1 v' (j + 1) (ints (stT T) j ++ [.int .i64 (i : Int)]) → (wr.alloc (.cells #[.int .i64 (i : Int)] 3)).grownBy w4 (Value.slice lo j lc).ownBlock → ∃ j' : Nat, j' ≤ N ∧ Value.int .i64 ((j : Int) + 1) = .int .i64 (j' : Nat) ∧ StR w g N w.heap.size T j' v' w4) := fun v' w4 h4 h5 => HFin.out _ v' w4 hst h4 h5
            have HO2 := HO.out (.int .i64 (i : Int))
            have eij : ((i : Int) == (j : Int)) = false := by simp; omega
            clear HFin HO hown hS e2 hno hx hst
            go_wp2_with (at_builtin; refine wpList_append_own _ rfl _ _ 32 rfl w.heap.size 3 i0 (.int .i64 0) 1 8 Tryd.underlying32 hi hz0 hz1 hz2 rfl (by decide) _ _ _ rfl HO2 ⟨wr.heap.size, 0, none⟩ 1 1 [.int .i64 (i : Int)] rfl rfl (new_int wr _) (by simp [Value.oneCell']) (by unfold maxLen; omega) (by omega) (by simp; omega) ?_)
            intro v' w4 hown4 hgr4 _
            have HY : Hid _ := HP2.out v' w4 hown4 hgr4
            obtain ⟨vo', vc', rfl⟩ := ownsRow_slice hown4
            clear hown4 hgr4 HP2 HO2
            go_wp2_with fail
            go_roundw
            case rel => exact HY.out
            case measure => simp [intOf]; omega
        · obtain rfl : i = j := by omega
          have hii : ¬ (i : Int) < (i : Int) := by omega
          have hst := stT_no hno
          have HP2 : Hid (∀ v' w4, w4.ownsRow w.heap.size 3 1 v' (i + 1) (ints (stT T) i ++ [.int .i64 (-1)]) → (wr.alloc (.cells #[.int .i64 (-1)] 3)).grownBy w4 (Value.slice lo i lc).ownBlock → ∃ j' : Nat, j' ≤ N ∧ Value.int .i64 ((i : Int) + 1) = .int .i64 (j' : Nat) ∧ StR w g N w.heap.size T j' v' w4) := fun v' w4 h4 h5 => HFin.out _ v' w4 hst h4 h5
          have HO2 := HO.out (.int .i64 (-1))
          have eij : ((i : Int) == (i : Int)) = true := by simp
          clear HFin HO hown hS hno hst
          go_wp2_with (at_builtin; refine wpList_append_own _ rfl _ _ 32 rfl w.heap.size 3 i0 (.int .i64 0) 1 8 Tryd.underlying32 hi hz0 hz1 hz2 rfl (by decide) _ _ _ rfl HO2 ⟨wr.heap.size, 0, none⟩ 1 1 [.int .i64 (-1)] rfl rfl (new_int wr _) (by simp [Value.oneCell']) (by unfold maxLen; omega) (by omega) (by simp; omega) ?_)
          intro v' w4 hown4 hgr4 _
          have HY : Hid _ := HP2.out v' w4 hown4 hgr4
          obtain ⟨vo', vc', rfl⟩ := ownsRow_slice hown4
          clear hown4 hgr4 HP2 HO2
          go_wp2_with fail
          go_roundw
          case rel => exact HY.out
          case measure => simp [intOf]; omega
    · obtain rfl : j = N := by omega
      have hjn : ¬ (j : Int) ≤ (n : Int) := by omega
      have HR : Hid (RetIo w j (stT T) (.returned (.slice lo j lc)) wr) := ⟨lo, lc, rfl, hS.own, hS.bel⟩
      clear hS hNN
      go_wp2_with fail
      go_ret
      exact HR.out
end Go.Proofs.YtiiecppkabdkgaaDoor
