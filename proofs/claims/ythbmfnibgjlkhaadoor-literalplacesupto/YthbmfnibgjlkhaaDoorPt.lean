/- slices.Equal of numbers and of letters: the walks. -/
import Derived.Test.YthbmfnibgjlkhaaDoorGLhLjLk
import Derived.Test.YthbmfnibgjlkhaaDoorGPcPdPe
import Derived.Deep.DeepCutAuto
namespace Go.Proofs.YthbmfnibgjlkhaaDoor
open Go.RowKit Go.Shelf K
def eqI (n m : Nat) (f g : Nat → Int) : Bool := decide (n = m) && (List.range n).all fun i => f i == g i
set_option maxRecDepth 10000 in
set_option maxHeartbeats 1000000 in
theorem equalI_any (a b : Option Addr) (n m ca cb : Nat) (f g : Nat → Int) (w : World) (hn : (n : Int) ≤ 9223372036854775806) (ha : RdI w a n f) (hb : RdI w b m g) : Calls Tryd.prog 18 #[.slice a n ca, .slice b m cb] w fun e w' => e = .returned (.bool (eqI n m f g)) ∧ Below w.heap.size w w' := by
  by_cases hnm : n = m
  · subst hnm
    have HT : Hid (∀ W, (∀ j, j < n → f j = g j) → Below w.heap.size w W → Ending.returned (.bool true) = Ending.returned (.bool (eqI n n f g)) ∧ Below w.heap.size w W) := fun W h hW => by
      have : eqI n n f g = true := by
        simp only [eqI, decide_true, Bool.true_and]
        rw [List.all_eq_true]; intro i hi; simpa using h i (List.mem_range.1 hi)
      exact ⟨by rw [this], hW⟩
    have HF : Hid (∀ W k, k < n → f k ≠ g k → Below w.heap.size w W → Ending.returned (.bool false) = Ending.returned (.bool (eqI n n f g)) ∧ Below w.heap.size w W) := fun W k hk h hW => by
      have : eqI n n f g = false := by
        simp only [eqI, decide_true, Bool.true_and]
        rw [List.all_eq_false]; exact ⟨k, List.mem_range.2 hk, by simpa using h⟩
      exact ⟨by rw [this], hW⟩
    generalize eqI n n f g = res at *
    have hni : ((n : Int) == (n : Int)) = true := by simp
    go_enter Tryd.func18, Tryd.ntmps18
    go_wp2_with fail
    go_loopw [13] (fun i wr => ∃ (k : Nat), k ≤ n ∧ i = .int .i64 (k : Nat) ∧ (∀ j, j < k → f j = g j) ∧ Below w.heap.size w wr) (fun i _ => n - (intOf i).toNat)
    case atStart => exact ⟨0, Nat.zero_le _, rfl, fun j hj => by omega, Below.refl _ _⟩
    case round =>
      obtain ⟨k, hk, rfl, hj, hbw⟩ := hrel
      by_cases hlt : k < n
      · have hki : (k : Int) < (n : Int) := by omega
        obtain ⟨ba, oa, rfl, hba, hca⟩ := ha (by omega)
        obtain ⟨bb, ob, rfl, hbb, hcb⟩ := hb (by omega)
        have c1 : wr.cell? ⟨ba, oa + k, none⟩ = some (.int .i64 (f k)) := by rw [hbw.cell hba]; exact hca k hlt
        have c2 : wr.cell? ⟨bb, ob + k, none⟩ = some (.int .i64 (g k)) := by rw [hbw.cell hbb]; exact hcb k hlt
        by_cases hfg : f k = g k
        · have HY : Hid (∀ q, ∃ (k' : Nat), k' ≤ n ∧ Value.int .i64 ((k : Int) + 1) = .int .i64 (k' : Nat) ∧ (∀ j, j < k' → f j = g j) ∧ Below w.heap.size w (wr.drewN q)) := fun q => ⟨k + 1, hlt, by simp, fun j hj' => by
            by_cases h : j = k
            · rw [h]; exact hfg
            · exact hj j (by omega), below_drewN hbw q⟩
          have e1 : (f k == g k) = true := by simpa using hfg
          clear HT HF hj hca hcb ha hb
          generalize f k = x at *
          generalize g k = y at *
          clear hfg
          go_wp2_with fail
          go_quiet (fail)
          go_wp2_with fail
          go_roundw
          case rel => exact HY.out _
          case measure => simp [intOf]; omega
        · have HY : Hid (∀ q, Ending.returned (.bool false) = Ending.returned (.bool res) ∧ Below w.heap.size w (wr.drewN q)) := fun q => HF.out _ k hlt hfg (below_drewN hbw q)
          have e1 : (f k == g k) = false := by simpa using hfg
          clear HT HF hj hca hcb ha hb
          generalize f k = x at *
          generalize g k = y at *
          clear hfg
          go_wp2_with fail
          go_quiet (fail)
          go_wp2_with fail
          go_ret
          exact HY.out _
      · obtain rfl : k = n := by omega
        have hki : ¬ (k : Int) < (k : Int) := by omega
        have HY : Hid _ := HT.out wr hj hbw
        clear HT HF hj ha hb
        go_wp2_with fail
        go_ret
        exact HY.out
  · have hq : eqI n m f g = false := by simp [eqI, hnm]
    rw [hq]
    have hni : ((n : Int) == (m : Int)) = false := by simp; omega
    go_enter Tryd.func18, Tryd.ntmps18
    go_wp2_with fail
    go_ret
    exact ⟨rfl, Below.refl _ _⟩
set_option maxRecDepth 10000 in
set_option maxHeartbeats 2000000 in
theorem equalL_any (a b : Option Addr) (c d : Nat) (l k : List (Nat × Bool)) (w : World) (ha : RdL w a l) (hb : RdL w b k) (hl : (l.length : Int) ≤ 9223372036854775807) (hk : (k.length : Int) ≤ 9223372036854775807) : Calls Tryd.prog 45 #[.slice a l.length c, .slice b k.length d] w (fun e w' => e = .returned (.bool (decide (l = k))) ∧ Below w.heap.size w w') := by
  have hB0 := Below.refl w.heap.size w
  by_cases hlen : l.length = k.length
  · obtain ⟨n, hn⟩ : ∃ n, l.length = n := ⟨_, rfl⟩
    have hkn : k.length = n := by omega
    have HLn : Hid (l.length = n) := hn
    have HKn : Hid (k.length = n) := hkn
    clear hlen
    rw [hn] at hl ⊢
    rw [hkn] at hk ⊢
    clear hn hkn
    have hli : ((n : Int) != (n : Int)) = false := by simp
    go_enter Tryd.func45, Tryd.ntmps45
    go_wp2
    go_loopw [13] (fun i wr => ∃ j : Nat, j ≤ n ∧ i = .int .i64 (j : Nat) ∧ Below w.heap.size w wr ∧ Hid (smL l k j)) (fun i _ => n - (intOf i).toNat)
    case atStart => exact ⟨0, by omega, rfl, hB0, fun j hj => by omega⟩
    case round =>
      obtain ⟨j, hj, rfl, hbr, hs⟩ := hrel
      by_cases hlt : j < n
      · have hji : (j : Int) < (n : Int) := by omega
        obtain ⟨b1, o1, rfl, _, hc1⟩ := ha.below hbr (by rw [HLn.out]; omega)
        obtain ⟨b2, o2, rfl, _, hc2⟩ := hb.below hbr (by rw [HKn.out]; omega)
        obtain ⟨x, hx⟩ : ∃ x, l[j]? = some x := ⟨_, List.getElem?_eq_getElem (by rw [HLn.out]; exact hlt)⟩
        obtain ⟨y, hy⟩ : ∃ y, k[j]? = some y := ⟨_, List.getElem?_eq_getElem (by rw [HKn.out]; exact hlt)⟩
        obtain ⟨p0, p1⟩ := hc1 j x hx
        obtain ⟨q0, q1⟩ := hc2 j y hy
        clear hc1 hc2
        have hne := run_neq26 (x.1 : Nat) (y.1 : Nat) x.2 y.2
        by_cases hxy : x = y
        · have HO : Hid (smL l k (j + 1)) := fun i hi => by
            rcases Nat.lt_or_ge i j with h' | h'
            · exact hs.out i h'
            · obtain rfl : i = j := by omega
              rw [hx, hy, hxy]
          have e : (!((x.1 : Int) == (y.1 : Int) && x.2 == y.2)) = false := by rw [hxy]; simp
          simp only [e] at hne
          clear hx hy hs hxy e
          obtain ⟨x1, x2⟩ := x
          obtain ⟨y1, y2⟩ := y
          dsimp only at *
          go_wp2_with fail
          go_quiet (fail)
          go_wp2
          go_roundw
          all_goals first | exact ⟨j + 1, by omega, by go_num, below_drewN hbr _, HO.out⟩ | (simp [intOf]; omega)
        · have HO : Hid (decide (l = k) = false) := by
            show decide (l = k) = false
            rw [decide_eq_false_iff_not]
            rintro rfl
            rw [hx] at hy
            exact hxy (Option.some.inj hy)
          have e : (!((x.1 : Int) == (y.1 : Int) && x.2 == y.2)) = true := by
            rw [Bool.not_eq_true', Bool.eq_false_iff]
            intro h
            simp only [Bool.and_eq_true, beq_iff_eq] at h
            exact hxy (Prod.ext (by omega) h.2)
          simp only [e] at hne
          clear hx hy hs hxy e
          obtain ⟨x1, x2⟩ := x
          obtain ⟨y1, y2⟩ := y
          dsimp only at *
          go_wp2_with fail
          go_quiet (fail)
          go_wp2
          go_ret
          exact ⟨by rw [HO.out]; rfl, below_drewN hbr _⟩
      · obtain rfl : j = n := by omega
        have HO : Hid (decide (l = k) = true) := by
          show decide (l = k) = true
          rw [decide_eq_true_iff]
          refine List.ext_getElem? fun i => ?_
          rcases Nat.lt_or_ge i j with h' | h'
          · exact hs.out i h'
          · rw [List.getElem?_eq_none (by rw [HLn.out]; exact h'), List.getElem?_eq_none (by rw [HKn.out]; exact h')]
        go_wp2
        go_ret
        exact ⟨by rw [HO.out]; rfl, hbr⟩
  · have hli : ((l.length : Int) != (k.length : Int)) = true := by simp; omega
    have e : decide (l = k) = false := by
      rw [decide_eq_false_iff_not]
      rintro rfl
      exact hlen rfl
    rw [e]
    clear e ha hb hlen
    go_enter Tryd.func45, Tryd.ntmps45
    go_wp2
    go_ret
    exact ⟨rfl, hB0⟩
theorem same_any (a b : Option Addr) (c d : Nat) (l k : List (Nat × Bool)) (w : World) (ha : RdL w a l) (hb : RdL w b k) (hl : (l.length : Int) ≤ 9223372036854775807) (hk : (k.length : Int) ≤ 9223372036854775807) : Calls Tryd.prog 21 #[.slice a l.length c, .slice b k.length d] w (fun e w' => e = .returned (.bool (decide (l = k))) ∧ Below w.heap.size w w') := by
  have HC := equalL_any a b c d l k w ha hb hl hk
  generalize decide (l = k) = R at *
  generalize l.length = n at *
  generalize k.length = m at *
  clear ha hb
  go_enter Tryd.func21, Tryd.ntmps21
  go_wp2_with (go_at_call 45; refine HC.mono ?_; rintro e w1 ⟨rfl, hb1⟩)
  go_ret
  exact ⟨rfl, hb1⟩
end Go.Proofs.YthbmfnibgjlkhaaDoor
