/- MeaningAlone: the walk. -/
import Derived.Test.YtiiecppkabdkgaaDoorBr
namespace Go.Proofs.YtiiecppkabdkgaaDoor
open Go.RowKit
/-- A part of a text, as the program cuts it. -/
theorem slice_part (ao : Option Addr) (n cap i j : Nat) (f : Nat → Nat) (hij : i ≤ j) (hj : j ≤ n) (hc : n ≤ cap) (W : World) (h : RdB W ao n f) : ∃ ao' cap', (∀ w, (Instr.slice 25 (.slice ao n cap) (some (.int .i64 (i : Nat))) (some (.int .i64 (j : Nat))) none).run Tryd.prog w = .ok (.slice ao' (j - i) cap') w) ∧ RdB W ao' (j - i) (fun k => f (i + k)) := by
  have hs : ∀ w, (Go.sizeOf 5).run Tryd.prog w = .ok 1 w := fun w => by kernel_rfl
  have e1 : (i : Int) ≤ (j : Int) := by omega
  have e2 : (j : Int) ≤ (cap : Int) := by omega
  by_cases h3 : cap = i
  · obtain rfl : j = i := by omega
    refine ⟨ao, cap - j, fun w => ?_, ?_⟩
    · simp [go_sem, Tryd.underlying25, hs, h3]
    · rw [Nat.sub_self]; exact ⟨fun k hk => by omega, fun hk => by omega⟩
  · refine ⟨ao.map (·.add i), cap - i, fun w => ?_, ?_⟩
    · simp [go_sem, Tryd.underlying25, hs, e1, e2, h3]
    · refine ⟨fun k hk => h.1 _ (by omega), fun hk => ?_⟩
      obtain ⟨bb, off, e, hlt, hcs⟩ := h.2 (by omega)
      subst e
      refine ⟨bb, off + i, ?_, hlt, fun k hk => ?_⟩
      · by_cases h0 : i = 0
        · subst h0; simp [Addr.add]
        · simp [Addr.add, h0]
      · rw [Nat.add_assoc]; exact hcs (i + k) (by omega)
theorem noA_of : ∀ t : Tre, (∀ q, Tre.leaf q ∈ t.subs → ancN q = false) → noA t = true
  | .leaf q, h => by
    have := h q (by simp [Tre.subs])
    unfold ancN at this
    simp at this
    simp [noA, this]
  | .two k x y, h => by
    simp only [noA, Bool.and_eq_true]
    exact ⟨noA_of x fun q hq => h q (by simp [Tre.subs, hq]), noA_of y fun q hq => h q (by simp [Tre.subs, hq])⟩
  | .rep x l m z, h => by
    simp only [noA]
    exact noA_of x fun q hq => h q (by simp [Tre.subs, hq])
/-- Bare nodes are a bare tree's. -/
theorem bare_noA {F : Nat → Nd} {n : Nat} {t : Tre} (h : treeOf F n = some t) (hb : bareF F n = true) : noA t = true := by
  obtain ⟨hn, ho, _, hF⟩ := treeOf_some h
  refine noA_of t fun q hq => ?_
  obtain ⟨p, hp, e⟩ := List.mem_iff_getElem.1 hq
  have hp' := hp
  rw [Tre.subs_length] at hp'
  have hg : t.subs[p]? = some (.leaf q) := by rw [List.getElem?_eq_getElem hp, e]
  have := hF p (by omega)
  rw [nodes_get hg] at this
  unfold bareF at hb
  rw [List.all_eq_true] at hb
  have h2 := hb p (List.mem_range.2 (by omega))
  rw [this] at h2
  simpa [Tre.nd] using h2
theorem alone_eq {F : Nat → Nd} {m : Nat} {f : Nat → Nat} {n i j : Nat} {mu nu : Bool} (hb : bareF F m = true) (hij : i ≤ j) (hj : j ≤ n) : mTab f n mu F m i (j - i) = mTab (fun k => f (i + k)) (j - i) nu F m 0 (j - i) := by
  unfold mTab
  cases h : treeOf F m with
  | none => rfl
  | some t =>
    dsimp only
    split
    · have := mean_alone f (fun k => f (i + k)) n (j - i) i mu nu (fun _ _ => rfl) (by omega) t (bare_noA h hb) 0 (j - i) (by omega)
      simpa [tSh] using this
    · rfl
def RetTrue (w : World) (e : Ending) (w' : World) : Prop := e = .returned (.bool true) ∧ Below w.heap.size w w'
set_option maxRecDepth 10000 in
set_option maxHeartbeats 4000000 in
theorem alone_main (to_ : Option Addr) (m c : Nat) (F : Nat → Nd) (ao : Option Addr) (n cap : Nat) (mu : Bool) (i j : Nat) (f : Nat → Nat) (w : World) (ht : RdN w to_ m F) (hF : ∀ i, i < m → wfN (F i)) (hr : RdB w ao n f) (hnc : n ≤ cap) (hT : TabZ w) (hm60 : m ≤ 60) (hn : n ≤ 24) (hbr : bareF F m = true) (hij : i ≤ j) (hj : j ≤ n) :
    Calls Tryd.prog 5 #[.agg #[.slice to_ m c], .bool mu, .slice ao n cap, .int .i64 (i : Nat), .int .i64 (j : Nat)] w (RetTrue w) := by
  have hb0 := below1 w (.cells #[.slice to_ m c] 24)
  have k0 := Cl.new w 24 [.slice to_ m c]
  have d0 := k0.cell 0 rfl
  have H9 := few_any to_ m c ao n cap (w.alloc (.cells #[.slice to_ m c] 24))
  rw [decide_eq_true hm60, decide_eq_true hn] at H9
  have h1 : ¬ (i : Int) < 0 := by omega
  have h2 : ¬ (j : Int) < (i : Int) := by omega
  have h3 : ¬ (n : Int) < (j : Int) := by omega
  go_enter Tryd.func5, Tryd.ntmps5
  go_wp2_with fail
  refine H9.mono ?_
  rintro e w1 ⟨rfl, b1⟩
  have k1 := k0.below b1
  have d1 := k1.cell 0 rfl
  have bw1 := hb0.trans (b1.mono hb0.size)
  have H23 := bare_law_any to_ m c F w1 (ht.below bw1) (by omega)
  rw [hbr] at H23
  clear H9 k0 d0 b1
  go_wp2_with fail
  refine H23.mono ?_
  rintro e w2 ⟨rfl, b2⟩
  have k2 := k1.below b2
  have bw2 := bw1.trans (b2.mono bw1.size)
  clear H23 k1 d1 b2 bw1
  go_wp2_with fail
  obtain ⟨ao', cap', hsl, hr'⟩ := slice_part ao n cap i j f hij hj hnc w hr
  have heq := alone_eq (f := f) (n := n) (mu := mu) (nu := !mu) hbr hij hj
  have n0 := Near.cell (k2.cell 0 rfl) k2.lt
  have HB : Hid (∀ u, Calls Tryd.prog 10 #[] (near w2 u) (begI (near w2 u))) := fun u => begun_any _ ((hT.below bw2).below (near_below w2 u))
  obtain ⟨nu, hnu⟩ : ∃ nu, (!mu) = nu := ⟨_, rfl⟩
  obtain ⟨d, hd⟩ : ∃ d : Nat, j - i = d := ⟨_, rfl⟩
  have hdi : (j : Int) - (i : Int) = (d : Nat) := by omega
  have hdw : IntKind.i64.wrap ((j : Int) - (i : Int)) = (d : Nat) := by rw [IntKind.wrap_i64]; omega
  rw [hnu, hd] at heq
  rw [hd] at hsl hr'
  have HM1 : Hid (∀ u, Calls Tryd.prog 19 #[.agg #[.slice to_ m c], .bool mu, .slice ao n cap, .int .i64 (i : Nat), .int .i64 (j : Nat)] (near w2 u) fun e w' => e = .returned (.bool (mTab f n mu F m i d)) ∧ Below (near w2 u).heap.size (near w2 u) w') := fun u => by
    have hb := bw2.trans ((near_below w2 u).mono bw2.size)
    have := match_in to_ m c F ao n cap mu i j f (near w2 u) (ht.below hb) (by omega) hF (hr.below hb) hn hj hij (hT.below hb)
    rwa [hd] at this
  have HM2 : Hid (∀ u, Calls Tryd.prog 19 #[.agg #[.slice to_ m c], .bool nu, .slice ao' d cap', .int .i64 0, .int .i64 (d : Nat)] (near w2 u) fun e w' => e = .returned (.bool (mTab f n mu F m i d)) ∧ Below (near w2 u).heap.size (near w2 u) w') := fun u => by
    have hb := bw2.trans ((near_below w2 u).mono bw2.size)
    have := match_in to_ m c F ao' d cap' nu 0 d (fun k => f (i + k)) (near w2 u) (ht.below hb) (by omega) hF (hr'.below hb) (by omega) (Nat.le_refl _) (Nat.zero_le _) (hT.below hb)
    rw [Nat.sub_zero, ← heq] at this
    exact this
  have heqb : (mTab f n mu F m i d == mTab f n mu F m i d) = true := by simp
  generalize mTab f n mu F m i d = B at *
  clear ht hF hr hr' hT k2 hd heq hdi hbr hij hj hm60 hn hnc
  unfold begI at HB
  refine wp_region_quiet_tail 21 (fun w' => ∃ u : World, w' = near w2 u) (by kernel_rfl) (by kernel_rfl) (Near.start _) ?_
  simp only [List.take_succ_cons, List.take_zero, List.drop_succ_cons, List.drop_zero]
  repeat (go_big_quiet_step (first | (go_at_call 10; exact Near.call (HB.out _)) | (go_at_call_of 19 (Value.bool mu); exact Near.call (HM1.out _)) | (go_at_call_of 19 (Value.bool nu); exact Near.call (HM2.out _))))
  refine wpQuiet_nil ?_
  rintro _ ⟨u, rfl⟩
  have hbn := bw2.trans ((near_below w2 u).mono bw2.size)
  clear HM1 HM2 HB n0
  go_wp2_with fail
  go_ret
  exact ⟨rfl, hbn⟩
set_option maxRecDepth 10000 in
set_option maxHeartbeats 4000000 in
theorem alone_any (to_ : Option Addr) (m c : Nat) (F : Nat → Nd) (ao : Option Addr) (n cap : Nat) (mu : Bool) (i j : Int) (f : Nat → Nat) (w : World) (ht : RdN w to_ m F) (hF : ∀ i, i < m → wfN (F i)) (hr : RdB w ao n f) (hnc : n ≤ cap) (hT : TabZ w) :
    Calls Tryd.prog 5 #[.agg #[.slice to_ m c], .bool mu, .slice ao n cap, .int .i64 i, .int .i64 j] w (RetTrue w) := by
  have hb0 := below1 w (.cells #[.slice to_ m c] 24)
  have k0 := Cl.new w 24 [.slice to_ m c]
  have d0 := k0.cell 0 rfl
  have H9 := few_any to_ m c ao n cap (w.alloc (.cells #[.slice to_ m c] 24))
  by_cases hfew : m ≤ 60 ∧ n ≤ 24
  · cases hbr : bareF F m with
    | false =>
      rw [decide_eq_true hfew.1, decide_eq_true hfew.2] at H9
      go_enter Tryd.func5, Tryd.ntmps5
      go_wp2_with fail
      refine H9.mono ?_
      rintro e w1 ⟨rfl, b1⟩
      have k1 := k0.below b1
      have d1 := k1.cell 0 rfl
      have bw1 := hb0.trans (b1.mono hb0.size)
      have H23 := bare_law_any to_ m c F w1 (ht.below bw1) (by omega)
      rw [hbr] at H23
      clear H9 k0 d0 b1
      go_wp2_with fail
      refine H23.mono ?_
      rintro e w2 ⟨rfl, b2⟩
      have bw2 := bw1.trans (b2.mono bw1.size)
      clear H23 k1 d1 b2 bw1
      go_wp2_with fail
      go_ret
      exact ⟨rfl, bw2⟩
    | true =>
      by_cases hin : 0 ≤ i ∧ i ≤ j ∧ j ≤ n
      · obtain ⟨h1, h2, h3⟩ := hin
        obtain ⟨i', rfl⟩ := Int.eq_ofNat_of_zero_le h1
        obtain ⟨j', rfl⟩ := Int.eq_ofNat_of_zero_le (Int.le_trans h1 h2)
        exact alone_main to_ m c F ao n cap mu i' j' f w ht hF hr hnc hT hfew.1 hfew.2 hbr (by omega) (by omega)
      · rw [decide_eq_true hfew.1, decide_eq_true hfew.2] at H9
        go_enter Tryd.func5, Tryd.ntmps5
        go_wp2_with fail
        refine H9.mono ?_
        rintro e w1 ⟨rfl, b1⟩
        have k1 := k0.below b1
        have d1 := k1.cell 0 rfl
        have bw1 := hb0.trans (b1.mono hb0.size)
        have H23 := bare_law_any to_ m c F w1 (ht.below bw1) (by omega)
        rw [hbr] at H23
        clear H9 k0 d0 b1
        go_wp2_with fail
        refine H23.mono ?_
        rintro e w2 ⟨rfl, b2⟩
        have bw2 := bw1.trans (b2.mono bw1.size)
        clear H23 k1 d1 b2 bw1
        by_cases h1 : i < 0
        · go_wp2_with fail
          go_ret
          exact ⟨rfl, bw2⟩
        · by_cases h2 : j < i
          · go_wp2_with fail
            go_ret
            exact ⟨rfl, bw2⟩
          · have h3 : (n : Int) < j := by omega
            clear hin
            go_wp2_with fail
            go_ret
            exact ⟨rfl, bw2⟩
  · have hd : (decide (m ≤ 60) && decide (n ≤ 24)) = false := by simpa using hfew
    rw [hd] at H9
    go_enter Tryd.func5, Tryd.ntmps5
    go_wp2_with fail
    refine H9.mono ?_
    rintro e w1 ⟨rfl, b1⟩
    have bw1 := hb0.trans (b1.mono hb0.size)
    clear H9 k0 d0 b1 hfew
    go_wp2_with fail
    go_ret
    exact ⟨rfl, bw1⟩
end Go.Proofs.YtiiecppkabdkgaaDoor
