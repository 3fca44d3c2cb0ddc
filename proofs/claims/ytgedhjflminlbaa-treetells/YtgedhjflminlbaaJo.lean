/- Join: the walk. -/
import Derived.Test.YtgedhjflminlbaaGr
namespace Go.Proofs.Ytgedhjflminlbaa
open Go.RowKit
theorem RdN.put {w : World} {ao : Option Addr} {n b : Nat} {t : TypeId} {F : Nat → Nd} {x : Option Addr} {l c : Nat} (h : RdN w ao n F) (k : Cl w b t [.slice x l c]) (v : Value) : RdN (w.setCell ⟨b, 0, none⟩ v) ao n F := by
  intro hn
  obtain ⟨bb, off, e, hlt, hc⟩ := h hn
  have hne : bb ≠ b := by
    rintro rfl
    have h0 := (hc 0 hn).1
    rw [cell_of_row w bb _ _ t (0, 0) k] at h0
    simp only [Nat.zero_mul, Nat.add_zero, List.getElem?_toArray] at h0
    cases off with
    | zero => simp at h0
    | succ o => simp at h0
  refine ⟨bb, off, e, by simpa using hlt, fun i hi => ?_⟩
  have hq : ∀ j, (w.setCell ⟨b, 0, none⟩ v).cell? ⟨bb, j, none⟩ = w.cell? ⟨bb, j, none⟩ := fun j => by
    simp [World.cell?, Below.heap_setCell w ⟨b, 0, none⟩ v bb hne]
  simpa only [hq] using hc i hi
theorem nodes_bound {t : Tre} (ho : t.ok = true) (i : Nat) (hi : i < t.size) : (-4096 ≤ (nodes t i).a ∧ (nodes t i).a ≤ 4096 ∨ 2048 < t.size) ∧ (-4096 ≤ (nodes t i).b ∧ (nodes t i).b ≤ 4096 ∨ 2048 < t.size) := by
  by_cases hs : 2048 < t.size
  · exact ⟨.inr hs, .inr hs⟩
  have hl : i < t.subs.length := by rw [Tre.subs_length]; exact hi
  have e := List.getElem?_eq_getElem hl
  rw [nodes_get e]
  have hok := subs_ok t i _ ho e
  obtain ⟨h1, _, _⟩ := subs_sub t i _ e
  generalize t.subs[i] = u at *
  cases u with
  | leaf n =>
    simp only [Tre.ok, Tre.lf, Bool.or_eq_true, Bool.and_eq_true] at hok
    simp only [Tre.nd]
    rcases hok with ⟨_, h⟩ | ⟨_, h⟩ <;> · rw [Nd.eq_iff] at h; rw [h]; simp
  | two k x y =>
    simp only [Tre.nd, Tre.size] at *
    omega
  | rep x l m z =>
    simp only [Tre.nd, Tre.size] at *
    omega
theorem nodes_bound' {t : Tre} (ho : t.ok = true) (hs : t.size ≤ 2048) : ∀ i, i < t.size → (-4096 ≤ (nodes t i).a ∧ (nodes t i).a ≤ 4096) ∧ (-4096 ≤ (nodes t i).b ∧ (nodes t i).b ≤ 4096) := fun i hi => by
  obtain ⟨h1, h2⟩ := nodes_bound ho i hi
  exact ⟨h1.resolve_right (by omega), h2.resolve_right (by omega)⟩
/-- Two lists of nodes, the second so many places further, and the node behind them. -/
theorem two_lists (k : Int) (x y : Tre) (hy : y.ok = true) : (ndsL (nodes x) x.size ++ ndsL (fun i => sh x.size (nodes y i)) y.size) ++ ndL ⟨k, 0, 0, 0, 0, x.size - 1, (x.size + y.size : Nat) - 1, 0, 0, false⟩ = ndsL (nodes (.two k x y)) (x.size + y.size + 1) := by
  rw [← ndsL_cat, ndsL]
  congr 1
  · refine ndsL_congr fun i hi => ?_
    rw [nodes_two k x y i hy (by omega)]
    unfold catF
    by_cases h : i < x.size
    · rw [if_pos h, if_pos h]
    · rw [if_neg h, if_neg h, if_pos hi]
  · rw [nodes_two k x y _ hy (by omega), if_neg (by omega), if_neg (by omega)]
    simp
set_option maxRecDepth 10000 in
set_option maxHeartbeats 2000000 in
theorem join_no (k : Int) (av bv : Value) (a b : Option Addr) (n m c d : Nat) (w : World) (hav : av = .agg #[.slice a n c]) (hbv : bv = .agg #[.slice b m d]) (hk : ¬ (k = 3 ∨ k = 4)) : Calls Try.prog 13 #[.int .i64 k, av, bv] w (RetT w 1 (nodes emp)) := by
  subst hav hbv
  have hj : (k == 3 || k == 4) = false := by simp; omega
  have HJ := joins_any k
  rw [hj] at HJ
  have HE := empty_any
  have hB := (below2 w (.cells #[.slice a n c] 24) (.cells #[.slice b m d] 24)).alloc (by simp; omega) (.cells #[.slice none 0 0] 24)
  have d2 : Cl (((w.alloc (.cells #[.slice a n c] 24)).alloc (.cells #[.slice b m d] 24)).alloc (.cells #[.slice none 0 0] 24)) (w.heap.size + 1 + 1) 24 [.slice none 0 0] := by
    have := Cl.new ((w.alloc (.cells #[.slice a n c] 24)).alloc (.cells #[.slice b m d] 24)) 24 [.slice none 0 0]
    simpa only [World.size_alloc] using this
  clear hj hk
  go_enter Try.func13, Try.ntmps13
  go_wp2_with (first | (go_at_call 35; refine (HJ _).mono ?_; rintro e w2 ⟨rfl, rfl⟩) | (go_at_call 33; refine (HE _).mono ?_; rintro e w2 ⟨ao2, c2, rfl, ho2, hb2⟩; have d3 := d2.below hb2; obtain ⟨d31, d32⟩ := d3.one))
  have dd := (d3.set 0 (.slice ao2 1 c2)).cell 0 rfl
  have hsz2 := hb2.size
  simp only [World.size_alloc] at hsz2
  have ho3 : OwN (w2.setCell ⟨w.heap.size + 1 + 1, 0, none⟩ (.slice ao2 1 c2)) w.heap.size ao2 1 c2 (nodes emp) := by
    refine ownsRow_base (ownsRow_at ho2 fun g' h1 h2 => ?_) (by simp; omega)
    simp only [World.size_alloc] at h1
    rw [Below.heap_setCell _ _ _ _ (by simp; omega)]
  exact bodyPost_ret (by simp [results, Try.results13, go_sem, dd]) rfl ⟨ao2, c2, rfl, ho3, (hB.trans (hb2.mono (by simp; omega))).setCell (p := ⟨w.heap.size + 1 + 1, 0, none⟩) (by simp; omega) _⟩
set_option maxRecDepth 10000 in
set_option maxHeartbeats 2000000 in
theorem join_yes (k : Int) (a b : Option Addr) (n m c d : Nat) (F G : Nat → Nd) (w : World) (hk : k = 3 ∨ k = 4) (ha : RdN w a n F) (hb : RdN w b m G) (hn : (n : Int) ≤ 9223372036854775807) (hm : (m : Int) ≤ 9223372036854775807) (hca : n ≤ c) (hcb : m ≤ d) : Calls Try.prog 13 #[.int .i64 k, .agg #[.slice a n c], .agg #[.slice b m d]] w (RetT w ((snd F n).size + (snd G m).size + 1) (nodes (.two k (snd F n) (snd G m)))) := by
  have hj : (k == 3 || k == 4) = true := by simp; omega
  have HJ := joins_any k
  rw [hj] at HJ
  obtain ⟨ox, sx⟩ := snd_ok F n
  obtain ⟨oy, sy⟩ := snd_ok G m
  have px := (snd F n).size_pos
  have py := (snd G m).size_pos
  have HA : Hid (∀ W, Below w.heap.size w W → Calls Try.prog 36 #[.agg #[.slice a n c]] W (RetSn W (snd F n))) := fun W hW => sound_any a n c F W (ha.below hW) hn hca
  have HB : Hid (∀ W, Below w.heap.size w W → Calls Try.prog 36 #[.agg #[.slice b m d]] W (RetSn W (snd G m))) := fun W hW => sound_any b m d G W (hb.below hW) hm hcb
  have hl := two_lists k (snd F n) (snd G m) oy
  have HM : Hid (∀ W a' c', RdN W (some a') (snd G m).size (nodes (snd G m)) → Calls Try.prog 38 #[.slice (some a') (snd G m).size c', .int .i64 ((snd F n).size : Nat)] W (RetN W (snd G m).size (fun i => sh (snd F n).size (nodes (snd G m) i)))) := fun W a' c' h => moved_any _ _ _ _ _ W h (by omega) (.inr ⟨_, rfl⟩) (nodes_bound' oy sy) (by omega)
  clear hj ha hb
  generalize snd F n = x at *
  generalize snd G m = y at *
  have hW0 := (below2 w (.cells #[.slice a n c] 24) (.cells #[.slice b m d] 24)).alloc (by simp; omega) (.cells #[.slice none 0 0] 24)
  have ka : Cl (((w.alloc (.cells #[.slice a n c] 24)).alloc (.cells #[.slice b m d] 24)).alloc (.cells #[.slice none 0 0] 24)) w.heap.size 24 [.slice a n c] := ((Cl.new w 24 [.slice a n c]).alloc _).alloc _
  have kb : Cl (((w.alloc (.cells #[.slice a n c] 24)).alloc (.cells #[.slice b m d] 24)).alloc (.cells #[.slice none 0 0] 24)) (w.heap.size + 1) 24 [.slice b m d] := by
    have := (Cl.new (w.alloc (.cells #[.slice a n c] 24)) 24 [.slice b m d]).alloc (.cells #[.slice none 0 0] 24)
    simpa only [World.size_alloc] using this
  have kr : Cl (((w.alloc (.cells #[.slice a n c] 24)).alloc (.cells #[.slice b m d] 24)).alloc (.cells #[.slice none 0 0] 24)) (w.heap.size + 1 + 1) 24 [.slice none 0 0] := by
    have := Cl.new ((w.alloc (.cells #[.slice a n c] 24)).alloc (.cells #[.slice b m d] 24)) 24 [.slice none 0 0]
    simpa only [World.size_alloc] using this
  go_enter Try.func13, Try.ntmps13
  go_wp2_with (go_at_call 35; refine (HJ _).mono ?_; rintro e w2 ⟨rfl, rfl⟩)
  refine (HA.out _ hW0).mono ?_
  rintro e w1 ⟨a1, cap1, b1, rfl, hr1, _, _, hB1⟩
  have ka1 := ka.below hB1
  have kb1 := (kb.below hB1).other (k := w.heap.size) (by omega) 0 (.slice (some a1) x.size cap1)
  have kr1 := (kr.below hB1).other (k := w.heap.size) (by omega) 0 (.slice (some a1) x.size cap1)
  have kx1 := ka1.set 0 (.slice (some a1) x.size cap1)
  have hr1' := hr1.put ka1 (.slice (some a1) x.size cap1)
  have hW1 : Below w.heap.size w (w1.setCell ⟨w.heap.size, 0, none⟩ (.slice (some a1) x.size cap1)) := (hW0.trans (hB1.mono (by simp; omega))).setCell (p := ⟨w.heap.size, 0, none⟩) (Nat.le_refl _) _
  obtain ⟨d1, d2⟩ := ka1.one
  obtain ⟨d3, d4⟩ := kb1.one
  clear ka kb kr hB1 hr1 HA HJ hW0
  have HB1 : Hid (Calls Try.prog 36 #[.agg #[.slice b m d]] (w1.setCell ⟨w.heap.size, 0, none⟩ (.slice (some a1) x.size cap1)) (RetSn (w1.setCell ⟨w.heap.size, 0, none⟩ (.slice (some a1) x.size cap1)) y)) := HB.out _ hW1
  go_wp2_with fail
  refine HB1.out.mono ?_
  rintro e w2 ⟨a2, cap2, b2, rfl, hr2, _, _, hB2⟩
  have kx2 := kx1.below hB2
  have kb2 := kb1.below hB2
  have kr2 := kr1.below hB2
  have hrx := (hr1'.below hB2).put kb2 (.slice (some a2) y.size cap2)
  have hry := hr2.put kb2 (.slice (some a2) y.size cap2)
  have kA := kx2.other (k := w.heap.size + 1) (by omega) 0 (.slice (some a2) y.size cap2)
  have kB := kb2.set 0 (.slice (some a2) y.size cap2)
  have kR := kr2.other (k := w.heap.size + 1) (by omega) 0 (.slice (some a2) y.size cap2)
  have hW : Below w.heap.size w (w2.setCell ⟨w.heap.size + 1, 0, none⟩ (.slice (some a2) y.size cap2)) := (hW1.trans (hB2.mono hW1.size)).setCell (p := ⟨w.heap.size + 1, 0, none⟩) (by simp) _
  obtain ⟨d5, d6⟩ := kb2.one
  have d7 := kA.cell 0 rfl
  clear kx1 kb1 kr1 hr1' hW1 d1 d2 d3 d4 HB HB1 kx2 kb2 kr2 hr2 hB2 ka1
  simp only [List.set_cons_zero] at kA kB
  go_wp2_with fail
  clear d5 d6 d7
  generalize hWW : w2.setCell ⟨w.heap.size + 1, 0, none⟩ (.slice (some a2) y.size cap2) = W at *
  clear hWW
  have HC : Hid (∀ V g3 c3, RdN V (some a1) x.size (nodes x) → RdN V (some ⟨g3, 0, none⟩) y.size (fun i => sh x.size (nodes y i)) → Calls Try.prog 37 #[.slice (some ⟨V.heap.size, 0, none⟩) 2 2] (V.alloc (.cells #[.slice (some a1) x.size cap1, .slice (some ⟨g3, 0, none⟩) y.size c3] 22)) fun e w' => ∃ ao cap, e = .returned (.slice ao (x.size + y.size) cap) ∧ w'.ownsRow V.heap.size 29 10 (.slice ao (x.size + y.size) cap) (x.size + y.size) (ndsL (nodes x) x.size ++ ndsL (fun i => sh x.size (nodes y i)) y.size) ∧ Below V.heap.size V w') := by
    intro V g3 c3 h1 h2
    have hB := below1 V (.cells #[.slice (some a1) x.size cap1, .slice (some ⟨g3, 0, none⟩) y.size c3] 22)
    have kn := Cl.new V 22 [.slice (some a1) x.size cap1, .slice (some ⟨g3, 0, none⟩) y.size c3]
    have := concat_any V.heap.size 2 (fun k => if k = 0 then a1 else ⟨g3, 0, none⟩) (fun k => if k = 0 then x.size else y.size) (fun k => if k = 0 then cap1 else c3) (fun k => if k = 0 then nodes x else fun i => sh x.size (nodes y i)) (V.alloc (.cells #[.slice (some a1) x.size cap1, .slice (some ⟨g3, 0, none⟩) y.size c3] 22)) (by simp) (by
      intro q hq
      have : q = 0 ∨ q = 1 := by omega
      rcases this with rfl | rfl
      · exact kn.cell 0 rfl
      · exact kn.cell 1 rfl) (by
      intro q hq
      have : q = 0 ∨ q = 1 := by omega
      rcases this with rfl | rfl
      · exact h1.below hB
      · exact h2.below hB) (by decide) (by simp [szK]; omega) (by simp [szK]; omega)
    refine this.mono ?_
    rintro e w' ⟨ao, cap, he, ho, hb⟩
    have e1 : szK (fun k => if k = 0 then x.size else y.size) 2 = x.size + y.size := by simp [szK]
    have e2 : lsK (fun k => if k = 0 then x.size else y.size) (fun k => if k = 0 then nodes x else fun i => sh x.size (nodes y i)) 2 = ndsL (nodes x) x.size ++ ndsL (fun i => sh x.size (nodes y i)) y.size := by simp [lsK]
    rw [e1] at he ho
    rw [e2] at ho
    exact ⟨ao, cap, he, ownsRow_base ho (by simp), hB.trans (hb.mono hB.size)⟩
  obtain ⟨i0, hi, hz0, hz1, hz2⟩ := info_parts b_node
  have dA := kA.cell 0 rfl
  have dB := kB.cell 0 rfl
  have szW : w.heap.size + 1 + 1 < W.heap.size := kR.lt
  go_region_with (first | (go_at_call 38; refine (HM.out _ _ _ (hry.below (Below.refl _ _).drew)).mono ?_; rintro e w3 ⟨ao3, c3, rfl, ho3, hb3⟩; obtain ⟨g3, rfl, hg3, hgB3, _, _⟩ := ho3.cells py; have kA3 := kA.drew.below hb3; have dA3 := kA3.cell 0 rfl) | (go_at_call 37; refine (HC.out _ _ _ ((hrx.below (Below.refl _ _).drew).below hb3) ho3.rd).mono ?_; rintro e w4 ⟨ao4, c4, rfl, ho4, hb4⟩))
  all_goals
    have kR4 := (kR.drew.below hb3).below hb4
    have hs3 : W.heap.size ≤ w3.heap.size := hb3.size
    have hs4 := hb4.size
    have hW4 : Below w.heap.size w w4 := (hW.drew.trans (hb3.mono (show w.heap.size ≤ W.heap.size by omega))).trans (hb4.mono (by omega))
    have ho5 : (w4.alloc (.cells (ndL ⟨k, 0, 0, 0, 0, x.size - 1, (x.size + y.size : Nat) - 1, 0, 0, false⟩).toArray 29)).ownsRow (w.heap.size + 1 + 1 + 1) 29 10 (.slice ao4 (x.size + y.size) c4) (x.size + y.size) (ndsL (nodes x) x.size ++ ndsL (fun i => sh x.size (nodes y i)) y.size) := ownsRow_below (ownsRow_base ho4 (by omega)) (below1 _ _)
    have how := ownsRow_own ho5
    have kn := Cl.new w4 29 (ndL ⟨k, 0, 0, 0, 0, x.size - 1, (x.size + y.size : Nat) - 1, 0, 0, false⟩)
    have hnews : Hid (∀ j u, (ndL ⟨k, 0, 0, 0, 0, x.size - 1, (x.size + y.size : Nat) - 1, 0, 0, false⟩)[j]? = some u → (w4.alloc (.cells (ndL ⟨k, 0, 0, 0, 0, x.size - 1, (x.size + y.size : Nat) - 1, 0, 0, false⟩).toArray 29)).cell? (Addr.add ⟨w4.heap.size, 0, none⟩ j) = some u) := by
      intro j u hj
      have := kn.cell j hj
      by_cases h0 : j = 0
      · subst h0; simpa [Addr.add] using this
      · simpa [Addr.add, h0] using this
    have h1c : Hid (∀ u ∈ ndL ⟨k, 0, 0, 0, 0, x.size - 1, (x.size + y.size : Nat) - 1, 0, 0, false⟩, u.oneCell' = true) := fun u hu => ndsL_oneCell (fun _ => ⟨k, 0, 0, 0, 0, x.size - 1, (x.size + y.size : Nat) - 1, 0, 0, false⟩) 1 u (by rw [ndsL_one]; exact hu)
    have HF : Hid (∀ v' w5, w5.ownsRow (w.heap.size + 1 + 1 + 1) 29 10 v' (x.size + y.size + 1) ((ndsL (nodes x) x.size ++ ndsL (fun i => sh x.size (nodes y i)) y.size) ++ ndL ⟨k, 0, 0, 0, 0, x.size - 1, (x.size + y.size : Nat) - 1, 0, 0, false⟩) → (w4.alloc (.cells (ndL ⟨k, 0, 0, 0, 0, x.size - 1, (x.size + y.size : Nat) - 1, 0, 0, false⟩).toArray 29)).grownBy w5 (Value.slice ao4 (x.size + y.size) c4).ownBlock → Cl w5 (w.heap.size + 1 + 1) 24 [.slice none 0 0] ∧ ∃ ao cap, v' = .slice ao (x.size + y.size + 1) cap ∧ OwN (w5.setCell ⟨w.heap.size + 1 + 1, 0, none⟩ v') w.heap.size ao (x.size + y.size + 1) cap (nodes (.two k x y)) ∧ Below w.heap.size w (w5.setCell ⟨w.heap.size + 1 + 1, 0, none⟩ v')) := by
      intro v' w5 h1 h2
      have hB5 : Below (w.heap.size + 1 + 1 + 1) w4 w5 := ((below1 w4 _).mono (by omega)).grown h2 (by simp; omega) how
      refine ⟨?_, ?_⟩
      · unfold Cl
        rw [hB5.block _ (by omega)]
        exact kR4
      · rw [hl] at h1
        obtain ⟨ao, cap, rfl⟩ := ownsRow_slice h1
        refine ⟨ao, cap, rfl, ?_, (hW4.trans (hB5.mono (by omega))).setCell (p := ⟨w.heap.size + 1 + 1, 0, none⟩) (by simp; omega) _⟩
        refine ownsRow_base (ownsRow_at h1 fun g' h1 h2 => ?_) (by omega)
        rw [Below.heap_setCell _ _ _ _ (by simp; omega)]
    have hsx : (x.size : Int) + (y.size : Int) ≤ 4096 := by omega
    have hbs : w.heap.size + 1 + 1 + 1 ≤ w4.heap.size := by omega
    unfold ndL at ho5 hnews h1c HF
    simp only [Int.natCast_add] at ho5 hnews h1c HF
    generalize ndsL (nodes x) x.size ++ ndsL (fun i => sh x.size (nodes y i)) y.size = xs at *
    clear kn hW4 hs3 hs4 kR4 ho4 hb4 hb3 dA dB kA kB kR hrx hry HC hl ho3 hg3 hgB3
    go_wp2_with (at_builtin; refine wpList_append_own _ rfl _ _ 22 rfl (w.heap.size + 1 + 1 + 1) 29 i0 _ 10 80 Try.underlying22 hi hz0 hz1 hz2 rfl (by decide) _ _ _ rfl ho5 ⟨w4.heap.size, 0, none⟩ 1 1 _ rfl rfl hnews.out h1c.out (by unfold maxLen; omega) (by omega) (by simp; omega) ?_; intro v' w5 hown hgr _; obtain ⟨kR5, ao5, c5, rfl, ho6, hb6⟩ := HF.out _ _ hown hgr; obtain ⟨d8, d9⟩ := kR5.one; have dd := (kR5.set 0 (.slice ao5 (x.size + y.size + 1) c5)).cell 0 rfl; clear hown hgr)
    exact bodyPost_ret (by simp [results, Try.results13, go_sem, dd]) rfl ⟨ao5, c5, rfl, ho6, hb6⟩
end Go.Proofs.Ytgedhjflminlbaa
