/- The reference's Join, Repeat: the walks. -/
import Derived.Test.YtgedhjflminlbaaPl
import Derived.Test.YtgedhjflminlbaaOw
namespace Go.Proofs.Ytgedhjflminlbaa
open Go.RowKit
theorem snd_zero (F : Nat → Nd) : (snd F 0).size = 1 := by simp [snd, treeOf, scanT, emp_size]
theorem near_or {w : World} {a : Option Addr} {n : Nat} {F : Nat → Nd} {ta : Addr} (h : RdN w a n F) (ho : some ta = a ∨ (snd F n).size = 1) : ta.block < w.heap.size ∨ (snd F n).size = 1 := by
  rcases ho with rfl | h1
  · by_cases hn : n = 0
    · subst hn; exact .inr (snd_zero F)
    · obtain ⟨bb, off, e, hb, _⟩ := h (by omega)
      obtain rfl := Option.some.inj e
      exact .inl hb
  · exact .inr h1
theorem cat_zero (Fl F : Nat → Nd) (n : Nat) : ndsL (catF 0 Fl (fun i => sh ((0 : Nat) : Int) (F i))) (0 + n) = ndsL F n := by
  rw [Nat.zero_add]
  exact ndsL_congr fun i _ => by simp [catF, sh_zero]
set_option maxRecDepth 10000 in
set_option maxHeartbeats 2000000 in
theorem rjoin_no (k : Int) (a b : Option Addr) (n m c d : Nat) (w : World) (hk : ¬ (k = 3 ∨ k = 4)) : Calls Try.prog 14 #[.int .i64 k, .agg #[.slice a n c], .agg #[.slice b m d]] w (RetT w 1 (nodes emp)) := by
  have n3 : (k != 3) = true := by simp; omega
  have n4 : (k != 4) = true := by simp; omega
  have hW0 : Below w.heap.size w (((w.alloc (.cells #[.slice a n c] 24)).alloc (.cells #[.slice b m d] 24)).alloc (.cells #[.slice none 0 0] 24)) := (below2 w _ _).alloc (by simp; omega) _
  have kr : Cl (((w.alloc (.cells #[.slice a n c] 24)).alloc (.cells #[.slice b m d] 24)).alloc (.cells #[.slice none 0 0] 24)) (w.heap.size + 1 + 1) 24 [.slice none 0 0] := by
    have := Cl.new ((w.alloc (.cells #[.slice a n c] 24)).alloc (.cells #[.slice b m d] 24)) 24 [.slice none 0 0]
    simpa only [World.size_alloc] using this
  have HE : Hid (∀ W, Calls Try.prog 34 #[] W (RetT W 1 (nodes emp))) := fun W => rempty_any W
  clear hk
  go_enter Try.func14, Try.ntmps14
  go_wp2_with (go_at_call 34; refine (HE.out _).mono ?_; rintro e w2 ⟨a2, c2, rfl, o2, b2⟩; have kr2 := kr.below b2; obtain ⟨d1, d2⟩ := kr2.one; have dd := (kr2.set 0 (.slice a2 1 c2)).cell 0 rfl; have p2 := fun g => own_block o2 (g := g))
  simp only [World.size_alloc] at p2
  have hq : RetT w 1 (nodes emp) (.returned (.agg #[.slice a2 1 c2])) (w2.setCell ⟨w.heap.size + 1 + 1, 0, none⟩ (.slice a2 1 c2)) := ⟨a2, c2, rfl, own_other (ownsRow_base o2 (by simp; omega)) (fun g hg => by have := p2 g hg; omega) _ _, (hW0.trans (b2.mono (by simp; omega))).setCell (p := ⟨w.heap.size + 1 + 1, 0, none⟩) (by simp; omega) _⟩
  exact bodyPost_ret (by simp [results, Try.results14, go_sem, dd]) rfl hq
set_option maxRecDepth 10000 in
set_option maxHeartbeats 4000000 in
theorem rjoin_yes (k : Int) (a b : Option Addr) (n m c d : Nat) (F G : Nat → Nd) (w : World) (hk : k = 3 ∨ k = 4) (ha : RdN w a n F) (hb : RdN w b m G) (hn : (n : Int) ≤ 9223372036854775807) (hm : (m : Int) ≤ 9223372036854775807) (hca : n ≤ c) (hcb : m ≤ d) : Calls Try.prog 14 #[.int .i64 k, .agg #[.slice a n c], .agg #[.slice b m d]] w (RetT w ((snd F n).size + (snd G m).size + 1) (nodes (.two k (snd F n) (snd G m)))) := by
  obtain ⟨ox, sx⟩ := snd_ok F n
  obtain ⟨oy, sy⟩ := snd_ok G m
  have px := (snd F n).size_pos
  have py := (snd G m).size_pos
  have hW0 : Below w.heap.size w (((w.alloc (.cells #[.slice a n c] 24)).alloc (.cells #[.slice b m d] 24)).alloc (.cells #[.slice none 0 0] 24)) := (below2 w _ _).alloc (by simp; omega) _
  have ka : Cl (((w.alloc (.cells #[.slice a n c] 24)).alloc (.cells #[.slice b m d] 24)).alloc (.cells #[.slice none 0 0] 24)) w.heap.size 24 [.slice a n c] := ((Cl.new w 24 [.slice a n c]).alloc _).alloc _
  have kb : Cl (((w.alloc (.cells #[.slice a n c] 24)).alloc (.cells #[.slice b m d] 24)).alloc (.cells #[.slice none 0 0] 24)) (w.heap.size + 1) 24 [.slice b m d] := by
    have := (Cl.new (w.alloc (.cells #[.slice a n c] 24)) 24 [.slice b m d]).alloc (.cells #[.slice none 0 0] 24)
    simpa only [World.size_alloc] using this
  have kr : Cl (((w.alloc (.cells #[.slice a n c] 24)).alloc (.cells #[.slice b m d] 24)).alloc (.cells #[.slice none 0 0] 24)) (w.heap.size + 1 + 1) 24 [.slice none 0 0] := by
    have := Cl.new ((w.alloc (.cells #[.slice a n c] 24)).alloc (.cells #[.slice b m d] 24)) 24 [.slice none 0 0]
    simpa only [World.size_alloc] using this
  have hszW : (((w.alloc (.cells #[.slice a n c] 24)).alloc (.cells #[.slice b m d] 24)).alloc (.cells #[.slice none 0 0] 24)).heap.size = w.heap.size + 3 := by simp
  have HA := rmay_any a n c F _ (ha.below hW0) hn hca
  have HB : Hid (∀ W, RdN W b m G → Calls Try.prog 40 #[.agg #[.slice b m d]] W (RetMy W b (snd G m))) := fun W h => rmay_any b m d G W h hm hcb
  have HRB : Hid (∀ W, Below w.heap.size w W → RdN W b m G) := fun W h => hb.below h
  have hoa := fun ta => near_or (ta := ta) ha
  have hob := fun ta => near_or (ta := ta) hb
  have bx := nodes_bound' ox sx
  have by_ := nodes_bound' oy sy
  have hlist := two_lists k (snd F n) (snd G m) oy
  have d0 := ka.cell 0 rfl
  obtain ⟨i0, hi, hz0, hz1, hz2⟩ := info_parts b_node
  clear ha hb ox oy
  generalize hX : snd F n = x at *
  generalize hY : snd G m = y at *
  clear hX hY
  have HP : Hid (∀ (lo : Option Addr) (kk lc : Nat) (Fl : Nat → Nd) (ta : Addr) (t : Tre) (tc : Nat) (W : World), W.ownsRow (w.heap.size + 3) 29 10 (.slice lo kk lc) kk (ndsL Fl kk) → w.heap.size + 3 ≤ W.heap.size → RdN W (some ta) t.size (nodes t) → (ta.block < w.heap.size ∨ t.size = 1) → (∀ i, i < t.size → (-4096 ≤ (nodes t i).a ∧ (nodes t i).a ≤ 4096) ∧ (-4096 ≤ (nodes t i).b ∧ (nodes t i).b ≤ 4096)) → kk ≤ 2048 → t.size ≤ 2048 → Calls Try.prog 39 #[.slice lo kk lc, .agg #[.slice (some ta) t.size tc]] W fun e w' => ∃ ao cap, e = .returned (.slice ao (kk + t.size) cap) ∧ w'.ownsRow (w.heap.size + 3) 29 10 (.slice ao (kk + t.size) cap) (kk + t.size) (ndsL (catF kk Fl (fun i => sh kk (nodes t i))) (kk + t.size)) ∧ Below (w.heap.size + 3) W w') := fun lo kk lc Fl ta t tc W h1 h2 h3 h4 h5 h6 h7 => placed_any (w.heap.size + 3) lo kk lc Fl ta t.size tc (nodes t) W h1 h2 h3 (h4.imp (fun h => by omega) id) h5 h6 h7
  have HP0 : Hid (∀ (ta : Addr) (tc : Nat) (W : World), w.heap.size + 3 ≤ W.heap.size → RdN W (some ta) x.size (nodes x) → (ta.block < w.heap.size ∨ x.size = 1) → Calls Try.prog 39 #[.slice none 0 0, .agg #[.slice (some ta) x.size tc]] W fun e w' => ∃ ao cap, e = .returned (.slice ao x.size cap) ∧ w'.ownsRow (w.heap.size + 3) 29 10 (.slice ao x.size cap) x.size (ndsL (nodes x) x.size) ∧ Below (w.heap.size + 3) W w') := fun ta tc W h1 h2 h3 => by
    refine (HP.out none 0 0 (fun _ => zN) ta x tc W (World.ownsRow_nil _ _ _ _) h1 h2 h3 bx (by omega) sx).mono ?_
    rintro e w' ⟨ao, cap, rfl, ho, hb⟩
    rw [cat_zero] at ho
    simp only [Nat.zero_add] at ho ⊢
    exact ⟨ao, cap, rfl, ho, hb⟩
  have HP1 : Hid (∀ (lo : Option Addr) (lc : Nat) (ta : Addr) (tc : Nat) (W : World), W.ownsRow (w.heap.size + 3) 29 10 (.slice lo x.size lc) x.size (ndsL (nodes x) x.size) → w.heap.size + 3 ≤ W.heap.size → RdN W (some ta) y.size (nodes y) → (ta.block < w.heap.size ∨ y.size = 1) → Calls Try.prog 39 #[.slice lo x.size lc, .agg #[.slice (some ta) y.size tc]] W fun e w' => ∃ ao cap, e = .returned (.slice ao (x.size + y.size) cap) ∧ w'.ownsRow (w.heap.size + 3) 29 10 (.slice ao (x.size + y.size) cap) (x.size + y.size) (ndsL (nodes x) x.size ++ ndsL (fun i => sh x.size (nodes y i)) y.size) ∧ Below (w.heap.size + 3) W w') := fun lo lc ta tc W h0 h1 h2 h3 => by
    refine (HP.out lo x.size lc (nodes x) ta y tc W h0 h1 h2 h3 by_ sx sy).mono ?_
    rintro e w' ⟨ao, cap, rfl, ho, hb⟩
    rw [ndsL_cat] at ho
    exact ⟨ao, cap, rfl, ho, hb⟩
  clear HP bx by_
  generalize hfx : ndsL (nodes x) x.size = lx at *
  generalize hfy : ndsL (fun i => sh x.size (nodes y i)) y.size = ly at *
  clear hfx hfy
  have hl1 : (x.size : Int) ≤ 2048 := by omega
  have hl2 : (y.size : Int) ≤ 2048 := by omega
  have m1 : Hid True := trivial
  have m2 : Hid True := trivial
  go_enter Try.func14, Try.ntmps14
  rcases hk with rfl | rfl
  · go_upto_region 6 with (first | (go_at_call 40; first | (clear m1; refine HA.mono ?_; rintro e w1 ⟨ta, c1, rfl, r1, _, or1, b1⟩; have s1 := b1.size; rw [hszW] at s1; have hB1 := hW0.trans (b1.mono (by simp; omega)); have kb1 := kb.below b1; have kr1 := kr.below b1; clear d0) | (refine (HB.out _ (HRB.out _ hB2)).mono ?_; rintro e w3 ⟨tb, c3, rfl, r3, _, or3, b3⟩; have s3 := b3.size; have hB3 := hB2.trans (b3.mono hB2.size); have o3 := ownsRow_below o2 b3; have kr3 := kr2.below b3; clear d0)) | (go_at_call 39; first | (clear m2; refine (HP0.out ta c1 w1 s1 r1 (hoa ta or1)).mono ?_; rintro e w2 ⟨ao2, c2, rfl, o2, b2⟩; have s2 := b2.size; have hB2 := hB1.trans (b2.mono (by omega)); have kb2 := kb1.belowB b2 (by omega); have kr2 := kr1.belowB b2 (by omega); have d0 := kb2.cell 0 rfl) | (refine (HP1.out ao2 c2 tb c3 w3 o3 (by omega) r3 (hob tb or3)).mono ?_; rintro e w4 ⟨ao4, c4, rfl, o4, b4⟩; have s4 := b4.size; have hB4 := hB3.trans (b4.mono (by omega)); have kr4 := kr3.belowB b4 (by omega))))
    have o5 := ownsRow_below o4 (below1 w4 (.cells (ndL ⟨3, 0, 0, 0, 0, (x.size : Int) - 1, (x.size : Int) + (y.size : Int) - 1, 0, 0, false⟩).toArray 29))
    have HN : Hid (∀ j' u, (ndL ⟨3, 0, 0, 0, 0, (x.size : Int) - 1, (x.size : Int) + (y.size : Int) - 1, 0, 0, false⟩)[j']? = some u → (w4.alloc (.cells (ndL ⟨3, 0, 0, 0, 0, (x.size : Int) - 1, (x.size : Int) + (y.size : Int) - 1, 0, 0, false⟩).toArray 29)).cell? (Addr.add ⟨w4.heap.size, 0, none⟩ j') = some u) := new_cells w4 ⟨3, 0, 0, 0, 0, (x.size : Int) - 1, (x.size : Int) + (y.size : Int) - 1, 0, 0, false⟩ _ (Below.refl _ _)
    have hlen : (x.size : Int) + (y.size : Int) ≤ 4096 := by omega
    have HZ : Hid (∀ v' w5, w5.ownsRow (w.heap.size + 3) 29 10 v' (x.size + y.size + 1) (lx ++ ly ++ ndL ⟨3, 0, 0, 0, 0, (x.size : Int) - 1, (x.size : Int) + (y.size : Int) - 1, 0, 0, false⟩) → (w4.alloc (.cells (ndL ⟨3, 0, 0, 0, 0, (x.size : Int) - 1, (x.size : Int) + (y.size : Int) - 1, 0, 0, false⟩).toArray 29)).grownBy w5 (Value.slice ao4 (x.size + y.size) c4).ownBlock → ∃ ao cap, v' = .slice ao (x.size + y.size + 1) cap ∧ Cl w5 (w.heap.size + 1 + 1) 24 [.slice none 0 0] ∧ RetT w (x.size + y.size + 1) (nodes (.two 3 x y)) (.returned (.agg #[.slice ao (x.size + y.size + 1) cap])) (w5.setCell ⟨w.heap.size + 1 + 1, 0, none⟩ (.slice ao (x.size + y.size + 1) cap))) := by
      intro v' w5 h1 h2
      obtain ⟨ao, cap, rfl⟩ := ownsRow_slice h1
      have hB5 : Below (w.heap.size + 3) w4 w5 := ((below1 w4 _).mono (by omega)).grown h2 (by simp; omega) (ownsRow_own o4)
      rw [← Int.natCast_add, hlist] at h1
      have hb := fun g hg => ownsRow_own h1 g hg
      exact ⟨ao, cap, rfl, kr4.belowB hB5 (by omega), ao, cap, rfl, own_other (ownsRow_base h1 (by omega)) (fun g hg => by have := hb g hg; omega) _ _, (hB4.trans (hB5.mono (by omega))).setCell (p := ⟨w.heap.size + 1 + 1, 0, none⟩) (by simp; omega) _⟩
    clear o4 hlist
    unfold ndL at HN HZ o5
    go_wp2_with (at_builtin; refine wpList_append_own _ rfl _ _ 22 rfl (w.heap.size + 3) 29 i0 _ 10 80 Try.underlying22 hi hz0 hz1 hz2 rfl (by decide) _ _ _ rfl o5 ⟨w4.heap.size, 0, none⟩ 1 1 [.int .i64 3, .int .u64 0, .int .u64 0, .int .u64 0, .int .u64 0, .int .i64 ((x.size : Int) - 1), .int .i64 ((x.size : Int) + (y.size : Int) - 1), .int .i64 0, .int .i64 0, .bool false] rfl rfl HN.out (by simp [Value.oneCell']) (by unfold maxLen; omega) (by omega) (by simp; omega) ?_; intro v' w5 hown hgr hnil'; obtain ⟨ao, cap, rfl, k5, hR⟩ := HZ.out v' w5 hown hgr; clear hown hgr hnil'; obtain ⟨d1, d2⟩ := k5.one; have dd := (k5.set 0 (.slice ao (x.size + y.size + 1) cap)).cell 0 rfl; have HQ : Hid _ := hR; clear hR)
    exact bodyPost_ret (by simp [results, Try.results14, go_sem, dd]) rfl HQ.out
  · go_upto_region 6 with (first | (go_at_call 40; first | (clear m1; refine HA.mono ?_; rintro e w1 ⟨ta, c1, rfl, r1, _, or1, b1⟩; have s1 := b1.size; rw [hszW] at s1; have hB1 := hW0.trans (b1.mono (by simp; omega)); have kb1 := kb.below b1; have kr1 := kr.below b1; clear d0) | (refine (HB.out _ (HRB.out _ hB2)).mono ?_; rintro e w3 ⟨tb, c3, rfl, r3, _, or3, b3⟩; have s3 := b3.size; have hB3 := hB2.trans (b3.mono hB2.size); have o3 := ownsRow_below o2 b3; have kr3 := kr2.below b3; clear d0)) | (go_at_call 39; first | (clear m2; refine (HP0.out ta c1 w1 s1 r1 (hoa ta or1)).mono ?_; rintro e w2 ⟨ao2, c2, rfl, o2, b2⟩; have s2 := b2.size; have hB2 := hB1.trans (b2.mono (by omega)); have kb2 := kb1.belowB b2 (by omega); have kr2 := kr1.belowB b2 (by omega); have d0 := kb2.cell 0 rfl) | (refine (HP1.out ao2 c2 tb c3 w3 o3 (by omega) r3 (hob tb or3)).mono ?_; rintro e w4 ⟨ao4, c4, rfl, o4, b4⟩; have s4 := b4.size; have hB4 := hB3.trans (b4.mono (by omega)); have kr4 := kr3.belowB b4 (by omega))))
    have o5 := ownsRow_below o4 (below1 w4 (.cells (ndL ⟨4, 0, 0, 0, 0, (x.size : Int) - 1, (x.size : Int) + (y.size : Int) - 1, 0, 0, false⟩).toArray 29))
    have HN : Hid (∀ j' u, (ndL ⟨4, 0, 0, 0, 0, (x.size : Int) - 1, (x.size : Int) + (y.size : Int) - 1, 0, 0, false⟩)[j']? = some u → (w4.alloc (.cells (ndL ⟨4, 0, 0, 0, 0, (x.size : Int) - 1, (x.size : Int) + (y.size : Int) - 1, 0, 0, false⟩).toArray 29)).cell? (Addr.add ⟨w4.heap.size, 0, none⟩ j') = some u) := new_cells w4 ⟨4, 0, 0, 0, 0, (x.size : Int) - 1, (x.size : Int) + (y.size : Int) - 1, 0, 0, false⟩ _ (Below.refl _ _)
    have hlen : (x.size : Int) + (y.size : Int) ≤ 4096 := by omega
    have HZ : Hid (∀ v' w5, w5.ownsRow (w.heap.size + 3) 29 10 v' (x.size + y.size + 1) (lx ++ ly ++ ndL ⟨4, 0, 0, 0, 0, (x.size : Int) - 1, (x.size : Int) + (y.size : Int) - 1, 0, 0, false⟩) → (w4.alloc (.cells (ndL ⟨4, 0, 0, 0, 0, (x.size : Int) - 1, (x.size : Int) + (y.size : Int) - 1, 0, 0, false⟩).toArray 29)).grownBy w5 (Value.slice ao4 (x.size + y.size) c4).ownBlock → ∃ ao cap, v' = .slice ao (x.size + y.size + 1) cap ∧ Cl w5 (w.heap.size + 1 + 1) 24 [.slice none 0 0] ∧ RetT w (x.size + y.size + 1) (nodes (.two 4 x y)) (.returned (.agg #[.slice ao (x.size + y.size + 1) cap])) (w5.setCell ⟨w.heap.size + 1 + 1, 0, none⟩ (.slice ao (x.size + y.size + 1) cap))) := by
      intro v' w5 h1 h2
      obtain ⟨ao, cap, rfl⟩ := ownsRow_slice h1
      have hB5 : Below (w.heap.size + 3) w4 w5 := ((below1 w4 _).mono (by omega)).grown h2 (by simp; omega) (ownsRow_own o4)
      rw [← Int.natCast_add, hlist] at h1
      have hb := fun g hg => ownsRow_own h1 g hg
      exact ⟨ao, cap, rfl, kr4.belowB hB5 (by omega), ao, cap, rfl, own_other (ownsRow_base h1 (by omega)) (fun g hg => by have := hb g hg; omega) _ _, (hB4.trans (hB5.mono (by omega))).setCell (p := ⟨w.heap.size + 1 + 1, 0, none⟩) (by simp; omega) _⟩
    clear o4 hlist
    unfold ndL at HN HZ o5
    go_wp2_with (at_builtin; refine wpList_append_own _ rfl _ _ 22 rfl (w.heap.size + 3) 29 i0 _ 10 80 Try.underlying22 hi hz0 hz1 hz2 rfl (by decide) _ _ _ rfl o5 ⟨w4.heap.size, 0, none⟩ 1 1 [.int .i64 4, .int .u64 0, .int .u64 0, .int .u64 0, .int .u64 0, .int .i64 ((x.size : Int) - 1), .int .i64 ((x.size : Int) + (y.size : Int) - 1), .int .i64 0, .int .i64 0, .bool false] rfl rfl HN.out (by simp [Value.oneCell']) (by unfold maxLen; omega) (by omega) (by simp; omega) ?_; intro v' w5 hown hgr hnil'; obtain ⟨ao, cap, rfl, k5, hR⟩ := HZ.out v' w5 hown hgr; clear hown hgr hnil'; obtain ⟨d1, d2⟩ := k5.one; have dd := (k5.set 0 (.slice ao (x.size + y.size + 1) cap)).cell 0 rfl; have HQ : Hid _ := hR; clear hR)
    exact bodyPost_ret (by simp [results, Try.results14, go_sem, dd]) rfl HQ.out
set_option maxRecDepth 10000 in
set_option maxHeartbeats 4000000 in
theorem rrepeat_any (a : Option Addr) (n c : Nat) (F : Nat → Nd) (l m : Int) (z : Bool) (w : World) (ha : RdN w a n F) (hn : (n : Int) ≤ 9223372036854775807) (hca : n ≤ c) : Calls Try.prog 16 #[.agg #[.slice a n c], .int .i64 l, .int .i64 m, .bool z] w (RetT w ((snd F n).size + 1) (nodes (.rep (snd F n) l m z))) := by
  obtain ⟨ox, sx⟩ := snd_ok F n
  have px := (snd F n).size_pos
  have hW0 := below2 w (.cells #[.slice a n c] 24) (.cells #[.slice none 0 0] 24)
  have ka : Cl ((w.alloc (.cells #[.slice a n c] 24)).alloc (.cells #[.slice none 0 0] 24)) w.heap.size 24 [.slice a n c] := (Cl.new w 24 [.slice a n c]).alloc _
  have kr : Cl ((w.alloc (.cells #[.slice a n c] 24)).alloc (.cells #[.slice none 0 0] 24)) (w.heap.size + 1) 24 [.slice none 0 0] := by
    have := Cl.new (w.alloc (.cells #[.slice a n c] 24)) 24 [.slice none 0 0]
    simpa only [World.size_alloc] using this
  have hszW : ((w.alloc (.cells #[.slice a n c] 24)).alloc (.cells #[.slice none 0 0] 24)).heap.size = w.heap.size + 2 := by simp
  have HA := rmay_any a n c F _ (ha.below hW0) hn hca
  have hoa := fun ta => near_or (ta := ta) ha
  have bx := nodes_bound' ox sx
  have hlist := rep_list (snd F n) l m z
  have d0 := ka.cell 0 rfl
  obtain ⟨i0, hi, hz0, hz1, hz2⟩ := info_parts b_node
  clear ha ox
  generalize hX : snd F n = x at *
  clear hX
  have HP0 : Hid (∀ (ta : Addr) (tc : Nat) (W : World), w.heap.size + 2 ≤ W.heap.size → RdN W (some ta) x.size (nodes x) → (ta.block < w.heap.size ∨ x.size = 1) → Calls Try.prog 39 #[.slice none 0 0, .agg #[.slice (some ta) x.size tc]] W fun e w' => ∃ ao cap, e = .returned (.slice ao x.size cap) ∧ w'.ownsRow (w.heap.size + 2) 29 10 (.slice ao x.size cap) x.size (ndsL (fun i => sh 0 (nodes x i)) x.size) ∧ Below (w.heap.size + 2) W w') := fun ta tc W h1 h2 h3 => by
    refine (placed_any (w.heap.size + 2) none 0 0 (fun _ => zN) ta x.size tc (nodes x) W (World.ownsRow_nil _ _ _ _) h1 h2 (h3.imp (fun h => by omega) id) bx (by omega) sx).mono ?_
    rintro e w' ⟨ao, cap, rfl, ho, hb⟩
    rw [cat_zero, ndsL_congr (G := fun i => sh 0 (nodes x i)) (fun i _ => (sh_zero _).symm)] at ho
    simp only [Nat.zero_add] at ho ⊢
    exact ⟨ao, cap, rfl, ho, hb⟩
  clear bx
  generalize hfx : ndsL (fun i => sh 0 (nodes x i)) x.size = lx at *
  clear hfx
  have hl1 : (x.size : Int) ≤ 2048 := by omega
  go_enter Try.func16, Try.ntmps16
  go_upto_region 2 with (first | (go_at_call 40; refine HA.mono ?_; rintro e w1 ⟨ta, c1, rfl, r1, _, or1, b1⟩; have s1 := b1.size; rw [hszW] at s1; have hB1 := hW0.trans (b1.mono (by simp; omega)); have kr1 := kr.below b1; clear d0) | (go_at_call 39; refine (HP0.out ta c1 w1 s1 r1 (hoa ta or1)).mono ?_; rintro e w4 ⟨ao4, c4, rfl, o4, b4⟩; have s4 := b4.size; have hB4 := hB1.trans (b4.mono (by omega)); have kr4 := kr1.belowB b4 (by omega)))
  have o5 := ownsRow_below o4 (below1 w4 (.cells (ndL ⟨5, 0, 0, 0, 0, (x.size : Int) - 1, 0, l, m, z⟩).toArray 29))
  have HN : Hid (∀ j' u, (ndL ⟨5, 0, 0, 0, 0, (x.size : Int) - 1, 0, l, m, z⟩)[j']? = some u → (w4.alloc (.cells (ndL ⟨5, 0, 0, 0, 0, (x.size : Int) - 1, 0, l, m, z⟩).toArray 29)).cell? (Addr.add ⟨w4.heap.size, 0, none⟩ j') = some u) := new_cells w4 ⟨5, 0, 0, 0, 0, (x.size : Int) - 1, 0, l, m, z⟩ _ (Below.refl _ _)
  have HZ : Hid (∀ v' w5, w5.ownsRow (w.heap.size + 2) 29 10 v' (x.size + 1) (lx ++ ndL ⟨5, 0, 0, 0, 0, (x.size : Int) - 1, 0, l, m, z⟩) → (w4.alloc (.cells (ndL ⟨5, 0, 0, 0, 0, (x.size : Int) - 1, 0, l, m, z⟩).toArray 29)).grownBy w5 (Value.slice ao4 x.size c4).ownBlock → ∃ ao cap, v' = .slice ao (x.size + 1) cap ∧ Cl w5 (w.heap.size + 1) 24 [.slice none 0 0] ∧ RetT w (x.size + 1) (nodes (.rep x l m z)) (.returned (.agg #[.slice ao (x.size + 1) cap])) (w5.setCell ⟨w.heap.size + 1, 0, none⟩ (.slice ao (x.size + 1) cap))) := by
    intro v' w5 h1 h2
    obtain ⟨ao, cap, rfl⟩ := ownsRow_slice h1
    have hB5 : Below (w.heap.size + 2) w4 w5 := ((below1 w4 _).mono (by omega)).grown h2 (by simp; omega) (ownsRow_own o4)
    rw [hlist] at h1
    have hb := fun g hg => ownsRow_own h1 g hg
    exact ⟨ao, cap, rfl, kr4.belowB hB5 (by omega), ao, cap, rfl, own_other (ownsRow_base h1 (by omega)) (fun g hg => by have := hb g hg; omega) _ _, (hB4.trans (hB5.mono (by omega))).setCell (p := ⟨w.heap.size + 1, 0, none⟩) (by simp) _⟩
  clear o4 hlist
  unfold ndL at HN HZ o5
  go_wp2_with (at_builtin; refine wpList_append_own _ rfl _ _ 22 rfl (w.heap.size + 2) 29 i0 _ 10 80 Try.underlying22 hi hz0 hz1 hz2 rfl (by decide) _ _ _ rfl o5 ⟨w4.heap.size, 0, none⟩ 1 1 [.int .i64 5, .int .u64 0, .int .u64 0, .int .u64 0, .int .u64 0, .int .i64 ((x.size : Int) - 1), .int .i64 0, .int .i64 l, .int .i64 m, .bool z] rfl rfl HN.out (by simp [Value.oneCell']) (by unfold maxLen; omega) (by omega) (by simp; omega) ?_; intro v' w5 hown hgr hnil'; obtain ⟨ao, cap, rfl, k5, hR⟩ := HZ.out v' w5 hown hgr; clear hown hgr hnil'; obtain ⟨d1, d2⟩ := k5.one; have dd := (k5.set 0 (.slice ao (x.size + 1) cap)).cell 0 rfl; have HQ : Hid _ := hR; clear hR)
  exact bodyPost_ret (by simp [results, Try.results16, go_sem, dd]) rfl HQ.out
end Go.Proofs.Ytgedhjflminlbaa
