/- The reference's may, placed: the walks. Trees in blocks of their own, and what a write into one leaves of the others. The reference's Join, Repeat: the walks. -/
import Derived.Test.YthbmfnibgjlkhaaDoorMa
import Derived.Test.YthbmfnibgjlkhaaDoorRl
import Derived.Test.YthbmfnibgjlkhaaDoorMc
namespace Go.Proofs.YthbmfnibgjlkhaaDoor
open Go.RowKit
/-- What may answers. -/
def RetMy (w : World) (a : Option Addr) (t : Tre) (e : Ending) (w' : World) : Prop := ∃ ta cap, e = .returned (.agg #[.slice (some ta) t.size cap]) ∧ RdN w' (some ta) t.size (nodes t) ∧ t.size ≤ cap ∧ (some ta = a ∨ t.size = 1) ∧ Below w.heap.size w w'
set_option maxHeartbeats 1000000 in
theorem rmay_any (a : Option Addr) (n c : Nat) (F : Nat → Nd) (w : World) (ha : RdN w a n F) (hn : (n : Int) ≤ 9223372036854775807) (hca : n ≤ c) : Calls Tryd.prog 58 #[.agg #[.slice a n c]] w (RetMy w a (snd F n)) := by
  have hW0 := below2 w (.cells #[.slice a n c] 48) (.cells #[.slice none 0 0] 48)
  have HM := may_any a n c F _ (ha.below hW0) hn
  have ka : Cl ((w.alloc (.cells #[.slice a n c] 48)).alloc (.cells #[.slice none 0 0] 48)) w.heap.size 48 [.slice a n c] := (Cl.new w 48 [.slice a n c]).alloc _
  have kr : Cl ((w.alloc (.cells #[.slice a n c] 48)).alloc (.cells #[.slice none 0 0] 48)) (w.heap.size + 1) 48 [.slice none 0 0] := by
    have := Cl.new (w.alloc (.cells #[.slice a n c] 48)) 48 [.slice none 0 0]
    simpa only [World.size_alloc] using this
  have HE : Hid (∀ W, Calls Tryd.prog 86 #[] W (RetT W 1 (nodes emp))) := fun W => rempty_any W
  cases hA : treeOf F n with
  | none =>
    rw [hA] at HM
    have hs : snd F n = emp := by simp [snd, hA]
    rw [hs]
    go_enter Tryd.func58, Tryd.ntmps58
    go_wp2_with (first | (go_at_call 51; refine HM.mono ?_; rintro e w1 ⟨rfl, hb1⟩; have kr1 := kr.below hb1) | (go_at_call 86; refine (HE.out _).mono ?_; rintro e w2 ⟨a2, c2, rfl, o2, b2⟩; have kr2 := kr1.below b2; obtain ⟨d1, d2⟩ := kr2.one; have dd := (kr2.set 0 (.slice a2 1 c2)).cell 0 rfl; have r2 := o2.rd; have cc2 := ownsRow_cap o2; obtain ⟨g, rfl, hgl, hgB, _⟩ := o2.cells (by decide)))
    have hq : RetMy w a emp (.returned (.agg #[.slice (some ⟨g, 0, none⟩) 1 c2])) (w2.setCell ⟨w.heap.size + 1, 0, none⟩ (.slice (some ⟨g, 0, none⟩) 1 c2)) := ⟨_, c2, rfl, r2.put kr2 _, cc2, .inr rfl, ((hW0.trans (hb1.mono (by simp; omega))).trans (b2.mono (by have := hb1.size; simp at this; omega))).setCell (p := ⟨w.heap.size + 1, 0, none⟩) (by simp) _⟩
    exact bodyPost_ret (by simp [results, Tryd.results58, go_sem, dd]) rfl hq
  | some t =>
    rw [hA] at HM
    obtain ⟨rfl, ho, hs, hF⟩ := treeOf_some hA
    have hs2 : snd F t.size = t := by simp [snd, hA]
    rw [hs2]
    have px := t.size_pos
    obtain ⟨bb, off, rfl, _, _⟩ := ha px
    have hr := (ha.below hW0).congr hF
    go_enter Tryd.func58, Tryd.ntmps58
    go_wp2_with (go_at_call 51; refine HM.mono ?_; rintro e w1 ⟨rfl, hb1⟩; have kr1 := kr.below hb1; have d0 := (ka.below hb1).cell 0 rfl; obtain ⟨d1, d2⟩ := kr1.one; have dd := (kr1.set 0 (.slice (some ⟨bb, off, none⟩) t.size c)).cell 0 rfl)
    exact bodyPost_ret (by simp [results, Tryd.results58, go_sem, dd]) rfl ⟨_, c, rfl, (hr.below hb1).put kr1 _, hca, .inl rfl, (hW0.trans (hb1.mono (by simp; omega))).setCell (p := ⟨w.heap.size + 1, 0, none⟩) (by simp) _⟩
theorem row_type {W : World} {B n cap X : Nat} {ao : Option Addr} {xs : List Value} {vs : List Value} (h : W.ownsRow B 82 10 (.slice ao n cap) n xs) (k : Cl W X 48 vs) : (Value.slice ao n cap).ownBlock ≠ some X := by
  intro e
  rcases h.2 with ⟨h', _⟩ | ⟨g, cap', cur, e', _, hc, _⟩
  · rw [h'] at e; cases e
  · rw [e'] at e
    have : g = X := by simpa [Value.ownBlock] using e
    subst this
    rw [k] at hc
    cases hc
set_option maxRecDepth 10000 in
set_option maxHeartbeats 2000000 in
theorem placed_any (B : Nat) (lo : Option Addr) (k lc : Nat) (Fl : Nat → Nd) (ta : Addr) (tn tc : Nat) (Ft : Nat → Nd) (w : World) (hl : w.ownsRow B 82 10 (.slice lo k lc) k (ndsL Fl k)) (hBw : B ≤ w.heap.size) (ht : RdN w (some ta) tn Ft) (hT : ta.block < B ∨ tn = 1) (hF : ∀ i, i < tn → (-4096 ≤ (Ft i).a ∧ (Ft i).a ≤ 4096) ∧ (-4096 ≤ (Ft i).b ∧ (Ft i).b ≤ 4096)) (hk : k ≤ 2048) (htn : tn ≤ 2048) :
    Calls Tryd.prog 63 #[.slice lo k lc, .agg #[.slice (some ta) tn tc]] w fun e w' => ∃ ao cap, e = .returned (.slice ao (k + tn) cap) ∧ w'.ownsRow B 82 10 (.slice ao (k + tn) cap) (k + tn) (ndsL (catF k Fl (fun i => sh k (Ft i))) (k + tn)) ∧ Below B w w' := by
  obtain ⟨i0, hi, hz0, hz1, hz2⟩ := info_parts b_node
  have hW0 := below1 w (.cells #[.slice (some ta) tn tc] 48)
  have k0 := Cl.new w 48 [.slice (some ta) tn tc]
  have ht0 := ht.below hW0
  have hl0 := ownsRow_below hl hW0
  have hb0 : Below B w (w.alloc (.cells #[.slice (some ta) tn tc] 48)) := (Below.refl _ _).alloc hBw _
  have hcat0 : ndsL (catF k Fl (fun i => sh k (Ft i))) (k + 0) = ndsL Fl k := by rw [ndsL_cat]; simp [ndsL]
  clear ht hl
  go_enter Tryd.func63, Tryd.ntmps63
  go_wp2
  go_loopw [0, 6] (fun v i wr => ∃ j : Nat, j ≤ tn ∧ i = .int .i64 (j : Nat) ∧ wr.ownsRow B 82 10 v (k + j) (ndsL (catF k Fl (fun i => sh k (Ft i))) (k + j)) ∧ (j < tn → RdN wr (some ta) tn Ft) ∧ Cl wr w.heap.size 48 [.slice (some ta) tn tc] ∧ Below B w wr) (fun _ i _ => tn - (intOf i).toNat)
  case atStart => exact ⟨0, Nat.zero_le _, rfl, by rw [hcat0]; exact hl0, fun _ => ht0, k0, hb0⟩
  case round =>
    obtain ⟨j, hj, rfl, hrow, hrd, kb, hb⟩ := hrel
    clear hl0 ht0 k0 hb0 hcat0 hW0
    obtain ⟨av, cv, rfl⟩ := ownsRow_slice hrow
    have d0 := kb.cell 0 rfl
    by_cases hlt : j < tn
    · have hji : (j : Int) < (tn : Int) := by omega
      have hr := hrd hlt
      obtain ⟨bb, off, ea, hbb, hc⟩ := hr (by omega)
      obtain rfl := Option.some.inj ea
      obtain ⟨c0, c1, c2, c3, c4, c5, c6, c7, c8, c9⟩ := hc j hlt
      obtain ⟨⟨a1, a2⟩, b1, b2⟩ := hF j hlt
      have HG : Hid (∀ (o o' : Obj) v' w2, w2.ownsRow B 82 10 v' (k + j + 1) (ndsL (catF k Fl (fun i => sh k (Ft i))) (k + j) ++ ndL (sh k (Ft j))) → ((wr.alloc o).alloc o').grownBy w2 (Value.slice av (k + j) cv).ownBlock → ∃ j' : Nat, j' ≤ tn ∧ Value.int .i64 ((j : Int) + 1) = .int .i64 (j' : Nat) ∧ w2.ownsRow B 82 10 v' (k + j') (ndsL (catF k Fl (fun i => sh k (Ft i))) (k + j')) ∧ (j' < tn → RdN w2 (some ⟨bb, off, none⟩) tn Ft) ∧ Cl w2 w.heap.size 48 [.slice (some ⟨bb, off, none⟩) tn tc] ∧ Below B w w2) := by
        intro o o' v' w2 h1 h2
        have hown := ownsRow_own hrow
        have hB2 : Below B wr w2 := ((below2 wr o o').mono (Nat.le_trans hBw hb.size)).grown h2 (by simp; have := hb.size; omega) hown
        refine ⟨j + 1, hlt, by simp, ?_, fun hj2 => ?_, ?_, hb.trans hB2⟩
        · have e : ndsL (catF k Fl (fun i => sh k (Ft i))) (k + (j + 1)) = ndsL (catF k Fl (fun i => sh k (Ft i))) (k + j) ++ ndL (sh k (Ft j)) := by
            rw [← Nat.add_assoc, ndsL]
            simp [catF, show ¬ k + j < k by omega]
          rw [e]
          exact h1
        · rcases hT with h | h
          · intro hn
            obtain ⟨b', off', e', hb', hc'⟩ := hr hn
            obtain ⟨rfl, rfl⟩ : bb = b' ∧ off = off' := by simpa using e'
            refine ⟨bb, off, rfl, Nat.lt_of_lt_of_le hb' hB2.size, fun q hq => ?_⟩
            have q0 : ∀ i, w2.cell? ⟨bb, i, none⟩ = wr.cell? ⟨bb, i, none⟩ := fun i => hB2.cell (p := ⟨bb, i, none⟩) h
            rw [q0, q0, q0, q0, q0, q0, q0, q0, q0, q0]
            exact hc' q hq
          · omega
        · have hne := row_type hrow kb
          have kb2 := (kb.alloc o).alloc o'
          unfold Cl
          rw [h2.block w.heap.size kb2.lt (fun e => hne e.symm)]
          exact kb2
      have HR : Hid (∀ (o o' : Obj), ((wr.alloc o).alloc o').ownsRow B 82 10 (.slice av (k + j) cv) (k + j) (ndsL (catF k Fl (fun i => sh k (Ft i))) (k + j)) ∧ B ≤ ((wr.alloc o).alloc o').heap.size) := fun o o' => ⟨ownsRow_below hrow (below2 wr o o'), by simp; have := hb.size; omega⟩
      have kX := Cl.new wr 82 (ndL (Ft j))
      have d1 := (kb.alloc (.cells (ndL (Ft j)).toArray 82)).cell 0 rfl
      by_cases k34 : (Ft j).k = 3 ∨ (Ft j).k = 4
      · rcases k34 with e | e
        · generalize Ft j = q at *
          obtain ⟨kk, x0, x1, x2, x3, a, b, l, m, z⟩ := q
          dsimp only at *
          subst e
          have hsh : sh (k : Int) ⟨3, x0, x1, x2, x3, a, b, l, m, z⟩ = ⟨3, x0, x1, x2, x3, (a + k), (b + k), l, m, z⟩ := sh34 (k : Int) (.inl rfl)
          rw [hsh] at HG
          have HN : Hid (∀ j' u, (ndL ⟨3, x0, x1, x2, x3, (a + k), (b + k), l, m, z⟩)[j']? = some u → ((wr.alloc (.cells (ndL ⟨3, x0, x1, x2, x3, (a + k), (b + k), l, m, z⟩).toArray 82)).alloc (.cells (ndL ⟨3, x0, x1, x2, x3, (a + k), (b + k), l, m, z⟩).toArray 82)).cell? (Addr.add ⟨wr.heap.size + 1, 0, none⟩ j') = some u) := by
            have := new_cells (wr.alloc (.cells (ndL ⟨3, x0, x1, x2, x3, (a + k), (b + k), l, m, z⟩).toArray 82)) ⟨3, x0, x1, x2, x3, (a + k), (b + k), l, m, z⟩ _ (Below.refl _ _)
            simp only [World.size_alloc] at this
            exact this
          clear hsh hF hc hr hrd hrow
          unfold ndL at HN HG kX d1
          dsimp only at HN HG kX d1
          go_wp2_with (at_builtin; refine wpList_append_own _ rfl _ _ 46 rfl B 82 i0 _ 10 80 Tryd.underlying46 hi hz0 hz1 hz2 rfl (by decide) _ _ _ rfl (HR.out _ _).1 ⟨wr.heap.size + 1, 0, none⟩ 1 1 [.int .i64 3, .int .u64 x0, .int .u64 x1, .int .u64 x2, .int .u64 x3, .int .i64 (a + k), .int .i64 (b + k), .int .i64 l, .int .i64 m, .bool z] rfl rfl HN.out (by simp [Value.oneCell']) (by unfold maxLen; omega) (by omega) (HR.out _ _).2 ?_; intro v' w2 hown hgr hnil'; have HY : Hid _ := HG.out _ _ v' w2 hown hgr; clear hown hgr hnil')
          go_roundw
          case rel => exact HY.out
          case measure => simp [intOf]; omega
        · generalize Ft j = q at *
          obtain ⟨kk, x0, x1, x2, x3, a, b, l, m, z⟩ := q
          dsimp only at *
          subst e
          have hsh : sh (k : Int) ⟨4, x0, x1, x2, x3, a, b, l, m, z⟩ = ⟨4, x0, x1, x2, x3, (a + k), (b + k), l, m, z⟩ := sh34 (k : Int) (.inr rfl)
          rw [hsh] at HG
          have HN : Hid (∀ j' u, (ndL ⟨4, x0, x1, x2, x3, (a + k), (b + k), l, m, z⟩)[j']? = some u → ((wr.alloc (.cells (ndL ⟨4, x0, x1, x2, x3, (a + k), (b + k), l, m, z⟩).toArray 82)).alloc (.cells (ndL ⟨4, x0, x1, x2, x3, (a + k), (b + k), l, m, z⟩).toArray 82)).cell? (Addr.add ⟨wr.heap.size + 1, 0, none⟩ j') = some u) := by
            have := new_cells (wr.alloc (.cells (ndL ⟨4, x0, x1, x2, x3, (a + k), (b + k), l, m, z⟩).toArray 82)) ⟨4, x0, x1, x2, x3, (a + k), (b + k), l, m, z⟩ _ (Below.refl _ _)
            simp only [World.size_alloc] at this
            exact this
          clear hsh hF hc hr hrd hrow
          unfold ndL at HN HG kX d1
          dsimp only at HN HG kX d1
          go_wp2_with (at_builtin; refine wpList_append_own _ rfl _ _ 46 rfl B 82 i0 _ 10 80 Tryd.underlying46 hi hz0 hz1 hz2 rfl (by decide) _ _ _ rfl (HR.out _ _).1 ⟨wr.heap.size + 1, 0, none⟩ 1 1 [.int .i64 4, .int .u64 x0, .int .u64 x1, .int .u64 x2, .int .u64 x3, .int .i64 (a + k), .int .i64 (b + k), .int .i64 l, .int .i64 m, .bool z] rfl rfl HN.out (by simp [Value.oneCell']) (by unfold maxLen; omega) (by omega) (HR.out _ _).2 ?_; intro v' w2 hown hgr hnil'; have HY : Hid _ := HG.out _ _ v' w2 hown hgr; clear hown hgr hnil')
          go_roundw
          case rel => exact HY.out
          case measure => simp [intOf]; omega
      · by_cases k5 : (Ft j).k = 5
        · have e := k5
          clear k34 k5
          generalize Ft j = q at *
          obtain ⟨kk, x0, x1, x2, x3, a, b, l, m, z⟩ := q
          dsimp only at *
          subst e
          have hsh : sh (k : Int) ⟨5, x0, x1, x2, x3, a, b, l, m, z⟩ = ⟨5, x0, x1, x2, x3, (a + k), b, l, m, z⟩ := sh5 (k : Int) rfl
          rw [hsh] at HG
          have HN : Hid (∀ j' u, (ndL ⟨5, x0, x1, x2, x3, (a + k), b, l, m, z⟩)[j']? = some u → ((wr.alloc (.cells (ndL ⟨5, x0, x1, x2, x3, (a + k), b, l, m, z⟩).toArray 82)).alloc (.cells (ndL ⟨5, x0, x1, x2, x3, (a + k), b, l, m, z⟩).toArray 82)).cell? (Addr.add ⟨wr.heap.size + 1, 0, none⟩ j') = some u) := by
            have := new_cells (wr.alloc (.cells (ndL ⟨5, x0, x1, x2, x3, (a + k), b, l, m, z⟩).toArray 82)) ⟨5, x0, x1, x2, x3, (a + k), b, l, m, z⟩ _ (Below.refl _ _)
            simp only [World.size_alloc] at this
            exact this
          clear hsh hF hc hr hrd hrow
          unfold ndL at HN HG kX d1
          dsimp only at HN HG kX d1
          go_wp2_with (at_builtin; refine wpList_append_own _ rfl _ _ 46 rfl B 82 i0 _ 10 80 Tryd.underlying46 hi hz0 hz1 hz2 rfl (by decide) _ _ _ rfl (HR.out _ _).1 ⟨wr.heap.size + 1, 0, none⟩ 1 1 [.int .i64 5, .int .u64 x0, .int .u64 x1, .int .u64 x2, .int .u64 x3, .int .i64 (a + k), .int .i64 b, .int .i64 l, .int .i64 m, .bool z] rfl rfl HN.out (by simp [Value.oneCell']) (by unfold maxLen; omega) (by omega) (HR.out _ _).2 ?_; intro v' w2 hown hgr hnil'; have HY : Hid _ := HG.out _ _ v' w2 hown hgr; clear hown hgr hnil')
          go_roundw
          case rel => exact HY.out
          case measure => simp [intOf]; omega
        · have n3 : ((Ft j).k == 3) = false := by simp; omega
          have n4 : ((Ft j).k == 4) = false := by simp; omega
          have n5 : ((Ft j).k == 5) = false := by simp; omega
          have hsh : sh (k : Int) (Ft j) = (Ft j) := sh0 (k : Int) (by omega)
          rw [hsh] at HG
          have HN : Hid (∀ j' u, (ndL (Ft j))[j']? = some u → ((wr.alloc (.cells (ndL (Ft j)).toArray 82)).alloc (.cells (ndL (Ft j)).toArray 82)).cell? (Addr.add ⟨wr.heap.size + 1, 0, none⟩ j') = some u) := by
            have := new_cells (wr.alloc (.cells (ndL (Ft j)).toArray 82)) (Ft j) _ (Below.refl _ _)
            simp only [World.size_alloc] at this
            exact this
          clear hsh hF hc hr hrd hrow
          unfold ndL at HN HG
          unfold ndL at kX d1
          obtain ⟨⟨f0, f1, f2, f3, f4, f5, f6, f7, f8, f9⟩, _⟩ := kX.ten
          generalize Ft j = q at *
          go_wp2_with (at_builtin; refine wpList_append_own _ rfl _ _ 46 rfl B 82 i0 _ 10 80 Tryd.underlying46 hi hz0 hz1 hz2 rfl (by decide) _ _ _ rfl (HR.out _ _).1 ⟨wr.heap.size + 1, 0, none⟩ 1 1 [.int .i64 q.k, .int .u64 q.c0, .int .u64 q.c1, .int .u64 q.c2, .int .u64 q.c3, .int .i64 q.a, .int .i64 q.b, .int .i64 q.l, .int .i64 q.m, .bool q.z] rfl rfl HN.out (by simp [Value.oneCell']) (by unfold maxLen; omega) (by omega) (HR.out _ _).2 ?_; intro v' w2 hown hgr hnil'; have HY : Hid _ := HG.out _ _ v' w2 hown hgr; clear hown hgr hnil')
          go_roundw
          case rel => exact HY.out
          case measure => simp [intOf]; omega
    · obtain rfl : j = tn := by omega
      have hji : ¬ (j : Int) < (j : Int) := by omega
      have HR : Hid _ := hrow
      clear hrow hrd
      go_wp2
      go_ret
      exact ⟨av, cv, rfl, HR.out, hb⟩
end Go.Proofs.YthbmfnibgjlkhaaDoor
namespace Go.Proofs.YthbmfnibgjlkhaaDoor
open Go.RowKit
theorem own_block {W : World} {B : Nat} {ao : Option Addr} {n cap : Nat} {F : Nat → Nd} (h : OwN W B ao n cap F) {g : Nat} (hg : (Value.slice ao n cap).ownBlock = some g) : B ≤ g ∧ g < W.heap.size ∧ ao = some ⟨g, 0, none⟩ := by
  rcases h.2 with ⟨h', _⟩ | ⟨g', cap', cur, e, hB, hc, _⟩
  · rw [h'] at hg; simp [Value.ownBlock] at hg
  · rw [e] at hg
    have e2 : g' = g := by simpa [Value.ownBlock] using hg
    subst e2
    exact ⟨hB, (Array.getElem?_eq_some_iff.1 hc).1, by simpa using (show Value.slice ao n cap = Value.slice (some ⟨g', 0, none⟩) n cap' from e) |> fun h => by injection h⟩
theorem own_flip {W : World} {B g n cap : Nat} {F : Nat → Nd} (h : OwN W B (some ⟨g, 0, none⟩) n cap F) {j : Nat} (hj : j < n) (x : Int) : OwN (W.setCell ⟨g, j * 10, none⟩ (.int .i64 x)) B (some ⟨g, 0, none⟩) n cap (updN F j { F j with k := x }) ∧ W.cell? ⟨g, j * 10, none⟩ = some (.int .i64 (F j).k) ∧ W.frozen? ⟨g, j * 10, none⟩ = false := by
  rcases h.2 with ⟨h', _⟩ | ⟨g', cap', cur, e, hB, hc, hle, hmx, hsz, ht⟩
  · cases h'
  · obtain ⟨rfl, rfl⟩ : g = g' ∧ cap = cap' := by
      injection e with e1 e2 e3
      injection e1 with e1
      injection e1 with e1
      exact ⟨e1, e3⟩
    have hcl : Cl W g 82 cur.toList := by unfold Cl; simpa using hc
    have hlen : j * 10 < cur.toList.length := by simp; omega
    have h0 : (ndsL F n)[j * 10]? = some (.int .i64 (F j).k) := by
      have := ndsL_get F n j 0 hj (by decide)
      simpa [ndL] using this
    have hcell : cur.toList[j * 10]? = some (.int .i64 (F j).k) := by
      rw [← ht, List.getElem?_take_of_lt (by omega)] at h0
      exact h0
    refine ⟨⟨ndsL_len _ n, .inr ⟨g, cap, (cur.toList.set (j * 10) (.int .i64 x)).toArray, rfl, hB, ?_, hle, hmx, by simpa using hsz, ?_⟩⟩, hcl.cell _ hcell, hcl.frozen _⟩
    · exact hcl.set (j * 10) (.int .i64 x)
    · have := ndsL_set F n j 0 (.int .i64 x) { F j with k := x } hj (by decide) (by simp [ndL])
      rw [Nat.add_zero] at this
      rw [← this, ← ht]
      simp [List.take_set]
theorem own_other {W : World} {B : Nat} {ao : Option Addr} {n cap : Nat} {F : Nat → Nd} (h : OwN W B ao n cap F) {g : Nat} (hg : ∀ g', (Value.slice ao n cap).ownBlock = some g' → g' ≠ g) (i : Nat) (v : Value) : OwN (W.setCell ⟨g, i, none⟩ v) B ao n cap F := by
  refine ⟨h.1, ?_⟩
  rcases h.2 with h' | ⟨g', cap', cur, e, hB, hc, r⟩
  · exact .inl h'
  · refine .inr ⟨g', cap', cur, e, hB, ?_, r⟩
    rw [set_heap _ _ _ _ (hg g' (by rw [e]; simp [Value.ownBlock]))]
    exact hc
theorem own_below {W W' : World} {B : Nat} {ao : Option Addr} {n cap : Nat} {F : Nat → Nd} (h : OwN W B ao n cap F) (hb : Below W.heap.size W W') : OwN W' B ao n cap F := ownsRow_below h hb
/-- A list of trees, each in a block of its own. -/
structure Sv (LB B : Nat) (L : List Value) (W : World) : Prop where
  list : Cl W LB 48 L
  own : ∀ v ∈ L, ∃ ao n cap F, v = .slice ao n cap ∧ OwN W B ao n cap F ∧ (n : Int) ≤ 9223372036854775806
  rise : L.Pairwise fun v u => ∀ g g', v.ownBlock = some g → u.ownBlock = some g' → g < g'
  lt : ∀ v ∈ L, ∀ g, v.ownBlock = some g → g < LB
theorem Sv.below {LB B : Nat} {L : List Value} {W W' : World} (h : Sv LB B L W) (hb : Below W.heap.size W W') : Sv LB B L W' :=
  ⟨h.list.below hb, fun v hv => let ⟨ao, n, cap, F, e, ho, hn⟩ := h.own v hv; ⟨ao, n, cap, F, e, own_below ho hb, hn⟩, h.rise, h.lt⟩
theorem Sv.flip {LB B : Nat} {L : List Value} {W : World} (h : Sv LB B L W) {k g n cap : Nat} (hk : L[k]? = some (.slice (some ⟨g, 0, none⟩) n cap)) {j : Nat} (hj : j < n) (x : Int) : Sv LB B L (W.setCell ⟨g, j * 10, none⟩ (.int .i64 x)) := by
  have hmem : Value.slice (some ⟨g, 0, none⟩) n cap ∈ L := List.mem_of_getElem? hk
  have hgb : (Value.slice (some ⟨g, 0, none⟩) n cap).ownBlock = some g := by simp [Value.ownBlock]
  have hlt := h.lt _ hmem g hgb
  refine ⟨h.list.other (by omega) _ _, fun v hv => ?_, h.rise, h.lt⟩
  obtain ⟨ao, n', cap', F, rfl, ho, hn⟩ := h.own v hv
  by_cases e : (Value.slice ao n' cap').ownBlock = some g
  · obtain ⟨i, hi⟩ := List.getElem?_of_mem hv
    have hil := (List.getElem?_eq_some_iff.1 hi)
    have hkl := (List.getElem?_eq_some_iff.1 hk)
    have hik : i = k := by
      have hp := List.pairwise_iff_getElem.1 h.rise
      rcases Nat.lt_trichotomy i k with hlt' | heq | hlt'
      · have := hp i k hil.1 hkl.1 hlt' g g (by rw [hil.2]; exact e) (by rw [hkl.2]; exact hgb)
        omega
      · exact heq
      · have := hp k i hkl.1 hil.1 hlt' g g (by rw [hkl.2]; exact hgb) (by rw [hil.2]; exact e)
        omega
    subst hik
    rw [hk] at hi
    have hi' := Option.some.inj hi
    injection hi' with e1 e2 e3
    subst e1 e2 e3
    exact ⟨_, _, _, _, rfl, (own_flip ho hj x).1, hn⟩
  · exact ⟨_, _, _, F, rfl, own_other ho (fun g' hg' => by rintro rfl; exact e hg') _ _, hn⟩
end Go.Proofs.YthbmfnibgjlkhaaDoor
namespace Go.Proofs.YthbmfnibgjlkhaaDoor
open Go.RowKit
theorem snd_zero (F : Nat → Nd) : (snd F 0).size = 1 := by simp [snd, treeOf, scanT, emp_size]
theorem near_or {w : World} {a : Option Addr} {n : Nat} {F : Nat → Nd} {ta : Addr} (h : RdN w a n F) (ho : some ta = a ∨ (snd F n).size = 1) : ta.block < w.heap.size ∨ (snd F n).size = 1 := by
  rcases ho with rfl | h1
  · by_cases hn : n = 0
    · subst hn; exact .inr (snd_zero F)
    · obtain ⟨bb, off, e, hb, _⟩ := h (by omega)
      obtain rfl := Option.some.inj e
      exact .inl hb
  · exact .inr h1
theorem cat_zero (Fl F : Nat → Nd) (n : Nat) : ndsL (catF 0 Fl (fun i => sh ((0 : Nat) : Int) (F i))) (0 + n) = ndsL F n := by
  rw [Nat.zero_add]
  exact ndsL_congr fun i _ => by simp [catF, sh_zero]
set_option maxRecDepth 10000 in
set_option maxHeartbeats 2000000 in
theorem rjoin_no (k : Int) (a b : Option Addr) (n m c d : Nat) (w : World) (hk : ¬ (k = 3 ∨ k = 4)) : Calls Tryd.prog 61 #[.int .i64 k, .agg #[.slice a n c], .agg #[.slice b m d]] w (RetT w 1 (nodes emp)) := by
  have n3 : (k != 3) = true := by simp; omega
  have n4 : (k != 4) = true := by simp; omega
  have hW0 : Below w.heap.size w (((w.alloc (.cells #[.slice a n c] 48)).alloc (.cells #[.slice b m d] 48)).alloc (.cells #[.slice none 0 0] 48)) := (below2 w _ _).alloc (by simp; omega) _
  have kr : Cl (((w.alloc (.cells #[.slice a n c] 48)).alloc (.cells #[.slice b m d] 48)).alloc (.cells #[.slice none 0 0] 48)) (w.heap.size + 1 + 1) 48 [.slice none 0 0] := by
    have := Cl.new ((w.alloc (.cells #[.slice a n c] 48)).alloc (.cells #[.slice b m d] 48)) 48 [.slice none 0 0]
    simpa only [World.size_alloc] using this
  have HE : Hid (∀ W, Calls Tryd.prog 86 #[] W (RetT W 1 (nodes emp))) := fun W => rempty_any W
  clear hk
  go_enter Tryd.func61, Tryd.ntmps61
  go_wp2_with (go_at_call 86; refine (HE.out _).mono ?_; rintro e w2 ⟨a2, c2, rfl, o2, b2⟩; have kr2 := kr.below b2; obtain ⟨d1, d2⟩ := kr2.one; have dd := (kr2.set 0 (.slice a2 1 c2)).cell 0 rfl; have p2 := fun g => own_block o2 (g := g))
  simp only [World.size_alloc] at p2
  have hq : RetT w 1 (nodes emp) (.returned (.agg #[.slice a2 1 c2])) (w2.setCell ⟨w.heap.size + 1 + 1, 0, none⟩ (.slice a2 1 c2)) := ⟨a2, c2, rfl, own_other (ownsRow_base o2 (by simp; omega)) (fun g hg => by have := p2 g hg; omega) _ _, (hW0.trans (b2.mono (by simp; omega))).setCell (p := ⟨w.heap.size + 1 + 1, 0, none⟩) (by simp; omega) _⟩
  exact bodyPost_ret (by simp [results, Tryd.results61, go_sem, dd]) rfl hq
set_option maxRecDepth 10000 in
set_option maxHeartbeats 4000000 in
theorem rjoin_yes (k : Int) (a b : Option Addr) (n m c d : Nat) (F G : Nat → Nd) (w : World) (hk : k = 3 ∨ k = 4) (ha : RdN w a n F) (hb : RdN w b m G) (hn : (n : Int) ≤ 9223372036854775807) (hm : (m : Int) ≤ 9223372036854775807) (hca : n ≤ c) (hcb : m ≤ d) : Calls Tryd.prog 61 #[.int .i64 k, .agg #[.slice a n c], .agg #[.slice b m d]] w (RetT w ((snd F n).size + (snd G m).size + 1) (nodes (.two k (snd F n) (snd G m)))) := by
  obtain ⟨ox, sx⟩ := snd_ok F n
  obtain ⟨oy, sy⟩ := snd_ok G m
  have px := (snd F n).size_pos
  have py := (snd G m).size_pos
  have hW0 : Below w.heap.size w (((w.alloc (.cells #[.slice a n c] 48)).alloc (.cells #[.slice b m d] 48)).alloc (.cells #[.slice none 0 0] 48)) := (below2 w _ _).alloc (by simp; omega) _
  have ka : Cl (((w.alloc (.cells #[.slice a n c] 48)).alloc (.cells #[.slice b m d] 48)).alloc (.cells #[.slice none 0 0] 48)) w.heap.size 48 [.slice a n c] := ((Cl.new w 48 [.slice a n c]).alloc _).alloc _
  have kb : Cl (((w.alloc (.cells #[.slice a n c] 48)).alloc (.cells #[.slice b m d] 48)).alloc (.cells #[.slice none 0 0] 48)) (w.heap.size + 1) 48 [.slice b m d] := by
    have := (Cl.new (w.alloc (.cells #[.slice a n c] 48)) 48 [.slice b m d]).alloc (.cells #[.slice none 0 0] 48)
    simpa only [World.size_alloc] using this
  have kr : Cl (((w.alloc (.cells #[.slice a n c] 48)).alloc (.cells #[.slice b m d] 48)).alloc (.cells #[.slice none 0 0] 48)) (w.heap.size + 1 + 1) 48 [.slice none 0 0] := by
    have := Cl.new ((w.alloc (.cells #[.slice a n c] 48)).alloc (.cells #[.slice b m d] 48)) 48 [.slice none 0 0]
    simpa only [World.size_alloc] using this
  have hszW : (((w.alloc (.cells #[.slice a n c] 48)).alloc (.cells #[.slice b m d] 48)).alloc (.cells #[.slice none 0 0] 48)).heap.size = w.heap.size + 3 := by simp
  have HA := rmay_any a n c F _ (ha.below hW0) hn hca
  have HB : Hid (∀ W, RdN W b m G → Calls Tryd.prog 58 #[.agg #[.slice b m d]] W (RetMy W b (snd G m))) := fun W h => rmay_any b m d G W h hm hcb
  have HRB : Hid (∀ W, Below w.heap.size w W → RdN W b m G) := fun W h => hb.below h
  have hoa := fun ta => near_or (ta := ta) ha
  have hob := fun ta => near_or (ta := ta) hb
  have bx := nodes_bound' ox sx
  have by_ := nodes_bound' oy sy
  have hlist := two_lists k (snd F n) (snd G m) oy
  have d0 := ka.cell 0 rfl
  obtain ⟨i0, hi, hz0, hz1, hz2⟩ := info_parts b_node
  clear ha hb ox oy
  generalize hX : snd F n = x at *
  generalize hY : snd G m = y at *
  clear hX hY
  have HP : Hid (∀ (lo : Option Addr) (kk lc : Nat) (Fl : Nat → Nd) (ta : Addr) (t : Tre) (tc : Nat) (W : World), W.ownsRow (w.heap.size + 3) 82 10 (.slice lo kk lc) kk (ndsL Fl kk) → w.heap.size + 3 ≤ W.heap.size → RdN W (some ta) t.size (nodes t) → (ta.block < w.heap.size ∨ t.size = 1) → (∀ i, i < t.size → (-4096 ≤ (nodes t i).a ∧ (nodes t i).a ≤ 4096) ∧ (-4096 ≤ (nodes t i).b ∧ (nodes t i).b ≤ 4096)) → kk ≤ 2048 → t.size ≤ 2048 → Calls Tryd.prog 63 #[.slice lo kk lc, .agg #[.slice (some ta) t.size tc]] W fun e w' => ∃ ao cap, e = .returned (.slice ao (kk + t.size) cap) ∧ w'.ownsRow (w.heap.size + 3) 82 10 (.slice ao (kk + t.size) cap) (kk + t.size) (ndsL (catF kk Fl (fun i => sh kk (nodes t i))) (kk + t.size)) ∧ Below (w.heap.size + 3) W w') := fun lo kk lc Fl ta t tc W h1 h2 h3 h4 h5 h6 h7 => placed_any (w.heap.size + 3) lo kk lc Fl ta t.size tc (nodes t) W h1 h2 h3 (h4.imp (fun h => by omega) id) h5 h6 h7
  have HP0 : Hid (∀ (ta : Addr) (tc : Nat) (W : World), w.heap.size + 3 ≤ W.heap.size → RdN W (some ta) x.size (nodes x) → (ta.block < w.heap.size ∨ x.size = 1) → Calls Tryd.prog 63 #[.slice none 0 0, .agg #[.slice (some ta) x.size tc]] W fun e w' => ∃ ao cap, e = .returned (.slice ao x.size cap) ∧ w'.ownsRow (w.heap.size + 3) 82 10 (.slice ao x.size cap) x.size (ndsL (nodes x) x.size) ∧ Below (w.heap.size + 3) W w') := fun ta tc W h1 h2 h3 => by
    refine (HP.out none 0 0 (fun _ => zN) ta x tc W (World.ownsRow_nil _ _ _ _) h1 h2 h3 bx (by omega) sx).mono ?_
    rintro e w' ⟨ao, cap, rfl, ho, hb⟩
    rw [cat_zero] at ho
    simp only [Nat.zero_add] at ho ⊢
    exact ⟨ao, cap, rfl, ho, hb⟩
  have HP1 : Hid (∀ (lo : Option Addr) (lc : Nat) (ta : Addr) (tc : Nat) (W : World), W.ownsRow (w.heap.size + 3) 82 10 (.slice lo x.size lc) x.size (ndsL (nodes x) x.size) → w.heap.size + 3 ≤ W.heap.size → RdN W (some ta) y.size (nodes y) → (ta.block < w.heap.size ∨ y.size = 1) → Calls Tryd.prog 63 #[.slice lo x.size lc, .agg #[.slice (some ta) y.size tc]] W fun e w' => ∃ ao cap, e = .returned (.slice ao (x.size + y.size) cap) ∧ w'.ownsRow (w.heap.size + 3) 82 10 (.slice ao (x.size + y.size) cap) (x.size + y.size) (ndsL (nodes x) x.size ++ ndsL (fun i => sh x.size (nodes y i)) y.size) ∧ Below (w.heap.size + 3) W w') := fun lo lc ta tc W h0 h1 h2 h3 => by
    refine (HP.out lo x.size lc (nodes x) ta y tc W h0 h1 h2 h3 by_ sx sy).mono ?_
    rintro e w' ⟨ao, cap, rfl, ho, hb⟩
    rw [ndsL_cat] at ho
    exact ⟨ao, cap, rfl, ho, hb⟩
  clear HP bx by_
  generalize hfx : ndsL (nodes x) x.size = lx at *
  generalize hfy : ndsL (fun i => sh x.size (nodes y i)) y.size = ly at *
  clear hfx hfy
  have hl1 : (x.size : Int) ≤ 2048 := by omega
  have hl2 : (y.size : Int) ≤ 2048 := by omega
  have m1 : Hid True := trivial
  have m2 : Hid True := trivial
  go_enter Tryd.func61, Tryd.ntmps61
  rcases hk with rfl | rfl
  · go_upto_region 6 with (first | (go_at_call 58; first | (clear m1; refine HA.mono ?_; rintro e w1 ⟨ta, c1, rfl, r1, _, or1, b1⟩; have s1 := b1.size; rw [hszW] at s1; have hB1 := hW0.trans (b1.mono (by simp; omega)); have kb1 := kb.below b1; have kr1 := kr.below b1; clear d0) | (refine (HB.out _ (HRB.out _ hB2)).mono ?_; rintro e w3 ⟨tb, c3, rfl, r3, _, or3, b3⟩; have s3 := b3.size; have hB3 := hB2.trans (b3.mono hB2.size); have o3 := ownsRow_below o2 b3; have kr3 := kr2.below b3; clear d0)) | (go_at_call 63; first | (clear m2; refine (HP0.out ta c1 w1 s1 r1 (hoa ta or1)).mono ?_; rintro e w2 ⟨ao2, c2, rfl, o2, b2⟩; have s2 := b2.size; have hB2 := hB1.trans (b2.mono (by omega)); have kb2 := kb1.belowB b2 (by omega); have kr2 := kr1.belowB b2 (by omega); have d0 := kb2.cell 0 rfl) | (refine (HP1.out ao2 c2 tb c3 w3 o3 (by omega) r3 (hob tb or3)).mono ?_; rintro e w4 ⟨ao4, c4, rfl, o4, b4⟩; have s4 := b4.size; have hB4 := hB3.trans (b4.mono (by omega)); have kr4 := kr3.belowB b4 (by omega))))
    have o5 := ownsRow_below o4 (below1 w4 (.cells (ndL ⟨3, 0, 0, 0, 0, (x.size : Int) - 1, (x.size : Int) + (y.size : Int) - 1, 0, 0, false⟩).toArray 82))
    have HN : Hid (∀ j' u, (ndL ⟨3, 0, 0, 0, 0, (x.size : Int) - 1, (x.size : Int) + (y.size : Int) - 1, 0, 0, false⟩)[j']? = some u → (w4.alloc (.cells (ndL ⟨3, 0, 0, 0, 0, (x.size : Int) - 1, (x.size : Int) + (y.size : Int) - 1, 0, 0, false⟩).toArray 82)).cell? (Addr.add ⟨w4.heap.size, 0, none⟩ j') = some u) := new_cells w4 ⟨3, 0, 0, 0, 0, (x.size : Int) - 1, (x.size : Int) + (y.size : Int) - 1, 0, 0, false⟩ _ (Below.refl _ _)
    have hlen : (x.size : Int) + (y.size : Int) ≤ 4096 := by omega
    have HZ : Hid (∀ v' w5, w5.ownsRow (w.heap.size + 3) 82 10 v' (x.size + y.size + 1) (lx ++ ly ++ ndL ⟨3, 0, 0, 0, 0, (x.size : Int) - 1, (x.size : Int) + (y.size : Int) - 1, 0, 0, false⟩) → (w4.alloc (.cells (ndL ⟨3, 0, 0, 0, 0, (x.size : Int) - 1, (x.size : Int) + (y.size : Int) - 1, 0, 0, false⟩).toArray 82)).grownBy w5 (Value.slice ao4 (x.size + y.size) c4).ownBlock → ∃ ao cap, v' = .slice ao (x.size + y.size + 1) cap ∧ Cl w5 (w.heap.size + 1 + 1) 48 [.slice none 0 0] ∧ RetT w (x.size + y.size + 1) (nodes (.two 3 x y)) (.returned (.agg #[.slice ao (x.size + y.size + 1) cap])) (w5.setCell ⟨w.heap.size + 1 + 1, 0, none⟩ (.slice ao (x.size + y.size + 1) cap))) := by
      intro v' w5 h1 h2
      obtain ⟨ao, cap, rfl⟩ := ownsRow_slice h1
      have hB5 : Below (w.heap.size + 3) w4 w5 := ((below1 w4 _).mono (by omega)).grown h2 (by simp; omega) (ownsRow_own o4)
      rw [← Int.natCast_add, hlist] at h1
      have hb := fun g hg => ownsRow_own h1 g hg
      exact ⟨ao, cap, rfl, kr4.belowB hB5 (by omega), ao, cap, rfl, own_other (ownsRow_base h1 (by omega)) (fun g hg => by have := hb g hg; omega) _ _, (hB4.trans (hB5.mono (by omega))).setCell (p := ⟨w.heap.size + 1 + 1, 0, none⟩) (by simp; omega) _⟩
    clear o4 hlist
    unfold ndL at HN HZ o5
    go_wp2_with (at_builtin; refine wpList_append_own _ rfl _ _ 46 rfl (w.heap.size + 3) 82 i0 _ 10 80 Tryd.underlying46 hi hz0 hz1 hz2 rfl (by decide) _ _ _ rfl o5 ⟨w4.heap.size, 0, none⟩ 1 1 [.int .i64 3, .int .u64 0, .int .u64 0, .int .u64 0, .int .u64 0, .int .i64 ((x.size : Int) - 1), .int .i64 ((x.size : Int) + (y.size : Int) - 1), .int .i64 0, .int .i64 0, .bool false] rfl rfl HN.out (by simp [Value.oneCell']) (by unfold maxLen; omega) (by omega) (by simp; omega) ?_; intro v' w5 hown hgr hnil'; obtain ⟨ao, cap, rfl, k5, hR⟩ := HZ.out v' w5 hown hgr; clear hown hgr hnil'; obtain ⟨d1, d2⟩ := k5.one; have dd := (k5.set 0 (.slice ao (x.size + y.size + 1) cap)).cell 0 rfl; have HQ : Hid _ := hR; clear hR)
    exact bodyPost_ret (by simp [results, Tryd.results61, go_sem, dd]) rfl HQ.out
  · go_upto_region 6 with (first | (go_at_call 58; first | (clear m1; refine HA.mono ?_; rintro e w1 ⟨ta, c1, rfl, r1, _, or1, b1⟩; have s1 := b1.size; rw [hszW] at s1; have hB1 := hW0.trans (b1.mono (by simp; omega)); have kb1 := kb.below b1; have kr1 := kr.below b1; clear d0) | (refine (HB.out _ (HRB.out _ hB2)).mono ?_; rintro e w3 ⟨tb, c3, rfl, r3, _, or3, b3⟩; have s3 := b3.size; have hB3 := hB2.trans (b3.mono hB2.size); have o3 := ownsRow_below o2 b3; have kr3 := kr2.below b3; clear d0)) | (go_at_call 63; first | (clear m2; refine (HP0.out ta c1 w1 s1 r1 (hoa ta or1)).mono ?_; rintro e w2 ⟨ao2, c2, rfl, o2, b2⟩; have s2 := b2.size; have hB2 := hB1.trans (b2.mono (by omega)); have kb2 := kb1.belowB b2 (by omega); have kr2 := kr1.belowB b2 (by omega); have d0 := kb2.cell 0 rfl) | (refine (HP1.out ao2 c2 tb c3 w3 o3 (by omega) r3 (hob tb or3)).mono ?_; rintro e w4 ⟨ao4, c4, rfl, o4, b4⟩; have s4 := b4.size; have hB4 := hB3.trans (b4.mono (by omega)); have kr4 := kr3.belowB b4 (by omega))))
    have o5 := ownsRow_below o4 (below1 w4 (.cells (ndL ⟨4, 0, 0, 0, 0, (x.size : Int) - 1, (x.size : Int) + (y.size : Int) - 1, 0, 0, false⟩).toArray 82))
    have HN : Hid (∀ j' u, (ndL ⟨4, 0, 0, 0, 0, (x.size : Int) - 1, (x.size : Int) + (y.size : Int) - 1, 0, 0, false⟩)[j']? = some u → (w4.alloc (.cells (ndL ⟨4, 0, 0, 0, 0, (x.size : Int) - 1, (x.size : Int) + (y.size : Int) - 1, 0, 0, false⟩).toArray 82)).cell? (Addr.add ⟨w4.heap.size, 0, none⟩ j') = some u) := new_cells w4 ⟨4, 0, 0, 0, 0, (x.size : Int) - 1, (x.size : Int) + (y.size : Int) - 1, 0, 0, false⟩ _ (Below.refl _ _)
    have hlen : (x.size : Int) + (y.size : Int) ≤ 4096 := by omega
    have HZ : Hid (∀ v' w5, w5.ownsRow (w.heap.size + 3) 82 10 v' (x.size + y.size + 1) (lx ++ ly ++ ndL ⟨4, 0, 0, 0, 0, (x.size : Int) - 1, (x.size : Int) + (y.size : Int) - 1, 0, 0, false⟩) → (w4.alloc (.cells (ndL ⟨4, 0, 0, 0, 0, (x.size : Int) - 1, (x.size : Int) + (y.size : Int) - 1, 0, 0, false⟩).toArray 82)).grownBy w5 (Value.slice ao4 (x.size + y.size) c4).ownBlock → ∃ ao cap, v' = .slice ao (x.size + y.size + 1) cap ∧ Cl w5 (w.heap.size + 1 + 1) 48 [.slice none 0 0] ∧ RetT w (x.size + y.size + 1) (nodes (.two 4 x y)) (.returned (.agg #[.slice ao (x.size + y.size + 1) cap])) (w5.setCell ⟨w.heap.size + 1 + 1, 0, none⟩ (.slice ao (x.size + y.size + 1) cap))) := by
      intro v' w5 h1 h2
      obtain ⟨ao, cap, rfl⟩ := ownsRow_slice h1
      have hB5 : Below (w.heap.size + 3) w4 w5 := ((below1 w4 _).mono (by omega)).grown h2 (by simp; omega) (ownsRow_own o4)
      rw [← Int.natCast_add, hlist] at h1
      have hb := fun g hg => ownsRow_own h1 g hg
      exact ⟨ao, cap, rfl, kr4.belowB hB5 (by omega), ao, cap, rfl, own_other (ownsRow_base h1 (by omega)) (fun g hg => by have := hb g hg; omega) _ _, (hB4.trans (hB5.mono (by omega))).setCell (p := ⟨w.heap.size + 1 + 1, 0, none⟩) (by simp; omega) _⟩
    clear o4 hlist
    unfold ndL at HN HZ o5
    go_wp2_with (at_builtin; refine wpList_append_own _ rfl _ _ 46 rfl (w.heap.size + 3) 82 i0 _ 10 80 Tryd.underlying46 hi hz0 hz1 hz2 rfl (by decide) _ _ _ rfl o5 ⟨w4.heap.size, 0, none⟩ 1 1 [.int .i64 4, .int .u64 0, .int .u64 0, .int .u64 0, .int .u64 0, .int .i64 ((x.size : Int) - 1), .int .i64 ((x.size : Int) + (y.size : Int) - 1), .int .i64 0, .int .i64 0, .bool false] rfl rfl HN.out (by simp [Value.oneCell']) (by unfold maxLen; omega) (by omega) (by simp; omega) ?_; intro v' w5 hown hgr hnil'; obtain ⟨ao, cap, rfl, k5, hR⟩ := HZ.out v' w5 hown hgr; clear hown hgr hnil'; obtain ⟨d1, d2⟩ := k5.one; have dd := (k5.set 0 (.slice ao (x.size + y.size + 1) cap)).cell 0 rfl; have HQ : Hid _ := hR; clear hR)
    exact bodyPost_ret (by simp [results, Tryd.results61, go_sem, dd]) rfl HQ.out
set_option maxRecDepth 10000 in
set_option maxHeartbeats 4000000 in
theorem rrepeat_any (a : Option Addr) (n c : Nat) (F : Nat → Nd) (l m : Int) (z : Bool) (w : World) (ha : RdN w a n F) (hn : (n : Int) ≤ 9223372036854775807) (hca : n ≤ c) : Calls Tryd.prog 34 #[.agg #[.slice a n c], .int .i64 l, .int .i64 m, .bool z] w (RetT w ((snd F n).size + 1) (nodes (.rep (snd F n) l m z))) := by
  obtain ⟨ox, sx⟩ := snd_ok F n
  have px := (snd F n).size_pos
  have hW0 := below2 w (.cells #[.slice a n c] 48) (.cells #[.slice none 0 0] 48)
  have ka : Cl ((w.alloc (.cells #[.slice a n c] 48)).alloc (.cells #[.slice none 0 0] 48)) w.heap.size 48 [.slice a n c] := (Cl.new w 48 [.slice a n c]).alloc _
  have kr : Cl ((w.alloc (.cells #[.slice a n c] 48)).alloc (.cells #[.slice none 0 0] 48)) (w.heap.size + 1) 48 [.slice none 0 0] := by
    have := Cl.new (w.alloc (.cells #[.slice a n c] 48)) 48 [.slice none 0 0]
    simpa only [World.size_alloc] using this
  have hszW : ((w.alloc (.cells #[.slice a n c] 48)).alloc (.cells #[.slice none 0 0] 48)).heap.size = w.heap.size + 2 := by simp
  have HA := rmay_any a n c F _ (ha.below hW0) hn hca
  have hoa := fun ta => near_or (ta := ta) ha
  have bx := nodes_bound' ox sx
  have hlist := rep_list (snd F n) l m z
  have d0 := ka.cell 0 rfl
  obtain ⟨i0, hi, hz0, hz1, hz2⟩ := info_parts b_node
  clear ha ox
  generalize hX : snd F n = x at *
  clear hX
  have HP0 : Hid (∀ (ta : Addr) (tc : Nat) (W : World), w.heap.size + 2 ≤ W.heap.size → RdN W (some ta) x.size (nodes x) → (ta.block < w.heap.size ∨ x.size = 1) → Calls Tryd.prog 63 #[.slice none 0 0, .agg #[.slice (some ta) x.size tc]] W fun e w' => ∃ ao cap, e = .returned (.slice ao x.size cap) ∧ w'.ownsRow (w.heap.size + 2) 82 10 (.slice ao x.size cap) x.size (ndsL (fun i => sh 0 (nodes x i)) x.size) ∧ Below (w.heap.size + 2) W w') := fun ta tc W h1 h2 h3 => by
    refine (placed_any (w.heap.size + 2) none 0 0 (fun _ => zN) ta x.size tc (nodes x) W (World.ownsRow_nil _ _ _ _) h1 h2 (h3.imp (fun h => by omega) id) bx (by omega) sx).mono ?_
    rintro e w' ⟨ao, cap, rfl, ho, hb⟩
    rw [cat_zero, ndsL_congr (G := fun i => sh 0 (nodes x i)) (fun i _ => (sh_zero _).symm)] at ho
    simp only [Nat.zero_add] at ho ⊢
    exact ⟨ao, cap, rfl, ho, hb⟩
  clear bx
  generalize hfx : ndsL (fun i => sh 0 (nodes x i)) x.size = lx at *
  clear hfx
  have hl1 : (x.size : Int) ≤ 2048 := by omega
  go_enter Tryd.func34, Tryd.ntmps34
  go_upto_region 2 with (first | (go_at_call 58; refine HA.mono ?_; rintro e w1 ⟨ta, c1, rfl, r1, _, or1, b1⟩; have s1 := b1.size; rw [hszW] at s1; have hB1 := hW0.trans (b1.mono (by simp; omega)); have kr1 := kr.below b1; clear d0) | (go_at_call 63; refine (HP0.out ta c1 w1 s1 r1 (hoa ta or1)).mono ?_; rintro e w4 ⟨ao4, c4, rfl, o4, b4⟩; have s4 := b4.size; have hB4 := hB1.trans (b4.mono (by omega)); have kr4 := kr1.belowB b4 (by omega)))
  have o5 := ownsRow_below o4 (below1 w4 (.cells (ndL ⟨5, 0, 0, 0, 0, (x.size : Int) - 1, 0, l, m, z⟩).toArray 82))
  have HN : Hid (∀ j' u, (ndL ⟨5, 0, 0, 0, 0, (x.size : Int) - 1, 0, l, m, z⟩)[j']? = some u → (w4.alloc (.cells (ndL ⟨5, 0, 0, 0, 0, (x.size : Int) - 1, 0, l, m, z⟩).toArray 82)).cell? (Addr.add ⟨w4.heap.size, 0, none⟩ j') = some u) := new_cells w4 ⟨5, 0, 0, 0, 0, (x.size : Int) - 1, 0, l, m, z⟩ _ (Below.refl _ _)
  have HZ : Hid (∀ v' w5, w5.ownsRow (w.heap.size + 2) 82 10 v' (x.size + 1) (lx ++ ndL ⟨5, 0, 0, 0, 0, (x.size : Int) - 1, 0, l, m, z⟩) → (w4.alloc (.cells (ndL ⟨5, 0, 0, 0, 0, (x.size : Int) - 1, 0, l, m, z⟩).toArray 82)).grownBy w5 (Value.slice ao4 x.size c4).ownBlock → ∃ ao cap, v' = .slice ao (x.size + 1) cap ∧ Cl w5 (w.heap.size + 1) 48 [.slice none 0 0] ∧ RetT w (x.size + 1) (nodes (.rep x l m z)) (.returned (.agg #[.slice ao (x.size + 1) cap])) (w5.setCell ⟨w.heap.size + 1, 0, none⟩ (.slice ao (x.size + 1) cap))) := by
    intro v' w5 h1 h2
    obtain ⟨ao, cap, rfl⟩ := ownsRow_slice h1
    have hB5 : Below (w.heap.size + 2) w4 w5 := ((below1 w4 _).mono (by omega)).grown h2 (by simp; omega) (ownsRow_own o4)
    rw [hlist] at h1
    have hb := fun g hg => ownsRow_own h1 g hg
    exact ⟨ao, cap, rfl, kr4.belowB hB5 (by omega), ao, cap, rfl, own_other (ownsRow_base h1 (by omega)) (fun g hg => by have := hb g hg; omega) _ _, (hB4.trans (hB5.mono (by omega))).setCell (p := ⟨w.heap.size + 1, 0, none⟩) (by simp) _⟩
  clear o4 hlist
  unfold ndL at HN HZ o5
  go_wp2_with (at_builtin; refine wpList_append_own _ rfl _ _ 46 rfl (w.heap.size + 2) 82 i0 _ 10 80 Tryd.underlying46 hi hz0 hz1 hz2 rfl (by decide) _ _ _ rfl o5 ⟨w4.heap.size, 0, none⟩ 1 1 [.int .i64 5, .int .u64 0, .int .u64 0, .int .u64 0, .int .u64 0, .int .i64 ((x.size : Int) - 1), .int .i64 0, .int .i64 l, .int .i64 m, .bool z] rfl rfl HN.out (by simp [Value.oneCell']) (by unfold maxLen; omega) (by omega) (by simp; omega) ?_; intro v' w5 hown hgr hnil'; obtain ⟨ao, cap, rfl, k5, hR⟩ := HZ.out v' w5 hown hgr; clear hown hgr hnil'; obtain ⟨d1, d2⟩ := k5.one; have dd := (k5.set 0 (.slice ao (x.size + 1) cap)).cell 0 rfl; have HQ : Hid _ := hR; clear hR)
  exact bodyPost_ret (by simp [results, Tryd.results34, go_sem, dd]) rfl HQ.out
end Go.Proofs.YthbmfnibgjlkhaaDoor
