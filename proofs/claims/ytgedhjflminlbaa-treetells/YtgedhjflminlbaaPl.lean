/- The reference's may, placed: the walks. -/
import Derived.Test.YtgedhjflminlbaaMa
import Derived.Test.YtgedhjflminlbaaRl
import Derived.Test.YtgedhjflminlbaaMr
namespace Go.Proofs.Ytgedhjflminlbaa
open Go.RowKit
/-- What may answers. -/
def RetMy (w : World) (a : Option Addr) (t : Tre) (e : Ending) (w' : World) : Prop := ∃ ta cap, e = .returned (.agg #[.slice (some ta) t.size cap]) ∧ RdN w' (some ta) t.size (nodes t) ∧ t.size ≤ cap ∧ (some ta = a ∨ t.size = 1) ∧ Below w.heap.size w w'
set_option maxHeartbeats 1000000 in
theorem rmay_any (a : Option Addr) (n c : Nat) (F : Nat → Nd) (w : World) (ha : RdN w a n F) (hn : (n : Int) ≤ 9223372036854775807) (hca : n ≤ c) : Calls Try.prog 40 #[.agg #[.slice a n c]] w (RetMy w a (snd F n)) := by
  have hW0 := below2 w (.cells #[.slice a n c] 24) (.cells #[.slice none 0 0] 24)
  have HM := may_any a n c F _ (ha.below hW0) hn
  have ka : Cl ((w.alloc (.cells #[.slice a n c] 24)).alloc (.cells #[.slice none 0 0] 24)) w.heap.size 24 [.slice a n c] := (Cl.new w 24 [.slice a n c]).alloc _
  have kr : Cl ((w.alloc (.cells #[.slice a n c] 24)).alloc (.cells #[.slice none 0 0] 24)) (w.heap.size + 1) 24 [.slice none 0 0] := by
    have := Cl.new (w.alloc (.cells #[.slice a n c] 24)) 24 [.slice none 0 0]
    simpa only [World.size_alloc] using this
  have HE : Hid (∀ W, Calls Try.prog 34 #[] W (RetT W 1 (nodes emp))) := fun W => rempty_any W
  cases hA : treeOf F n with
  | none =>
    rw [hA] at HM
    have hs : snd F n = emp := by simp [snd, hA]
    rw [hs]
    go_enter Try.func40, Try.ntmps40
    go_wp2_with (first | (go_at_call 31; refine HM.mono ?_; rintro e w1 ⟨rfl, hb1⟩; have kr1 := kr.below hb1) | (go_at_call 34; refine (HE.out _).mono ?_; rintro e w2 ⟨a2, c2, rfl, o2, b2⟩; have kr2 := kr1.below b2; obtain ⟨d1, d2⟩ := kr2.one; have dd := (kr2.set 0 (.slice a2 1 c2)).cell 0 rfl; have r2 := o2.rd; have cc2 := ownsRow_cap o2; obtain ⟨g, rfl, hgl, hgB, _⟩ := o2.cells (by decide)))
    have hq : RetMy w a emp (.returned (.agg #[.slice (some ⟨g, 0, none⟩) 1 c2])) (w2.setCell ⟨w.heap.size + 1, 0, none⟩ (.slice (some ⟨g, 0, none⟩) 1 c2)) := ⟨_, c2, rfl, r2.put kr2 _, cc2, .inr rfl, ((hW0.trans (hb1.mono (by simp; omega))).trans (b2.mono (by have := hb1.size; simp at this; omega))).setCell (p := ⟨w.heap.size + 1, 0, none⟩) (by simp) _⟩
    exact bodyPost_ret (by simp [results, Try.results40, go_sem, dd]) rfl hq
  | some t =>
    rw [hA] at HM
    obtain ⟨rfl, ho, hs, hF⟩ := treeOf_some hA
    have hs2 : snd F t.size = t := by simp [snd, hA]
    rw [hs2]
    have px := t.size_pos
    obtain ⟨bb, off, rfl, _, _⟩ := ha px
    have hr := (ha.below hW0).congr hF
    go_enter Try.func40, Try.ntmps40
    go_wp2_with (go_at_call 31; refine HM.mono ?_; rintro e w1 ⟨rfl, hb1⟩; have kr1 := kr.below hb1; have d0 := (ka.below hb1).cell 0 rfl; obtain ⟨d1, d2⟩ := kr1.one; have dd := (kr1.set 0 (.slice (some ⟨bb, off, none⟩) t.size c)).cell 0 rfl)
    exact bodyPost_ret (by simp [results, Try.results40, go_sem, dd]) rfl ⟨_, c, rfl, (hr.below hb1).put kr1 _, hca, .inl rfl, (hW0.trans (hb1.mono (by simp; omega))).setCell (p := ⟨w.heap.size + 1, 0, none⟩) (by simp) _⟩
theorem row_type {W : World} {B n cap X : Nat} {ao : Option Addr} {xs : List Value} {vs : List Value} (h : W.ownsRow B 29 10 (.slice ao n cap) n xs) (k : Cl W X 24 vs) : (Value.slice ao n cap).ownBlock ≠ some X := by
  intro e
  rcases h.2 with ⟨h', _⟩ | ⟨g, cap', cur, e', _, hc, _⟩
  · rw [h'] at e; cases e
  · rw [e'] at e
    have : g = X := by simpa [Value.ownBlock] using e
    subst this
    rw [k] at hc
    cases hc
set_option maxRecDepth 10000 in
set_option maxHeartbeats 2000000 in
theorem placed_any (B : Nat) (lo : Option Addr) (k lc : Nat) (Fl : Nat → Nd) (ta : Addr) (tn tc : Nat) (Ft : Nat → Nd) (w : World) (hl : w.ownsRow B 29 10 (.slice lo k lc) k (ndsL Fl k)) (hBw : B ≤ w.heap.size) (ht : RdN w (some ta) tn Ft) (hT : ta.block < B ∨ tn = 1) (hF : ∀ i, i < tn → (-4096 ≤ (Ft i).a ∧ (Ft i).a ≤ 4096) ∧ (-4096 ≤ (Ft i).b ∧ (Ft i).b ≤ 4096)) (hk : k ≤ 2048) (htn : tn ≤ 2048) :
    Calls Try.prog 39 #[.slice lo k lc, .agg #[.slice (some ta) tn tc]] w fun e w' => ∃ ao cap, e = .returned (.slice ao (k + tn) cap) ∧ w'.ownsRow B 29 10 (.slice ao (k + tn) cap) (k + tn) (ndsL (catF k Fl (fun i => sh k (Ft i))) (k + tn)) ∧ Below B w w' := by
  obtain ⟨i0, hi, hz0, hz1, hz2⟩ := info_parts b_node
  have hW0 := below1 w (.cells #[.slice (some ta) tn tc] 24)
  have k0 := Cl.new w 24 [.slice (some ta) tn tc]
  have ht0 := ht.below hW0
  have hl0 := ownsRow_below hl hW0
  have hb0 : Below B w (w.alloc (.cells #[.slice (some ta) tn tc] 24)) := (Below.refl _ _).alloc hBw _
  have hcat0 : ndsL (catF k Fl (fun i => sh k (Ft i))) (k + 0) = ndsL Fl k := by rw [ndsL_cat]; simp [ndsL]
  clear ht hl
  go_enter Try.func39, Try.ntmps39
  go_wp2
  go_loopw [0, 6] (fun v i wr => ∃ j : Nat, j ≤ tn ∧ i = .int .i64 (j : Nat) ∧ wr.ownsRow B 29 10 v (k + j) (ndsL (catF k Fl (fun i => sh k (Ft i))) (k + j)) ∧ (j < tn → RdN wr (some ta) tn Ft) ∧ Cl wr w.heap.size 24 [.slice (some ta) tn tc] ∧ Below B w wr) (fun _ i _ => tn - (intOf i).toNat)
  case atStart => exact ⟨0, Nat.zero_le _, rfl, by rw [hcat0]; exact hl0, fun _ => ht0, k0, hb0⟩
  case round =>
    obtain ⟨j, hj, rfl, hrow, hrd, kb, hb⟩ := hrel
    clear hl0 ht0 k0 hb0 hcat0 hW0
    obtain ⟨av, cv, rfl⟩ := ownsRow_slice hrow
    have d0 := kb.cell 0 rfl
    by_cases hlt : j < tn
    · have hji : (j : Int) < (tn : Int) := by omega
      have hr := hrd hlt
      obtain ⟨bb, off, ea, hbb, hc⟩ := hr (by omega)
      obtain rfl := Option.some.inj ea
      obtain ⟨c0, c1, c2, c3, c4, c5, c6, c7, c8, c9⟩ := hc j hlt
      obtain ⟨⟨a1, a2⟩, b1, b2⟩ := hF j hlt
      have HG : Hid (∀ (o o' : Obj) v' w2, w2.ownsRow B 29 10 v' (k + j + 1) (ndsL (catF k Fl (fun i => sh k (Ft i))) (k + j) ++ ndL (sh k (Ft j))) → ((wr.alloc o).alloc o').grownBy w2 (Value.slice av (k + j) cv).ownBlock → ∃ j' : Nat, j' ≤ tn ∧ Value.int .i64 ((j : Int) + 1) = .int .i64 (j' : Nat) ∧ w2.ownsRow B 29 10 v' (k + j') (ndsL (catF k Fl (fun i => sh k (Ft i))) (k + j')) ∧ (j' < tn → RdN w2 (some ⟨bb, off, none⟩) tn Ft) ∧ Cl w2 w.heap.size 24 [.slice (some ⟨bb, off, none⟩) tn tc] ∧ Below B w w2) := by
        intro o o' v' w2 h1 h2
        have hown := ownsRow_own hrow
        have hB2 : Below B wr w2 := ((below2 wr o o').mono (Nat.le_trans hBw hb.size)).grown h2 (by simp; have := hb.size; omega) hown
        refine ⟨j + 1, hlt, by simp, ?_, fun hj2 => ?_, ?_, hb.trans hB2⟩
        · have e : ndsL (catF k Fl (fun i => sh k (Ft i))) (k + (j + 1)) = ndsL (catF k Fl (fun i => sh k (Ft i))) (k + j) ++ ndL (sh k (Ft j)) := by
            rw [← Nat.add_assoc, ndsL]
            simp [catF, show ¬ k + j < k by omega]
          rw [e]
          exact h1
        · rcases hT with h | h
          · intro hn
            obtain ⟨b', off', e', hb', hc'⟩ := hr hn
            obtain ⟨rfl, rfl⟩ : bb = b' ∧ off = off' := by simpa using e'
            refine ⟨bb, off, rfl, Nat.lt_of_lt_of_le hb' hB2.size, fun q hq => ?_⟩
            have q0 : ∀ i, w2.cell? ⟨bb, i, none⟩ = wr.cell? ⟨bb, i, none⟩ := fun i => hB2.cell (p := ⟨bb, i, none⟩) h
            rw [q0, q0, q0, q0, q0, q0, q0, q0, q0, q0]
            exact hc' q hq
          · omega
        · have hne := row_type hrow kb
          have kb2 := (kb.alloc o).alloc o'
          unfold Cl
          rw [h2.block w.heap.size kb2.lt (fun e => hne e.symm)]
          exact kb2
      have HR : Hid (∀ (o o' : Obj), ((wr.alloc o).alloc o').ownsRow B 29 10 (.slice av (k + j) cv) (k + j) (ndsL (catF k Fl (fun i => sh k (Ft i))) (k + j)) ∧ B ≤ ((wr.alloc o).alloc o').heap.size) := fun o o' => ⟨ownsRow_below hrow (below2 wr o o'), by simp; have := hb.size; omega⟩
      have kX := Cl.new wr 29 (ndL (Ft j))
      have d1 := (kb.alloc (.cells (ndL (Ft j)).toArray 29)).cell 0 rfl
      by_cases k34 : (Ft j).k = 3 ∨ (Ft j).k = 4
      · rcases k34 with e | e
        · generalize Ft j = q at *
          obtain ⟨kk, x0, x1, x2, x3, a, b, l, m, z⟩ := q
          dsimp only at *
          subst e
          have hsh : sh (k : Int) ⟨3, x0, x1, x2, x3, a, b, l, m, z⟩ = ⟨3, x0, x1, x2, x3, (a + k), (b + k), l, m, z⟩ := sh34 (k : Int) (.inl rfl)
          rw [hsh] at HG
          have HN : Hid (∀ j' u, (ndL ⟨3, x0, x1, x2, x3, (a + k), (b + k), l, m, z⟩)[j']? = some u → ((wr.alloc (.cells (ndL ⟨3, x0, x1, x2, x3, (a + k), (b + k), l, m, z⟩).toArray 29)).alloc (.cells (ndL ⟨3, x0, x1, x2, x3, (a + k), (b + k), l, m, z⟩).toArray 29)).cell? (Addr.add ⟨wr.heap.size + 1, 0, none⟩ j') = some u) := by
            have := new_cells (wr.alloc (.cells (ndL ⟨3, x0, x1, x2, x3, (a + k), (b + k), l, m, z⟩).toArray 29)) ⟨3, x0, x1, x2, x3, (a + k), (b + k), l, m, z⟩ _ (Below.refl _ _)
            simp only [World.size_alloc] at this
            exact this
          clear hsh hF hc hr hrd hrow
          unfold ndL at HN HG kX d1
          dsimp only at HN HG kX d1
          go_wp2_with (at_builtin; refine wpList_append_own _ rfl _ _ 22 rfl B 29 i0 _ 10 80 Try.underlying22 hi hz0 hz1 hz2 rfl (by decide) _ _ _ rfl (HR.out _ _).1 ⟨wr.heap.size + 1, 0, none⟩ 1 1 [.int .i64 3, .int .u64 x0, .int .u64 x1, .int .u64 x2, .int .u64 x3, .int .i64 (a + k), .int .i64 (b + k), .int .i64 l, .int .i64 m, .bool z] rfl rfl HN.out (by simp [Value.oneCell']) (by unfold maxLen; omega) (by omega) (HR.out _ _).2 ?_; intro v' w2 hown hgr hnil'; have HY : Hid _ := HG.out _ _ v' w2 hown hgr; clear hown hgr hnil')
          go_roundw
          case rel => exact HY.out
          case measure => simp [intOf]; omega
        · generalize Ft j = q at *
          obtain ⟨kk, x0, x1, x2, x3, a, b, l, m, z⟩ := q
          dsimp only at *
          subst e
          have hsh : sh (k : Int) ⟨4, x0, x1, x2, x3, a, b, l, m, z⟩ = ⟨4, x0, x1, x2, x3, (a + k), (b + k), l, m, z⟩ := sh34 (k : Int) (.inr rfl)
          rw [hsh] at HG
          have HN : Hid (∀ j' u, (ndL ⟨4, x0, x1, x2, x3, (a + k), (b + k), l, m, z⟩)[j']? = some u → ((wr.alloc (.cells (ndL ⟨4, x0, x1, x2, x3, (a + k), (b + k), l, m, z⟩).toArray 29)).alloc (.cells (ndL ⟨4, x0, x1, x2, x3, (a + k), (b + k), l, m, z⟩).toArray 29)).cell? (Addr.add ⟨wr.heap.size + 1, 0, none⟩ j') = some u) := by
            have := new_cells (wr.alloc (.cells (ndL ⟨4, x0, x1, x2, x3, (a + k), (b + k), l, m, z⟩).toArray 29)) ⟨4, x0, x1, x2, x3, (a + k), (b + k), l, m, z⟩ _ (Below.refl _ _)
            simp only [World.size_alloc] at this
            exact this
          clear hsh hF hc hr hrd hrow
          unfold ndL at HN HG kX d1
          dsimp only at HN HG kX d1
          go_wp2_with (at_builtin; refine wpList_append_own _ rfl _ _ 22 rfl B 29 i0 _ 10 80 Try.underlying22 hi hz0 hz1 hz2 rfl (by decide) _ _ _ rfl (HR.out _ _).1 ⟨wr.heap.size + 1, 0, none⟩ 1 1 [.int .i64 4, .int .u64 x0, .int .u64 x1, .int .u64 x2, .int .u64 x3, .int .i64 (a + k), .int .i64 (b + k), .int .i64 l, .int .i64 m, .bool z] rfl rfl HN.out (by simp [Value.oneCell']) (by unfold maxLen; omega) (by omega) (HR.out _ _).2 ?_; intro v' w2 hown hgr hnil'; have HY : Hid _ := HG.out _ _ v' w2 hown hgr; clear hown hgr hnil')
          go_roundw
          case rel => exact HY.out
          case measure => simp [intOf]; omega
      · by_cases k5 : (Ft j).k = 5
        · have e := k5
          clear k34 k5
          generalize Ft j = q at *
          obtain ⟨kk, x0, x1, x2, x3, a, b, l, m, z⟩ := q
          dsimp only at *
          subst e
          have hsh : sh (k : Int) ⟨5, x0, x1, x2, x3, a, b, l, m, z⟩ = ⟨5, x0, x1, x2, x3, (a + k), b, l, m, z⟩ := sh5 (k : Int) rfl
          rw [hsh] at HG
          have HN : Hid (∀ j' u, (ndL ⟨5, x0, x1, x2, x3, (a + k), b, l, m, z⟩)[j']? = some u → ((wr.alloc (.cells (ndL ⟨5, x0, x1, x2, x3, (a + k), b, l, m, z⟩).toArray 29)).alloc (.cells (ndL ⟨5, x0, x1, x2, x3, (a + k), b, l, m, z⟩).toArray 29)).cell? (Addr.add ⟨wr.heap.size + 1, 0, none⟩ j') = some u) := by
            have := new_cells (wr.alloc (.cells (ndL ⟨5, x0, x1, x2, x3, (a + k), b, l, m, z⟩).toArray 29)) ⟨5, x0, x1, x2, x3, (a + k), b, l, m, z⟩ _ (Below.refl _ _)
            simp only [World.size_alloc] at this
            exact this
          clear hsh hF hc hr hrd hrow
          unfold ndL at HN HG kX d1
          dsimp only at HN HG kX d1
          go_wp2_with (at_builtin; refine wpList_append_own _ rfl _ _ 22 rfl B 29 i0 _ 10 80 Try.underlying22 hi hz0 hz1 hz2 rfl (by decide) _ _ _ rfl (HR.out _ _).1 ⟨wr.heap.size + 1, 0, none⟩ 1 1 [.int .i64 5, .int .u64 x0, .int .u64 x1, .int .u64 x2, .int .u64 x3, .int .i64 (a + k), .int .i64 b, .int .i64 l, .int .i64 m, .bool z] rfl rfl HN.out (by simp [Value.oneCell']) (by unfold maxLen; omega) (by omega) (HR.out _ _).2 ?_; intro v' w2 hown hgr hnil'; have HY : Hid _ := HG.out _ _ v' w2 hown hgr; clear hown hgr hnil')
          go_roundw
          case rel => exact HY.out
          case measure => simp [intOf]; omega
        · have n3 : ((Ft j).k == 3) = false := by simp; omega
          have n4 : ((Ft j).k == 4) = false := by simp; omega
          have n5 : ((Ft j).k == 5) = false := by simp; omega
          have hsh : sh (k : Int) (Ft j) = (Ft j) := sh0 (k : Int) (by omega)
          rw [hsh] at HG
          have HN : Hid (∀ j' u, (ndL (Ft j))[j']? = some u → ((wr.alloc (.cells (ndL (Ft j)).toArray 29)).alloc (.cells (ndL (Ft j)).toArray 29)).cell? (Addr.add ⟨wr.heap.size + 1, 0, none⟩ j') = some u) := by
            have := new_cells (wr.alloc (.cells (ndL (Ft j)).toArray 29)) (Ft j) _ (Below.refl _ _)
            simp only [World.size_alloc] at this
            exact this
          clear hsh hF hc hr hrd hrow
          unfold ndL at HN HG
          unfold ndL at kX d1
          obtain ⟨⟨f0, f1, f2, f3, f4, f5, f6, f7, f8, f9⟩, _⟩ := kX.ten
          generalize Ft j = q at *
          go_wp2_with (at_builtin; refine wpList_append_own _ rfl _ _ 22 rfl B 29 i0 _ 10 80 Try.underlying22 hi hz0 hz1 hz2 rfl (by decide) _ _ _ rfl (HR.out _ _).1 ⟨wr.heap.size + 1, 0, none⟩ 1 1 [.int .i64 q.k, .int .u64 q.c0, .int .u64 q.c1, .int .u64 q.c2, .int .u64 q.c3, .int .i64 q.a, .int .i64 q.b, .int .i64 q.l, .int .i64 q.m, .bool q.z] rfl rfl HN.out (by simp [Value.oneCell']) (by unfold maxLen; omega) (by omega) (HR.out _ _).2 ?_; intro v' w2 hown hgr hnil'; have HY : Hid _ := HG.out _ _ v' w2 hown hgr; clear hown hgr hnil')
          go_roundw
          case rel => exact HY.out
          case measure => simp [intOf]; omega
    · obtain rfl : j = tn := by omega
      have hji : ¬ (j : Int) < (j : Int) := by omega
      have HR : Hid _ := hrow
      clear hrow hrd
      go_wp2
      go_ret
      exact ⟨av, cv, rfl, HR.out, hb⟩
end Go.Proofs.Ytgedhjflminlbaa
