/- measure of numbers, Weight: the walks. -/
import Derived.Test.YtgedhjflminlbaaWm
import Derived.Test.YtgedhjflminlbaaJo
namespace Go.Proofs.Ytgedhjflminlbaa
open Go.RowKit
theorem make_room50 (n : Nat) (hn : n ≤ 2048) (w : World) : (Instr.makeSlice 50 (.int .i64 0) (.int .i64 (n : Nat))).run Try.prog w = .ok (.slice (some ⟨w.heap.size, 0, none⟩) 0 n) (w.alloc (.cells (ints (fun _ => 0) n).toArray 3)) := by
  obtain ⟨i, hi, hz, hs, hb⟩ := info_parts b_int
  have := run_make (P := Try.prog) w 50 3 i (.int .i64 0) Try.underlying50 hi hz .i64 .i64 0 (n : Int) (by omega) (by omega) (by rw [hb]; omega) (by omega)
  rw [this, hs]
  simp [← made_ints, Value.cells]
theorem ints_snoc (f : Nat → Int) (n : Nat) : ints f (n + 1) = ints f n ++ [.int .i64 (f n)] := by simp [ints, List.range_succ]
theorem row_rdI {W : World} {base n cap : Nat} {ao : Option Addr} {f : Nat → Int} (h : W.ownsRow base 3 1 (.slice ao n cap) n (ints f n)) : RdI W ao n f := by
  intro hn
  obtain ⟨g, e, hl, _, hc, _⟩ := row_cell h hn
  refine ⟨g, 0, e, hl, fun i hi => ?_⟩
  rw [Nat.zero_add]
  exact hc i _ (ints_get f hi)
set_option maxRecDepth 10000 in
set_option maxHeartbeats 2000000 in
theorem measureI_any (a : Option Addr) (n c : Nat) (F : Nat → Nd) (w : World) (ha : RdN w a n F) (hn : (n : Int) ≤ 9223372036854775807) (hca : n ≤ c) : Calls Try.prog 54 #[.agg #[.slice a n c], .func (.func 55) #[] #[]] w (RetI w (wt (snd F n))) := by
  obtain ⟨ox, sx⟩ := snd_ok F n
  have px := (snd F n).size_pos
  have hW0 := below1 w (.cells #[.slice a n c] 24)
  have HA := sound_any a n c F _ (ha.below hW0) hn hca
  have HWo : Hid (∀ p, p < (snd F n).size → ∀ ao cap W, RdI W ao p (atP wt (snd F n)) → Calls Try.prog 55 #[ndV (nodes (snd F n) p), .slice ao p cap] W (RetI W (atP wt (snd F n) p))) := fun p hp ao cap W h => weightOf_any _ ox p hp ao cap W h
  have hlast : atP wt (snd F n) ((snd F n).size - 1) = wt (snd F n) := atP_get (Tre.subs_last _)
  clear ha ox
  generalize snd F n = x at *
  have ka := Cl.new w 24 [.slice a n c]
  obtain ⟨i0, hi, hz0, hz1, hz2⟩ := info_parts b_int
  go_enter Try.func54, Try.ntmps54
  go_wp2_with fail
  refine HA.mono ?_
  rintro e w1 ⟨a1, cap1, b1, rfl, hr1, _, _, hB1⟩
  have ka1 := ka.below hB1
  have kA := ka1.set 0 (.slice (some a1) x.size cap1)
  have hrx := hr1.put ka1 (.slice (some a1) x.size cap1)
  have hW : Below w.heap.size w (w1.setCell ⟨w.heap.size, 0, none⟩ (.slice (some a1) x.size cap1)) := (hW0.trans (hB1.mono (by simp))).setCell (p := ⟨w.heap.size, 0, none⟩) (Nat.le_refl _) _
  obtain ⟨d1, d2⟩ := ka1.one
  have d3 := kA.cell 0 rfl
  simp only [List.set_cons_zero] at kA
  have hsz : (w1.setCell ⟨w.heap.size, 0, none⟩ (.slice (some a1) x.size cap1)).heap.size = w1.heap.size := by simp
  clear ka hB1 hr1 HA hW0 ka1
  have hmk := make_room50 x.size (by omega)
  have hsl : w.heap.size < (w1.setCell ⟨w.heap.size, 0, none⟩ (.slice (some a1) x.size cap1)).heap.size := kA.lt
  have d4 := (kA.alloc (.cells (ints (fun _ => 0) x.size).toArray 3)).cell 0 rfl
  go_wp2_with fail
  clear d1 d2 d3 d4
  have hsz2 : ((w1.setCell ⟨w.heap.size, 0, none⟩ (.slice (some a1) x.size cap1)).alloc (.cells (ints (fun _ => 0) x.size).toArray 3)).heap.size = w1.heap.size + 1 := by simp
  have hrow0 := World.ownsRow_made (base := w1.heap.size) (e := 3) (size := 1) (w1.setCell ⟨w.heap.size, 0, none⟩ (.slice (some a1) x.size cap1)) (ints (fun _ => 0) x.size).toArray x.size (by simp) (by unfold maxLen; omega) (by simp [ints_length])
  rw [hsz] at hrow0 hsl
  have hb0 := hW.alloc (by omega) (.cells (ints (fun _ => 0) x.size).toArray 3)
  have hx0 : Below w1.heap.size (w1.setCell ⟨w.heap.size, 0, none⟩ (.slice (some a1) x.size cap1)) ((w1.setCell ⟨w.heap.size, 0, none⟩ (.slice (some a1) x.size cap1)).alloc (.cells (ints (fun _ => 0) x.size).toArray 3)) := (Below.refl _ _).alloc (by simp) _
  generalize hWW : w1.setCell ⟨w.heap.size, 0, none⟩ (.slice (some a1) x.size cap1) = V at *
  clear hWW
  go_loopw [5, 20] (fun v i wr => ∃ k : Nat, k ≤ x.size ∧ i = .int .i64 (k : Nat) ∧ wr.ownsRow w1.heap.size 3 1 v k (ints (atP wt x) k) ∧ Below w1.heap.size V wr) (fun _ i _ => x.size - (intOf i).toNat)
  case atStart => exact ⟨0, Nat.zero_le _, rfl, hrow0, hx0⟩
  case round =>
    obtain ⟨k, hk, rfl, hrow, hbel⟩ := hrel
    clear hrow0 hb0 hx0 hmk
    obtain ⟨av, cv, rfl⟩ := ownsRow_slice hrow
    have hss := hbel.size
    by_cases hlt : k < x.size
    · have hki : (k : Int) < (x.size : Int) := by omega
      obtain ⟨bb, off, ea, hbb, hc⟩ := hrx (by omega)
      obtain rfl := Option.some.inj ea
      obtain ⟨c0, c1, c2, c3, c4, c5, c6, c7, c8, c9⟩ := hc k hlt
      rw [← hbel.cell (p := ⟨bb, _, none⟩) (show bb < w1.heap.size by omega)] at c0 c1 c2 c3 c4 c5 c6 c7 c8 c9
      have HC := HWo.out k hlt av cv (wr.alloc (.cells (ndL (nodes x k)).toArray 29)) ((row_rdI hrow).below (below1 _ _))
      have HX : Hid (∀ (v' : Value) (W : World), W.ownsRow w1.heap.size 3 1 v' (k + 1) (ints (atP wt x) k ++ [.int .i64 (atP wt x k)]) → Below w1.heap.size V W → ∃ k' : Nat, k' ≤ x.size ∧ Value.int .i64 ((k : Int) + 1) = .int .i64 (k' : Nat) ∧ W.ownsRow w1.heap.size 3 1 v' k' (ints (atP wt x) k') ∧ Below w1.heap.size V W) := fun v' W h1 h2 => ⟨k + 1, hlt, by simp, by rw [ints_snoc]; exact h1, h2⟩
      clear hc hrx HWo hlast
      unfold ndV at HC
      unfold ndL at HC
      generalize nodes x k = q at *
      generalize atP wt x k = y at *
      have HA2 : Hid (∀ w3, Below (wr.heap.size + 1) (wr.alloc (.cells #[.int .i64 q.k, .int .u64 q.c0, .int .u64 q.c1, .int .u64 q.c2, .int .u64 q.c3, .int .i64 q.a, .int .i64 q.b, .int .i64 q.l, .int .i64 q.m, .bool q.z] 29)) w3 → (w3.alloc (.cells #[.int .i64 y] 3)).ownsRow w1.heap.size 3 1 (.slice av k cv) k (ints (atP wt x) k) ∧ Below w1.heap.size V (w3.alloc (.cells #[.int .i64 y] 3)) ∧ w1.heap.size ≤ (w3.alloc (.cells #[.int .i64 y] 3)).heap.size ∧ ∀ j u, [Value.int .i64 y][j]? = some u → (w3.alloc (.cells #[.int .i64 y] 3)).cell? (Addr.add ⟨w3.heap.size, 0, none⟩ j) = some u) := by
        intro w3 hb3
        have hs3 := hb3.size
        simp only [World.size_alloc] at hs3
        have e1 : Below wr.heap.size wr w3 := (below1 wr _).trans (hb3.mono (by omega))
        refine ⟨ownsRow_below (ownsRow_below hrow e1) (below1 _ _), (hbel.trans (e1.mono (by omega))).alloc (by omega) _, by simp; omega, fun j u hj => ?_⟩
        have hj0 : j = 0 := by
          have := (List.getElem?_eq_some_iff.1 hj).1
          simpa using this
        subst hj0
        simpa [Addr.add] using (Cl.new w3 3 [.int .i64 y]).cell 0 hj
      have how := ownsRow_own hrow
      go_wp2_with (first | (go_at_call 55; refine HC.mono ?_; rintro e w3 ⟨rfl, hb3⟩; obtain ⟨g1, g2, g3, g4⟩ := HA2.out w3 (by simpa using hb3); have G4 : Hid _ := g4; clear g4) | (at_builtin; refine wpList_append_own _ rfl _ _ 50 rfl w1.heap.size 3 i0 _ 1 8 Try.underlying50 hi hz0 hz1 hz2 rfl (by decide) _ _ _ rfl g1 ⟨w3.heap.size, 0, none⟩ 1 1 [.int .i64 y] rfl rfl G4.out (by simp [Value.oneCell']) (by unfold maxLen; omega) (by omega) g3 ?_; intro v' w2 hown hgr hnil'; have HY : Hid _ := HX.out v' w2 hown (g2.grown hgr g3 how); clear hown hgr hnil'))
      go_roundw
      case rel => exact HY.out
      case measure => simp [intOf]; omega
    · obtain rfl : k = x.size := by omega
      have hki : ¬ (x.size : Int) < (x.size : Int) := by omega
      obtain ⟨g, rfl, hgl, _, hcr, _⟩ := row_cell hrow px
      have d0 := hcr (x.size - 1) _ (ints_get _ (by omega))
      rw [hlast] at d0
      have HR : Hid (RetI w (wt x) (.returned (.int .i64 (wt x))) wr) := ⟨rfl, hW.trans (hbel.mono (by omega))⟩
      have hk1 : ((x.size : Int) - 1).toNat = x.size - 1 := by omega
      have hk2 : (0 : Int) ≤ (x.size : Int) - 1 := by omega
      have hk3 : (x.size : Int) - 1 < (x.size : Int) := by omega
      clear hrow hbel hcr hrx HWo hlast
      generalize wt x = y at *
      go_wp2
      go_ret
      exact HR.out
set_option maxHeartbeats 400000 in
theorem weight_any (a : Option Addr) (n c : Nat) (F : Nat → Nd) (w : World) (ha : RdN w a n F) (hn : (n : Int) ≤ 9223372036854775807) (hca : n ≤ c) : Calls Try.prog 29 #[.agg #[.slice a n c]] w (RetI w (wt (snd F n))) := by
  have hW0 := below1 w (.cells #[.slice a n c] 24)
  have HM := measureI_any a n c F _ (ha.below hW0) hn hca
  clear ha
  generalize wt (snd F n) = y at *
  go_enter Try.func29, Try.ntmps29
  go_wp2_with (go_at_call 54; refine HM.mono ?_; rintro e w3 ⟨rfl, hb3⟩)
  go_ret
  exact ⟨rfl, hW0.trans (hb3.mono (by simp))⟩
end Go.Proofs.Ytgedhjflminlbaa
