/- measure of widths, Widths: the walks. -/
import Derived.Test.YtgedhjflminlbaaWw
import Derived.Test.YtgedhjflminlbaaRp
namespace Go.Proofs.Ytgedhjflminlbaa
open Go.RowKit
theorem RdW.below {w w' : World} {ao : Option Addr} {n : Nat} {f g : Nat → Int} (h : RdW w ao n f g) (hb : Below w.heap.size w w') : RdW w' ao n f g := by
  intro hn
  obtain ⟨bb, off, e, hlt, hc⟩ := h hn
  refine ⟨bb, off, e, Nat.lt_of_lt_of_le hlt hb.size, fun i hi => ?_⟩
  have := hc i hi
  simpa only [hb.cell (p := ⟨bb, _, none⟩) hlt] using this
/-- Pairs of numbers as cells. -/
def prs (f g : Nat → Int) : Nat → List Value
  | 0 => []
  | n + 1 => prs f g n ++ [.int .i64 (f n), .int .i64 (g n)]
theorem prs_snoc (f g : Nat → Int) (n : Nat) : prs f g (n + 1) = prs f g n ++ [.int .i64 (f n), .int .i64 (g n)] := rfl
theorem prs_length (f g : Nat → Int) : ∀ n, (prs f g n).length = n * 2
  | 0 => rfl
  | n + 1 => by rw [prs, List.length_append, prs_length f g n]; simp; omega
theorem prs_get0 (f g : Nat → Int) : ∀ {n i : Nat}, i < n → (prs f g n)[i * 2]? = some (.int .i64 (f i))
  | 0, i, h => by omega
  | n + 1, i, h => by
    have hl := prs_length f g n
    rw [prs]
    by_cases hi : i < n
    · rw [List.getElem?_append_left (by omega)]; exact prs_get0 f g hi
    · have : i = n := by omega
      subst this
      rw [List.getElem?_append_right (by omega), hl, Nat.sub_self]; rfl
theorem prs_get1 (f g : Nat → Int) : ∀ {n i : Nat}, i < n → (prs f g n)[i * 2 + 1]? = some (.int .i64 (g i))
  | 0, i, h => by omega
  | n + 1, i, h => by
    have hl := prs_length f g n
    rw [prs]
    by_cases hi : i < n
    · rw [List.getElem?_append_left (by omega)]; exact prs_get1 f g hi
    · have : i = n := by omega
      subst this
      rw [List.getElem?_append_right (by omega), hl, show i * 2 + 1 - i * 2 = 1 by omega]; rfl
theorem row_rdW {W : World} {base n cap : Nat} {ao : Option Addr} {f g : Nat → Int} (h : W.ownsRow base 65 2 (.slice ao n cap) n (prs f g n)) : RdW W ao n f g := by
  intro hn
  obtain ⟨b, e, hl, _, hc, _⟩ := row_cell h hn
  refine ⟨b, 0, e, hl, fun i hi => ?_⟩
  simp only [Nat.zero_add]
  exact ⟨hc _ _ (prs_get0 f g hi), hc _ _ (prs_get1 f g hi)⟩
theorem b_wid : (Try.prog.info? 65).map (fun i => (i.zero, i.size, i.bytes)) = some (some (.agg #[.int .i64 0, .int .i64 0]), 2, 16) := by kernel_rfl
theorem make_room82 (n : Nat) (hn : n ≤ 2048) (w : World) : (Instr.makeSlice 82 (.int .i64 0) (.int .i64 (n : Nat))).run Try.prog w = .ok (.slice (some ⟨w.heap.size, 0, none⟩) 0 n) (w.alloc (.cells (prs (fun _ => 0) (fun _ => 0) n).toArray 65)) := by
  obtain ⟨i, hi, hz, hs, hb⟩ := info_parts b_wid
  have := run_make (P := Try.prog) w 82 65 i _ Try.underlying82 hi hz .i64 .i64 0 (n : Int) (by omega) (by omega) (by rw [hb]; omega) (by omega)
  rw [this, hs]
  have e : madeCells #[Value.int .i64 0, Value.int .i64 0] (n * 2) = (prs (fun _ => 0) (fun _ => 0) n).toArray := by
    apply Array.ext_getElem?
    intro q
    by_cases hq : q < n * 2
    · have hd : q = q / 2 * 2 + q % 2 := by omega
      have hm : (madeCells #[Value.int .i64 0, Value.int .i64 0] (n * 2))[q]? = some (.int .i64 0) := by
        have hs : q < (madeCells #[Value.int .i64 0, Value.int .i64 0] (n * 2)).size := by rw [size_madeCells]; exact hq
        rw [Array.getElem?_eq_getElem hs]
        simp only [madeCells, Array.getElem_map, Array.getElem_range]
        rcases Nat.mod_two_eq_zero_or_one q with h | h <;> simp [h]
      rw [hm, List.getElem?_toArray, hd]
      rcases Nat.mod_two_eq_zero_or_one q with h | h
      · rw [h, Nat.add_zero, prs_get0 _ _ (by omega)]
      · rw [h, prs_get1 _ _ (by omega)]
    · rw [Array.getElem?_eq_none (by rw [size_madeCells]; omega), Array.getElem?_eq_none (by simp [prs_length]; omega)]
  simp [Value.cells, e]
theorem widthsOf_any (t : Tre) (ho : t.ok = true) (p : Nat) (hp : p < t.size) (ao : Option Addr) (cap : Nat) (w : World) (hr : RdW w ao p (atP wl t) (atP wg t)) : Calls Try.prog 45 #[ndV (nodes t p), .slice ao p cap] w (RetW w (atP wl t p) (atP wg t p)) := by
  have hl : p < t.subs.length := by rw [Tre.subs_length]; exact hp
  have e := List.getElem?_eq_getElem hl
  have hok := subs_ok t p _ ho e
  rw [nodes_get e, atP_get e, atP_get e]
  generalize t.subs[p] = u at *
  cases u with
  | leaf n =>
    have := lf_kind hok
    exact widthsOf_leaf n.k n.c0 n.c1 n.c2 n.c3 n.a n.b n.l n.m n.z ao p cap w (by omega)
  | two k x y =>
    have sx := x.size_pos
    have sy := y.size_pos
    obtain ⟨h1, h2, h3⟩ := subs_two e
    simp [Tre.ok] at hok
    have gx := atP_get (f := wl) h3
    have gy := atP_get (f := wl) h2
    have jx := atP_get (f := wg) h3
    have jy := atP_get (f := wg) h2
    have bx := wl_in x hok.1.2
    have bY := wl_in y hok.2
    have dx := wg_in x hok.1.2
    have dy := wg_in y hok.2
    rcases hok.1.1 with rfl | rfl
    · have := widthsOf_cat 0 0 0 0 0 0 false (p - 1 - y.size) (p - 1) ao p cap (atP wl t) (atP wg t) w hr (by omega) (by omega) (by rw [gx]; omega) (by rw [gy]; omega) (by rw [jx]; omega) (by rw [jy]; omega)
      rw [gx, gy, jx, jy, show (((p - 1 - y.size : Nat)) : Int) = (p : Int) - 1 - y.size by omega, show (((p - 1 : Nat)) : Int) = (p : Int) - 1 by omega] at this
      exact this
    · have := widthsOf_alt 0 0 0 0 0 0 false (p - 1 - y.size) (p - 1) ao p cap (atP wl t) (atP wg t) w hr (by omega) (by omega)
      rw [gx, gy, jx, jy, show (((p - 1 - y.size : Nat)) : Int) = (p : Int) - 1 - y.size by omega, show (((p - 1 : Nat)) : Int) = (p : Int) - 1 by omega] at this
      exact this
  | rep x l m z =>
    have sx := x.size_pos
    obtain ⟨h1, h2⟩ := subs_rep e
    simp [Tre.ok] at hok
    have hm := mayR_in hok.1
    have gx := atP_get (f := wl) h2
    have jx := atP_get (f := wg) h2
    have bx := wl_in x hok.2
    have dx := wg_in x hok.2
    have := widthsOf_rep 0 0 0 0 0 l m z (p - 1) ao p cap (atP wl t) (atP wg t) w hr (by omega) (by rw [gx]; omega) (by rw [jx]; omega) (by omega) (by omega)
    rw [gx, jx, show (((p - 1 : Nat)) : Int) = (p : Int) - 1 by omega] at this
    exact this
set_option maxRecDepth 10000 in
set_option maxHeartbeats 2000000 in
theorem measureW_any (a : Option Addr) (n c : Nat) (F : Nat → Nd) (w : World) (ha : RdN w a n F) (hn : (n : Int) ≤ 9223372036854775807) (hca : n ≤ c) : Calls Try.prog 44 #[.agg #[.slice a n c], .func (.func 45) #[] #[]] w (RetW w (wl (snd F n)) (wg (snd F n))) := by
  obtain ⟨ox, sx⟩ := snd_ok F n
  have px := (snd F n).size_pos
  have hW0 := below2 w (.cells #[.slice a n c] 24) (.cells #[.int .i64 0, .int .i64 0] 65)
  have HA := sound_any a n c F _ (ha.below hW0) hn hca
  have HWo : Hid (∀ p, p < (snd F n).size → ∀ ao cap W, RdW W ao p (atP wl (snd F n)) (atP wg (snd F n)) → Calls Try.prog 45 #[ndV (nodes (snd F n) p), .slice ao p cap] W (RetW W (atP wl (snd F n) p) (atP wg (snd F n) p))) := fun p hp ao cap W h => widthsOf_any _ ox p hp ao cap W h
  have hlast : atP wl (snd F n) ((snd F n).size - 1) = wl (snd F n) := atP_get (Tre.subs_last _)
  have hlast2 : atP wg (snd F n) ((snd F n).size - 1) = wg (snd F n) := atP_get (Tre.subs_last _)
  clear ha ox
  generalize snd F n = x at *
  have ka : Cl ((w.alloc (.cells #[.slice a n c] 24)).alloc (.cells #[.int .i64 0, .int .i64 0] 65)) w.heap.size 24 [.slice a n c] := (Cl.new w 24 [.slice a n c]).alloc _
  have kr : Cl ((w.alloc (.cells #[.slice a n c] 24)).alloc (.cells #[.int .i64 0, .int .i64 0] 65)) (w.heap.size + 1) 65 [.int .i64 0, .int .i64 0] := by
    have := Cl.new (w.alloc (.cells #[.slice a n c] 24)) 65 [.int .i64 0, .int .i64 0]
    simpa only [World.size_alloc] using this
  obtain ⟨i0, hi, hz0, hz1, hz2⟩ := info_parts b_wid
  go_enter Try.func44, Try.ntmps44
  go_wp2_with fail
  refine HA.mono ?_
  rintro e w1 ⟨a1, cap1, b1, rfl, hr1, _, _, hB1⟩
  have ka1 := ka.below hB1
  have kA := ka1.set 0 (.slice (some a1) x.size cap1)
  have kR := (kr.below hB1).other (k := w.heap.size) (by omega) 0 (.slice (some a1) x.size cap1)
  have hrx := hr1.put ka1 (.slice (some a1) x.size cap1)
  have hW : Below w.heap.size w (w1.setCell ⟨w.heap.size, 0, none⟩ (.slice (some a1) x.size cap1)) := (hW0.trans (hB1.mono (by simp; omega))).setCell (p := ⟨w.heap.size, 0, none⟩) (Nat.le_refl _) _
  obtain ⟨d1, d2⟩ := ka1.one
  have d3 := kA.cell 0 rfl
  simp only [List.set_cons_zero] at kA
  have hsz : (w1.setCell ⟨w.heap.size, 0, none⟩ (.slice (some a1) x.size cap1)).heap.size = w1.heap.size := by simp
  clear ka hB1 hr1 HA hW0 ka1
  have hmk := make_room82 x.size (by omega)
  have hsl2 := kR.lt
  have hsl : w.heap.size < (w1.setCell ⟨w.heap.size, 0, none⟩ (.slice (some a1) x.size cap1)).heap.size := kA.lt
  have d4 := (kA.alloc (.cells (prs (fun _ => 0) (fun _ => 0) x.size).toArray 65)).cell 0 rfl
  go_wp2_with fail
  clear d1 d2 d3 d4
  have hsz2 : ((w1.setCell ⟨w.heap.size, 0, none⟩ (.slice (some a1) x.size cap1)).alloc (.cells (prs (fun _ => 0) (fun _ => 0) x.size).toArray 65)).heap.size = w1.heap.size + 1 := by simp
  have hrow0 := World.ownsRow_made (base := w1.heap.size) (e := 65) (size := 2) (w1.setCell ⟨w.heap.size, 0, none⟩ (.slice (some a1) x.size cap1)) (prs (fun _ => 0) (fun _ => 0) x.size).toArray x.size (by simp) (by unfold maxLen; omega) (by simp [prs_length])
  rw [hsz] at hrow0 hsl hsl2
  have hb0 := hW.alloc (by omega) (.cells (prs (fun _ => 0) (fun _ => 0) x.size).toArray 65)
  have hx0 : Below w1.heap.size (w1.setCell ⟨w.heap.size, 0, none⟩ (.slice (some a1) x.size cap1)) ((w1.setCell ⟨w.heap.size, 0, none⟩ (.slice (some a1) x.size cap1)).alloc (.cells (prs (fun _ => 0) (fun _ => 0) x.size).toArray 65)) := (Below.refl _ _).alloc (by simp) _
  generalize hWW : w1.setCell ⟨w.heap.size, 0, none⟩ (.slice (some a1) x.size cap1) = V at *
  clear hWW
  go_loopw [5, 20] (fun v i wr => ∃ k : Nat, k ≤ x.size ∧ i = .int .i64 (k : Nat) ∧ wr.ownsRow w1.heap.size 65 2 v k (prs (atP wl x) (atP wg x) k) ∧ Below w1.heap.size V wr) (fun _ i _ => x.size - (intOf i).toNat)
  case atStart => exact ⟨0, Nat.zero_le _, rfl, hrow0, hx0⟩
  case round =>
    obtain ⟨k, hk, rfl, hrow, hbel⟩ := hrel
    clear hrow0 hb0 hx0 hmk
    obtain ⟨av, cv, rfl⟩ := ownsRow_slice hrow
    have hss := hbel.size
    by_cases hlt : k < x.size
    · have hki : (k : Int) < (x.size : Int) := by omega
      obtain ⟨bb, off, ea, hbb, hc⟩ := hrx (by omega)
      obtain rfl := Option.some.inj ea
      obtain ⟨c0, c1, c2, c3, c4, c5, c6, c7, c8, c9⟩ := hc k hlt
      rw [← hbel.cell (p := ⟨bb, _, none⟩) (show bb < w1.heap.size by omega)] at c0 c1 c2 c3 c4 c5 c6 c7 c8 c9
      have HC := HWo.out k hlt av cv (wr.alloc (.cells (ndL (nodes x k)).toArray 29)) ((row_rdW hrow).below (below1 _ _))
      have HX : Hid (∀ (v' : Value) (W : World), W.ownsRow w1.heap.size 65 2 v' (k + 1) (prs (atP wl x) (atP wg x) k ++ [.int .i64 (atP wl x k), .int .i64 (atP wg x k)]) → Below w1.heap.size V W → ∃ k' : Nat, k' ≤ x.size ∧ Value.int .i64 ((k : Int) + 1) = .int .i64 (k' : Nat) ∧ W.ownsRow w1.heap.size 65 2 v' k' (prs (atP wl x) (atP wg x) k') ∧ Below w1.heap.size V W) := fun v' W h1 h2 => ⟨k + 1, hlt, by simp, by rw [prs_snoc]; exact h1, h2⟩
      clear hc hrx HWo hlast hlast2
      unfold ndV at HC
      unfold ndL at HC
      generalize nodes x k = q at *
      generalize atP wl x k = y at *
      generalize atP wg x k = y' at *
      have HA2 : Hid (∀ w3, Below (wr.heap.size + 1) (wr.alloc (.cells #[.int .i64 q.k, .int .u64 q.c0, .int .u64 q.c1, .int .u64 q.c2, .int .u64 q.c3, .int .i64 q.a, .int .i64 q.b, .int .i64 q.l, .int .i64 q.m, .bool q.z] 29)) w3 → (w3.alloc (.cells #[.int .i64 y, .int .i64 y'] 65)).ownsRow w1.heap.size 65 2 (.slice av k cv) k (prs (atP wl x) (atP wg x) k) ∧ Below w1.heap.size V (w3.alloc (.cells #[.int .i64 y, .int .i64 y'] 65)) ∧ w1.heap.size ≤ (w3.alloc (.cells #[.int .i64 y, .int .i64 y'] 65)).heap.size ∧ ∀ j u, [Value.int .i64 y, Value.int .i64 y'][j]? = some u → (w3.alloc (.cells #[.int .i64 y, .int .i64 y'] 65)).cell? (Addr.add ⟨w3.heap.size, 0, none⟩ j) = some u) := by
        intro w3 hb3
        have hs3 := hb3.size
        simp only [World.size_alloc] at hs3
        have e1 : Below wr.heap.size wr w3 := (below1 wr _).trans (hb3.mono (by omega))
        refine ⟨ownsRow_below (ownsRow_below hrow e1) (below1 _ _), (hbel.trans (e1.mono (by omega))).alloc (by omega) _, by simp; omega, fun j u hj => ?_⟩
        have := (Cl.new w3 65 [.int .i64 y, .int .i64 y']).cell j hj
        by_cases h0 : j = 0
        · subst h0; simpa [Addr.add] using this
        · simpa [Addr.add, h0] using this
      have how := ownsRow_own hrow
      go_wp2_with (first | (go_at_call 45; refine HC.mono ?_; rintro e w3 ⟨rfl, hb3⟩; obtain ⟨g1, g2, g3, g4⟩ := HA2.out w3 (by simpa using hb3); have G4 : Hid _ := g4; clear g4) | (at_builtin; refine wpList_append_own _ rfl _ _ 82 rfl w1.heap.size 65 i0 _ 2 16 Try.underlying82 hi hz0 hz1 hz2 rfl (by decide) _ _ _ rfl g1 ⟨w3.heap.size, 0, none⟩ 1 1 [.int .i64 y, .int .i64 y'] rfl rfl G4.out (by simp [Value.oneCell']) (by unfold maxLen; omega) (by omega) g3 ?_; intro v' w2 hown hgr hnil'; have HY : Hid _ := HX.out v' w2 hown (g2.grown hgr g3 how); clear hown hgr hnil'))
      go_roundw
      case rel => exact HY.out
      case measure => simp [intOf]; omega
    · obtain rfl : k = x.size := by omega
      have hki : ¬ (x.size : Int) < (x.size : Int) := by omega
      obtain ⟨g, rfl, hgl, hgB, hcr, _⟩ := row_cell hrow px
      have d0 := hcr ((x.size - 1) * 2) _ (prs_get0 _ _ (by omega))
      have d0' := hcr ((x.size - 1) * 2 + 1) _ (prs_get1 _ _ (by omega))
      rw [hlast] at d0
      rw [hlast2] at d0'
      have kR' := kR.belowB hbel (by omega)
      have hWr : Below w.heap.size w wr := hW.trans (hbel.mono (by omega))
      have hk1 : ((x.size : Int) - 1).toNat = x.size - 1 := by omega
      have hk2 : (0 : Int) ≤ (x.size : Int) - 1 := by omega
      have hk3 : (x.size : Int) - 1 < (x.size : Int) := by omega
      obtain ⟨⟨r0, r1⟩, r2, r3⟩ := kR'.two
      clear hrow hbel hcr hrx HWo hlast hlast2
      generalize wl x = q at *
      generalize wg x = q' at *
      have dd0 := ((kR'.set 0 (.int .i64 q)).set 1 (.int .i64 q')).cell 0 rfl
      have dd1 := ((kR'.set 0 (.int .i64 q)).set 1 (.int .i64 q')).cell 1 rfl
      go_wp2
      exact bodyPost_ret (by simp [results, Try.results44, go_sem, dd0, dd1]) rfl ⟨rfl, (hWr.setCell (p := ⟨w.heap.size + 1, 0, none⟩) (by simp) _).setCell (p := ⟨w.heap.size + 1, 1, none⟩) (by simp) _⟩
set_option maxHeartbeats 400000 in
theorem widths_any (a : Option Addr) (n c : Nat) (F : Nat → Nd) (w : World) (ha : RdN w a n F) (hn : (n : Int) ≤ 9223372036854775807) (hca : n ≤ c) : Calls Try.prog 21 #[.agg #[.slice a n c]] w fun e w' => e = .returned (.tuple #[.int .i64 (wl (snd F n)), .int .i64 (wg (snd F n))]) ∧ Below w.heap.size w w' := by
  have hW0 := below1 w (.cells #[.slice a n c] 24)
  have HM := measureW_any a n c F _ (ha.below hW0) hn hca
  clear ha
  generalize wl (snd F n) = y at *
  generalize wg (snd F n) = z at *
  go_enter Try.func21, Try.ntmps21
  go_wp2_with (go_at_call 44; refine HM.mono ?_; rintro e w3 ⟨rfl, hb3⟩)
  go_quiet (fail)
  go_wp2
  go_ret2
  exact ⟨rfl, below_drewN ((hW0.trans (hb3.mono (by simp))).alloc (by have := hb3.size; simp at this; omega) _) _⟩
end Go.Proofs.Ytgedhjflminlbaa
