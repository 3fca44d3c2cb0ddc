/- Ported: TtF. -/
import Derived.Test.YtobgmgpclcfkcaaTtE
namespace Go.Proofs.Ytobgmgpclcfkcaa.T
open Go.RowKit
/-- The cells of n nodes. -/
def ndsL (F : Nat → Nd) : Nat → List Value
  | 0 => []
  | n + 1 => ndsL F n ++ ndL (F n)
theorem ndL_len (x : Nd) : (ndL x).length = 10 := rfl
theorem ndsL_len (F : Nat → Nd) : ∀ n, (ndsL F n).length = n * 10
  | 0 => by simp [ndsL]
  | n + 1 => by rw [ndsL, List.length_append, ndsL_len F n, ndL_len]; omega
theorem ndsL_get (F : Nat → Nd) : ∀ (n i j : Nat), i < n → j < 10 → (ndsL F n)[i * 10 + j]? = (ndL (F i))[j]?
  | 0, i, j, h, _ => by omega
  | n + 1, i, j, h, hj => by
    have hl := ndsL_len F n
    rw [ndsL]
    by_cases hi : i < n
    · rw [List.getElem?_append_left (by omega)]; exact ndsL_get F n i j hi hj
    · have : i = n := by omega
      subst this
      rw [List.getElem?_append_right (by omega), hl]
      congr 1; omega
theorem ndsL_congr {F G : Nat → Nd} : ∀ {n : Nat}, (∀ i, i < n → F i = G i) → ndsL F n = ndsL G n
  | 0, _ => rfl
  | n + 1, h => by rw [ndsL, ndsL, ndsL_congr (fun i hi => h i (by omega)), h n (by omega)]
/-- One list of nodes behind another. -/
def catF (n : Nat) (F G : Nat → Nd) : Nat → Nd := fun i => if i < n then F i else G (i - n)
theorem ndsL_cat (n : Nat) (F G : Nat → Nd) : ∀ m, ndsL (catF n F G) (n + m) = ndsL F n ++ ndsL G m
  | 0 => by
    rw [ndsL, List.append_nil]
    exact ndsL_congr fun i hi => by simp only [Nat.add_zero] at hi; simp [catF, hi]
  | m + 1 => by
    rw [← Nat.add_assoc, ndsL, ndsL_cat n F G m, ndsL, List.append_assoc]
    congr 2
    simp only [catF]
    rw [if_neg (by omega), Nat.add_sub_cancel_left]
theorem ndsL_one (x : Nd) : ndsL (fun _ => x) 1 = ndL x := by simp [ndsL]
theorem ndsL_oneCell (F : Nat → Nd) : ∀ n, ∀ u ∈ ndsL F n, u.oneCell' = true
  | 0, u, h => by simp [ndsL] at h
  | n + 1, u, h => by
    rw [ndsL, List.mem_append] at h
    rcases h with h | h
    · exact ndsL_oneCell F n u h
    · simp [ndL] at h
      rcases h with rfl | rfl | rfl | rfl | rfl | rfl | rfl | rfl | rfl | rfl <;> rfl
theorem ten {j : Nat} (h : j < 10) : j = 0 ∨ j = 1 ∨ j = 2 ∨ j = 3 ∨ j = 4 ∨ j = 5 ∨ j = 6 ∨ j = 7 ∨ j = 8 ∨ j = 9 := by omega
/-- All cells of nodes that can be read, by one number. -/
theorem RdN.cells {w : World} {ao : Option Addr} {n : Nat} {F : Nat → Nd} (h : RdN w ao n F) (hn : 0 < n) : ∃ bb off, ao = some ⟨bb, off, none⟩ ∧ bb < w.heap.size ∧ ∀ j u, (ndsL F n)[j]? = some u → w.cell? ⟨bb, off + j, none⟩ = some u := by
  obtain ⟨bb, off, e, hlt, hc⟩ := h hn
  refine ⟨bb, off, e, hlt, fun j u hu => ?_⟩
  have hj := (List.getElem?_eq_some_iff.1 hu).1
  rw [ndsL_len] at hj
  have hd : j = j / 10 * 10 + j % 10 := by omega
  obtain ⟨c0, c1, c2, c3, c4, c5, c6, c7, c8, c9⟩ := hc (j / 10) (by omega)
  rw [hd, ndsL_get F n _ _ (by omega) (by omega)] at hu
  rw [hd, ← Nat.add_assoc]
  rcases ten (show j % 10 < 10 by omega) with e | e | e | e | e | e | e | e | e | e <;> rw [e] at hu ⊢ <;> simp [ndL] at hu <;> subst hu <;> simpa using by assumption
theorem ownsRow_at {W W' : World} {base e size k : Nat} {v : Value} {xs : List Value} (h : W.ownsRow base e size v k xs) (hs : ∀ g, base ≤ g → g < W.heap.size → W'.heap[g]? = W.heap[g]?) : W'.ownsRow base e size v k xs :=
  ⟨h.1, h.2.imp id fun ⟨g, cap, cur, hv, hg, hc, r⟩ => ⟨g, cap, cur, hv, hg, (hs g hg (Array.getElem?_eq_some_iff.1 hc).1).trans hc, r⟩⟩
theorem ownsRow_below {W W' : World} {base e size k : Nat} {v : Value} {xs : List Value} (h : W.ownsRow base e size v k xs) (hb : Below W.heap.size W W') : W'.ownsRow base e size v k xs := ownsRow_at h fun g _ hg => hb.block g hg
theorem ownsRow_own {W : World} {base e size k : Nat} {v : Value} {xs : List Value} (h : W.ownsRow base e size v k xs) : ∀ g, v.ownBlock = some g → base ≤ g := by
  intro g hg
  rcases h.2 with ⟨rfl, _⟩ | ⟨g', cap, cur, rfl, hb, _⟩
  · cases hg
  · simp [Value.ownBlock] at hg; omega
theorem ownsRow_slice {W : World} {base e size k : Nat} {v : Value} {xs : List Value} (h : W.ownsRow base e size v k xs) : ∃ ao cap, v = .slice ao k cap := by
  rcases h.2 with ⟨h, h0⟩ | ⟨g, cap, cur, h, _⟩
  · exact ⟨none, 0, by rw [h, h0]⟩
  · exact ⟨_, cap, h⟩
theorem ownsRow_base {W : World} {base base' e size k : Nat} {v : Value} {xs : List Value} (h : W.ownsRow base e size v k xs) (hb : base' ≤ base) : W.ownsRow base' e size v k xs :=
  ⟨h.1, h.2.imp id fun ⟨g, cap, cur, hv, hg, r⟩ => ⟨g, cap, cur, hv, Nat.le_trans hb hg, r⟩⟩
theorem row_cell {W : World} {base e size n cap : Nat} {ao : Option Addr} {xs : List Value} (h : W.ownsRow base e size (.slice ao n cap) n xs) (hn : 0 < n) :
    ∃ g, ao = some ⟨g, 0, none⟩ ∧ g < W.heap.size ∧ base ≤ g ∧ (∀ j u, xs[j]? = some u → W.cell? ⟨g, j, none⟩ = some u) ∧ ∀ j, W.frozen? ⟨g, j, none⟩ = false := by
  rcases h.2 with ⟨_, h0⟩ | ⟨g, cap', cur, hv, hg, hc, _, _, _, hx⟩
  · omega
  · cases hv
    refine ⟨g, rfl, (Array.getElem?_eq_some_iff.1 hc).1, hg, fun j u hj => ?_, fun j => frozen_of_row W g j cur e hc⟩
    rw [← hx, List.getElem?_take] at hj
    split at hj
    · rw [cell_of_row W g j _ e (0, 0) hc]
      simpa using hj
    · cases hj
/-- Nodes in a block of the call's own. -/
abbrev OwN (w : World) (B : Nat) (ao : Option Addr) (n cap : Nat) (F : Nat → Nd) : Prop := w.ownsRow B 70 10 (.slice ao n cap) n (ndsL F n)
theorem OwN.cells {w : World} {B : Nat} {ao : Option Addr} {n cap : Nat} {F : Nat → Nd} (h : OwN w B ao n cap F) (hn : 0 < n) : ∃ g, ao = some ⟨g, 0, none⟩ ∧ g < w.heap.size ∧ B ≤ g ∧ (∀ i j u, i < n → j < 10 → (ndL (F i))[j]? = some u → w.cell? ⟨g, i * 10 + j, none⟩ = some u) ∧ ∀ j, w.frozen? ⟨g, j, none⟩ = false := by
  obtain ⟨g, e, hl, hB, hc, hf⟩ := row_cell h hn
  exact ⟨g, e, hl, hB, fun i j u hi hj hu => hc _ _ (by rw [ndsL_get F n i j hi hj]; exact hu), hf⟩
theorem OwN.rd {w : World} {B : Nat} {ao : Option Addr} {n cap : Nat} {F : Nat → Nd} (h : OwN w B ao n cap F) : RdN w ao n F := by
  intro hn
  obtain ⟨g, e, hl, _, hc, _⟩ := h.cells hn
  refine ⟨g, 0, e, hl, fun i hi => ?_⟩
  simp only [Nat.zero_add]
  exact ⟨hc i 0 _ hi (by omega) rfl, hc i 1 _ hi (by omega) rfl, hc i 2 _ hi (by omega) rfl, hc i 3 _ hi (by omega) rfl, hc i 4 _ hi (by omega) rfl, hc i 5 _ hi (by omega) rfl, hc i 6 _ hi (by omega) rfl, hc i 7 _ hi (by omega) rfl, hc i 8 _ hi (by omega) rfl, hc i 9 _ hi (by omega) rfl⟩
/-- What a call answers that makes nodes. -/
def RetN (w : World) (n : Nat) (F : Nat → Nd) (e : Ending) (w' : World) : Prop := ∃ ao cap, e = .returned (.slice ao n cap) ∧ OwN w' w.heap.size ao n cap F ∧ Below w.heap.size w w'
theorem b_node : (Try.prog.info? 70).map (fun i => (i.zero, i.size, i.bytes)) = some (some (.agg #[.int .i64 0, .int .u64 0, .int .u64 0, .int .u64 0, .int .u64 0, .int .i64 0, .int .i64 0, .int .i64 0, .int .i64 0, .bool false]), 10, 80) := by kernel_rfl
/-- A slice that came: nil, or with an address. -/
def Shp (ao : Option Addr) (n cap : Nat) : Prop := (ao = none ∧ n = 0 ∧ cap = 0) ∨ ∃ a, ao = some a
set_option maxHeartbeats 400000 in
theorem clone_nil (w : World) : Calls Try.prog 69 #[.slice none 0 0] w fun e w' => e = .returned (.slice none 0 0) ∧ w' = w := by
  have hnil := fun w => Lib.run_eql_slice_nil (P := Try.prog) w 45 70 none 0 0 0 0 Try.underlying45
  go_enter Try.func69, Try.ntmps69
  go_wp2
  go_ret
  exact ⟨rfl, rfl⟩
set_option maxHeartbeats 400000 in
theorem clone_some (a : Addr) (l c : Nat) (F : Nat → Nd) (w : World) (hr : RdN w (some a) l F) (hm : (l : Int) * 80 ≤ 140737488355328) : Calls Try.prog 69 #[.slice (some a) l c] w fun e w' => ∃ g cap, e = .returned (.slice (some ⟨g, 0, none⟩) l cap) ∧ OwN w' w.heap.size (some ⟨g, 0, none⟩) l cap F ∧ Below w.heap.size w w' := by
  have hnil := fun w => Lib.run_eql_slice_nil (P := Try.prog) w 45 70 (some a) l c 0 0 Try.underlying45
  obtain ⟨i0, hi, hz0, hz1, hz2⟩ := info_parts b_node
  go_enter Try.func69, Try.ntmps69
  have hnews : ∀ j u, (ndsL F l)[j]? = some u → (w.alloc (.cells #[] 70)).cell? (a.add j) = some u := by
    intro j u hj
    have hjl := (List.getElem?_eq_some_iff.1 hj).1
    rw [ndsL_len] at hjl
    obtain ⟨b, off, e, hb, hc⟩ := hr.cells (by omega)
    obtain rfl := Option.some.inj e
    have hcj := hc j u hj
    rw [((Below.refl _ w).alloc (Nat.le_refl _) _).cell (by by_cases h0 : j = 0 <;> simpa [Addr.add, h0] using hb)]
    by_cases h0 : j = 0
    · subst h0; simpa [Addr.add] using hcj
    · simpa [Addr.add, h0] using hcj
  go_wp2_with (at_builtin; refine wpList_append_own _ rfl _ _ 45 rfl w.heap.size 70 i0 _ 10 80 Try.underlying45 hi hz0 hz1 hz2 rfl (by decide) _ _ _ rfl (World.ownsRow_made (e := 70) (size := 10) (base := w.heap.size) w #[] 0 (Nat.le_refl _) (Nat.zero_le _) rfl) a l c (ndsL F l) rfl (by simp [ndsL_len]) hnews (ndsL_oneCell F l) (by unfold maxLen; omega) (by omega) (by simp) ?_)
  intro v' w2 hown hgr hnil'
  have hb2 : Below w.heap.size w w2 := ((Below.refl _ _).alloc (Nat.le_refl _) _).grown hgr (by simp) (by intro k hk; simp [Value.ownBlock] at hk; omega)
  obtain ⟨g, cap, rfl, hrd⟩ : ∃ g cap, v' = .slice (some ⟨g, 0, none⟩) l cap ∧ OwN w2 w.heap.size (some ⟨g, 0, none⟩) l cap F := by
    replace hown : w2.ownsRow w.heap.size 70 10 v' l (ndsL F l) := by simpa using hown
    rcases hown.2 with ⟨h', _⟩ | ⟨g, cap, cur, h', _⟩
    · exact (hnil' h').elim
    · exact ⟨g, cap, h', by unfold OwN; rw [← h']; exact hown⟩
  have HR : Hid (OwN w2 w.heap.size (some ⟨g, 0, none⟩) l cap F) := hrd
  clear hown hgr hnil' hnews hr hrd
  go_wp2
  go_ret
  exact ⟨_, cap, rfl, HR.out, hb2⟩
theorem clone_any (ao : Option Addr) (l c : Nat) (F : Nat → Nd) (w : World) (hr : RdN w ao l F) (hm : (l : Int) * 80 ≤ 140737488355328) (hn : Shp ao l c) : Calls Try.prog 69 #[.slice ao l c] w (RetN w l F) := by
  rcases hn with ⟨rfl, rfl, rfl⟩ | ⟨a, rfl⟩
  · exact (clone_nil w).mono fun e w' ⟨he, hw⟩ => ⟨none, 0, he, World.ownsRow_nil _ _ _ _, by rw [hw]; exact Below.refl _ _⟩
  · exact (clone_some a l c F w hr hm).mono fun e w' ⟨g, cap, he, ho, hb⟩ => ⟨_, cap, he, ho, hb⟩
def updN (F : Nat → Nd) (i : Nat) (x : Nd) : Nat → Nd := fun j => if j = i then x else F j
theorem ndsL_set (F : Nat → Nd) (n i j : Nat) (u : Value) (x : Nd) (_hi : i < n) (hj : j < 10) (h : (ndL (F i)).set j u = ndL x) : (ndsL F n).set (i * 10 + j) u = ndsL (updN F i x) n := by
  apply List.ext_getElem?
  intro q
  by_cases hq : q < n * 10
  · have hd : q = q / 10 * 10 + q % 10 := by omega
    rw [List.getElem?_set]
    rw [hd, ndsL_get F n _ _ (by omega) (by omega), ndsL_get _ n _ _ (by omega) (by omega)]
    by_cases e : i = q / 10
    · have e2 : updN F i x (q / 10) = x := by simp [updN, e]
      rw [e2, ← h, List.getElem?_set]
      by_cases e3 : j = q % 10
      · rw [if_pos (by omega), if_pos e3, ndsL_len, ndL_len, if_pos (by omega), if_pos (by omega)]
      · rw [if_neg (by omega), if_neg e3, e]
    · have e2 : updN F i x (q / 10) = F (q / 10) := by simp [updN, Ne.symm e]
      rw [e2, if_neg (by omega)]
  · rw [List.getElem?_eq_none (by simp [ndsL_len]; omega), List.getElem?_eq_none (by simp [ndsL_len]; omega)]
/-- The first k nodes moved. -/
def mvF (by_ : Int) (k : Nat) (F : Nat → Nd) : Nat → Nd := fun i => if i < k then sh by_ (F i) else F i
theorem mvF_at (by_ : Int) (k : Nat) (F : Nat → Nd) : mvF by_ k F k = F k := by simp [mvF]
theorem mvF_succ (by_ : Int) (k : Nat) (F : Nat → Nd) : updN (mvF by_ k F) k (sh by_ (F k)) = mvF by_ (k + 1) F := by
  funext i
  by_cases h : i = k
  · subst h; simp [updN, mvF]
  · by_cases h2 : i < k
    · simp [updN, mvF, h, h2, show i < k + 1 by omega]
    · simp [updN, mvF, h, h2, show ¬ i < k + 1 by omega]
theorem updN_self (F : Nat → Nd) (k : Nat) : updN F k (F k) = F := by
  funext i
  by_cases h : i = k
  · subst h; simp [updN]
  · simp [updN, h]
theorem updN_two (F : Nat → Nd) (k : Nat) (x y : Nd) : updN (updN F k x) k y = updN F k y := by
  funext i
  by_cases h : i = k <;> simp [updN, h]
set_option maxRecDepth 10000 in
set_option maxHeartbeats 1000000 in
theorem moved_any (ao : Option Addr) (n cap : Nat) (F : Nat → Nd) (by_ : Int) (w : World) (hr : RdN w ao n F) (hn : (n : Int) ≤ 2048) (hs : Shp ao n cap) (hF : ∀ i, i < n → (-4096 ≤ (F i).a ∧ (F i).a ≤ 4096) ∧ (-4096 ≤ (F i).b ∧ (F i).b ≤ 4096)) (hby : -4096 ≤ by_ ∧ by_ ≤ 4096) :
    Calls Try.prog 56 #[.slice ao n cap, .int .i64 by_] w (RetN w n (fun i => sh by_ (F i))) := by
  have HC := clone_any ao n cap F w hr (by omega) hs
  have hfin : ∀ i, i < n → mvF by_ n F i = sh by_ (F i) := fun i hi => by simp [mvF, hi]
  have hF0 : mvF by_ 0 F = F := by funext i; simp [mvF]
  clear hr hs
  go_enter Try.func56, Try.ntmps56
  go_wp2_with (go_at_call 69; refine HC.mono ?_; rintro e w1 ⟨ao1, cap1, rfl, ho, hb⟩)
  clear HC
  go_loopw [11] (fun i wr => ∃ k : Nat, k ≤ n ∧ i = .int .i64 (k : Nat) ∧ OwN wr w.heap.size ao1 n cap1 (mvF by_ k F) ∧ Below w.heap.size w wr) (fun i _ => n - (intOf i).toNat)
  case atStart => exact ⟨0, Nat.zero_le _, rfl, by rw [hF0]; exact ho, hb⟩
  case round =>
    obtain ⟨k, hk, rfl, ho1, hb1⟩ := hrel
    clear ho hb
    by_cases hlt : k < n
    · have hki : (k : Int) < (n : Int) := by omega
      obtain ⟨g, rfl, hgl, hgB, hc, hfz⟩ := ho1.cells (by omega)
      have c0 := hc k 0 _ hlt (by omega) rfl
      have c5 := hc k 5 _ hlt (by omega) rfl
      have c6 := hc k 6 _ hlt (by omega) rfl
      have f5 := hfz (k * 10 + 5)
      have f6 := hfz (k * 10 + 6)
      rw [mvF_at] at c0 c5 c6
      simp only [Nat.add_zero] at c0
      obtain ⟨⟨a1, a2⟩, b1, b2⟩ := hF k hlt
      obtain ⟨y1, y2⟩ := hby
      have HX : Hid (∀ W, OwN W w.heap.size (some ⟨g, 0, none⟩) n cap1 (mvF by_ (k + 1) F) → Below w.heap.size w W → ∃ k' : Nat, k' ≤ n ∧ (Value.int .i64 ((k : Int) + 1)) = .int .i64 (k' : Nat) ∧ OwN W w.heap.size (some ⟨g, 0, none⟩) n cap1 (mvF by_ k' F) ∧ Below w.heap.size w W) := fun W h1 h2 => ⟨k + 1, hlt, by simp, h1, h2⟩
      have hset : ∀ (G : Nat → Nd) (j : Nat) (v : Int) (x : Nd) (W : World), j < 10 → OwN W w.heap.size (some ⟨g, 0, none⟩) n cap1 G → Below w.heap.size w W → (ndL (G k)).set j (.int .i64 v) = ndL x → OwN (W.setCell ⟨g, k * 10 + j, none⟩ (.int .i64 v)) w.heap.size (some ⟨g, 0, none⟩) n cap1 (updN G k x) ∧ Below w.heap.size w (W.setCell ⟨g, k * 10 + j, none⟩ (.int .i64 v)) := by
        intro G j v x W hj h1 h2 h3
        refine ⟨?_, h2.setCell (p := ⟨g, k * 10 + j, none⟩) hgB _⟩
        have := (World.ownsRow.stored h1 (k * 10 + j) (.int .i64 v)).1
        rw [ndsL_set G n k j _ x hlt hj h3] at this
        exact this
      have hm := mvF_succ by_ k F
      have hat := mvF_at by_ k F
      by_cases k34 : (F k).k = 3 ∨ (F k).k = 4
      · have HY : Hid (OwN ((wr.setCell ⟨g, k * 10 + 6, none⟩ (.int .i64 ((F k).b + by_))).setCell ⟨g, k * 10 + 5, none⟩ (.int .i64 ((F k).a + by_))) w.heap.size (some ⟨g, 0, none⟩) n cap1 (mvF by_ (k + 1) F) ∧ Below w.heap.size w ((wr.setCell ⟨g, k * 10 + 6, none⟩ (.int .i64 ((F k).b + by_))).setCell ⟨g, k * 10 + 5, none⟩ (.int .i64 ((F k).a + by_)))) := by
          obtain ⟨h1, h2⟩ := hset (mvF by_ k F) 6 ((F k).b + by_) { F k with b := (F k).b + by_ } wr (by omega) ho1 hb1 (by rw [hat]; rfl)
          obtain ⟨h3, h4⟩ := hset _ 5 ((F k).a + by_) { F k with a := (F k).a + by_, b := (F k).b + by_ } _ (by omega) h1 h2 (by simp [updN, ndL])
          rw [updN_two] at h3
          rw [sh34 by_ k34] at hm
          rw [hm] at h3
          exact ⟨h3, h4⟩
        have HZ := HX.out _ HY.out.1 HY.out.2
        clear HY HX hset hm hat ho1 hb1 hc hfz hF hfin hF0
        generalize F k = q at *
        have HW : Hid _ := HZ
        clear HZ
        rcases k34 with e | e <;> rw [e] at c0 <;> clear e <;> go_wp2 <;> go_roundw
        case rel => exact HW.out
        case measure => simp [intOf]; omega
        case rel => exact HW.out
        case measure => simp [intOf]; omega
      · have n3 : ((F k).k == 3) = false := by simp; omega
        have n4 : ((F k).k == 4) = false := by simp; omega
        by_cases k5 : (F k).k = 5
        · have HY : Hid (OwN (wr.setCell ⟨g, k * 10 + 5, none⟩ (.int .i64 ((F k).a + by_))) w.heap.size (some ⟨g, 0, none⟩) n cap1 (mvF by_ (k + 1) F) ∧ Below w.heap.size w (wr.setCell ⟨g, k * 10 + 5, none⟩ (.int .i64 ((F k).a + by_)))) := by
            obtain ⟨h1, h2⟩ := hset (mvF by_ k F) 5 ((F k).a + by_) { F k with a := (F k).a + by_ } wr (by omega) ho1 hb1 (by rw [hat]; rfl)
            rw [sh5 by_ k5] at hm
            rw [hm] at h1
            exact ⟨h1, h2⟩
          have HZ := HX.out _ HY.out.1 HY.out.2
          clear HY HX hset hm hat ho1 hb1 hc hfz hF hfin hF0 k34 n3 n4
          generalize F k = q at *
          have HW : Hid _ := HZ
          clear HZ
          rw [k5] at c0
          clear k5
          go_wp2
          go_roundw
          case rel => exact HW.out
          case measure => simp [intOf]; omega
        · have n5 : ((F k).k == 5) = false := by simp; omega
          have HZ := HX.out wr (by rw [← hm, sh0 by_ (by omega), ← hat, updN_self]; exact ho1) hb1
          clear HX hset hm hat ho1 hb1 hc hfz hF hfin hF0 k34 k5
          generalize F k = q at *
          have HW : Hid _ := HZ
          clear HZ
          go_wp2
          go_roundw
          case rel => exact HW.out
          case measure => simp [intOf]; omega
    · obtain rfl : k = n := by omega
      have hki : ¬ (k : Int) < (k : Int) := by omega
      have HR : Hid (RetN w k (fun i => sh by_ (F i)) (.returned (.slice ao1 k cap1)) wr) := ⟨ao1, cap1, rfl, by unfold OwN; rw [← ndsL_congr hfin]; exact ho1, hb1⟩
      clear ho1 hb1 hF hfin hF0
      go_wp2
      go_ret
      exact HR.out
end Go.Proofs.Ytobgmgpclcfkcaa.T
