/- slices.Clone of bytes and of letters: the walks. rough: the walk. bytesOf: the walk. -/
import Derived.Test.YthbmfnibgjlkhaaDoorGSpSaNl
import Derived.Test.YthbmfnibgjlkhaaDoorLg
import Derived.Laws.AppendOwn
import Derived.Lib.SliceRun
import Derived.Test.YthbmfnibgjlkhaaDoorLd
import Derived.Deep.DeepCutAuto
namespace Go.Proofs.YthbmfnibgjlkhaaDoor
open Go.RowKit Go.Shelf K
def updN' (f : Nat → Nat) (i : Nat) (v : Nat) : Nat → Nat := fun j => if j = i then v else f j
/-- n bytes as cells. -/
def btsL (f : Nat → Nat) (n : Nat) : List Value := (List.range n).map fun i => Value.int .u8 (f i : Nat)
theorem btsL_length (f : Nat → Nat) (n : Nat) : (btsL f n).length = n := by simp [btsL]
theorem btsL_get (f : Nat → Nat) {n i : Nat} (h : i < n) : (btsL f n)[i]? = some (.int .u8 (f i : Nat)) := by simp [btsL, h]
theorem btsL_some {f : Nat → Nat} {n j : Nat} {u : Value} (h : (btsL f n)[j]? = some u) : j < n ∧ u = .int .u8 (f j : Nat) := by
  by_cases hj : j < n
  · rw [btsL_get f hj] at h; exact ⟨hj, by simpa using h.symm⟩
  · rw [List.getElem?_eq_none (by rw [btsL_length]; omega)] at h; simp at h
theorem btsL_one (f : Nat → Nat) (n : Nat) : ∀ u ∈ btsL f n, u.oneCell' = true := by
  intro u hu
  simp only [btsL, List.mem_map] at hu
  obtain ⟨i, _, rfl⟩ := hu
  rfl
theorem btsL_snoc (f : Nat → Nat) (n : Nat) : btsL f (n + 1) = btsL f n ++ [.int .u8 (f n : Nat)] := by simp [btsL, List.range_succ]
theorem btsL_set (f : Nat → Nat) (n i v : Nat) : (btsL f n).set i (.int .u8 (v : Nat)) = btsL (updN' f i v) n := by
  apply List.ext_getElem?
  intro j
  rw [List.getElem?_set]
  by_cases hj : j < n
  · rw [btsL_get _ hj, btsL_get _ hj]
    by_cases h : i = j
    · subst h; simp [updN', btsL_length, hj]
    · rw [if_neg h]; simp [updN', Ne.symm h]
  · rw [List.getElem?_eq_none (by simp [btsL_length]; omega), List.getElem?_eq_none (by simp [btsL_length]; omega)]
    by_cases h : i = j
    · rw [if_pos h, if_neg (by simp [btsL_length]; omega)]
    · rw [if_neg h]
/-- n bytes of one's own, not below lo. -/
def OwB (w : World) (lo : Nat) (ao : Option Addr) (n cap : Nat) (f : Nat → Nat) : Prop := w.ownsRow lo 5 1 (.slice ao n cap) n (btsL f n)
theorem rdb_row {B : Nat} {w : World} {ao : Option Addr} {n cap : Nat} {f : Nat → Nat} (hs : ∀ i, i < n → f i < 256) (h : OwB w B ao n cap f) : Rd w ao n f := by
  refine ⟨hs, fun hl => ?_⟩
  rcases h.2 with ⟨_, h0⟩ | ⟨g, c, cur, h', hbg, hg, hnc, _, hsz, htake⟩
  · omega
  · simp only [Value.slice.injEq] at h'
    obtain ⟨rfl, _, rfl⟩ := h'
    refine ⟨g, 0, rfl, (Array.getElem?_eq_some_iff.1 hg).1, fun i hi => ?_⟩
    rw [cell_of_row w g (0 + i) cur 5 (0, 0) hg, Nat.zero_add]
    have e : cur.toList[i]? = (btsL f n)[i]? := by rw [← htake, List.getElem?_take, if_pos (by omega)]
    rw [← Array.getElem?_toList, e, btsL_get f hi]
/-- A slice of bytes of one's own. -/
def RetOb (w : World) (n : Nat) (z : Nat → Nat) (e : Ending) (w' : World) : Prop := ∃ ao cap, e = .returned (.slice ao n cap) ∧ OwB w' w.heap.size ao n cap z ∧ Below w.heap.size w w'
theorem b_byte : (Tryd.prog.info? 5).map (fun i => (i.zero, i.size, i.bytes)) = some (some (.int .u8 0), 1, 1) := by kernel_rfl
set_option maxHeartbeats 400000 in
theorem cloneb_nil (w : World) : Calls Tryd.prog 68 #[.slice none 0 0] w fun e w' => e = .returned (.slice none 0 0) ∧ w' = w := by
  have hnil := fun w => Lib.run_eql_slice_nil (P := Tryd.prog) w 35 5 none 0 0 0 0 Tryd.underlying35
  go_enter Tryd.func68, Tryd.ntmps68
  go_wp2
  go_ret
  exact ⟨rfl, rfl⟩
set_option maxHeartbeats 400000 in
theorem cloneb_some (a : Addr) (l c : Nat) (f : Nat → Nat) (w : World) (hr : Rd w (some a) l f) (hm : (l : Int) ≤ 1099511627776) : Calls Tryd.prog 68 #[.slice (some a) l c] w (RetOb w l f) := by
  have hnil := fun w => Lib.run_eql_slice_nil (P := Tryd.prog) w 35 5 (some a) l c 0 0 Tryd.underlying35
  obtain ⟨i0, hi, hz0, hz1, hz2⟩ := info_parts b_byte
  go_enter Tryd.func68, Tryd.ntmps68
  have hnews : ∀ j u, (btsL f l)[j]? = some u → (w.alloc (.cells #[] 5)).cell? (a.add j) = some u := by
    intro j u hj
    obtain ⟨hjl, rfl⟩ := btsL_some hj
    obtain ⟨b, off, e, hb, hc⟩ := hr.at_ (by omega)
    obtain rfl := Option.some.inj e
    have hcj := hc j hjl
    rw [((Below.refl _ w).alloc (Nat.le_refl _) _).cell (by by_cases h0 : j = 0 <;> simpa [Addr.add, h0] using hb)]
    by_cases h0 : j = 0
    · subst h0; simpa [Addr.add] using hcj
    · simpa [Addr.add, h0] using hcj
  go_wp2_with (at_builtin; refine wpList_append_own _ rfl _ _ 35 rfl w.heap.size 5 i0 (.int .u8 0) 1 1 Tryd.underlying35 hi hz0 hz1 hz2 rfl (by decide) _ _ _ rfl (World.ownsRow_made (e := 5) (size := 1) (base := w.heap.size) w #[] 0 (Nat.le_refl _) (Nat.zero_le _) rfl) a l c (btsL f l) rfl (by simp [btsL_length]) hnews (btsL_one f l) (by unfold maxLen; omega) (by omega) (by simp) ?_)
  intro v' w2 hown hgr hnil'
  have hb2 : Below w.heap.size w w2 := ((Below.refl _ _).alloc (Nat.le_refl _) _).grown hgr (by simp) (by intro k hk; simp [Value.ownBlock] at hk; omega)
  obtain ⟨g, cap, rfl, hrd⟩ : ∃ g cap, v' = .slice (some ⟨g, 0, none⟩) l cap ∧ OwB w2 w.heap.size (some ⟨g, 0, none⟩) l cap f := by
    replace hown : w2.ownsRow w.heap.size 5 1 v' l (btsL f l) := by simpa using hown
    rcases hown.2 with ⟨h', _⟩ | ⟨g, cap, cur, h', _⟩
    · exact (hnil' h').elim
    · exact ⟨g, cap, h', by unfold OwB; rw [← h']; exact hown⟩
  have HR : Hid (OwB w2 w.heap.size (some ⟨g, 0, none⟩) l cap f) := hrd
  clear hown hgr hnil' hnews hr hrd
  go_wp2
  go_ret
  exact ⟨_, cap, rfl, HR.out, hb2⟩
theorem cloneb_any (ao : Option Addr) (l c : Nat) (f : Nat → Nat) (w : World) (hr : Rd w ao l f) (hm : (l : Int) ≤ 1099511627776) (hn : Shp ao l c) : Calls Tryd.prog 68 #[.slice ao l c] w (RetOb w l f) := by
  rcases hn with ⟨rfl, rfl, rfl⟩ | ⟨a, rfl⟩
  · exact (cloneb_nil w).mono fun e w' ⟨he, hw⟩ => ⟨none, 0, he, World.ownsRow_nil _ _ _ _, by rw [hw]; exact Below.refl _ _⟩
  · exact cloneb_some a l c f w hr hm
/-- A slice of letters of one's own. -/
def RetOl (w : World) (l : List (Nat × Bool)) (e : Ending) (w' : World) : Prop := ∃ ao cap, e = .returned (.slice ao l.length cap) ∧ RdL w' ao l ∧ Shp ao l.length cap ∧ (∀ a, ao = some a → w.heap.size ≤ a.block) ∧ Below w.heap.size w w'
theorem b_letter : (Tryd.prog.info? 26).map (fun i => (i.zero, i.size, i.bytes)) = some (some (.agg #[.int .u8 0, .bool false]), 2, 2) := by kernel_rfl
theorem lcs_length (l : List (Nat × Bool)) : (lcs l).length = l.length * 2 := by
  induction l with
  | nil => rfl
  | cons x r ih =>
    have : lcs (x :: r) = [.int .u8 (x.1 : Nat), .bool x.2] ++ lcs r := rfl
    rw [this]
    simp [ih]
    omega
theorem lcs_one : ∀ l : List (Nat × Bool), ∀ u ∈ lcs l, u.oneCell' = true := by
  intro l u hu
  simp only [lcs, List.mem_flatMap] at hu
  obtain ⟨x, _, hx⟩ := hu
  simp only [List.mem_cons, List.not_mem_nil, or_false] at hx
  rcases hx with rfl | rfl <;> rfl
theorem RdL.cells {W : World} {ao : Option Addr} {l : List (Nat × Bool)} (h : RdL W ao l) (hl : 0 < l.length) : ∃ b off, ao = some ⟨b, off, none⟩ ∧ b < W.heap.size ∧ ∀ j u, (lcs l)[j]? = some u → W.cell? ⟨b, off + j, none⟩ = some u := by
  obtain ⟨b, off, e, hb, hc⟩ := h hl
  refine ⟨b, off, e, hb, fun j u hj => ?_⟩
  have hjl : j < l.length * 2 := by
    have := (List.getElem?_eq_some_iff.1 hj).1
    rwa [lcs_length] at this
  obtain ⟨x, hx⟩ : ∃ x, l[j / 2]? = some x := ⟨_, List.getElem?_eq_getElem (by omega)⟩
  obtain ⟨g0, g1⟩ := lcs_get l _ x hx
  obtain ⟨c0, c1⟩ := hc _ x hx
  rcases Nat.mod_two_eq_zero_or_one j with h2 | h2
  · have ej : j / 2 * 2 = j := by omega
    rw [ej] at g0 c0
    rw [hj] at g0
    rw [c0, g0]
  · have ej : j / 2 * 2 + 1 = j := by omega
    have ek : off + j / 2 * 2 + 1 = off + j := by omega
    rw [ej] at g1
    rw [ek] at c1
    rw [hj] at g1
    rw [c1, g1]
set_option maxHeartbeats 400000 in
theorem clonel_nil (w : World) : Calls Tryd.prog 67 #[.slice none 0 0] w fun e w' => e = .returned (.slice none 0 0) ∧ w' = w := by
  have hnil := fun w => Lib.run_eql_slice_nil (P := Tryd.prog) w 34 26 none 0 0 0 0 Tryd.underlying34
  go_enter Tryd.func67, Tryd.ntmps67
  go_wp2
  go_ret
  exact ⟨rfl, rfl⟩
set_option maxHeartbeats 400000 in
theorem clonel_some (a : Addr) (l : List (Nat × Bool)) (n c : Nat) (w : World) (hn : l.length = n) (hr : RdL w (some a) l) (hm : (n : Int) ≤ 1099511627776) : Calls Tryd.prog 67 #[.slice (some a) n c] w (fun e w' => ∃ ao cap, e = .returned (.slice ao n cap) ∧ RdL w' ao l ∧ Shp ao n cap ∧ (∀ a, ao = some a → w.heap.size ≤ a.block) ∧ Below w.heap.size w w') := by
  have hnil := fun w => Lib.run_eql_slice_nil (P := Tryd.prog) w 34 26 (some a) n c 0 0 Tryd.underlying34
  obtain ⟨i0, hi, hz0, hz1, hz2⟩ := info_parts b_letter
  have HN : Hid (l.length = n) := hn
  go_enter Tryd.func67, Tryd.ntmps67
  have hnews : ∀ j u, (lcs l)[j]? = some u → (w.alloc (.cells #[] 26)).cell? (a.add j) = some u := by
    intro j u hj
    have hjl := (List.getElem?_eq_some_iff.1 hj).1
    rw [lcs_length] at hjl
    obtain ⟨b, off, e, hb, hc⟩ := hr.cells (by omega)
    obtain rfl := Option.some.inj e
    have hcj := hc j u hj
    rw [((Below.refl _ w).alloc (Nat.le_refl _) _).cell (by by_cases h0 : j = 0 <;> simpa [Addr.add, h0] using hb)]
    by_cases h0 : j = 0
    · subst h0; simpa [Addr.add] using hcj
    · simpa [Addr.add, h0] using hcj
  have hlen : (lcs l).length = n * 2 := by rw [lcs_length, hn]
  clear hn
  go_wp2_with (at_builtin; refine wpList_append_own _ rfl _ _ 34 rfl w.heap.size 26 i0 _ 2 2 Tryd.underlying34 hi hz0 hz1 hz2 rfl (by decide) _ _ _ rfl (World.ownsRow_made (e := 26) (size := 2) (base := w.heap.size) w #[] 0 (Nat.le_refl _) (Nat.zero_le _) rfl) a n c (lcs l) rfl hlen hnews (lcs_one l) (by unfold maxLen; omega) (by omega) (by simp) ?_)
  intro v' w2 hown hgr hnil'
  have hb2 : Below w.heap.size w w2 := ((Below.refl _ _).alloc (Nat.le_refl _) _).grown hgr (by simp) (by intro k hk; simp [Value.ownBlock] at hk; omega)
  obtain ⟨g, cap, rfl, hrd, hgB⟩ : ∃ g cap, v' = .slice (some ⟨g, 0, none⟩) n cap ∧ RdL w2 (some ⟨g, 0, none⟩) l ∧ w.heap.size ≤ g := by
    replace hown : w2.ownsRow w.heap.size 26 2 v' n (lcs l) := by simpa using hown
    rcases hown.2 with ⟨h', _⟩ | ⟨g, cap, cur, h', hgB, _⟩
    · exact (hnil' h').elim
    · refine ⟨g, cap, h', ?_, hgB⟩
      rw [h'] at hown
      have e := HN.out
      subst e
      exact rdl_row hown
  have HR : Hid (RdL w2 (some ⟨g, 0, none⟩) l) := hrd
  clear hown hgr hnil' hnews hr hrd HN hlen
  go_wp2
  go_ret
  exact ⟨_, cap, rfl, HR.out, .inr ⟨_, rfl⟩, fun a e => by obtain rfl := Option.some.inj e; exact hgB, hb2⟩
theorem clonel_any (ao : Option Addr) (l : List (Nat × Bool)) (c : Nat) (w : World) (hr : RdL w ao l) (hm : (l.length : Int) ≤ 1099511627776) (hn : Shp ao l.length c) : Calls Tryd.prog 67 #[.slice ao l.length c] w (RetOl w l) := by
  rcases hn with ⟨rfl, h0, rfl⟩ | ⟨a, rfl⟩
  · rw [h0]
    refine (clonel_nil w).mono fun e w' ⟨he, hw⟩ => ⟨none, 0, by rw [h0]; exact he, fun h => by omega, .inl ⟨rfl, h0, rfl⟩, (fun a e => by cases e), by rw [hw]; exact Below.refl _ _⟩
  · exact clonel_some a l l.length c w rfl hr hm
end Go.Proofs.YthbmfnibgjlkhaaDoor
namespace Go.Proofs.YthbmfnibgjlkhaaDoor
open Go.RowKit Go.Shelf K
/-- One byte for both, where both are in P. -/
def rgh (P : Nat → Bool) (x : Nat) : Nat := if P x then x ||| 32 else x
/-- The first k bytes of z so. -/
def rghT (P : Nat → Bool) (z : Nat → Nat) (k : Nat) : Nat → Nat := fun i => if i < k then rgh P (z i) else z i
theorem rghT_no {P : Nat → Bool} {z : Nat → Nat} {k : Nat} (h : P (z k) = false) : rghT P z (k + 1) = rghT P z k := by
  funext i
  unfold rghT
  by_cases e : i = k
  · subst e
    simp [rgh, h]
  · have : (i < k + 1) ↔ (i < k) := by omega
    simp only [this]
theorem rghT_yes {P : Nat → Bool} {z : Nat → Nat} {k : Nat} (h : P (z k) = true) : rghT P z (k + 1) = updN' (rghT P z k) k (z k ||| 32) := by
  funext i
  unfold rghT updN'
  by_cases e : i = k
  · subst e
    simp [rgh, h]
  · have : (i < k + 1) ↔ (i < k) := by omega
    simp only [this, if_neg e]
theorem rgh_small {P : Nat → Bool} {x : Nat} (h : x < 256) : rgh P x < 256 := by
  unfold rgh
  split
  · exact Nat.or_lt_two_pow (n := 8) h (by decide)
  · exact h
theorem OwB.cells {w : World} {B : Nat} {ao : Option Addr} {n cap : Nat} {f : Nat → Nat} (h : OwB w B ao n cap f) (hn : 0 < n) : ∃ g, ao = some ⟨g, 0, none⟩ ∧ g < w.heap.size ∧ B ≤ g ∧ (∀ i, i < n → w.cell? ⟨g, i, none⟩ = some (.int .u8 (f i : Nat))) ∧ ∀ i, w.frozen? ⟨g, i, none⟩ = false := by
  obtain ⟨g, e, hg, hB, hc, hf⟩ := row_cell h hn
  exact ⟨g, e, hg, hB, fun i hi => hc i _ (btsL_get f hi), hf⟩
theorem OwB.put {w : World} {B g n cap : Nat} {f : Nat → Nat} (h : OwB w B (some ⟨g, 0, none⟩) n cap f) (k v : Nat) : OwB (w.setCell ⟨g, k, none⟩ (.int .u8 (v : Nat))) B (some ⟨g, 0, none⟩) n cap (updN' f k v) := by
  have := (World.ownsRow.stored h k (.int .u8 (v : Nat))).1
  rw [btsL_set] at this
  exact this
set_option maxRecDepth 10000 in
set_option maxHeartbeats 2000000 in
theorem rough_any {P : Nat → Bool} {a b c d : Nat} (h4 : C4 P a b c d) (ao : Option Addr) (n cap : Nat) (z : Nat → Nat) (w : World) (hr : Rd w ao n z) (hm : (n : Int) ≤ 1099511627776) (hs : Shp ao n cap) : Calls Tryd.prog 74 #[.agg #[.int .u64 (a : Nat), .int .u64 (b : Nat), .int .u64 (c : Nat), .int .u64 (d : Nat)], .slice ao n cap] w (RetOb w n (fun i => rgh P (z i))) := by
  have hB := below1 w (.cells #[.int .u64 (a : Nat), .int .u64 (b : Nat), .int .u64 (c : Nat), .int .u64 (d : Nat)] 24)
  have X0 : Cl (w.alloc (.cells #[.int .u64 (a : Nat), .int .u64 (b : Nat), .int .u64 (c : Nat), .int .u64 (d : Nat)] 24)) w.heap.size 24 [.int .u64 (a : Nat), .int .u64 (b : Nat), .int .u64 (c : Nat), .int .u64 (d : Nat)] := Cl.new w 24 _
  have HC := cloneb_any ao n cap z _ (hr.below hB) hm hs
  have HSm : Hid (∀ i, i < n → z i < 256) := hr.small
  have hF : rghT P z 0 = z := by funext i; simp [rghT]
  have hH : Hid (∀ (x : Nat) (W : World), x < 256 → Calls Tryd.prog 72 #[.agg #[.int .u64 (a : Nat), .int .u64 (b : Nat), .int .u64 (c : Nat), .int .u64 (d : Nat)], .int .u8 (x : Nat)] W fun e w' => e = .returned (.bool (P x)) ∧ Below W.heap.size W w') := fun x W hx => has_c h4 x W hx
  clear hr hs
  go_enter Tryd.func74, Tryd.ntmps74
  go_wp2_with (go_at_call 68; refine HC.mono ?_; rintro e w1 ⟨ao1, cap1, rfl, ho, hb⟩)
  have X1 := X0.below hb
  have hB1 := hB.trans (hb.mono hB.size)
  replace ho := ownsRow_base ho hB.size
  have ho0 : OwB w1 w.heap.size ao1 n cap1 (rghT P z 0) := by rw [hF]; exact ho
  clear HC X0 hb hB hF ho h4
  go_loopw [11] (fun i wr => ∃ k : Nat, k ≤ n ∧ i = .int .i64 (k : Nat) ∧ OwB wr w.heap.size ao1 n cap1 (rghT P z k) ∧ Cl wr w.heap.size 24 [.int .u64 (a : Nat), .int .u64 (b : Nat), .int .u64 (c : Nat), .int .u64 (d : Nat)] ∧ Below w.heap.size w wr) (fun i _ => n - (intOf i).toNat)
  case atStart => exact ⟨0, Nat.zero_le _, rfl, ho0, X1, hB1⟩
  case round =>
    obtain ⟨k, hk, rfl, ho1, X2, hb1⟩ := hrel
    clear ho0 X1 hB1
    by_cases hlt : k < n
    · have hki : (k : Int) < (n : Int) := by omega
      obtain ⟨g, rfl, hgl, hgB, hc, hfz⟩ := ho1.cells (by omega)
      have hzk := HSm.out k hlt
      have c0 := hc k hlt
      have e0 : rghT P z k k = z k := by simp [rghT]
      rw [e0] at c0
      have f0 := hfz k
      have x0 := X2.cell 0 rfl
      have x1 := X2.cell 1 rfl
      have x2 := X2.cell 2 rfl
      have x3 := X2.cell 3 rfl
      have hor := u8_or32 (z k) hzk
      have HH := hH.out (z k) wr hzk
      have hgne : g ≠ w.heap.size := by
        rintro rfl
        rcases ho1.2 with ⟨h', _⟩ | ⟨g', c', cur, h', _, hg, _⟩
        · simp at h'
        · simp only [Value.slice.injEq, Option.some.injEq, Addr.mk.injEq, and_true, true_and] at h'
          obtain ⟨rfl, rfl⟩ := h'
          have := X2
          unfold Cl at this
          rw [hg] at this
          simp at this
      cases hp : P (z k) with
      | true =>
        have HX : Hid (∀ W, Below wr.heap.size wr W → ∃ k' : Nat, k' ≤ n ∧ (Value.int .i64 ((k : Int) + 1)) = .int .i64 (k' : Nat) ∧ OwB (W.setCell ⟨g, k, none⟩ (.int .u8 ((z k ||| 32 : Nat) : Int))) w.heap.size (some ⟨g, 0, none⟩) n cap1 (rghT P z k') ∧ Cl (W.setCell ⟨g, k, none⟩ (.int .u8 ((z k ||| 32 : Nat) : Int))) w.heap.size 24 [.int .u64 (a : Nat), .int .u64 (b : Nat), .int .u64 (c : Nat), .int .u64 (d : Nat)] ∧ Below w.heap.size w (W.setCell ⟨g, k, none⟩ (.int .u8 ((z k ||| 32 : Nat) : Int)))) := fun W h2 => by
          refine ⟨k + 1, hlt, by simp, ?_, (X2.below h2).other hgne _ _, (hb1.trans (h2.mono hb1.size)).setCell (p := ⟨g, k, none⟩) hgB _⟩
          rw [rghT_yes hp]
          exact OwB.put (ownsRow_below ho1 h2) k _
        have HF : Hid (∀ W, Below wr.heap.size wr W → W.frozen? ⟨g, k, none⟩ = false) := fun W h2 => by
          obtain ⟨g', e', _, _, _, hf⟩ := OwB.cells (ownsRow_below ho1 h2) (by omega)
          simp only [Option.some.injEq, Addr.mk.injEq, and_true] at e'
          rw [e']
          exact hf k
        have HCk : Hid (∀ W, Below wr.heap.size wr W → W.cell? ⟨g, k, none⟩ = some (.int .u8 (z k : Nat))) := fun W h2 => by
          rw [h2.cell (p := ⟨g, k, none⟩) hgl]; exact c0
        rw [hp] at HH
        clear hp ho1 X2 hb1 hc hfz e0 hH hzk HSm
        generalize hy : z k ||| 32 = y at *
        clear hy
        generalize z k = x at *
        go_wp2_with (go_at_call 72; refine HH.mono ?_; rintro e w3 ⟨rfl, hb3⟩; have f3 := HF.out _ hb3; have c3 := HCk.out _ hb3)
        have HY := HX.out _ hb3
        have HZ : Hid _ := HY
        clear HX HY HF HCk HH hb3 x0 x1 x2 x3 f0 c0
        go_wp2
        go_roundw
        case rel => exact HZ.out
        case measure => simp [intOf]; omega
      | false =>
        have HX : Hid (∀ W, Below wr.heap.size wr W → ∃ k' : Nat, k' ≤ n ∧ (Value.int .i64 ((k : Int) + 1)) = .int .i64 (k' : Nat) ∧ OwB W w.heap.size (some ⟨g, 0, none⟩) n cap1 (rghT P z k') ∧ Cl W w.heap.size 24 [.int .u64 (a : Nat), .int .u64 (b : Nat), .int .u64 (c : Nat), .int .u64 (d : Nat)] ∧ Below w.heap.size w W) := fun W h2 => by
          refine ⟨k + 1, hlt, by simp, ?_, X2.below h2, hb1.trans (h2.mono hb1.size)⟩
          rw [rghT_no hp]
          exact ownsRow_below ho1 h2
        rw [hp] at HH
        clear hp ho1 X2 hb1 hc hfz e0 hH hzk HSm hor
        generalize z k = x at *
        go_wp2_with (go_at_call 72; refine HH.mono ?_; rintro e w3 ⟨rfl, hb3⟩)
        have HY := HX.out _ hb3
        have HZ : Hid _ := HY
        clear HX HY HH hb3 x0 x1 x2 x3 f0 c0
        go_wp2
        go_roundw
        case rel => exact HZ.out
        case measure => simp [intOf]; omega
    · obtain rfl : k = n := by omega
      have hki : ¬ (k : Int) < (k : Int) := by omega
      have HO : Hid (OwB wr w.heap.size ao1 k cap1 (fun i => rgh P (z i))) := by
        have e : btsL (rghT P z k) k = btsL (fun i => rgh P (z i)) k := by
          apply List.ext_getElem?
          intro j
          by_cases hj : j < k
          · rw [btsL_get _ hj, btsL_get _ hj]; simp [rghT, hj]
          · rw [List.getElem?_eq_none (by simp [btsL_length]; omega), List.getElem?_eq_none (by simp [btsL_length]; omega)]
        show OwB wr w.heap.size ao1 k cap1 _
        unfold OwB at ho1 ⊢
        rw [← e]
        exact ho1
      clear ho1 X2 hH HSm
      go_wp2
      go_ret
      exact ⟨_, _, rfl, HO.out, hb1⟩
end Go.Proofs.YthbmfnibgjlkhaaDoor
namespace Go.Proofs.YthbmfnibgjlkhaaDoor
open Go.RowKit Go.Shelf K
/-- The byte of each letter. -/
def byL (l : List (Nat × Bool)) : Nat → Nat := fun i => ((l[i]?).getD (0, false)).1
theorem byL_at {l : List (Nat × Bool)} {i : Nat} {x : Nat × Bool} (h : l[i]? = some x) : byL l i = x.1 := by simp [byL, h]
theorem make_bytes (n : Nat) (hn : n ≤ 1099511627776) (w : World) : (Instr.makeSlice 35 (.int .i64 0) (.int .i64 (n : Nat))).run Tryd.prog w = .ok (.slice (some ⟨w.heap.size, 0, none⟩) 0 n) (w.alloc (.cells (madeCells #[.int .u8 0] n) 5)) := by
  obtain ⟨i, hi, hz, hs, hb⟩ := info_parts b_byte
  have := run_make (P := Tryd.prog) w 35 5 i (.int .u8 0) Tryd.underlying35 hi hz .i64 .i64 0 (n : Int) (by omega) (by omega) (by rw [hb]; omega) (by omega)
  rw [this, hs]
  simp [Value.cells]
set_option maxRecDepth 10000 in
set_option maxHeartbeats 2000000 in
theorem bytesOf_any (ao : Option Addr) (n cap : Nat) (l : List (Nat × Bool)) (w : World) (hr : RdL w ao l) (hL : l.length = n) (hm : (n : Int) ≤ 1099511627776) : Calls Tryd.prog 75 #[.slice ao n cap] w (RetOb w n (byL l)) := by
  have hmk := make_bytes n (by omega) w
  obtain ⟨i0, hi, hz0, hz1, hz2⟩ := info_parts b_byte
  have k0 : (w.alloc (.cells (madeCells #[.int .u8 0] n) 5)).ownsRow w.heap.size 5 1 (.slice (some ⟨w.heap.size, 0, none⟩) 0 n) 0 (btsL (byL l) 0) := World.ownsRow_made (e := 5) (size := 1) (base := w.heap.size) w _ n (Nat.le_refl _) (by unfold maxLen; omega) (by simp [madeCells])
  have hB0 := below1 w (.cells (madeCells #[.int .u8 0] n) 5)
  have HL : Hid (l.length = n) := hL
  clear hL
  go_enter Tryd.func75, Tryd.ntmps75
  go_wp2
  go_loopw [3, 11] (fun v i wr => ∃ k : Nat, k ≤ n ∧ i = .int .i64 (k : Nat) ∧ (∃ a c, v = .slice a k c) ∧ wr.ownsRow w.heap.size 5 1 v k (btsL (byL l) k) ∧ Below w.heap.size w wr) (fun _ i _ => n - (intOf i).toNat)
  case atStart => exact ⟨0, Nat.zero_le _, rfl, ⟨_, _, rfl⟩, k0, hB0⟩
  case round =>
    obtain ⟨k, hk, rfl, ⟨a1, c1, rfl⟩, ho1, hb1⟩ := hrel
    clear k0 hB0 hmk
    by_cases hlt : k < n
    · have hki : (k : Int) < (n : Int) := by omega
      obtain ⟨b, off, rfl, hlb, hc⟩ := hr.below hb1 (by rw [HL.out]; omega)
      obtain ⟨x, hx⟩ : ∃ x, l[k]? = some x := ⟨_, List.getElem?_eq_getElem (by rw [HL.out]; exact hlt)⟩
      obtain ⟨p0, p1⟩ := hc k x hx
      have hby := byL_at hx
      obtain ⟨x1, x2⟩ := x
      dsimp only at p0 p1 hby
      have HR : Hid (∀ (o o' : Obj), ((wr.alloc o).alloc o').ownsRow w.heap.size 5 1 (.slice a1 k c1) k (btsL (byL l) k) ∧ w.heap.size ≤ ((wr.alloc o).alloc o').heap.size) := fun o o' => ⟨ownsRow_below ho1 (below2 wr o o'), by have := hb1.size; simp; omega⟩
      have HN : Hid (∀ (o : Obj) j u, [Value.int .u8 (x1 : Nat)][j]? = some u → ((wr.alloc o).alloc (.cells #[.int .u8 (x1 : Nat)] 5)).cell? (Addr.add ⟨wr.heap.size + 1, 0, none⟩ j) = some u) := fun o j u hj => by
        have k9 := Cl.new (wr.alloc o) 5 [.int .u8 (x1 : Nat)]
        simp only [World.size_alloc] at k9
        have := k9.cell j hj
        have e : Addr.add ⟨wr.heap.size + 1, 0, none⟩ j = ⟨wr.heap.size + 1, j, none⟩ := by
          by_cases h0 : j = 0
          · subst h0; simp [Addr.add]
          · simp [Addr.add, h0]
        rw [e]; exact this
      have HG : Hid (∀ (o o' : Obj) v' w2, w2.ownsRow w.heap.size 5 1 v' (k + 1) (btsL (byL l) k ++ [.int .u8 (x1 : Nat)]) → ((wr.alloc o).alloc o').grownBy w2 (Value.slice a1 k c1).ownBlock → ∃ k' : Nat, k' ≤ n ∧ (Value.int .i64 ((k : Int) + 1)) = .int .i64 (k' : Nat) ∧ (∃ a c, v' = .slice a k' c) ∧ w2.ownsRow w.heap.size 5 1 v' k' (btsL (byL l) k') ∧ Below w.heap.size w w2) := fun o o' v' w2 h1 h2 => by
        obtain ⟨a9, c9, rfl⟩ := ownsRow_slice h1
        refine ⟨k + 1, hlt, by simp, ⟨a9, c9, rfl⟩, ?_, ?_⟩
        · rw [btsL_snoc, hby]; exact h1
        · refine ((hb1.trans ((below2 wr o o').mono hb1.size))).grown h2 (by have := hb1.size; simp; omega) ?_
          intro g hg
          exact ownsRow_own ho1 g hg
      have S0 := Cl.new wr 26 [.int .u8 (x1 : Nat), .bool x2]
      have s0 := S0.cell 0 rfl
      have s1 := S0.cell 1 rfl
      clear hr hc hx ho1 hb1 hby S0
      go_wp2_with (at_builtin; refine wpList_append_own _ rfl _ _ 35 rfl w.heap.size 5 i0 _ 1 1 Tryd.underlying35 hi hz0 hz1 hz2 rfl (by decide) _ _ _ rfl (HR.out _ _).1 ⟨wr.heap.size + 1, 0, none⟩ 1 1 [.int .u8 (x1 : Nat)] rfl rfl (HN.out _) (by simp [Value.oneCell']) (by unfold maxLen; omega) (by omega) (HR.out _ _).2 ?_; intro v' w2 hown hgr hnil'; have HY : Hid _ := HG.out _ _ v' w2 hown hgr; clear hown hgr hnil')
      go_roundw
      case rel => exact HY.out
      case measure => simp [intOf]; omega
    · obtain rfl : k = n := by omega
      have hki : ¬ (k : Int) < (k : Int) := by omega
      have HO : Hid (OwB wr w.heap.size a1 k c1 (byL l)) := ho1
      clear ho1 hr
      go_wp2
      go_ret
      exact ⟨_, _, rfl, HO.out, hb1⟩
end Go.Proofs.YthbmfnibgjlkhaaDoor
