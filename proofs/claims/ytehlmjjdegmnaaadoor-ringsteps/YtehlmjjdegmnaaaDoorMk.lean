/- slices.Index, Contains, Equal of ints, Clone of bytes, marked: the walks. -/
import Derived.Test.YtehlmjjdegmnaaaDoorRg
import Derived.Test.YtehlmjjdegmnaaaDoorNew
import Derived.Laws.AppendOwn
import Derived.Lib.SliceRun
import Derived.Shelf.Abstract
namespace Go.Proofs.YtehlmjjdegmnaaaDoor
open Go.RowKit Go.Shelf
theorem among_iff (z : Nat → Int) (i : Nat) : ∀ l, among z l i = true ↔ ∃ k, k < l ∧ z k = i
  | 0 => by simp [among]
  | l + 1 => by
    simp only [among, Bool.or_eq_true, among_iff z i l, decide_eq_true_eq]
    constructor
    · rintro (⟨k, h1, h2⟩ | h)
      · exact ⟨k, by omega, h2⟩
      · exact ⟨l, by omega, h.symm⟩
    · rintro ⟨k, h1, h2⟩
      rcases Nat.lt_or_ge k l with h | h
      · exact .inl ⟨k, h, h2⟩
      · obtain rfl : k = l := by omega
        exact .inr h2.symm
/-- What Index answers. -/
def RetIx (w : World) (z : Nat → Int) (l i : Nat) (e : Ending) (w' : World) : Prop := ∃ r : Int, e = .returned (.int .i64 r) ∧ decide (0 ≤ r) = among z l i ∧ w = w'
set_option maxHeartbeats 400000 in
theorem equalI_same (ao bo : Option Addr) (l ca cb : Nat) (f : Nat → Int) (w : World) (hra : RdI w ao l f) (hrb : RdI w bo l f) (hm : (l : Int) ≤ 9223372036854775807) :
    Calls Tryd.prog 20 #[.slice ao l ca, .slice bo l cb] w fun e w' => e = .returned (.bool true) ∧ Below w.heap.size w w' := by
  have hn : ((l : Int) != (l : Int)) = false := by simp
  go_enter Tryd.func20, Tryd.ntmps20
  go_wp2_with fail
  go_loopw [13] (fun i wr => ∃ k : Nat, k ≤ l ∧ i = .int .i64 k ∧ ∃ q, wr = w.drewN q) (fun i _ => l - (intOf i).toNat)
  case atStart => exact ⟨0, Nat.zero_le _, rfl, 0, rfl⟩
  case round =>
    obtain ⟨k, hk, rfl, q, rfl⟩ := hrel
    by_cases hlt : k < l
    · obtain ⟨b, off, rfl, hb, hc⟩ := hra (by omega)
      obtain ⟨b2, off2, rfl, hb2, hc2⟩ := hrb (by omega)
      have t1 := hc k hlt
      have t2 := hc2 k hlt
      have hki : (k : Int) < (l : Int) := by omega
      clear hc hc2
      have hnb : (f k != f k) = false := by simp
      go_wp2
      go_quiet (fail)
      go_wp2
      go_roundw
      case rel => exact ⟨k + 1, by omega, by go_num, _, rfl⟩
      case measure => simp [intOf]; omega
    · go_wp2
      go_ret
      exact ⟨rfl, below_drewN (Below.refl _ _) _⟩
/-- Bytes that can be read. -/
structure RdB (w : World) (ao : Option Addr) (n : Nat) (f : Nat → Nat) : Prop where
  small : ∀ i, i < n → f i < 256
  at_ : 0 < n → ∃ b off, ao = some ⟨b, off, none⟩ ∧ b < w.heap.size ∧ ∀ i, i < n → w.cell? ⟨b, off + i, none⟩ = some (.int .u8 (f i : Nat))
theorem RdB.below {w w' : World} {ao : Option Addr} {n : Nat} {f : Nat → Nat} (h : RdB w ao n f) (hb : Below w.heap.size w w') : RdB w' ao n f :=
  ⟨h.small, fun hl => by
    obtain ⟨b, off, e, hlt, hc⟩ := h.at_ hl
    exact ⟨b, off, e, Nat.lt_of_lt_of_le hlt hb.size, fun i hi => by rw [hb.cell (p := ⟨b, off + i, none⟩) hlt]; exact hc i hi⟩⟩
theorem RdB.belowB {B : Nat} {w w' : World} {ao : Option Addr} {n : Nat} {f : Nat → Nat} (h : RdB w ao n f) (hb : Below B w w') (ha : ∀ a, ao = some a → a.block < B) : RdB w' ao n f :=
  ⟨h.small, fun hl => by
    obtain ⟨b, off, e, hlt, hc⟩ := h.at_ hl
    exact ⟨b, off, e, Nat.lt_of_lt_of_le hlt hb.size, fun i hi => by rw [hb.cell (p := ⟨b, off + i, none⟩) (show b < B from ha _ e)]; exact hc i hi⟩⟩
/-- n bytes as cells. -/
def bts (f : Nat → Nat) (n : Nat) : List Value := (List.range n).map fun i => Value.int .u8 (f i : Nat)
theorem bts_length (f : Nat → Nat) (n : Nat) : (bts f n).length = n := by simp [bts]
theorem bts_get (f : Nat → Nat) {n i : Nat} (h : i < n) : (bts f n)[i]? = some (.int .u8 (f i : Nat)) := by simp [bts, h]
theorem bts_some {f : Nat → Nat} {n j : Nat} {u : Value} (h : (bts f n)[j]? = some u) : j < n ∧ u = .int .u8 (f j : Nat) := by
  by_cases hj : j < n
  · rw [bts_get f hj] at h; exact ⟨hj, by simpa using h.symm⟩
  · rw [List.getElem?_eq_none (by rw [bts_length]; omega)] at h; simp at h
theorem bts_one (f : Nat → Nat) (n : Nat) : ∀ u ∈ bts f n, u.oneCell' = true := by
  intro u hu
  simp only [bts, List.mem_map] at hu
  obtain ⟨i, _, rfl⟩ := hu
  rfl
/-- Bytes that can be read, in a block of the call's own. -/
def OwB (B : Nat) (w : World) (ao : Option Addr) (n : Nat) (f : Nat → Nat) : Prop := RdB w ao n f ∧ ∀ a, ao = some a → B ≤ a.block ∧ a.block < w.heap.size
theorem rd_row {B : Nat} {w : World} {ao : Option Addr} {n cap : Nat} {f : Nat → Nat} (hs : ∀ i, i < n → f i < 256) (h : w.ownsRow B 5 1 (.slice ao n cap) n (bts f n)) : OwB B w ao n f := by
  rcases h.2 with ⟨e, h0⟩ | ⟨g, c, cur, h', hbg, hg, hnc, _, hsz, htake⟩
  · simp only [Value.slice.injEq] at e
    obtain ⟨rfl, rfl, rfl⟩ := e
    exact ⟨⟨hs, fun hl => by omega⟩, fun a e => by cases e⟩
  · simp only [Value.slice.injEq] at h'
    obtain ⟨rfl, _, rfl⟩ := h'
    refine ⟨⟨hs, fun _ => ⟨g, 0, rfl, (Array.getElem?_eq_some_iff.1 hg).1, fun i hi => ?_⟩⟩, fun a e => ?_⟩
    · rw [cell_of_row w g (0 + i) cur 5 (0, 0) hg, Nat.zero_add]
      have e : cur.toList[i]? = (bts f n)[i]? := by rw [← htake, List.getElem?_take, if_pos (by omega)]
      rw [← Array.getElem?_toList, e, bts_get f hi]
    · obtain rfl := Option.some.inj e
      exact ⟨hbg, (Array.getElem?_eq_some_iff.1 hg).1⟩
/-- A slice of bytes of its own. -/
def RetCb (w : World) (n : Nat) (z : Nat → Nat) (e : Ending) (w' : World) : Prop := ∃ ao cap, e = .returned (.slice ao n cap) ∧ OwB w.heap.size w' ao n z ∧ Below w.heap.size w w'
theorem b_byte : (Tryd.prog.info? 5).map (fun i => (i.zero, i.size, i.bytes)) = some (some (.int .u8 0), 1, 1) := by kernel_rfl
set_option maxHeartbeats 400000 in
theorem clone_nil (w : World) : Calls Tryd.prog 55 #[.slice none 0 0] w fun e w' => e = .returned (.slice none 0 0) ∧ w' = w := by
  have hnil := fun w => Lib.run_eql_slice_nil (P := Tryd.prog) w 30 5 none 0 0 0 0 Tryd.underlying30
  go_enter Tryd.func55, Tryd.ntmps55
  go_wp2
  go_ret
  exact ⟨rfl, rfl⟩
set_option maxHeartbeats 400000 in
theorem clone_some (a : Addr) (l c : Nat) (f : Nat → Nat) (w : World) (hr : RdB w (some a) l f) (hm : (l : Int) ≤ 1024) : Calls Tryd.prog 55 #[.slice (some a) l c] w (RetCb w l f) := by
  have hnil := fun w => Lib.run_eql_slice_nil (P := Tryd.prog) w 30 5 (some a) l c 0 0 Tryd.underlying30
  obtain ⟨i0, hi, hz0, hz1, hz2⟩ := info_parts b_byte
  go_enter Tryd.func55, Tryd.ntmps55
  have hnews : ∀ j u, (bts f l)[j]? = some u → (w.alloc (.cells #[] 5)).cell? (a.add j) = some u := by
    intro j u hj
    obtain ⟨hjl, rfl⟩ := bts_some hj
    obtain ⟨b, off, e, hb, hc⟩ := hr.at_ (by omega)
    obtain rfl := Option.some.inj e
    have hcj := hc j hjl
    rw [((Below.refl _ w).alloc (Nat.le_refl _) _).cell (by by_cases h0 : j = 0 <;> simpa [Addr.add, h0] using hb)]
    by_cases h0 : j = 0
    · subst h0; simpa [Addr.add] using hcj
    · simpa [Addr.add, h0] using hcj
  go_wp2_with (at_builtin; refine wpList_append_own _ rfl _ _ 30 rfl w.heap.size 5 i0 (.int .u8 0) 1 1 Tryd.underlying30 hi hz0 hz1 hz2 rfl (by decide) _ _ _ rfl (World.ownsRow_made (e := 5) (size := 1) (base := w.heap.size) w #[] 0 (Nat.le_refl _) (Nat.zero_le _) rfl) a l c (bts f l) rfl (by simp [bts_length]) hnews (bts_one f l) (by unfold maxLen; omega) (by omega) (by simp) ?_)
  intro v' w2 hown hgr hnil'
  have hb2 : Below w.heap.size w w2 := ((Below.refl _ _).alloc (Nat.le_refl _) _).grown hgr (by simp) (by intro k hk; simp [Value.ownBlock] at hk; omega)
  obtain ⟨g, cap, rfl, hrd⟩ : ∃ g cap, v' = .slice (some ⟨g, 0, none⟩) l cap ∧ OwB w.heap.size w2 (some ⟨g, 0, none⟩) l f := by
    replace hown : w2.ownsRow w.heap.size 5 1 v' l (bts f l) := by simpa using hown
    rcases hown.2 with ⟨h', _⟩ | ⟨g, cap, cur, h', _⟩
    · exact (hnil' h').elim
    · exact ⟨g, cap, h', rd_row (B := w.heap.size) (cap := cap) hr.small (by rw [← h']; exact hown)⟩
  clear hown hgr hnil' hnews hr
  go_wp2
  go_ret
  exact ⟨_, cap, rfl, hrd, hb2⟩
theorem clone_any (ao : Option Addr) (l c : Nat) (f : Nat → Nat) (w : World) (hr : RdB w ao l f) (hm : (l : Int) ≤ 1024) (hn : (ao = none ∧ l = 0 ∧ c = 0) ∨ ∃ a, ao = some a) : Calls Tryd.prog 55 #[.slice ao l c] w (RetCb w l f) := by
  rcases hn with ⟨rfl, rfl, rfl⟩ | ⟨a, rfl⟩
  · exact (clone_nil w).mono fun e w' ⟨he, hw⟩ => ⟨none, 0, he, ⟨⟨fun i hi => by omega, fun hi => by omega⟩, fun a e => by cases e⟩, by rw [hw]; exact Below.refl _ _⟩
  · exact clone_some a l c f w hr hm
/-- n bools as cells. -/
def bls (f : Nat → Bool) (n : Nat) : List Value := (List.range n).map fun i => Value.bool (f i)
theorem bls_get (f : Nat → Bool) {n i : Nat} (h : i < n) : (bls f n)[i]? = some (.bool (f i)) := by simp [bls, h]
theorem bls_set (f : Nat → Bool) (n i : Nat) : (bls f n).set i (.bool true) = bls (fun j => f j || decide (j = i)) n := by
  apply List.ext_getElem?
  intro j
  by_cases hj : j < n
  · rw [bls_get _ hj]
    by_cases e : i = j
    · subst e
      rw [List.getElem?_set_self (by simpa [bls] using hj)]
      simp
    · rw [List.getElem?_set_ne e, bls_get _ hj]
      simp [show j ≠ i from fun h => e h.symm]
  · rw [List.getElem?_eq_none (by simp [bls]; omega), List.getElem?_eq_none (by simp [bls]; omega)]
/-- The marks: a row of bools in a block of its own. -/
def RetMk (w : World) (n : Nat) (B : Nat → Bool) (e : Ending) (w' : World) : Prop := ∃ g, e = .returned (.slice (some ⟨g, 0, none⟩) n n) ∧ Cl w' g 4 (bls B n) ∧ w.heap.size ≤ g ∧ Below w.heap.size w w'
theorem b_bool : (Tryd.prog.info? 4).map (fun i => (i.zero, i.size, i.bytes)) = some (some (.bool false), 1, 1) := by kernel_rfl
theorem cl_made {B : Nat} {w : World} {g n : Nat} (h : w.ownsRow B 4 1 (.slice (some ⟨g, 0, none⟩) n n) n (madeCells #[Value.bool false] n).toList) :
    Cl w g 4 (bls (fun _ => false) n) := by
  rcases h.2 with ⟨h', _⟩ | ⟨g', cap', cur, h', _, hg, _, _, hsz, htake⟩
  · simp at h'
  · simp only [Value.slice.injEq, Option.some.injEq, Addr.mk.injEq, and_true, true_and] at h'
    obtain ⟨rfl, rfl⟩ := h'
    have hsz' : cur.size = n := by simpa using hsz
    have e : cur = (bls (fun _ => false) n).toArray := by
      apply Array.toList_inj.1
      have : cur.toList.take (n * 1) = cur.toList := List.take_of_length_le (by simp [hsz'])
      rw [← this, htake, toList_madeCells_one]
      apply List.ext_getElem?
      intro j
      by_cases hj : j < n
      · simp [bls, hj]
      · rw [List.getElem?_eq_none (by simp; omega), List.getElem?_eq_none (by simp [bls]; omega)]
    unfold Cl
    rw [hg, e]
set_option maxRecDepth 100000 in
set_option maxHeartbeats 1000000 in
/-- marked. -/
theorem marked_any (ao : Option Addr) (l c n : Nat) (z : Nat → Int) (w : World) (hr : RdI w ao l z) (hm : (l : Int) ≤ 9223372036854775807) (hn : n ≤ 1024) :
    Calls Tryd.prog 54 #[.slice ao l c, .int .i64 (n : Nat)] w (RetMk w (n + 1) (among z l)) := by
  obtain ⟨i0, hi, hz0, hz1, hz2⟩ := info_parts b_bool
  go_enter Tryd.func54, Tryd.ntmps54
  go_wp2_with (at_make; refine wpList_make_full _ rfl _ _ 67 rfl w.heap.size 4 i0 (.bool false) 1 Tryd.underlying67 hi hz0 hz1 .i64 .i64 _ _ (n + 1) rfl rfl (by omega) (by omega) (by rw [hz2]; omega) (by unfold maxLen; omega) (by simp) ?_)
  intro w2 hown hgr
  have hb : Below w.heap.size w w2 := (Below.refl _ _).grown hgr (Nat.le_refl _) (by simp)
  have hcl : Cl w2 w.heap.size 4 (bls (fun _ => false) (n + 1)) := cl_made (B := w.heap.size) (by simpa using hown)
  have hcl0 : Cl w2 w.heap.size 4 (bls (among z 0) (n + 1)) := hcl
  clear hown hgr hcl
  go_wp2_with fail
  go_loopw [13] (fun u wr => ∃ k : Nat, k ≤ l ∧ u = .int .i64 k ∧ Cl wr w.heap.size 4 (bls (among z k) (n + 1)) ∧ Below w.heap.size w wr) (fun u _ => l - (intOf u).toNat)
  case atStart => exact ⟨0, Nat.zero_le _, rfl, hcl0, hb⟩
  case round =>
    obtain ⟨k, hk, rfl, hc, hB⟩ := hrel
    by_cases hlt : k < l
    · obtain ⟨b, off, rfl, hbl, hcz⟩ := hr (by omega)
      have t1 : wr.cell? ⟨b, off + k, none⟩ = some (.int .i64 (z k)) := by rw [hB.cell (p := ⟨b, off + k, none⟩) hbl]; exact hcz k hlt
      have hki : (k : Int) < (l : Int) := by omega
      clear hcz
      by_cases h0 : 0 ≤ z k ∧ z k ≤ (n : Int)
      · obtain ⟨m, hm'⟩ := Int.eq_ofNat_of_zero_le h0.1
        have hmn : m ≤ n := by omega
        have t1' : wr.cell? ⟨b, off + k, none⟩ = some (.int .i64 (m : Nat)) := by rw [t1, hm']
        have hfr := hc.frozen m
        have hcell := hc.cell m (bls_get _ (by omega))
        have hset := hc.set m (.bool true)
        rw [bls_set] at hset
        have hset' : Cl (wr.setCell ⟨w.heap.size, m, none⟩ (.bool true)) w.heap.size 4 (bls (among z (k + 1)) (n + 1)) := by
          have : among z (k + 1) = fun j => among z k j || decide (j = m) := by
            funext j
            simp only [among]
            rw [hm']
            congr 1
            rw [decide_eq_decide]
            omega
          rw [this]
          exact hset
        have hB' : Below w.heap.size w (wr.setCell ⟨w.heap.size, m, none⟩ (.bool true)) := hB.setCell (p := ⟨w.heap.size, m, none⟩) (by simp) _
        have hmi : (m : Int) ≤ (n : Int) := by omega
        have hmj : (m : Int) < (n : Int) + 1 := by omega
        clear hset h0 hm' t1 hc
        go_wp2
        go_roundw
        case rel => exact ⟨k + 1, by omega, by go_num, hset', hB'⟩
        case measure => simp [intOf]; omega
      · have hc' : Cl wr w.heap.size 4 (bls (among z (k + 1)) (n + 1)) := by
          have : bls (among z (k + 1)) (n + 1) = bls (among z k) (n + 1) := by
            unfold bls
            apply List.map_congr_left
            intro j hj
            have := List.mem_range.1 hj
            simp only [among]
            rw [decide_eq_false (p := (j : Int) = z k) (by omega), Bool.or_false]
          rw [this]
          exact hc
        by_cases h1 : 0 ≤ z k
        · have h2 : ¬ z k ≤ (n : Int) := fun h => h0 ⟨h1, h⟩
          clear h0
          go_wp2
          go_roundw
          case rel => exact ⟨k + 1, by omega, by go_num, hc', hB⟩
          case measure => simp [intOf]; omega
        · clear h0
          go_wp2
          go_roundw
          case rel => exact ⟨k + 1, by omega, by go_num, hc', hB⟩
          case measure => simp [intOf]; omega
    · obtain rfl : k = l := by omega
      go_wp2
      go_ret
      exact ⟨w.heap.size, rfl, hc, Nat.le_refl _, hB⟩
end Go.Proofs.YtehlmjjdegmnaaaDoor
