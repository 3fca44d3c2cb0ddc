/- Ported: TtE. -/
import Derived.Test.YtobgmgpclcfkcaaTtD
namespace Go.Proofs.Ytobgmgpclcfkcaa.T
open Go.RowKit
/-- Numbers as cells. -/
def ints (f : Nat → Int) (n : Nat) : List Value := (List.range n).map fun i => Value.int .i64 (f i)
def updI (f : Nat → Int) (i : Nat) (v : Int) : Nat → Int := fun j => if j = i then v else f j
theorem ints_length (f : Nat → Int) (n : Nat) : (ints f n).length = n := by simp [ints]
theorem ints_get (f : Nat → Int) {n i : Nat} (h : i < n) : (ints f n)[i]? = some (.int .i64 (f i)) := by simp [ints, h]
theorem ints_set (f : Nat → Int) (n i : Nat) (v : Int) : (ints f n).set i (.int .i64 v) = ints (updI f i v) n := by
  apply List.ext_getElem?
  intro j
  rw [List.getElem?_set]
  by_cases hj : j < n
  · rw [ints_get _ hj, ints_get _ hj]
    by_cases h : i = j
    · subst h; simp [updI, ints_length, hj]
    · rw [if_neg h]; simp [updI, Ne.symm h]
  · rw [List.getElem?_eq_none (by simp [ints_length]; omega), List.getElem?_eq_none (by simp [ints_length]; omega)]
    by_cases h : i = j
    · rw [if_pos h, if_neg (by simp [ints_length]; omega)]
    · rw [if_neg h]
theorem ints_congr {f g : Nat → Int} {n : Nat} (h : ∀ i, i < n → f i = g i) : ints f n = ints g n := by
  apply List.ext_getElem?
  intro j
  by_cases hj : j < n
  · rw [ints_get _ hj, ints_get _ hj, h j hj]
  · rw [List.getElem?_eq_none (by simp [ints_length]; omega), List.getElem?_eq_none (by simp [ints_length]; omega)]
theorem made_ints (n : Nat) : madeCells #[Value.int .i64 0] n = (ints (fun _ => 0) n).toArray := by
  apply Array.toList_inj.1
  rw [toList_madeCells_one]
  apply List.ext_getElem?
  intro j
  by_cases hj : j < n
  · simp [ints_get _ hj, hj]
  · rw [List.getElem?_eq_none (by simp; omega), List.getElem?_eq_none (by simp [ints_length]; omega)]
theorem rdI_of {w : World} {b n m : Nat} {f : Nat → Int} (h : Cl w b 3 (ints f n)) (hm : m ≤ n) : RdI w (some ⟨b, 0, none⟩) m f := by
  intro _
  refine ⟨b, 0, rfl, h.lt, fun i hi => ?_⟩
  rw [Nat.zero_add]
  exact h.cell i (ints_get f (by omega))
/-- Where a subtree starts. -/
def stF (t : Tre) (p : Nat) : Int := (p : Int) + 1 - ((t.subs[p]?).getD t).size
theorem scan_none {F : Nat → Nd} {k : Nat} (h : scanT F k = none) : ∀ j, k ≤ j → scanT F j = none := by
  intro j hj
  induction j with
  | zero => have : k = 0 := by omega
            subst this; exact h
  | succ j ih =>
    by_cases e : k = j + 1
    · subst e; exact h
    · simp [scanT, ih (by omega)]
/-- What starts answers. -/
def RetSts (w : World) (F : Nat → Nd) (n : Nat) (e : Ending) (w' : World) : Prop :=
  (∃ v, e = .returned (.tuple #[v, .bool (treeOf F n).isSome]) ∧ ∀ t, treeOf F n = some t → ∃ b, v = .slice (some ⟨b, 0, none⟩) n n ∧ w.heap.size ≤ b ∧ Cl w' b 3 (ints (stF t) n)) ∧ Below w.heap.size w w'
theorem slice_to50 (ao : Option Addr) (n cap x : Nat) (hx : x ≤ cap) (w : World) : (Instr.slice 39 (.slice ao n cap) none (some (.int .i64 (x : Nat))) none).run Try.prog w = .ok (.slice ao x cap) w := by
  have hxc : (x : Int) ≤ (cap : Int) := by omega
  by_cases h : cap = 0
  · subst h
    obtain rfl : x = 0 := by omega
    simp [go_sem, Try.underlying39]
  · simp [go_sem, Try.underlying39, hxc, h]
theorem b_int : (Try.prog.info? 3).map (fun i => (i.zero, i.size, i.bytes)) = some (some (.int .i64 0), 1, 8) := by kernel_rfl
theorem info_parts {P : Program} {t : TypeId} {z : Value} {s b : Nat} (h : (P.info? t).map (fun i => (i.zero, i.size, i.bytes)) = some (some z, s, b)) : ∃ i, P.info? t = some i ∧ i.zero = some z ∧ i.size = s ∧ i.bytes = b := by
  obtain ⟨i, hi, h⟩ := Option.map_eq_some_iff.1 h
  simp at h
  exact ⟨i, hi, h.1, h.2.1, h.2.2⟩
theorem make_ints (n : Nat) (hn : n ≤ 2048) (w : World) : (Instr.makeSlice 39 (.int .i64 (n : Nat)) (.int .i64 (n : Nat))).run Try.prog w = .ok (.slice (some ⟨w.heap.size, 0, none⟩) n n) (w.alloc (.cells (ints (fun _ => 0) n).toArray 3)) := by
  obtain ⟨i, hi, hz, hs, hb⟩ := info_parts b_int
  have := run_make (P := Try.prog) w 39 3 i (.int .i64 0) Try.underlying39 hi hz .i64 .i64 (n : Int) (n : Int) (by omega) (by omega) (by rw [hb]; omega) (by omega)
  rw [this, hs]
  simp [← made_ints, Value.cells]
set_option maxRecDepth 10000 in
set_option maxHeartbeats 1000000 in
theorem starts_any (ao : Option Addr) (n cap : Nat) (F : Nat → Nd) (w : World) (hr : RdN w ao n F) (hm : (n : Int) ≤ 9223372036854775807) : Calls Try.prog 68 #[.slice ao n cap] w (RetSts w F n) := by
  by_cases h0 : n = 0
  · subst h0
    have e : treeOf F 0 = none := by simp [treeOf, scanT]
    have hR : ∀ v, RetSts w F 0 (.returned (.tuple #[v, .bool false])) w := fun v => ⟨⟨v, by rw [e]; rfl, fun t ht => by rw [e] at ht; cases ht⟩, Below.refl _ _⟩
    clear hr
    go_enter Try.func68, Try.ntmps68
    go_wp2
    go_ret2
    exact hR _
  by_cases h1 : n > 2048
  · have e : treeOf F n = none := by simp [treeOf, h1]
    have hR : ∀ v, RetSts w F n (.returned (.tuple #[v, .bool false])) w := fun v => ⟨⟨v, by rw [e]; rfl, fun t ht => by rw [e] at ht; cases ht⟩, Below.refl _ _⟩
    have hz : ((n : Int) == 0) = false := by simp; omega
    have hg : (n : Int) > 2048 := by omega
    clear hr
    go_enter Try.func68, Try.ntmps68
    go_wp2
    go_ret2
    exact hR _
  have hz : ((n : Int) == 0) = false := by simp; omega
  have hg : ¬ (n : Int) > 2048 := by omega
  have hmk := make_ints n (by omega)
  have k0 := Cl.new w 3 (ints (fun _ => 0) n)
  have hB0 := below1 w (.cells (ints (fun _ => 0) n).toArray 3)
  go_enter Try.func68, Try.ntmps68
  go_wp2
  go_loopw [22] (fun i wr => ∃ (k : Nat) (ts : List Tre) (f : Nat → Int), k ≤ n ∧ i = .int .i64 (k : Nat) ∧ scanT F k = some ts ∧ (∀ p u, (ofF ts)[p]? = some u → f p = (p : Int) + 1 - u.size) ∧ Cl wr w.heap.size 3 (ints f n) ∧ Below w.heap.size w wr) (fun i _ => n - (intOf i).toNat)
  case atStart => exact ⟨0, [], fun _ => 0, Nat.zero_le _, rfl, rfl, fun p u h => by simp [ofF] at h, k0, hB0⟩
  case round =>
    obtain ⟨k, ts, f, hk, rfl, hsc, hf, hc, hb⟩ := hrel
    clear k0 hB0 hmk
    by_cases hlt : k < n
    · obtain ⟨bb, off, rfl, hbb, hcs⟩ := hr (by omega)
      obtain ⟨hs1, hs2, hs3⟩ := scanT_inv hsc
      obtain ⟨c0, c1, c2, c3, c4, c5, c6, c7, c8, c9⟩ := hcs k hlt
      rw [← hb.cell (p := ⟨bb, _, none⟩) hbb] at c0 c1 c2 c3 c4 c5 c6 c7 c8 c9
      have hki : (k : Int) < (n : Int) := by omega
      have hsl := slice_to50 (some ⟨w.heap.size, 0, none⟩) n n k (by omega)
      have HS : Hid (∀ W, Below wr.heap.size wr W → Calls Try.prog 72 #[ndV (F k), .slice (some ⟨w.heap.size, 0, none⟩) k n] W (RetSt W ts k (F k))) := fun W hW => startOf_any (F k) ts _ k n f W ((rdI_of hc (by omega)).below hW) (by omega) hs1 hf
      have HN : Hid (∀ u r, stepT ts k (F k) = some (u :: r) → scanT F (k + 1) = some (u :: r) ∧ ∀ p v, (ofF (u :: r))[p]? = some v → updI f k ((k : Int) + 1 - u.size) p = (p : Int) + 1 - v.size) := by
        intro u r hu
        have e1 : scanT F (k + 1) = some (u :: r) := by simp only [scanT, hsc]; exact hu
        refine ⟨e1, fun p v hv => ?_⟩
        obtain ⟨g1, g2, u', r', e', g4, g5⟩ := stepT_inv hu hs1 hs2
        obtain ⟨rfl, rfl⟩ := List.cons.inj e'
        rw [g4, List.getElem?_append] at hv
        unfold sizeF at hs1
        split at hv
        · rw [updI, if_neg (by omega)]; exact hf p v hv
        · have : p = k := by
            rcases Nat.lt_or_ge (p - (ofF ts).length) 1 with h | h
            · omega
            · rw [List.getElem?_eq_none (by simpa using h)] at hv; cases hv
          subst this
          simp [hs1] at hv
          subst hv
          simp [updI]
      unfold ndV at HS
      clear hr hcs hs1 hs2 hs3 hf
      cases hst : stepT ts k (F k) with
      | none =>
        have e : treeOf F n = none := by
          have : scanT F (k + 1) = none := by simp only [scanT, hsc]; exact hst
          unfold treeOf
          rw [scan_none this n (by omega)]
          split <;> rfl
        have hR : Hid (∀ v W, Below w.heap.size w W → RetSts w F n (.returned (.tuple #[v, .bool false])) W) := fun v W hW => ⟨⟨v, by rw [e]; rfl, fun t ht => by rw [e] at ht; cases ht⟩, hW⟩
        unfold RetSt at HS
        rw [hst] at HS
        clear hst HN hsc e
        generalize F k = q at *
        go_wp2
        go_region_with (go_at_call 72; refine (HS.out _ ?_).mono ?_; exact (below1 _ _).drew; rintro e W' ⟨⟨s', rfl, _⟩, hb'⟩)
        all_goals
          go_wp2
          go_ret2
          exact hR.out _ _ (hb.trans ((((below1 _ _).drew.trans (hb'.mono (by simp))).mono hb.size)))
      | some ts' =>
        obtain ⟨u, r, rfl⟩ : ∃ u r, ts' = u :: r := by
          obtain ⟨_, _, u, r, h, _⟩ := stepT_inv hst (scanT_inv hsc).1 (scanT_inv hsc).2.1
          exact ⟨u, r, h⟩
        obtain ⟨e1, e2⟩ := HN.out u r hst
        have HX : Hid (∀ W, Cl W w.heap.size 3 (ints (updI f k ((k : Int) + 1 - u.size)) n) → Below w.heap.size w W → ∃ (k' : Nat) (ts : List Tre) (f : Nat → Int), k' ≤ n ∧ (Value.int .i64 ((k : Int) + 1)) = .int .i64 (k' : Nat) ∧ scanT F k' = some ts ∧ (∀ p u, (ofF ts)[p]? = some u → f p = (p : Int) + 1 - u.size) ∧ Cl W w.heap.size 3 (ints f n) ∧ Below w.heap.size w W) := fun W h1 h2 => ⟨k + 1, _, _, hlt, by simp, e1, e2, h1, h2⟩
        unfold RetSt at HS
        rw [hst] at HS
        have HU : Hid (∀ s' : Int, (∀ u1 r1, some (u :: r) = some (u1 :: r1) → s' = (k : Int) + 1 - u1.size) → s' = (k : Int) + 1 - u.size) := fun s' h => h u r rfl
        clear hst HN hsc e1 e2
        generalize F k = q at *
        go_wp2
        go_region_with (go_at_call 72; refine (HS.out _ ?_).mono ?_; exact (below1 _ _).drew; rintro e W' ⟨⟨s', rfl, hs'⟩, hb'⟩; replace hs' := HU.out _ hs')
        all_goals
          have hc' : Cl W' w.heap.size 3 (ints f n) := ((hc.alloc _).drew).below (hb'.mono (by simp))
          have hb2 : Below w.heap.size w W' := hb.trans ((((below1 _ _).drew.trans (hb'.mono (by simp))).mono hb.size))
          have d0 := hc'.cell k (ints_get f hlt)
          have d1 := hc'.frozen k
          have hcx := hc'.set k (.int .i64 ((k : Int) + 1 - u.size))
          rw [ints_set] at hcx
          have hbx := hb2.setCell (p := ⟨w.heap.size, k, none⟩) (Nat.le_refl _) (.int .i64 ((k : Int) + 1 - u.size))
          have HY := HX.out _ hcx hbx
          clear hc hb hc' hb2 hcx hbx HX hb' HS HU c0 c1 c2 c3 c4 c5 c6 c7 c8 c9 hsl
          generalize ((k : Int) + 1 - u.size) = v at *
          subst hs'
          have HZ : Hid _ := HY
          clear HY
          go_wp2
          go_roundw
          case rel => exact HZ.out
          case measure => simp [intOf]; omega
    · obtain rfl : k = n := by omega
      have hki : ¬ (k : Int) < (k : Int) := by omega
      obtain ⟨hs1, hs2, hs3⟩ := scanT_inv hsc
      have d0 := hc.cell (k - 1) (ints_get f (by omega))
      have hR : Hid (∀ W, Cl W w.heap.size 3 (ints f k) → Below w.heap.size w W → RetSts w F k (.returned (.tuple #[.slice (some ⟨w.heap.size, 0, none⟩) k k, .bool (f (k - 1) == 0)])) W) := by
        intro W h1 h2
        have hb0 : (treeOf F k).isSome = (f (k - 1) == 0) := by
          unfold treeOf
          rw [if_neg (by omega), hsc]
          match ts, hs1, hf with
          | [], hs1, hf => exact absurd (show 0 = k from hs1) (by omega)
          | [t], hs1, hf =>
            have e := hf _ _ (ofF_top t [])
            rw [sizeF_cons] at hs1
            rw [hs1] at e
            rw [e]
            have hz : sizeF [] = 0 := rfl
            have := t.size_pos
            simp
            omega
          | t :: y :: r, hs1, hf =>
            have e := hf _ _ (ofF_top t (y :: r))
            rw [sizeF_cons] at hs1
            rw [hs1] at e
            rw [e]
            have h2 := sizeF_cons y r
            have := t.size_pos
            have := y.size_pos
            simp
            omega
        refine ⟨⟨_, by rw [hb0], fun t ht => ⟨_, rfl, Nat.le_refl _, ?_⟩⟩, h2⟩
        have e : ts = [t] := by
          unfold treeOf at ht
          rw [if_neg (by omega), hsc] at ht
          split at ht
          · rename_i t' h'
            rw [Option.some.inj h', Option.some.inj ht]
          · cases ht
        subst e
        have e2 : ofF [t] = t.subs := by simp [ofF]
        rw [e2] at hf
        rw [ints_congr (g := f)]
        · exact h1
        · intro i hi
          have hl : i < t.subs.length := by rw [← e2]; exact (show i < sizeF [t] by omega)
          rw [hf i _ (List.getElem?_eq_getElem hl), stF, List.getElem?_eq_getElem hl]
          rfl
      have hk1 : ((k : Int) - 1).toNat = k - 1 := by omega
      have hk2 : (0 : Int) ≤ (k : Int) - 1 := by omega
      have hk3 : (k : Int) - 1 < (k : Int) := by omega
      clear hs1 hs2 hs3 hsc hf hr
      generalize f (k - 1) = y at *
      go_wp2
      go_quiet (fail)
      go_wp2
      go_ret2
      exact hR.out _ (hc.below (below_drewN (Below.refl _ _) _)) (below_drewN hb _)
end Go.Proofs.Ytobgmgpclcfkcaa.T
