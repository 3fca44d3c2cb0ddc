/- slices.Grow of nil, slices.Concat of two: the walks. -/
import Derived.Test.YtgedhjflminlbaaMv
import Derived.Test.YtgedhjflminlbaaEm
import Derived.Lib.AppendZeros
import Derived.Laws.AppendOwnNone
namespace Go.Proofs.Ytgedhjflminlbaa
open Go.RowKit
set_option maxRecDepth 10000 in
set_option maxHeartbeats 400000 in
theorem grow_any (n : Nat) (w : World) (h0 : 0 < n) (hn : (n : Int) ≤ 4096) : Calls Try.prog 56 #[.slice none 0 0, .int .i64 (n : Nat)] w fun e w' => ∃ g cap, e = .returned (.slice (some ⟨g, 0, none⟩) 0 cap) ∧ w'.ownsRow w.heap.size 29 10 (.slice (some ⟨g, 0, none⟩) 0 cap) 0 [] ∧ Below w.heap.size w w' := by
  obtain ⟨i0, hi, hz0, hz1, hz2⟩ := info_parts b_node
  have hrun := Lib.run_append_nil_zeros (P := Try.prog) w 22 3 22 29 i0 _ .i64 .i64 Try.underlying22 Try.underlying3 hi hz0 n h0 (by omega) (by omega) (by rw [hz2]; omega)
  have hge := grownCap_ge w n 0 29
  have hle := grownCap_le_maxLen w n 0 29 (by unfold maxLen; omega)
  have ho := World.ownsRow_made (base := w.heap.size) (e := 29) (size := 10) w.drew (Builtin.zeroCells #[.int .i64 0, .int .u64 0, .int .u64 0, .int .u64 0, .int .u64 0, .int .i64 0, .int .i64 0, .int .i64 0, .int .i64 0, .bool false] n ++ Builtin.zeroCells #[.int .i64 0, .int .u64 0, .int .u64 0, .int .u64 0, .int .u64 0, .int .i64 0, .int .i64 0, .int .i64 0, .int .i64 0, .bool false] (grownCap w n 0 29 - n)) (grownCap w n 0 29) (Nat.le_refl _) hle (by
    rw [Array.size_append, size_zeroCells, size_zeroCells]
    show n * 10 + (grownCap w n 0 29 - n) * 10 = _
    omega)
  have hb : Below w.heap.size w (w.drew.alloc (.cells (Builtin.zeroCells #[.int .i64 0, .int .u64 0, .int .u64 0, .int .u64 0, .int .u64 0, .int .i64 0, .int .i64 0, .int .i64 0, .int .i64 0, .bool false] n ++ Builtin.zeroCells #[.int .i64 0, .int .u64 0, .int .u64 0, .int .u64 0, .int .u64 0, .int .i64 0, .int .i64 0, .int .i64 0, .int .i64 0, .bool false] (grownCap w n 0 29 - n)) 29)) := ((Below.refl _ _).drew).alloc (Nat.le_refl _) _
  have HR : Hid (∀ (e : Ending) W, e = .returned (.slice (some ⟨w.heap.size, 0, none⟩) 0 (grownCap w n 0 29)) → W = (w.drew.alloc (.cells (Builtin.zeroCells #[.int .i64 0, .int .u64 0, .int .u64 0, .int .u64 0, .int .u64 0, .int .i64 0, .int .i64 0, .int .i64 0, .int .i64 0, .bool false] n ++ Builtin.zeroCells #[.int .i64 0, .int .u64 0, .int .u64 0, .int .u64 0, .int .u64 0, .int .i64 0, .int .i64 0, .int .i64 0, .int .i64 0, .bool false] (grownCap w n 0 29 - n)) 29)) → ∃ g cap, e = .returned (.slice (some ⟨g, 0, none⟩) 0 cap) ∧ W.ownsRow w.heap.size 29 10 (.slice (some ⟨g, 0, none⟩) 0 cap) 0 [] ∧ Below w.heap.size w W) := fun e W h1 h2 => ⟨_, _, h1, by subst h2; exact ho, by subst h2; exact hb⟩
  simp only [Value.cells] at hrun
  generalize hW : (w.drew.alloc (.cells (Builtin.zeroCells #[.int .i64 0, .int .u64 0, .int .u64 0, .int .u64 0, .int .u64 0, .int .i64 0, .int .i64 0, .int .i64 0, .int .i64 0, .bool false] n ++ Builtin.zeroCells #[.int .i64 0, .int .u64 0, .int .u64 0, .int .u64 0, .int .u64 0, .int .i64 0, .int .i64 0, .int .i64 0, .int .i64 0, .bool false] (grownCap w n 0 29 - n)) 29)) = W at *
  generalize grownCap w n 0 29 = c at *
  have hc0 : 0 < c := by omega
  have hc1 : ¬ c = 0 := by omega
  have hg : (n : Int) > 0 := by omega
  clear ho hb hW hz0 hz1 hz2 hi
  go_enter Try.func56, Try.ntmps56
  go_wp2_with (at_builtin; refine Lib.wpList_append_run _ rfl _ _ _ _ rfl _ _ rfl rfl _ _ hrun ?_)
  go_ret
  exact HR.out _ _ rfl rfl
/-- What the first k of some lists come to together. -/
def szK (N : Nat → Nat) : Nat → Nat
  | 0 => 0
  | k + 1 => szK N k + N k
def lsK (N : Nat → Nat) (G : Nat → Nat → Nd) : Nat → List Value
  | 0 => []
  | k + 1 => lsK N G k ++ ndsL (G k) (N k)
theorem szK_mono (N : Nat → Nat) : ∀ {k j : Nat}, k ≤ j → szK N k ≤ szK N j := by
  intro k j h
  induction j with
  | zero => have : k = 0 := by omega
            subst this; exact Nat.le_refl _
  | succ j ih =>
    by_cases e : k = j + 1
    · subst e; exact Nat.le_refl _
    · exact Nat.le_trans (ih (by omega)) (Nat.le_add_right _ _)
set_option maxRecDepth 10000 in
set_option maxHeartbeats 1000000 in
theorem concat_any (b m : Nat) (D : Nat → Addr) (N C : Nat → Nat) (G : Nat → Nat → Nd) (w : World) (hb : b < w.heap.size) (hc : ∀ k, k < m → w.cell? ⟨b, k, none⟩ = some (.slice (some (D k)) (N k) (C k))) (hr : ∀ k, k < m → RdN w (some (D k)) (N k) (G k)) (hm : (m : Int) ≤ 4096) (h0 : 0 < szK N m) (hn : (szK N m : Int) ≤ 4096) :
    Calls Try.prog 37 #[.slice (some ⟨b, 0, none⟩) m m] w fun e w' => ∃ ao cap, e = .returned (.slice ao (szK N m) cap) ∧ w'.ownsRow w.heap.size 29 10 (.slice ao (szK N m) cap) (szK N m) (lsK N G m) ∧ Below w.heap.size w w' := by
  obtain ⟨i0, hi, hz0, hz1, hz2⟩ := info_parts b_node
  have HG := grow_any (szK N m) w h0 hn
  go_enter Try.func37, Try.ntmps37
  go_wp2
  go_loopw [3, 11] (fun s i wr => ∃ k : Nat, k ≤ m ∧ s = .int .i64 (szK N k : Nat) ∧ i = .int .i64 (k : Nat) ∧ wr = w) (fun _ i _ => m - (intOf i).toNat)
  case atStart => exact ⟨0, Nat.zero_le _, rfl, rfl, rfl⟩
  case round =>
    obtain ⟨k, hk, rfl, rfl, hw⟩ := hrel
    have hw' := hw.symm
    clear hw
    subst hw'
    have hle := szK_mono N hk
    by_cases hlt : k < m
    · have hki : (k : Int) < (m : Int) := by omega
      have c0 := hc k hlt
      have hle2 := szK_mono N (show k + 1 ≤ m from hlt)
      have e : szK N (k + 1) = szK N k + N k := rfl
      rw [e] at hle2
      have hx : Hid (∃ k' : Nat, k' ≤ m ∧ Value.int .i64 ((szK N k : Int) + (N k : Int)) = .int .i64 (szK N k' : Nat) ∧ Value.int .i64 ((k : Int) + 1) = .int .i64 (k' : Nat) ∧ True) := ⟨k + 1, hlt, by rw [e]; simp, by simp, trivial⟩
      clear hc hr HG e hz0 hz1 hz2 hi
      generalize szK N k = s at *
      generalize N k = q at *
      generalize szK N m = sm at *
      go_wp2
      go_roundw
      case rel => exact hx.out
      case measure => simp [intOf]; omega
    · obtain rfl : k = m := by omega
      have hki : ¬ (k : Int) < (k : Int) := by omega
      generalize hsm : szK N k = sm at *
      go_wp2_with (go_at_call 56; refine HG.mono ?_; rintro e w1 ⟨g, cg, rfl, ho, hb1⟩)
      clear HG
      go_loopw [6, 27] (fun v i wq => ∃ j : Nat, j ≤ k ∧ i = .int .i64 (j : Nat) ∧ wq.ownsRow w.heap.size 29 10 v (szK N j) (lsK N G j) ∧ Below w.heap.size w wq) (fun _ i _ => k - (intOf i).toNat)
      case atStart => exact ⟨0, Nat.zero_le _, rfl, ho, hb1⟩
      case round =>
        obtain ⟨j, hj, rfl, ho2, hb2⟩ := hrel
        clear ho hb1
        have hjk : szK N j ≤ sm := hsm ▸ szK_mono N hj
        obtain ⟨av, cv, rfl⟩ := ownsRow_slice ho2
        by_cases hjl : j < k
        · have hji : (j : Int) < (k : Int) := by omega
          have c0 := hc j hjl
          rw [← hb2.cell (p := ⟨b, _, none⟩) hb] at c0
          have e : szK N (j + 1) = szK N j + N j := rfl
          have hle2 : szK N j + N j ≤ sm := by rw [← e, ← hsm]; exact szK_mono N hjl
          have hnews : Hid (∀ q u, (ndsL (G j) (N j))[q]? = some u → wr.cell? ((D j).add q) = some u) := by
            intro q u hq
            have hql := (List.getElem?_eq_some_iff.1 hq).1
            rw [ndsL_len] at hql
            obtain ⟨b', off, e', hb', hc'⟩ := (hr j hjl).cells (by omega)
            have e'' := Option.some.inj e'
            rw [e'']
            have hcj := hc' q u hq
            rw [hb2.cell (by by_cases h0 : q = 0 <;> simpa [Addr.add, h0] using hb')]
            by_cases h0 : q = 0
            · subst h0; simpa [Addr.add] using hcj
            · simpa [Addr.add, h0] using hcj
          have HX : Hid (∀ v' W, W.ownsRow w.heap.size 29 10 v' (szK N j + N j) (lsK N G j ++ ndsL (G j) (N j)) → Below w.heap.size w W → ∃ j' : Nat, j' ≤ k ∧ Value.int .i64 ((j : Int) + 1) = .int .i64 (j' : Nat) ∧ W.ownsRow w.heap.size 29 10 v' (szK N j') (lsK N G j') ∧ Below w.heap.size w W) := fun v' W h1 h2 => ⟨j + 1, hjl, by simp, h1, h2⟩
          have hl : (ndsL (G j) (N j)).length = N j * 10 := ndsL_len _ _
          have h1c : Hid (∀ u ∈ ndsL (G j) (N j), u.oneCell' = true) := ndsL_oneCell _ _
          have hsz := hb2.size
          have HB : Hid (Below w.heap.size w wr) := hb2
          have how := ownsRow_own ho2
          clear hc hr e hb2
          generalize ndsL (G j) (N j) = news at *
          generalize lsK N G j = xs at *
          generalize szK N j = sj at *
          generalize N j = nj at *
          generalize D j = dj at *
          generalize C j = cj at *
          go_wp2_with (at_builtin; refine wpList_append_own _ rfl _ _ 22 rfl w.heap.size 29 i0 _ 10 80 Try.underlying22 hi hz0 hz1 hz2 rfl (by decide) _ _ _ rfl ho2 dj nj cj news rfl hl hnews.out h1c.out (by unfold maxLen; omega) (by omega) hsz ?_; intro v' w2 hown hgr hnil'; have HY : Hid _ := HX.out v' w2 hown (HB.out.grown hgr hsz how); clear hown hgr hnil')
          go_roundw
          case rel => exact HY.out
          case measure => simp [intOf]; omega
        · obtain rfl : j = k := by omega
          have hji : ¬ (j : Int) < (j : Int) := by omega
          have HR : Hid (∃ ao cap, Ending.returned (.slice av (szK N j) cv) = .returned (.slice ao (szK N j) cap) ∧ wr.ownsRow w.heap.size 29 10 (.slice ao (szK N j) cap) (szK N j) (lsK N G j) ∧ Below w.heap.size w wr) := ⟨av, cv, rfl, ho2, hb2⟩
          clear ho2 hb2 hc hr hz0 hz1 hz2 hi hsm
          go_wp2
          go_ret
          exact HR.out
end Go.Proofs.Ytgedhjflminlbaa
