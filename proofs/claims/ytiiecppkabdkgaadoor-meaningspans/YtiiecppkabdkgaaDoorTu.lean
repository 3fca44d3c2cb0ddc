/- turned: Clone and Reverse of bytes: the walks. -/
import Derived.Test.YtiiecppkabdkgaaDoorGSxMx
import Derived.Test.YtiiecppkabdkgaaDoorWf
import Derived.Laws.AppendOwn
import Derived.Lib.SliceRun
import Derived.Deep.RegionLaw
namespace Go.Proofs.YtiiecppkabdkgaaDoor
open Go.RowKit
/-- n bytes as cells. -/
def bts (f : Nat → Nat) (n : Nat) : List Value := (List.range n).map fun i => Value.int .u8 (f i : Nat)
theorem bts_length (f : Nat → Nat) (n : Nat) : (bts f n).length = n := by simp [bts]
theorem bts_get (f : Nat → Nat) {n i : Nat} (h : i < n) : (bts f n)[i]? = some (.int .u8 (f i : Nat)) := by simp [bts, h]
theorem bts_some {f : Nat → Nat} {n j : Nat} {u : Value} (h : (bts f n)[j]? = some u) : j < n ∧ u = .int .u8 (f j : Nat) := by
  by_cases hj : j < n
  · rw [bts_get f hj] at h; exact ⟨hj, by simpa using h.symm⟩
  · rw [List.getElem?_eq_none (by rw [bts_length]; omega)] at h; simp at h
theorem bts_one (f : Nat → Nat) (n : Nat) : ∀ u ∈ bts f n, u.oneCell' = true := by
  intro u hu
  simp only [bts, List.mem_map] at hu
  obtain ⟨i, _, rfl⟩ := hu
  rfl
/-- A block that begins with n bytes. -/
def Byt (W : World) (g n : Nat) (f : Nat → Nat) : Prop := ∃ cur : Array Value, W.heap[g]? = some (.cells cur 5 (0, 0)) ∧ ∀ i, i < n → cur[i]? = some (.int .u8 (f i : Nat))
theorem Byt.lt {W : World} {g n : Nat} {f : Nat → Nat} (h : Byt W g n f) : g < W.heap.size := by
  obtain ⟨cur, h1, _⟩ := h
  exact (Array.getElem?_eq_some_iff.1 h1).1
theorem Byt.cell {W : World} {g n : Nat} {f : Nat → Nat} (h : Byt W g n f) {i : Nat} (hi : i < n) : W.cell? ⟨g, i, none⟩ = some (.int .u8 (f i : Nat)) := by
  obtain ⟨cur, h1, h2⟩ := h
  rw [cell_of_row W g i cur 5 (0, 0) h1]; exact h2 i hi
theorem Byt.frozen {W : World} {g n : Nat} {f : Nat → Nat} (h : Byt W g n f) (i : Nat) : W.frozen? ⟨g, i, none⟩ = false := by
  obtain ⟨cur, h1, h2⟩ := h
  exact frozen_of_row W g i _ 5 h1
theorem Byt.below {W W' : World} {g n : Nat} {f : Nat → Nat} (h : Byt W g n f) (hb : Below W.heap.size W W') : Byt W' g n f := by
  have hl := h.lt
  obtain ⟨cur, h1, h2⟩ := h
  exact ⟨cur, (hb.block g hl).trans h1, h2⟩
theorem Byt.rd {W : World} {g n : Nat} {f : Nat → Nat} (h : Byt W g n f) (hf : ∀ i, i < n → f i < 256) : RdB W (some ⟨g, 0, none⟩) n f :=
  ⟨hf, fun _ => ⟨g, 0, rfl, h.lt, fun i hi => by rw [Nat.zero_add]; exact h.cell hi⟩⟩
theorem Byt.set {W : World} {g n : Nat} {f : Nat → Nat} (h : Byt W g n f) {i : Nat} (hi : i < n) (x : Nat) : Byt (W.setCell ⟨g, i, none⟩ (.int .u8 (x : Nat))) g n (fun j => if j = i then x else f j) := by
  obtain ⟨cur, h1, h2⟩ := h
  have hs := heap_setCell_same W g i cur 5 (.int .u8 (x : Nat)) h1
  refine ⟨_, hs, fun j hj => ?_⟩
  by_cases e : j = i
  · subst e
    have hl := (Array.getElem?_eq_some_iff.1 (h2 j hj)).1
    simp [hl]
  · show _ = some (Value.int .u8 ((if j = i then x else f j : Nat) : Int))
    rw [if_neg e, ← h2 j hj]
    simp [Ne.symm e]
/-- What a call answers that lays n bytes. -/
def RetBy (w : World) (n : Nat) (f : Nat → Nat) (e : Ending) (w' : World) : Prop := ∃ ao cap, e = .returned (.slice ao n cap) ∧ (0 < n → ∃ g, ao = some ⟨g, 0, none⟩ ∧ w.heap.size ≤ g ∧ Byt w' g n f) ∧ Below w.heap.size w w'
theorem b_byte : (Tryd.prog.info? 5).map (fun i => (i.zero, i.size, i.bytes)) = some (some (.int .u8 0), 1, 1) := by kernel_rfl
set_option maxRecDepth 10000 in
set_option maxHeartbeats 1000000 in
theorem cloneB_any (ao : Option Addr) (n c : Nat) (f : Nat → Nat) (w : World) (hr : RdB w ao n f) (hn : n ≤ 24) : Calls Tryd.prog 51 #[.slice ao n c] w (RetBy w n f) := by
  cases ao with
  | none =>
    have hn0 : n = 0 := by
      rcases Nat.eq_zero_or_pos n with h | h
      · exact h
      · obtain ⟨_, _, e, _⟩ := hr.2 h; cases e
    subst hn0
    have hnil := fun w => Lib.run_eql_slice_nil (P := Tryd.prog) w 25 5 none 0 c 0 0 Tryd.underlying25
    go_enter Tryd.func51, Tryd.ntmps51
    go_wp2_with fail
    go_ret
    exact ⟨none, 0, rfl, fun h => by omega, Below.refl _ _⟩
  | some a =>
    have hnil := fun w => Lib.run_eql_slice_nil (P := Tryd.prog) w 25 5 (some a) n c 0 0 Tryd.underlying25
    obtain ⟨i0, hi, hz0, hz1, hz2⟩ := info_parts b_byte
    have hnews : ∀ j u, (bts f n)[j]? = some u → (w.alloc (.cells #[] 5)).cell? (a.add j) = some u := by
      intro j u hj
      obtain ⟨hjl, rfl⟩ := bts_some hj
      obtain ⟨b, off, e, hb, hc⟩ := hr.2 (by omega)
      obtain rfl := Option.some.inj e
      have hcj := hc j hjl
      rw [((Below.refl _ w).alloc (Nat.le_refl _) _).cell (by by_cases h0 : j = 0 <;> simpa [Addr.add, h0] using hb)]
      by_cases h0 : j = 0
      · subst h0; simpa [Addr.add] using hcj
      · simpa [Addr.add, h0] using hcj
    clear hr
    go_enter Tryd.func51, Tryd.ntmps51
    go_wp2_with (at_builtin; refine wpList_append_own _ rfl _ _ 25 rfl w.heap.size 5 i0 (.int .u8 0) 1 1 Tryd.underlying25 hi hz0 hz1 hz2 rfl (by decide) _ _ _ rfl (World.ownsRow_made (e := 5) (size := 1) (base := w.heap.size) w #[] 0 (Nat.le_refl _) (Nat.zero_le _) rfl) a n c (bts f n) rfl (by simp [bts_length]) hnews (bts_one f n) (by unfold maxLen; omega) (by omega) (by simp) ?_)
    intro v' w2 hown hgr hnil'
    have hb2 : Below w.heap.size w w2 := ((Below.refl _ _).alloc (Nat.le_refl _) _).grown hgr (by simp) (by intro k hk; simp [Value.ownBlock] at hk; omega)
    replace hown : w2.ownsRow w.heap.size 5 1 v' n (bts f n) := by simpa using hown
    obtain ⟨vo, vc, rfl⟩ := ownsRow_slice hown
    have HR : Hid (RetBy w n f (.returned (.slice vo n vc)) w2) := by
      refine ⟨vo, vc, rfl, fun hp => ?_, hb2⟩
      rcases hown.2 with ⟨_, h0⟩ | ⟨g, cap', cur, h', hbg, hg, hnc, _, hsz, htake⟩
      · omega
      · simp only [Value.slice.injEq] at h'
        obtain ⟨rfl, _, rfl⟩ := h'
        refine ⟨g, rfl, hbg, cur, hg, fun i hi => ?_⟩
        have e : cur.toList[i]? = (bts f n)[i]? := by rw [← htake, List.getElem?_take, if_pos (by omega)]
        rw [← Array.getElem?_toList, e, bts_get f hi]
    clear hown hgr hnil' hnews
    go_wp2_with fail
    go_ret
    exact HR.out
/-- Turned up to a place from both ends. -/
def revP (f : Nat → Nat) (n k : Nat) : Nat → Nat := fun i => if i < k ∨ n ≤ i + k then f (n - 1 - i) else f i
theorem revP_zero (f : Nat → Nat) (n : Nat) {i : Nat} (hi : i < n) : revP f n 0 i = f i := by
  unfold revP; rw [if_neg (by omega)]
theorem revP_step (f : Nat → Nat) {n k : Nat} (h : 2 * k + 1 < n) {i : Nat} (hi : i < n) : (if i = n - 1 - k then revP f n k k else if i = k then revP f n k (n - 1 - k) else revP f n k i) = revP f n (k + 1) i := by
  unfold revP
  by_cases h1 : i = n - 1 - k
  · subst h1
    rw [if_pos rfl, if_neg (by omega), if_pos (by omega)]
    congr 1; omega
  · rw [if_neg h1]
    by_cases h2 : i = k
    · subst h2
      rw [if_pos rfl, if_neg (by omega), if_pos (by omega)]
    · rw [if_neg h2]
      by_cases h3 : i < k ∨ n ≤ i + k
      · rw [if_pos h3, if_pos (by omega)]
      · rw [if_neg h3, if_neg (by omega)]
theorem revP_done (f : Nat → Nat) {n k : Nat} (h : ¬ 2 * k + 1 < n) {i : Nat} (hi : i < n) : revP f n k i = f (n - 1 - i) := by
  unfold revP
  by_cases h3 : i < k ∨ n ≤ i + k
  · rw [if_pos h3]
  · rw [if_neg h3]; congr 1; omega
theorem Byt.congr {W : World} {g n : Nat} {f h : Nat → Nat} (k : Byt W g n f) (e : ∀ i, i < n → f i = h i) : Byt W g n h := by
  obtain ⟨cur, h1, h2⟩ := k
  exact ⟨cur, h1, fun i hi => by rw [← e i hi]; exact h2 i hi⟩
def RetRv (w : World) (g n : Nat) (f : Nat → Nat) (e : Ending) (w' : World) : Prop := (∃ v, e = .returned v) ∧ Byt w' g n f ∧ But1 g w w'
theorem But1.drew {b : Nat} {A B : World} (h : But1 b A B) : But1 b A B.drew := ⟨h.os, h.tape, h.output, h.size, h.block⟩
set_option maxRecDepth 10000 in
set_option maxHeartbeats 4000000 in
theorem reverse_any (g n c : Nat) (f : Nat → Nat) (w : World) (hb : Byt w g n f) (hn : n ≤ 24) : Calls Tryd.prog 52 #[.slice (some ⟨g, 0, none⟩) n c] w (RetRv w g n (fun i => f (n - 1 - i))) := by
  have hni : (n : Int) ≤ 24 := by omega
  have hw1 : IntKind.i64.wrap ((n : Int) - 1) = (n : Int) - 1 := by rw [IntKind.wrap_i64]; omega
  go_enter Tryd.func52, Tryd.ntmps52
  go_wp2_with fail
  go_loopw [2, 3] (fun a b wr => ∃ k : Nat, k ≤ n ∧ a = .int .i64 (k : Nat) ∧ b = .int .i64 ((n : Int) - 1 - (k : Nat)) ∧ Byt wr g n (revP f n k) ∧ But1 g w wr) (fun a _ _ => n - (intOf a).toNat)
  case atStart => exact ⟨0, Nat.zero_le _, rfl, by simp, hb.congr fun i hi => (revP_zero f n hi).symm, But1.refl _ _⟩
  case round =>
    obtain ⟨k, hk, rfl, rfl, hB, hbut⟩ := hrel
    by_cases hlt : 2 * k + 1 < n
    · have hli : (k : Int) < (n : Int) - 1 - (k : Int) := by omega
      obtain ⟨q, hq⟩ : ∃ q : Nat, (n : Int) - 1 - (k : Int) = (q : Nat) := ⟨n - 1 - k, by omega⟩
      have hqn : q = n - 1 - k := by omega
      have hkn : (k : Int) < (n : Int) := by omega
      have hqi : (q : Int) < (n : Int) := by omega
      have d1 := hB.cell (i := k) (by omega)
      have d2 := hB.cell (i := q) (by omega)
      have HS : Hid (Byt ((wr.setCell ⟨g, k, none⟩ (.int .u8 (revP f n k q : Nat))).setCell ⟨g, q, none⟩ (.int .u8 (revP f n k k : Nat))) g n (revP f n (k + 1)) ∧ But1 g w ((wr.setCell ⟨g, k, none⟩ (.int .u8 (revP f n k q : Nat))).setCell ⟨g, q, none⟩ (.int .u8 (revP f n k k : Nat)))) := by
        refine ⟨((hB.set (i := k) (by omega) (revP f n k q)).set (i := q) (by omega) (revP f n k k)).congr fun i hi => ?_, (hbut.set _ _).set _ _⟩
        rw [← revP_step f hlt hi, hqn]
      have f1 := hB.frozen k
      have hB2 := hB.set (i := k) (by omega) (revP f n k q)
      have f2 := hB2.frozen q
      have d3 := hB2.cell (i := q) (by omega)
      rw [hq]
      rw [hq] at hli
      have hne : ¬ k = q := by omega
      have hne2 : ¬ q = k := by omega
      have hqx : Hid ((q : Int) - 1 = (n : Int) - 1 - ((k + 1 : Nat) : Int) ∧ 2 * k + 1 < n) := ⟨by omega, hlt⟩
      have hq24 : (q : Int) ≤ 24 := by omega
      have hq0 : (1 : Int) ≤ (q : Int) := by omega
      have hk24 : (k : Int) ≤ 24 := by omega
      clear hB hB2 hbut hb hq hqn hlt
      generalize revP f n k k = x at *
      generalize revP f n k q = y at *
      go_wp2_with fail
      go_region_law (fail)
      all_goals
        go_wp2_with fail
        go_simp
        go_roundw
        case rel => exact ⟨k + 1, by omega, by simp, by rw [← hqx.out.1], by obtain ⟨cur, h1, h2⟩ := HS.out.1; exact ⟨cur, h1, h2⟩, HS.out.2.drew⟩
        case measure => have := hqx.out; simp [intOf]; omega
    · have hli : ¬ (k : Int) < (n : Int) - 1 - (k : Int) := by omega
      have HR : Hid (∀ v, RetRv w g n (fun i => f (n - 1 - i)) (.returned v) wr) := fun v => ⟨⟨_, rfl⟩, hB.congr fun i hi => revP_done f hlt hi, hbut⟩
      clear hB hbut hb
      go_wp2_with fail
      go_end0
      exact HR.out _
def RetNo (w : World) (e : Ending) (w' : World) : Prop := (∃ v, e = .returned v) ∧ w = w'
set_option maxRecDepth 10000 in
theorem reverse_nil (ao : Option Addr) (c : Nat) (w : World) : Calls Tryd.prog 52 #[.slice ao 0 c] w (RetNo w) := by
  go_enter Tryd.func52, Tryd.ntmps52
  go_wp2_with fail
  go_loopw [2, 3] (fun a b wr => a = .int .i64 0 ∧ b = .int .i64 (-1) ∧ w = wr) (fun _ _ _ => 0)
  case atStart => exact ⟨rfl, rfl, rfl⟩
  case round =>
    obtain ⟨rfl, rfl, rfl⟩ := hrel
    go_wp2_with fail
    go_end0
    exact ⟨⟨_, rfl⟩, rfl⟩
/-- A text turned round. -/
def RetTx (w : World) (n : Nat) (f : Nat → Nat) (e : Ending) (w' : World) : Prop := ∃ ao cap, e = .returned (.slice ao n cap) ∧ RdB w' ao n f ∧ Below w.heap.size w w'
set_option maxRecDepth 10000 in
set_option maxHeartbeats 1000000 in
theorem turned_any (ao : Option Addr) (n c : Nat) (f : Nat → Nat) (w : World) (hr : RdB w ao n f) (hn : n ≤ 24) : Calls Tryd.prog 32 #[.slice ao n c] w (RetTx w n (fun i => f (n - 1 - i))) := by
  have HC := cloneB_any ao n c f w hr hn
  have hf := hr.1
  go_enter Tryd.func32, Tryd.ntmps32
  go_wp2_with fail
  refine HC.mono ?_
  rintro e w1 ⟨a1, c1, rfl, h1, b1⟩
  clear HC hr
  by_cases h0 : n = 0
  · subst h0
    have HR := reverse_nil a1 c1 w1
    go_wp2_with fail
    refine HR.mono ?_
    rintro e w2 ⟨⟨v, rfl⟩, rfl⟩
    clear HR
    go_wp2_with fail
    go_ret
    exact ⟨_, _, rfl, ⟨fun i hi => by omega, fun h => by omega⟩, b1⟩
  · obtain ⟨g, rfl, hg, hB⟩ := h1 (by omega)
    have HR := reverse_any g n c1 f w1 hB hn
    clear h1
    go_wp2_with fail
    refine HR.mono ?_
    rintro e w2 ⟨⟨v, rfl⟩, hB2, hbut⟩
    have hbw := hbut.below hg b1 (Nat.le_refl _)
    have hrd := hB2.rd (fun i hi => hf _ (by omega))
    clear HR hB hB2
    go_wp2_with fail
    go_ret
    exact ⟨_, _, rfl, hrd, hbw⟩
end Go.Proofs.YtiiecppkabdkgaaDoor
