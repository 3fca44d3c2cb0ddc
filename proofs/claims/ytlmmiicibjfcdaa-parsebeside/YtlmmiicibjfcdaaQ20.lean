/- Nodes held against each other. parse: isFirst, isLast, hasRepeat: the walks; where groups end. parse: wrongAnchor of tokens without groups: the walk. parse: Tokens of tokens without groups: the walk. parse: Parse of a pattern whose tokens can be read and have no groups: the walk. begun: the walk. ParseLeaf: the walk. Tokens and flags that came in. -/
import Derived.Lib.SlBytesConst
import Derived.Test.YtlmmiicibjfcdaaRows
import Derived.ProofKit
import Derived.OpenShut
import Derived.Lib.SmallJoins
import Derived.LaidMore
import Derived.Lib.LaidTab
import Derived.Stop.Joined
import Derived.SevenTiedAt
import Derived.Deep.Slices
import Derived.Test.YtlmmiicibjfcdaaQ01
import Derived.Test.YtlmmiicibjfcdaaQ15
import Derived.Test.YtlmmiicibjfcdaaQ18
import Derived.Test.YtlmmiicibjfcdaaQ19
import Derived.Test.YtlmmiicibjfcdaaQ11
namespace Go.Proofs.Ytlmmiicibjfcdaa
open Go.RowKit
theorem nd_same (n : Nd) : n.eq n = true := by simp [Nd.eq]
end Go.Proofs.Ytlmmiicibjfcdaa
namespace Go.Proofs.Ytlmmiicibjfcdaa
open Go.RowKit
section
variable (ao : Option Addr) (n cap : Nat) (F : Nat → TkR) (fl : Fg)
theorem rdk_kind {W : World} (hr : RdK W ao n F) {i : Nat} (hi : i < n) : ∃ bb off, ao = some ⟨bb, off, none⟩ ∧ W.cell? ⟨bb, off + i * 11, none⟩ = some (.int .i64 (F i).k) := by
  obtain ⟨bb, off, e, _, hc⟩ := hr.at_ (by omega)
  exact ⟨bb, off, e, (hc i hi).1⟩
set_option maxRecDepth 10000 in
set_option maxHeartbeats 1000000 in
theorem isFirst_any {i : Nat} (W : World) (hr : RdK W ao n F) (hi : i < n) (hn : n ≤ 3000) : Calls Try.prog 46 #[.slice ao n cap, .int .i64 (i : Nat)] W fun e w' => e = .returned (.bool (fstA (fun i => (F i).tp fl) i)) ∧ W = w' := by
  by_cases h0 : i = 0
  · subst h0
    have e : fstA (fun i => (F i).tp fl) 0 = true := by simp [fstA]
    rw [e]
    go_enter Try.func46, Try.ntmps46
    go_wp2
    go_ret
    exact ⟨rfl, rfl⟩
  · obtain ⟨p, rfl⟩ : ∃ p, i = p + 1 := ⟨i - 1, by omega⟩
    obtain ⟨bb, off, rfl, hc⟩ := rdk_kind ao n F hr (i := p) (by omega)
    have e : fstA (fun i => (F i).tp fl) (p + 1) = (((F p).k == 4) || ((F p).k == 6)) := by simp [fstA]; rfl
    rw [e]
    obtain ⟨q, hq⟩ : ∃ q, p + 1 = q := ⟨_, rfl⟩
    have hw : IntKind.i64.wrap ((q : Int) - 1) = ((p : Nat) : Int) := by rw [IntKind.wrap_i64]; omega
    have hp : (p : Int) < (n : Int) := by omega
    have hq0 : ((q : Int) == 0) = false := by simp; omega
    rw [hq]
    clear hr hq h0 hi
    generalize (F p).k = k at *
    cases k4 : (k == 4) with
    | true =>
      go_enter Try.func46, Try.ntmps46
      go_wp2
      go_ret
      exact ⟨rfl, rfl⟩
    | false =>
      cases k6 : (k == 6) with
      | true =>
        go_enter Try.func46, Try.ntmps46
        go_wp2
        go_ret
        exact ⟨rfl, rfl⟩
      | false =>
        go_enter Try.func46, Try.ntmps46
        go_wp2
        go_ret
        exact ⟨rfl, rfl⟩
set_option maxRecDepth 10000 in
set_option maxHeartbeats 1000000 in
theorem isLast_any {i : Nat} (W : World) (hr : RdK W ao n F) (hi : i < n) (hn : n ≤ 3000) : Calls Try.prog 48 #[.slice ao n cap, .int .i64 (i : Nat)] W fun e w' => e = .returned (.bool (lstA (fun i => (F i).tp fl) n i)) ∧ W = w' := by
  obtain ⟨q, hq⟩ : ∃ q, i + 1 = q := ⟨_, rfl⟩
  have hw : IntKind.i64.wrap ((i : Int) + 1) = ((q : Nat) : Int) := by rw [IntKind.wrap_i64]; omega
  have e : lstA (fun i => (F i).tp fl) n i = (decide (q = n) || ((F q).k == 5) || ((F q).k == 6)) := by unfold lstA; rw [hq]; rfl
  rw [e]
  by_cases h0 : q = n
  · have hq0 : ((q : Int) == (n : Int)) = true := by simp [h0]
    rw [decide_eq_true h0, Bool.true_or, Bool.true_or]
    clear hr hq h0 hi
    go_enter Try.func48, Try.ntmps48
    go_wp2
    go_ret
    exact ⟨rfl, rfl⟩
  · have hq0 : ((q : Int) == (n : Int)) = false := by simp; omega
    obtain ⟨bb, off, rfl, hc⟩ := rdk_kind ao n F hr (i := q) (by omega)
    rw [decide_eq_false h0, Bool.false_or]
    have hp : (q : Int) < (n : Int) := by omega
    clear hr hq h0 hi
    generalize (F q).k = k at *
    cases k5 : (k == 5) with
    | true =>
      go_enter Try.func48, Try.ntmps48
      go_wp2
      go_ret
      exact ⟨rfl, rfl⟩
    | false =>
      cases k6 : (k == 6) with
      | true =>
        go_enter Try.func48, Try.ntmps48
        go_wp2
        go_ret
        exact ⟨rfl, rfl⟩
      | false =>
        go_enter Try.func48, Try.ntmps48
        go_wp2
        go_ret
        exact ⟨rfl, rfl⟩
set_option maxRecDepth 10000 in
set_option maxHeartbeats 1000000 in
theorem hasRepeat_any {i : Nat} (W : World) (hr : RdK W ao n F) (hi : i < n) (hn : n ≤ 3000) : Calls Try.prog 47 #[.slice ao n cap, .int .i64 (i : Nat)] W fun e w' => e = .returned (.bool (repA (fun i => (F i).tp fl) n i)) ∧ W = w' := by
  obtain ⟨q, hq⟩ : ∃ q, i + 1 = q := ⟨_, rfl⟩
  have hw : IntKind.i64.wrap ((i : Int) + 1) = ((q : Nat) : Int) := by rw [IntKind.wrap_i64]; omega
  have e : repA (fun i => (F i).tp fl) n i = (decide (q < n) && ((F q).k == 7)) := by unfold repA; rw [hq]; rfl
  rw [e]
  by_cases h0 : q < n
  · have hq0 : (q : Int) < (n : Int) := by omega
    obtain ⟨bb, off, rfl, hc⟩ := rdk_kind ao n F hr h0
    rw [decide_eq_true h0, Bool.true_and]
    clear hr hq h0 hi
    generalize (F q).k = k at *
    go_enter Try.func47, Try.ntmps47
    go_wp2
    go_ret
    exact ⟨rfl, rfl⟩
  · have hq0 : ¬ (q : Int) < (n : Int) := by omega
    rw [decide_eq_false h0, Bool.false_and]
    clear hr hq h0 hi
    go_enter Try.func47, Try.ntmps47
    go_wp2
    go_ret
    exact ⟨rfl, rfl⟩
end
/-- A group that is not open any more has its end. -/
theorem runP_cl {X : Nat → Tp} : ∀ {i : Nat} {p : Ps}, runP X i = .ok p → ∀ o, o < i → (X o).k = 4 → o ∈ p.op ∨ ∃ c : Nat, p.cl o = c ∧ c < i
  | 0, p, h, o, ho, _ => by omega
  | i + 1, q, h, o, ho, hk => by
    obtain ⟨p, hp, hs⟩ := runP_prev h
    have ih := fun h' => runP_cl hp o h' hk
    have keep : o < i → o ∈ p.op ∨ ∃ c : Nat, p.cl o = c ∧ c < i + 1 := fun h' => by
      rcases ih h' with h1 | ⟨c, h1, h2⟩
      · exact .inl h1
      · exact .inr ⟨c, h1, by omega⟩
    unfold stepP at hs
    split at hs
    · cases hs
    split at hs
    · cases hs
      by_cases e : o = i
      · exact .inl (by simp [e])
      · rcases keep (by omega) with h1 | h1
        · exact .inl (by simp [h1])
        · exact .inr h1
    rename_i hk4
    have hoi : o < i := by
      by_cases e : o = i
      · subst e; exact absurd hk hk4
      · omega
    split at hs
    · cases hs; exact keep hoi
    split at hs
    · split at hs
      · cases hs
      · rename_i o' r ho'
        cases hs
        by_cases e : o = o'
        · subst e
          exact .inr ⟨i, by simp, by omega⟩
        · rcases keep hoi with h1 | ⟨c, h1, h2⟩
          · rw [ho'] at h1
            rcases List.mem_cons.1 h1 with h1 | h1
            · exact absurd h1 e
            · exact .inl h1
          · exact .inr ⟨c, by simp [e, h1], h2⟩
    split at hs
    · split at hs
      · cases hs; exact keep hoi
      · cases hs
    split at hs
    · cases hs; exact keep hoi
    · cases hs; exact keep hoi
theorem prsE_cl {X : Nat → Tp} {n : Nat} {cl : Nat → Int} (h : prsE X n = .ok cl) : (∃ s, runP X n = .ok s) ∧ ∀ o, o < n → (X o).k = 4 → ∃ c : Nat, cl o = c ∧ c < n := by
  unfold prsE at h
  split at h
  · cases h
  · rename_i s hs
    split at h
    · rename_i ho
      cases h
      refine ⟨⟨s, hs⟩, fun o h1 h2 => ?_⟩
      rcases runP_cl hs o h1 h2 with h3 | h3
      · rw [ho] at h3; cases h3
      · exact h3
    · cases h
/-- There are as many rooms as levels. -/
theorem runA_len {X : Nat → Tp} {n : Nat} {cl : Nat → Int} : ∀ {i : Nat} {p : Ps} {rs : List (Bool × Bool)}, runP X i = .ok p → runA X n cl i = .ok rs → rs.length = p.op.length + 1
  | 0, p, rs, h, h2 => by cases h; cases h2; rfl
  | i + 1, q, rs, h, h2 => by
    obtain ⟨p, hp, hs⟩ := runP_prev h
    rw [runA] at h2
    split at h2
    · rename_i rs0 hr0
      have ih := runA_len hp hr0
      unfold stepP at hs
      split at hs
      · cases hs
      unfold stepA at h2
      split at hs
      · rename_i hk
        cases hs
        rw [if_pos hk] at h2
        cases h2
        simp [ih]
      rename_i hk4
      rw [if_neg hk4] at h2
      split at hs
      · rename_i hk
        cases hs
        rw [if_neg (by omega), if_neg (by omega), if_neg (by omega)] at h2
        cases h2
        exact ih
      rename_i hk6
      split at hs
      · rename_i hk
        rw [if_pos hk] at h2
        cases h2
        split at hs
        · cases hs
        · rename_i o r ho
          cases hs
          rw [ho] at ih
          simp at ih ⊢
          omega
      rename_i hk5
      rw [if_neg hk5] at h2
      have hq : q.op = p.op := by
        split at hs
        · split at hs
          · cases hs; rfl
          · cases hs
        split at hs
        · cases hs; rfl
        · cases hs; rfl
      rw [hq]
      split at h2
      · split at h2
        · cases h2; exact ih
        · cases h2
      split at h2
      · split at h2
        · cases h2; exact ih
        · cases h2
      · cases h2; exact ih
    · cases h2
end Go.Proofs.Ytlmmiicibjfcdaa
namespace Go.Proofs.Ytlmmiicibjfcdaa
open Go.RowKit
def rmL (r : Bool × Bool) : List Value := [.bool r.1, .bool r.2]
def rmC (rs : List (Bool × Bool)) : List Value := rs.reverse.flatMap rmL
theorem rmC_cons (x : Bool × Bool) (l : List (Bool × Bool)) : rmC (x :: l) = rmC l ++ rmL x := by simp [rmC]
theorem rmC_len : ∀ l : List (Bool × Bool), (rmC l).length = l.length * 2
  | [] => rfl
  | x :: l => by
    rw [rmC_cons, List.length_append, rmC_len l, List.length_cons]
    show _ + 2 = _
    omega
structure RM (w : World) (rs : List (Bool × Bool)) (ov : Value) (W : World) : Prop where
  bel : Below w.heap.size w W
  row : W.ownsRow w.heap.size 83 2 ov rs.length (rmC rs)
theorem RM.below {w W W' : World} {rs : List (Bool × Bool)} {ov : Value} (h : RM w rs ov W) (hb : Below W.heap.size W W') : RM w rs ov W' :=
  ⟨h.bel.trans (hb.mono h.bel.size), own_at h.row fun _ hg => hb.block _ (own_block h.row hg).2.1⟩
theorem b_room : (Try.prog.info? 83).map (fun i => (i.zero, i.size, i.bytes)) = some (some (.agg #[.bool false, .bool false]), 2, 2) := by kernel_rfl
theorem slice_rm (ao : Option Addr) (n cap x : Nat) (hx : x ≤ cap) (w : World) : (Instr.slice 84 (.slice ao n cap) none (some (.int .i64 (x : Nat))) none).run Try.prog w = .ok (.slice ao x cap) w := by
  have hxc : (x : Int) ≤ (cap : Int) := by omega
  by_cases h : cap = 0
  · subst h
    obtain rfl : x = 0 := by omega
    simp [go_sem, Try.underlying84]
  · simp [go_sem, Try.underlying84, hxc, h]
theorem wrg_err {X : Nat → Tp} {n : Nat} {cl : Nat → Int} {i : Nat} {e : Int} (h : runA X n cl i = .error e) (hi : i ≤ n) : wrgA X n cl = e := by
  have : ∀ m, i ≤ m → runA X n cl m = .error e := by
    intro m hm
    induction hm with
    | refl => exact h
    | step _ ih => rw [runA, ih]
  unfold wrgA
  rw [this n hi]
theorem runA_step {X : Nat → Tp} {n : Nat} {cl : Nat → Int} {i : Nat} {rs : List (Bool × Bool)} (h : runA X n cl i = .ok rs) : runA X n cl (i + 1) = stepA X n cl rs i := by rw [runA, h]
def RetI3 (w : World) (v : Int) (e : Ending) (w' : World) : Prop := e = .returned (.int .i64 v) ∧ Below w.heap.size w w'
set_option maxRecDepth 10000 in
set_option maxHeartbeats 8000000 in
/-- Of tokens without groups. (With groups: wip/tools/gen/genpw.py prints the text; its region 9 is too slow for go_region_law: see NOTES.) -/
theorem wrong_flat (ao : Option Addr) (n cap : Nat) (F : Nat → TkR) (fl : Fg) (w : World) (hr : RdK w ao n F) (hn : n ≤ 3000) (cl : Nat → Int) (hp : prsE (fun i => (F i).tp fl) n = .ok cl) (cb : Nat) (hcb : Cl w cb 3 (clC cl n)) (hno : ∀ i, i < n → (F i).k ≠ 4) : Calls Try.prog 23 #[.slice ao n cap, .slice (some ⟨cb, 0, none⟩) n n] w (RetI3 w (wrgA (fun i => (F i).tp fl) n cl)) := by
  obtain ⟨⟨sE, hsE⟩, hcl⟩ := prsE_cl hp
  have hR0 : RM w [(true, true)] (.slice (some ⟨w.heap.size, 0, none⟩) 1 1) (w.alloc (.cells #[.bool true, .bool true] 83)) := ⟨bel1 w _, World.ownsRow_lit w _ 1 (Nat.le_refl _) (by decide) rfl⟩
  clear hp
  go_enter Try.func23, Try.ntmps23
  go_wp2_with fail
  go_loopw [5, 14] (fun ov i wr => ∃ k rs, k ≤ n ∧ i = .int .i64 (k : Nat) ∧ Hid (runA (fun i => (F i).tp fl) n cl k = .ok rs) ∧ Hid (RM w rs ov wr)) (fun _ i _ => n - (intOf i).toNat)
  case atStart => exact ⟨0, _, Nat.zero_le _, rfl, (rfl : runA (fun i => (F i).tp fl) n cl 0 = .ok [(true, true)]), hR0⟩
  case round =>
    clear hR0
    obtain ⟨k, rs, hk, rfl, hA, hI⟩ := hrel
    by_cases hlt : k < n
    · obtain ⟨bb, off, rfl, hbb, hc⟩ := hr.at_ (by omega)
      have hki : (k : Int) < (n : Int) := by omega
      have hcs := hc k hlt
      obtain ⟨p, hpk⟩ := runP_le hsE k (by omega)
      have hln := runA_len hpk hA.out
      have hopl := (runP_op hpk).1
      obtain ⟨a, b, r, rfl⟩ : ∃ a b r, rs = (a, b) :: r := by
        cases rs with
        | nil => simp at hln
        | cons x r => exact ⟨x.1, x.2, r, rfl⟩
      obtain ⟨g, oc, rfl⟩ : ∃ g oc, u5 = .slice (some ⟨g, 0, none⟩) ((a, b) :: r).length oc := by
        rcases hI.out.row.2 with ⟨hv, h0⟩ | ⟨g, cp, cur, hv, _⟩
        · cases h0
        · exact ⟨g, cp, hv⟩
      have hcap : ((a, b) :: r).length ≤ oc := by
        rcases hI.out.row.2 with ⟨hv, _⟩ | ⟨g', cap', cur, hv, _, _, hn', _⟩
        · cases hv
        · cases hv; exact hn'
      have hst := runA_step hA.out
      have hI1 := hI.out.below (bel1 wr (.cells #[.int .i64 (F k).k, .int .u8 ((F k).b : Nat), .int .u64 ((F k).a0 : Nat), .int .u64 ((F k).a1 : Nat), .int .u64 ((F k).a2 : Nat), .int .u64 ((F k).a3 : Nat), .bool (F k).nt, .int .i64 (F k).l, .int .i64 (F k).m, .bool (F k).lz, .int .i64 (F k).t] 42))
      have hI2 := hI1.below (bel1 (wr.alloc (.cells #[.int .i64 (F k).k, .int .u8 ((F k).b : Nat), .int .u64 ((F k).a0 : Nat), .int .u64 ((F k).a1 : Nat), .int .u64 ((F k).a2 : Nat), .int .u64 ((F k).a3 : Nat), .bool (F k).nt, .int .i64 (F k).l, .int .i64 (F k).m, .bool (F k).lz, .int .i64 (F k).t] 42)) (.cells #[.bool a, .bool b] 83))
      have t0 : (wr.alloc (.cells #[.int .i64 (F k).k, .int .u8 ((F k).b : Nat), .int .u64 ((F k).a0 : Nat), .int .u64 ((F k).a1 : Nat), .int .u64 ((F k).a2 : Nat), .int .u64 ((F k).a3 : Nat), .bool (F k).nt, .int .i64 (F k).l, .int .i64 (F k).m, .bool (F k).lz, .int .i64 (F k).t] 42)).cell? ⟨g, r.length * 2, none⟩ = some (.bool a) := by
        rw [hI1.row.cellAt _ (by simp), rmC_cons, List.getElem?_append_right (by rw [rmC_len]; omega), rmC_len]
        simp [rmL]
      have t1 : (wr.alloc (.cells #[.int .i64 (F k).k, .int .u8 ((F k).b : Nat), .int .u64 ((F k).a0 : Nat), .int .u64 ((F k).a1 : Nat), .int .u64 ((F k).a2 : Nat), .int .u64 ((F k).a3 : Nat), .bool (F k).nt, .int .i64 (F k).l, .int .i64 (F k).m, .bool (F k).lz, .int .i64 (F k).t] 42)).cell? ⟨g, r.length * 2 + 1, none⟩ = some (.bool b) := by
        rw [hI1.row.cellAt _ (by simp; omega), rmC_cons, List.getElem?_append_right (by rw [rmC_len]; omega), rmC_len]
        simp [rmL]
      obtain ⟨c0, c1, c2, c3, c4, c5, c6, c7, c8, c9, c10⟩ := hcs
      rw [← hI.out.bel.cell (p := ⟨bb, off + k * 11, none⟩) hbb] at c0
      rw [← hI.out.bel.cell (p := ⟨bb, off + k * 11 + 1, none⟩) hbb] at c1
      rw [← hI.out.bel.cell (p := ⟨bb, off + k * 11 + 2, none⟩) hbb] at c2
      rw [← hI.out.bel.cell (p := ⟨bb, off + k * 11 + 3, none⟩) hbb] at c3
      rw [← hI.out.bel.cell (p := ⟨bb, off + k * 11 + 4, none⟩) hbb] at c4
      rw [← hI.out.bel.cell (p := ⟨bb, off + k * 11 + 5, none⟩) hbb] at c5
      rw [← hI.out.bel.cell (p := ⟨bb, off + k * 11 + 6, none⟩) hbb] at c6
      rw [← hI.out.bel.cell (p := ⟨bb, off + k * 11 + 7, none⟩) hbb] at c7
      rw [← hI.out.bel.cell (p := ⟨bb, off + k * 11 + 8, none⟩) hbb] at c8
      rw [← hI.out.bel.cell (p := ⟨bb, off + k * 11 + 9, none⟩) hbb] at c9
      rw [← hI.out.bel.cell (p := ⟨bb, off + k * 11 + 10, none⟩) hbb] at c10
      have hr2 := hr.below hI2.bel
      have hcc : ((wr.alloc (.cells #[.int .i64 (F k).k, .int .u8 ((F k).b : Nat), .int .u64 ((F k).a0 : Nat), .int .u64 ((F k).a1 : Nat), .int .u64 ((F k).a2 : Nat), .int .u64 ((F k).a3 : Nat), .bool (F k).nt, .int .i64 (F k).l, .int .i64 (F k).m, .bool (F k).lz, .int .i64 (F k).t] 42)).alloc (.cells #[.bool a, .bool b] 83)).cell? ⟨cb, k, none⟩ = some (.int .i64 (cl k)) := by
        rw [hI2.bel.cell (p := ⟨cb, k, none⟩) hcb.lt]
        exact hcb.cell k (by simp [clC, hlt])
      have kT : Cl ((wr.alloc (.cells #[.int .i64 (F k).k, .int .u8 ((F k).b : Nat), .int .u64 ((F k).a0 : Nat), .int .u64 ((F k).a1 : Nat), .int .u64 ((F k).a2 : Nat), .int .u64 ((F k).a3 : Nat), .bool (F k).nt, .int .i64 (F k).l, .int .i64 (F k).m, .bool (F k).lz, .int .i64 (F k).t] 42)).alloc (.cells #[.bool a, .bool b] 83)) wr.heap.size 42 [.int .i64 (F k).k, .int .u8 ((F k).b : Nat), .int .u64 ((F k).a0 : Nat), .int .u64 ((F k).a1 : Nat), .int .u64 ((F k).a2 : Nat), .int .u64 ((F k).a3 : Nat), .bool (F k).nt, .int .i64 (F k).l, .int .i64 (F k).m, .bool (F k).lz, .int .i64 (F k).t] := (Cl.new wr 42 [.int .i64 (F k).k, .int .u8 ((F k).b : Nat), .int .u64 ((F k).a0 : Nat), .int .u64 ((F k).a1 : Nat), .int .u64 ((F k).a2 : Nat), .int .u64 ((F k).a3 : Nat), .bool (F k).nt, .int .i64 (F k).l, .int .i64 (F k).m, .bool (F k).lz, .int .i64 (F k).t]).alloc _
      have kH : Cl ((wr.alloc (.cells #[.int .i64 (F k).k, .int .u8 ((F k).b : Nat), .int .u64 ((F k).a0 : Nat), .int .u64 ((F k).a1 : Nat), .int .u64 ((F k).a2 : Nat), .int .u64 ((F k).a3 : Nat), .bool (F k).nt, .int .i64 (F k).l, .int .i64 (F k).m, .bool (F k).lz, .int .i64 (F k).t] 42)).alloc (.cells #[.bool a, .bool b] 83)) (wr.heap.size + 1) 83 [.bool a, .bool b] := by
        have := Cl.new (wr.alloc (.cells #[.int .i64 (F k).k, .int .u8 ((F k).b : Nat), .int .u64 ((F k).a0 : Nat), .int .u64 ((F k).a1 : Nat), .int .u64 ((F k).a2 : Nat), .int .u64 ((F k).a3 : Nat), .bool (F k).nt, .int .i64 (F k).l, .int .i64 (F k).m, .bool (F k).lz, .int .i64 (F k).t] 42)) 83 [.bool a, .bool b]
        rw [World.size_alloc] at this
        exact this
      have HB2 : Hid (Below w.heap.size w ((wr.alloc (.cells #[.int .i64 (F k).k, .int .u8 ((F k).b : Nat), .int .u64 ((F k).a0 : Nat), .int .u64 ((F k).a1 : Nat), .int .u64 ((F k).a2 : Nat), .int .u64 ((F k).a3 : Nat), .bool (F k).nt, .int .i64 (F k).l, .int .i64 (F k).m, .bool (F k).lz, .int .i64 (F k).t] 42)).alloc (.cells #[.bool a, .bool b] 83))) := hI2.bel
      have hF46 := isFirst_any (some ⟨bb, off, none⟩) n cap F fl ((wr.alloc (.cells #[.int .i64 (F k).k, .int .u8 ((F k).b : Nat), .int .u64 ((F k).a0 : Nat), .int .u64 ((F k).a1 : Nat), .int .u64 ((F k).a2 : Nat), .int .u64 ((F k).a3 : Nat), .bool (F k).nt, .int .i64 (F k).l, .int .i64 (F k).m, .bool (F k).lz, .int .i64 (F k).t] 42)).alloc (.cells #[.bool a, .bool b] 83)) hr2 hlt hn
      have hF48 := isLast_any (some ⟨bb, off, none⟩) n cap F fl ((wr.alloc (.cells #[.int .i64 (F k).k, .int .u8 ((F k).b : Nat), .int .u64 ((F k).a0 : Nat), .int .u64 ((F k).a1 : Nat), .int .u64 ((F k).a2 : Nat), .int .u64 ((F k).a3 : Nat), .bool (F k).nt, .int .i64 (F k).l, .int .i64 (F k).m, .bool (F k).lz, .int .i64 (F k).t] 42)).alloc (.cells #[.bool a, .bool b] 83)) hr2 hlt hn
      obtain ⟨L, hL⟩ : ∃ L, ((a, b) :: r).length = L := ⟨_, rfl⟩
      obtain ⟨q, hq⟩ : ∃ q, r.length = q := ⟨_, rfl⟩
      have hLq : L = q + 1 := by rw [← hL, ← hq]; rfl
      have hLn : L ≤ 3001 := by rw [← hL]; omega
      rw [hL] at hcap
      rw [hq] at t0 t1
      have wq : IntKind.i64.wrap ((L : Int) - 1) = (q : Nat) := by rw [IntKind.wrap_i64]; omega
      have hql : (q : Int) < (L : Int) := by omega
      have hsl := fun W => slice_rm (some ⟨g, 0, none⟩) L oc q (by omega) W
      have HIp : Hid (RM w r (.slice (some ⟨g, 0, none⟩) q oc) ((wr.alloc (.cells #[.int .i64 (F k).k, .int .u8 ((F k).b : Nat), .int .u64 ((F k).a0 : Nat), .int .u64 ((F k).a1 : Nat), .int .u64 ((F k).a2 : Nat), .int .u64 ((F k).a3 : Nat), .bool (F k).nt, .int .i64 (F k).l, .int .i64 (F k).m, .bool (F k).lz, .int .i64 (F k).t] 42)).alloc (.cells #[.bool a, .bool b] 83))) := ⟨hI2.bel, by
        have hrw := hI2.row
        rw [rmC_cons] at hrw
        rw [← hq]
        exact ownsRow_pop (rmC_len r) hrw⟩
      have HI2 : Hid (RM w ((a, b) :: r) (.slice (some ⟨g, 0, none⟩) L oc) ((wr.alloc (.cells #[.int .i64 (F k).k, .int .u8 ((F k).b : Nat), .int .u64 ((F k).a0 : Nat), .int .u64 ((F k).a1 : Nat), .int .u64 ((F k).a2 : Nat), .int .u64 ((F k).a3 : Nat), .bool (F k).nt, .int .i64 (F k).l, .int .i64 (F k).m, .bool (F k).lz, .int .i64 (F k).t] 42)).alloc (.cells #[.bool a, .bool b] 83))) := by rw [← hL]; exact hI2
      rw [hL]
      clear hLq hq
      unfold stepA at hst
      have hXk : ((fun i => (F i).tp fl) k).k = (F k).k := rfl
      have hXt : ((fun i => (F i).tp fl) k).t = (F k).t := rfl
      simp only [List.headD_cons, List.tail_cons, hXk, hXt] at hst
      have k0 := kT.cell 0 rfl
      have k10 := kT.cell 10 rfl
      have m0 := kH.cell 0 rfl
      have m1 := kH.cell 1 rfl
      cases k5 : ((F k).k == 5) with
      | true =>
        have k4 : ((F k).k == 4) = false := by simp at k5 ⊢; omega
        rw [if_neg (by simpa using k4), if_pos (by simpa using k5)] at hst
        have HS : Hid (runA (fun i => (F i).tp fl) n cl (k + 1) = .ok r) := hst
        clear hst hI hI1 hI2 hr2 hcc hF46 hF48 kT kH hr hc hA hpk hsE hcl hcb HI2
        generalize F k = x at *
        go_wp2_with fail
        go_roundw
        case rel => exact ⟨k + 1, _, by omega, by go_num, HS, HIp⟩
        case measure => simp [intOf]; omega
      | false =>
      cases k4 : ((F k).k == 4) with
      | true => exact absurd (by simpa using k4) (hno k hlt)
      | false =>
      rw [if_neg (by simpa using k4), if_neg (by simpa using k5)] at hst
      cases k8 : ((F k).k == 8) with
      | true =>
        rw [if_pos (by simpa using k8)] at hst
        have HE : (a && fstA (fun i => (F i).tp fl) k) = false → Hid (∀ W3, Below w.heap.size w W3 → RetI3 w (wrgA (fun i => (F i).tp fl) n cl) (.returned (.int .i64 (F k).t)) W3) := fun h W3 hb => by
          rw [if_neg (by rw [h]; decide)] at hst
          rw [wrg_err hst (by omega)]
          exact ⟨rfl, hb⟩
        have HS : (a && fstA (fun i => (F i).tp fl) k) = true → Hid (runA (fun i => (F i).tp fl) n cl (k + 1) = .ok ((a, b) :: r)) := fun h => by
          rw [if_pos h] at hst
          exact hst
        clear hst hI hI1 hI2 hr2 hcc hF48 kT kH hr hc hA hpk hsE hcl hcb HIp
        generalize fstA (fun i => (F i).tp fl) k = f1 at *
        generalize F k = x at *
        cases a with
        | false =>
          have HR := HE rfl
          clear HE HS
          go_wp2_with fail
          go_ret
          exact HR.out _ HB2.out
        | true =>
          cases f1 with
          | false =>
            have HR := HE rfl
            clear HE HS
            go_wp2_with fail
            refine hF46.mono ?_
            rintro e w3 ⟨rfl, rfl⟩
            go_wp2_with fail
            go_ret
            exact HR.out _ HB2.out
          | true =>
            have HS2 := HS rfl
            clear HE HS
            go_wp2_with fail
            refine hF46.mono ?_
            rintro e w3 ⟨rfl, rfl⟩
            go_wp2_with fail
            go_roundw
            case rel => exact ⟨k + 1, _, by omega, by go_num, HS2, HI2⟩
            case measure => simp [intOf]; omega
      | false =>
      rw [if_neg (by simpa using k8)] at hst
      cases k9 : ((F k).k == 9) with
      | true =>
        rw [if_pos (by simpa using k9)] at hst
        have HE : (b && lstA (fun i => (F i).tp fl) n k) = false → Hid (∀ W3, Below w.heap.size w W3 → RetI3 w (wrgA (fun i => (F i).tp fl) n cl) (.returned (.int .i64 (F k).t)) W3) := fun h W3 hb => by
          rw [if_neg (by rw [h]; decide)] at hst
          rw [wrg_err hst (by omega)]
          exact ⟨rfl, hb⟩
        have HS : (b && lstA (fun i => (F i).tp fl) n k) = true → Hid (runA (fun i => (F i).tp fl) n cl (k + 1) = .ok ((a, b) :: r)) := fun h => by
          rw [if_pos h] at hst
          exact hst
        clear hst hI hI1 hI2 hr2 hcc hF46 kT kH hr hc hA hpk hsE hcl hcb HIp
        generalize lstA (fun i => (F i).tp fl) n k = f1 at *
        generalize F k = x at *
        cases b with
        | false =>
          have HR := HE rfl
          clear HE HS
          go_wp2_with fail
          go_ret
          exact HR.out _ HB2.out
        | true =>
          cases f1 with
          | false =>
            have HR := HE rfl
            clear HE HS
            go_wp2_with fail
            refine hF48.mono ?_
            rintro e w3 ⟨rfl, rfl⟩
            go_wp2_with fail
            go_ret
            exact HR.out _ HB2.out
          | true =>
            have HS2 := HS rfl
            clear HE HS
            go_wp2_with fail
            refine hF48.mono ?_
            rintro e w3 ⟨rfl, rfl⟩
            go_wp2_with fail
            go_roundw
            case rel => exact ⟨k + 1, _, by omega, by go_num, HS2, HI2⟩
            case measure => simp [intOf]; omega
      | false =>
        rw [if_neg (by simpa using k9)] at hst
        have HS : Hid (runA (fun i => (F i).tp fl) n cl (k + 1) = .ok ((a, b) :: r)) := hst
        clear hst hI hI1 hI2 hr2 hcc hF46 hF48 kT kH hr hc hA hpk hsE hcl hcb HIp
        generalize F k = x at *
        go_wp2_with fail
        go_roundw
        case rel => exact ⟨k + 1, _, by omega, by go_num, HS, HI2⟩
        case measure => simp [intOf]; omega
    · obtain rfl : k = n := by omega
      have hki : ¬ (k : Int) < (k : Int) := by omega
      have hE : wrgA (fun i => (F i).tp fl) k cl = -1 := by unfold wrgA; rw [hA.out]
      have HR : Hid (RetI3 w (wrgA (fun i => (F i).tp fl) k cl) (.returned (.int .i64 (-1))) wr) := by rw [hE]; exact ⟨rfl, hI.out.bel⟩
      clear hr hI hA hsE hcl hcb hE
      go_wp2_with fail
      go_ret
      exact HR.out
end Go.Proofs.Ytlmmiicibjfcdaa
namespace Go.Proofs.Ytlmmiicibjfcdaa
open Go.RowKit
theorem runP_ne {X : Nat → Tp} : ∀ {i : Nat} {c : Int × Int}, runP X i = .error c → c.2 ≠ 0
  | 0, c, h => by cases h
  | i + 1, c, h => by
    rw [runP] at h
    split at h
    · unfold stepP at h
      split at h
      · cases h; dsimp only; omega
      split at h
      · cases h
      split at h
      · cases h
      split at h
      · split at h
        · cases h; dsimp only; omega
        · cases h
      split at h
      · split at h
        · cases h
        · cases h; dsimp only; omega
      split at h
      · cases h
      · cases h
    · rename_i e he
      cases h
      exact runP_ne he
theorem prsE_ne {X : Nat → Tp} {n : Nat} {c : Int × Int} (h : prsE X n = .error c) : c.2 ≠ 0 := by
  unfold prsE at h
  split at h
  · rename_i e he
    cases h
    exact runP_ne he
  · split at h
    · cases h
    · cases h; dsimp only; omega
/-- What Tokens answers. -/
def RetTs (w : World) (E : Except (Int × Int) (List Nd)) (e : Ending) (w' : World) : Prop :=
  (∀ c, E = .error c → e = .returned (.tuple #[.agg #[.slice none 0 0], .int .i64 c.1, .int .i64 c.2]) ∧ Below w.heap.size w w') ∧
  (∀ l, E = .ok l → ∃ no nc, e = .returned (.tuple #[.agg #[.slice no l.length nc], .int .i64 0, .int .i64 0]) ∧ w'.ownsRow w.heap.size 44 10 (.slice no l.length nc) l.length (ndsL l) ∧ Below w.heap.size w w')
theorem ret_te {w : World} {E : Except (Int × Int) (List Nd)} {a b : Int} (h : E = .error (a, b)) {W' : World} (hb : Below w.heap.size w W') : RetTs w E (.returned (.tuple #[.agg #[.slice none 0 0], .int .i64 a, .int .i64 b])) W' := by
  refine ⟨fun c hc => ?_, fun c hc => ?_⟩
  · rw [h] at hc; cases hc; exact ⟨rfl, hb⟩
  · rw [h] at hc; cases hc
theorem ret_to {w : World} {E : Except (Int × Int) (List Nd)} {l : List Nd} (h : E = .ok l) {no : Option Addr} {nc : Nat} {W' : World} (hr : W'.ownsRow w.heap.size 44 10 (.slice no l.length nc) l.length (ndsL l)) (hb : Below w.heap.size w W') : RetTs w E (.returned (.tuple #[.agg #[.slice no l.length nc], .int .i64 0, .int .i64 0])) W' := by
  refine ⟨fun c hc => ?_, fun c hc => ?_⟩
  · rw [h] at hc; cases hc
  · rw [h] at hc; cases hc; exact ⟨no, nc, rfl, hr, hb⟩
set_option maxRecDepth 10000 in
set_option maxHeartbeats 4000000 in
theorem toks_flat (ao : Option Addr) (n cap : Nat) (F : Nat → TkR) (fl : Fg) (w : World) (hr : RdK w ao n F) (hn : n ≤ 3000) (hno : ∀ i, i < n → (F i).k ≠ 4) : Calls Try.prog 9 #[fgV fl, .slice ao n cap] w (RetTs w (toksS (fun i => (F i).tp fl) n)) := by
  have hB := below2 w (.cells #[.bool fl.c, .bool fl.d, .bool fl.m, .bool fl.o, .bool fl.l] 23) (.cells #[.slice none 0 0] 28)
  have kF : Cl ((w.alloc (.cells #[.bool fl.c, .bool fl.d, .bool fl.m, .bool fl.o, .bool fl.l] 23)).alloc (.cells #[.slice none 0 0] 28)) w.heap.size 23 [.bool fl.c, .bool fl.d, .bool fl.m, .bool fl.o, .bool fl.l] := (Cl.new w 23 [.bool fl.c, .bool fl.d, .bool fl.m, .bool fl.o, .bool fl.l]).alloc _
  have kR : Cl ((w.alloc (.cells #[.bool fl.c, .bool fl.d, .bool fl.m, .bool fl.o, .bool fl.l] 23)).alloc (.cells #[.slice none 0 0] 28)) (w.heap.size + 1) 28 [.slice none 0 0] := by
    have := Cl.new (w.alloc (.cells #[.bool fl.c, .bool fl.d, .bool fl.m, .bool fl.o, .bool fl.l] 23)) 28 [.slice none 0 0]
    rw [World.size_alloc] at this
    exact this
  have HP := pairs_any ao n cap F fl ((w.alloc (.cells #[.bool fl.c, .bool fl.d, .bool fl.m, .bool fl.o, .bool fl.l] 23)).alloc (.cells #[.slice none 0 0] 28)) (hr.below hB) hn
  have hfg : fgV fl = .agg #[.bool fl.c, .bool fl.d, .bool fl.m, .bool fl.o, .bool fl.l] := rfl
  rw [hfg]
  go_enter Try.func9, Try.ntmps9
  go_wp2_with fail
  refine HP.mono ?_
  clear HP
  generalize (w.alloc (.cells #[.bool fl.c, .bool fl.d, .bool fl.m, .bool fl.o, .bool fl.l] 23)).alloc (.cells #[.slice none 0 0] 28) = V at *
  cases hE : prsE (fun i => (F i).tp fl) n with
  | error c =>
    intro e W1 hQ
    obtain ⟨rfl, hb1⟩ := hQ.1 c rfl
    have kR9 := kR.below hb1
    have hB1 := hB.trans (hb1.mono hB.size)
    have hT : toksS (fun i => (F i).tp fl) n = .error (c.1, c.2) := by unfold toksS; rw [hE]
    have hc0 : c.2 ≠ 0 := prsE_ne hE
    have hc1 : (c.2 != 0) = true := by simpa using hc0
    obtain ⟨r0, r1⟩ := kR9.one
    have kS := kR9.set 0 (.slice none 0 0)
    have z0 := kS.cell 0 rfl
    have HR : Hid (RetTs w (toksS (fun i => (F i).tp fl) n) (.returned (.tuple #[.agg #[.slice none 0 0], .int .i64 c.1, .int .i64 c.2])) (W1.setCell ⟨w.heap.size + 1, 0, none⟩ (.slice none 0 0))) := ret_te hT (hB1.setCell (p := ⟨w.heap.size + 1, 0, none⟩) (by simp) _)
    clear hQ hb1 hB1 hB kR kF kR9 kS hr hT hc0
    go_wp2_with fail
    exact bodyPost_ret (v := .tuple #[.agg #[.slice none 0 0], .int .i64 c.1, .int .i64 c.2]) (by simp [results, Try.results9, go_sem, z0]) rfl HR.out
  | ok cl =>
    intro e W1 hQ
    obtain ⟨rfl, hcb, hb1⟩ := hQ.2 cl rfl
    have hB1 := hB.trans (hb1.mono hB.size)
    have kF1 := kF.below hb1
    have kR1 := kR.below hb1
    have HBd := build_any ao n cap F fl W1 (hr.below hB1) hn (prsE_cl hE).1
    rw [hfg] at HBd
    obtain ⟨f0, f1, f2, f3, f4⟩ : W1.cell? ⟨w.heap.size, 0, none⟩ = some (.bool fl.c) ∧ W1.cell? ⟨w.heap.size, 1, none⟩ = some (.bool fl.d) ∧ W1.cell? ⟨w.heap.size, 2, none⟩ = some (.bool fl.m) ∧ W1.cell? ⟨w.heap.size, 3, none⟩ = some (.bool fl.o) ∧ W1.cell? ⟨w.heap.size, 4, none⟩ = some (.bool fl.l) := ⟨kF1.cell 0 rfl, kF1.cell 1 rfl, kF1.cell 2 rfl, kF1.cell 3 rfl, kF1.cell 4 rfl⟩
    clear hQ hb1 kF kR hB kF1
    generalize V.heap.size = cb at *
    go_wp2_with fail
    refine HBd.mono ?_
    rintro e W2 ⟨no, nc, rfl, hrow, hb2⟩
    obtain ⟨sB, hsB⟩ : ∃ sB, (bld (fun i => (F i).tp fl) n).endSeq = sB := ⟨_, rfl⟩
    rw [hsB] at hrow
    rw [hsB]
    have hB2 := hB1.trans (hb2.mono hB1.size)
    have kR2 := kR1.below hb2
    have hcb2 := hcb.below hb2
    clear HBd f0 f1 f2 f3 f4
    by_cases hm : sB.many ≤ 2048
    · rw [decide_eq_true hm]
      have hbA : Below W2.heap.size W2 (W2.alloc (.cells #[.slice no sB.ns.length nc] 28)) := bel1 W2 _
      have hB3 := hB2.trans (hbA.mono hB2.size)
      have HW := wrong_flat ao n cap F fl (W2.alloc (.cells #[.slice no sB.ns.length nc] 28)) (hr.below hB3) hn cl hE cb (hcb2.below hbA) hno
      have kT3 := Cl.new W2 28 [.slice no sB.ns.length nc]
      have kR3 := kR2.below hbA
      have hrow3 : (W2.alloc (.cells #[.slice no sB.ns.length nc] 28)).ownsRow w.heap.size 44 10 (.slice no sB.ns.length nc) sB.ns.length (ndsL sB.ns) := ownsRow_base (own_at hrow fun _ hg => hbA.block _ (own_block hrow hg).2.1) hB1.size
      have hT : toksS (fun i => (F i).tp fl) n = if wrgA (fun i => (F i).tp fl) n cl ≠ -1 then .error (wrgA (fun i => (F i).tp fl) n cl, 51) else .ok sB.ns := by
        unfold toksS; rw [hE]; dsimp only; rw [hsB, if_neg (by omega)]
      clear hrow hb2 kR1 kR2 hcb hcb2 hbA hB1 hB2 hr
      go_wp2_with fail
      refine HW.mono ?_
      rintro e W4 ⟨rfl, hb4⟩
      have kR9 := kR3.below hb4
      have kT4 := kT3.below hb4
      have hB4 := hB3.trans (hb4.mono hB3.size)
      have hrow4 := own_at hrow3 (W' := W4) fun _ hg => hb4.block _ (own_block hrow3 hg).2.1
      have hlt4 := kR3.lt
      clear HW hrow3 hb4 kT3 kR3 hB3
      cases hw : (wrgA (fun i => (F i).tp fl) n cl == -1) with
      | true =>
        have hw1 : wrgA (fun i => (F i).tp fl) n cl = -1 := by simpa using hw
        rw [if_neg (by simpa using hw1)] at hT
        have hw2 : (wrgA (fun i => (F i).tp fl) n cl != -1) = false := by simp [hw1]
        have t0 := kT4.cell 0 rfl
        have hrow9 := own_at hrow4 (W' := W4.setCell ⟨w.heap.size + 1, 0, none⟩ (.slice no sB.ns.length nc)) fun b hb => by
          refine Below.heap_setCell _ _ _ _ ?_
          rintro rfl
          obtain ⟨_, _, cur, hc⟩ := own_block hrow4 hb
          unfold Cl at kR9
          rw [hc] at kR9
          cases kR9
        obtain ⟨r0, r1⟩ := kR9.one
        have kS := kR9.set 0 (.slice no sB.ns.length nc)
        have z0 := kS.cell 0 rfl
        have HR : Hid (RetTs w (toksS (fun i => (F i).tp fl) n) (.returned (.tuple #[.agg #[.slice no sB.ns.length nc], .int .i64 0, .int .i64 0])) (W4.setCell ⟨w.heap.size + 1, 0, none⟩ (.slice no sB.ns.length nc))) := ret_to hT hrow9 (hB4.setCell (p := ⟨w.heap.size + 1, 0, none⟩) (by simp) _)
        clear hrow4 hrow9 kT4 kS kR9 hB4 hT hw hw1
        generalize wrgA (fun i => (F i).tp fl) n cl = wv at *
        generalize sB.ns.length = nn at *
        go_wp2_with fail
        exact bodyPost_ret (v := .tuple #[.agg #[.slice no nn nc], .int .i64 0, .int .i64 0]) (by simp [results, Try.results9, go_sem, z0]) rfl HR.out
      | false =>
        have hw1 : wrgA (fun i => (F i).tp fl) n cl ≠ -1 := by simpa using hw
        rw [if_pos hw1] at hT
        have hw2 : (wrgA (fun i => (F i).tp fl) n cl != -1) = true := by simpa using hw1
        obtain ⟨r0, r1⟩ := kR9.one
        have kS := kR9.set 0 (.slice none 0 0)
        have z0 := kS.cell 0 rfl
        have HR : Hid (RetTs w (toksS (fun i => (F i).tp fl) n) (.returned (.tuple #[.agg #[.slice none 0 0], .int .i64 (wrgA (fun i => (F i).tp fl) n cl), .int .i64 51])) (W4.setCell ⟨w.heap.size + 1, 0, none⟩ (.slice none 0 0))) := ret_te hT (hB4.setCell (p := ⟨w.heap.size + 1, 0, none⟩) (by simp) _)
        clear hrow4 kT4 kS kR9 hB4 hT hw hw1
        generalize wrgA (fun i => (F i).tp fl) n cl = wv at *
        generalize sB.ns.length = nn at *
        go_wp2_with fail
        exact bodyPost_ret (v := .tuple #[.agg #[.slice none 0 0], .int .i64 wv, .int .i64 51]) (by simp [results, Try.results9, go_sem, z0]) rfl HR.out
    · rw [decide_eq_false hm]
      have hT : toksS (fun i => (F i).tp fl) n = .error (0, 63) := by
        unfold toksS; rw [hE]; dsimp only; rw [hsB, if_pos (by omega)]
      have kR9 := kR2.below (bel1 W2 (.cells #[.slice no sB.ns.length nc] 28))
      have hB4 := hB2.trans ((bel1 W2 (.cells #[.slice no sB.ns.length nc] 28)).mono hB2.size)
      obtain ⟨r0, r1⟩ := kR9.one
      have kS := kR9.set 0 (.slice none 0 0)
      have z0 := kS.cell 0 rfl
      have HR : Hid (RetTs w (toksS (fun i => (F i).tp fl) n) (.returned (.tuple #[.agg #[.slice none 0 0], .int .i64 0, .int .i64 63])) ((W2.alloc (.cells #[.slice no sB.ns.length nc] 28)).setCell ⟨w.heap.size + 1, 0, none⟩ (.slice none 0 0))) := ret_te hT (hB4.setCell (p := ⟨w.heap.size + 1, 0, none⟩) (by simp) _)
      clear hrow hb2 kR1 kR2 hcb hcb2 hB1 hB2 hr kS kR9 hB4 hT
      generalize sB.ns.length = nn at *
      go_wp2_with fail
      exact bodyPost_ret (v := .tuple #[.agg #[.slice none 0 0], .int .i64 0, .int .i64 63]) (by simp [results, Try.results9, go_sem, z0]) rfl HR.out
end Go.Proofs.Ytlmmiicibjfcdaa
namespace Go.Proofs.Ytlmmiicibjfcdaa
open Go.RowKit
/-- A list's i-th token. -/
def nS (l : List TokS) (i : Nat) : TokS := l.getD i (wrd (fun _ => 0) 0 0)
theorem nS_map (l : List TokS) : (List.range l.length).map (nS l) = l := by
  apply List.ext_getElem
  · simp
  · intro i h1 h2
    simp [nS, List.getD, h2]
/-- What Parse answers where the tokens can be read. -/
def RetPr (w : World) (n : Nat) (E : Except (Int × Int) (List Nd)) (e : Ending) (w' : World) : Prop :=
  (∀ c, E = .error c → e = .returned (.tuple #[.agg #[.slice none 0 0], .int .i64 c.1, .int .i64 c.2]) ∧ Below w.heap.size w w') ∧
  (∀ l, E = .ok l → ∃ no nc, e = .returned (.tuple #[.agg #[.slice no l.length nc], .int .i64 (n : Nat), .int .i64 0]) ∧ w'.ownsRow w.heap.size 44 10 (.slice no l.length nc) l.length (ndsL l) ∧ Below w.heap.size w w')
theorem ret_pe {w : World} {n : Nat} {E : Except (Int × Int) (List Nd)} {a b : Int} (h : E = .error (a, b)) {W' : World} (hb : Below w.heap.size w W') : RetPr w n E (.returned (.tuple #[.agg #[.slice none 0 0], .int .i64 a, .int .i64 b])) W' := by
  refine ⟨fun c hc => ?_, fun c hc => ?_⟩
  · rw [h] at hc; cases hc; exact ⟨rfl, hb⟩
  · rw [h] at hc; cases hc
theorem ret_po {w : World} {n : Nat} {E : Except (Int × Int) (List Nd)} {l : List Nd} (h : E = .ok l) {no : Option Addr} {nc : Nat} {W' : World} (hr : W'.ownsRow w.heap.size 44 10 (.slice no l.length nc) l.length (ndsL l)) (hb : Below w.heap.size w W') : RetPr w n E (.returned (.tuple #[.agg #[.slice no l.length nc], .int .i64 (n : Nat), .int .i64 0])) W' := by
  refine ⟨fun c hc => ?_, fun c hc => ?_⟩
  · rw [h] at hc; cases hc
  · rw [h] at hc; cases hc; exact ⟨no, nc, rfl, hr, hb⟩
theorem toksS_ne {X : Nat → Tp} {n : Nat} {c : Int × Int} (h : toksS X n = .error c) : c.2 ≠ 0 := by
  unfold toksS at h
  split at h
  · rename_i e he
    cases h
    exact prsE_ne he
  · split at h
    · cases h; dsimp only; omega
    · split at h
      · cases h; dsimp only; omega
      · cases h
set_option maxRecDepth 10000 in
set_option maxHeartbeats 4000000 in
theorem parse_flat (ao : Option Addr) (n cap : Nat) (z : Nat → Nat) (fl : Fg) (w : World) (hr : Rd w ao n z) (hn : (n : Int) ≤ 1024) (hg : ∀ s, s ∈ wl z n 1100 0 → s.er = 0 ∧ s.b < 256 ∧ s.k ≠ 4) (hN : (wl z n 1100 0).length ≤ 3000) : Calls Try.prog 17 #[.slice ao n cap, fgV fl] w (RetPr w n (toksS (fun i => (nS (wl z n 1100 0) i).r.tp fl) (wl z n 1100 0).length)) := by
  have hB := below2 w (.cells #[.bool fl.c, .bool fl.d, .bool fl.m, .bool fl.o, .bool fl.l] 23) (.cells #[.slice none 0 0] 28)
  have kF : Cl ((w.alloc (.cells #[.bool fl.c, .bool fl.d, .bool fl.m, .bool fl.o, .bool fl.l] 23)).alloc (.cells #[.slice none 0 0] 28)) w.heap.size 23 [.bool fl.c, .bool fl.d, .bool fl.m, .bool fl.o, .bool fl.l] := (Cl.new w 23 [.bool fl.c, .bool fl.d, .bool fl.m, .bool fl.o, .bool fl.l]).alloc _
  have kR : Cl ((w.alloc (.cells #[.bool fl.c, .bool fl.d, .bool fl.m, .bool fl.o, .bool fl.l] 23)).alloc (.cells #[.slice none 0 0] 28)) (w.heap.size + 1) 28 [.slice none 0 0] := by
    have := Cl.new (w.alloc (.cells #[.bool fl.c, .bool fl.d, .bool fl.m, .bool fl.o, .bool fl.l] 23)) 28 [.slice none 0 0]
    rw [World.size_alloc] at this
    exact this
  have HL := lex_short ao n cap z ((w.alloc (.cells #[.bool fl.c, .bool fl.d, .bool fl.m, .bool fl.o, .bool fl.l] 23)).alloc (.cells #[.slice none 0 0] 28)) (hr.below hB) hn
  have hfg : fgV fl = .agg #[.bool fl.c, .bool fl.d, .bool fl.m, .bool fl.o, .bool fl.l] := rfl
  rw [hfg]
  go_enter Try.func17, Try.ntmps17
  go_wp2_with fail
  refine HL.mono ?_
  clear HL
  generalize (w.alloc (.cells #[.bool fl.c, .bool fl.d, .bool fl.m, .bool fl.o, .bool fl.l] 23)).alloc (.cells #[.slice none 0 0] 28) = V at *
  rintro e W1 (⟨lo, lc, _, rfl, hrow, hb1⟩ | ⟨s, hs, hne, _⟩)
  · have hB1 := hB.trans (hb1.mono hB.size)
    have kF1 := kF.below hb1
    have kR1 := kR.below hb1
    have hmem : ∀ i, i < (wl z n 1100 0).length → nS (wl z n 1100 0) i ∈ wl z n 1100 0 := fun i hi => by simp [nS, List.getD, hi]
    have hrk : RdK W1 lo (wl z n 1100 0).length (fun i => (nS (wl z n 1100 0) i).r) := rdk_row (T := nS (wl z n 1100 0)) (cap := lc) (base := V.heap.size) (by rw [nS_map]; exact hrow) fun i hi => (hg _ (hmem i hi)).2.1
    have HT := toks_flat lo (wl z n 1100 0).length lc (fun i => (nS (wl z n 1100 0) i).r) fl W1 hrk hN fun i hi => (hg _ (hmem i hi)).2.2
    rw [hfg] at HT
    obtain ⟨f0, f1, f2, f3, f4⟩ : W1.cell? ⟨w.heap.size, 0, none⟩ = some (.bool fl.c) ∧ W1.cell? ⟨w.heap.size, 1, none⟩ = some (.bool fl.d) ∧ W1.cell? ⟨w.heap.size, 2, none⟩ = some (.bool fl.m) ∧ W1.cell? ⟨w.heap.size, 3, none⟩ = some (.bool fl.o) ∧ W1.cell? ⟨w.heap.size, 4, none⟩ = some (.bool fl.l) := ⟨kF1.cell 0 rfl, kF1.cell 1 rfl, kF1.cell 2 rfl, kF1.cell 3 rfl, kF1.cell 4 rfl⟩
    clear hrow hb1 kF kR hB kF1 hmem hrk hg
    obtain ⟨XX, hX⟩ : ∃ XX, (fun i => (nS (wl z n 1100 0) i).r.tp fl) = XX := ⟨_, rfl⟩
    obtain ⟨m, hm⟩ : ∃ m, (wl z n 1100 0).length = m := ⟨_, rfl⟩
    have hTT : Hid (toksS (fun i => (nS (wl z n 1100 0) i).r.tp fl) (wl z n 1100 0).length = toksS XX m) := by
      have h0 : toksS (fun i => (nS (wl z n 1100 0) i).r.tp fl) (wl z n 1100 0).length = toksS XX m := by rw [hX, hm]
      exact h0
    rw [hm, hX] at HT
    rw [hm]
    clear hX hm hN
    go_wp2_with fail
    refine HT.mono ?_
    clear HT f0 f1 f2 f3 f4
    cases hE : toksS XX m with
    | error c =>
      intro e W2 hQ
      obtain ⟨rfl, hb2⟩ := hQ.1 c rfl
      have kR9 := (kR1.below hb2).below (bel1 W2 (.cells #[.slice none 0 0] 28))
      have hB2 := hB1.trans (hb2.mono hB1.size)
      have hB4 := hB2.trans ((bel1 W2 (.cells #[.slice none 0 0] 28)).mono hB2.size)
      have hc1 : (c.2 != 0) = true := by simpa using toksS_ne hE
      have hE' : toksS (fun i => (nS (wl z n 1100 0) i).r.tp fl) (wl z n 1100 0).length = .error (c.1, c.2) := hTT.out.trans hE
      obtain ⟨r0, r1⟩ := kR9.one
      have kS := kR9.set 0 (.slice none 0 0)
      have z0 := kS.cell 0 rfl
      have HR : Hid (RetPr w n (toksS (fun i => (nS (wl z n 1100 0) i).r.tp fl) (wl z n 1100 0).length) (.returned (.tuple #[.agg #[.slice none 0 0], .int .i64 c.1, .int .i64 c.2])) ((W2.alloc (.cells #[.slice none 0 0] 28)).setCell ⟨w.heap.size + 1, 0, none⟩ (.slice none 0 0))) := ret_pe hE' (hB4.setCell (p := ⟨w.heap.size + 1, 0, none⟩) (by simp) _)
      clear hQ hb2 hB1 hB2 hB4 kR1 kR9 kS hE hE' hTT
      go_wp2_with fail
      exact bodyPost_ret (v := .tuple #[.agg #[.slice none 0 0], .int .i64 c.1, .int .i64 c.2]) (by simp [results, Try.results17, go_sem, z0]) rfl HR.out
    | ok l =>
      intro e W2 hQ
      obtain ⟨no, nc, rfl, hrow, hb2⟩ := hQ.2 l rfl
      have hbA := bel1 W2 (.cells #[.slice no l.length nc] 28)
      have kR9 := (kR1.below hb2).below hbA
      have hB2 := hB1.trans (hb2.mono hB1.size)
      have hB4 := hB2.trans (hbA.mono hB2.size)
      have t0 : (W2.alloc (.cells #[.slice no l.length nc] 28)).cell? ⟨W2.heap.size, 0, none⟩ = some (.slice no l.length nc) := (Cl.new W2 28 [.slice no l.length nc]).cell 0 rfl
      have hrow4 : (W2.alloc (.cells #[.slice no l.length nc] 28)).ownsRow w.heap.size 44 10 (.slice no l.length nc) l.length (ndsL l) := ownsRow_base (own_at hrow fun _ hg => hbA.block _ (own_block hrow hg).2.1) hB1.size
      have hE' : toksS (fun i => (nS (wl z n 1100 0) i).r.tp fl) (wl z n 1100 0).length = .ok l := hTT.out.trans hE
      have hrow9 := own_at hrow4 (W' := (W2.alloc (.cells #[.slice no l.length nc] 28)).setCell ⟨w.heap.size + 1, 0, none⟩ (.slice no l.length nc)) fun b hb => by
        refine Below.heap_setCell _ _ _ _ ?_
        rintro rfl
        obtain ⟨_, _, cur, hc⟩ := own_block hrow4 hb
        unfold Cl at kR9
        rw [hc] at kR9
        cases kR9
      obtain ⟨r0, r1⟩ := kR9.one
      have kS := kR9.set 0 (.slice no l.length nc)
      have z0 := kS.cell 0 rfl
      have HR : Hid (RetPr w n (toksS (fun i => (nS (wl z n 1100 0) i).r.tp fl) (wl z n 1100 0).length) (.returned (.tuple #[.agg #[.slice no l.length nc], .int .i64 (n : Nat), .int .i64 0])) ((W2.alloc (.cells #[.slice no l.length nc] 28)).setCell ⟨w.heap.size + 1, 0, none⟩ (.slice no l.length nc))) := ret_po hE' hrow9 (hB4.setCell (p := ⟨w.heap.size + 1, 0, none⟩) (by simp) _)
      clear hQ hb2 hB1 hB2 hB4 kR1 kR9 kS hE hE' hTT hrow hrow4 hrow9 hbA
      generalize l.length = nn at *
      go_wp2_with fail
      exact bodyPost_ret (v := .tuple #[.agg #[.slice no nn nc], .int .i64 (n : Nat), .int .i64 0]) (by simp [results, Try.results17, go_sem, z0]) rfl HR.out
  · exact absurd (hg s hs).1 hne
end Go.Proofs.Ytlmmiicibjfcdaa
namespace Go.Proofs.Ytlmmiicibjfcdaa
open Go.RowKit
def zl (l : List Nat) (i : Nat) : Nat := l.getD i 0
def fl0 : Fg := ⟨false, false, false, false, false⟩
def lenE : Except (Int × Int) (List Nd) → Option Nat
  | .ok l => some l.length
  | .error _ => none
def erE : Except (Int × Int) (List Nd) → Option (Int × Int)
  | .ok _ => none
  | .error c => some c
theorem wl1 : ∀ s, s ∈ wl (zl [97, 124, 98, 42]) 4 1100 0 → s.er = 0 ∧ s.b < 256 ∧ s.k ≠ 4 := by
  have h : ((wl (zl [97, 124, 98, 42]) 4 1100 0).all fun s => decide (s.er = 0 ∧ s.b < 256 ∧ s.k ≠ 4)) = true := by decide +kernel
  intro s hs
  exact of_decide_eq_true (List.all_eq_true.1 h s hs)
theorem ln1 : (wl (zl [97, 124, 98, 42]) 4 1100 0).length ≤ 3000 := by decide +kernel
theorem rd1 (w : World) : Rd (w.alloc (.cells #[.int .u8 97, .int .u8 124, .int .u8 98, .int .u8 42] 5 (4, 5))) (some ⟨w.heap.size, 0, none⟩) 4 (zl [97, 124, 98, 42]) := by
  refine ⟨by decide, fun _ => ⟨w.heap.size, 0, rfl, by simp, fun i hi => ?_⟩⟩
  rw [Nat.zero_add, cell_of_row _ w.heap.size i #[.int .u8 97, .int .u8 124, .int .u8 98, .int .u8 42] 5 (4, 5) (heap_alloc_new w _)]
  obtain rfl | rfl | rfl | rfl : i = 0 ∨ i = 1 ∨ i = 2 ∨ i = 3 := by omega
  all_goals rfl
theorem wl2 : ∀ s, s ∈ wl (zl [97, 42, 42]) 3 1100 0 → s.er = 0 ∧ s.b < 256 ∧ s.k ≠ 4 := by
  have h : ((wl (zl [97, 42, 42]) 3 1100 0).all fun s => decide (s.er = 0 ∧ s.b < 256 ∧ s.k ≠ 4)) = true := by decide +kernel
  intro s hs
  exact of_decide_eq_true (List.all_eq_true.1 h s hs)
theorem ln2 : (wl (zl [97, 42, 42]) 3 1100 0).length ≤ 3000 := by decide +kernel
theorem rd2 (w : World) : Rd (w.alloc (.cells #[.int .u8 97, .int .u8 42, .int .u8 42] 5 (3, 4))) (some ⟨w.heap.size, 0, none⟩) 3 (zl [97, 42, 42]) := by
  refine ⟨by decide, fun _ => ⟨w.heap.size, 0, rfl, by simp, fun i hi => ?_⟩⟩
  rw [Nat.zero_add, cell_of_row _ w.heap.size i #[.int .u8 97, .int .u8 42, .int .u8 42] 5 (3, 4) (heap_alloc_new w _)]
  obtain rfl | rfl | rfl : i = 0 ∨ i = 1 ∨ i = 2 := by omega
  all_goals rfl
theorem tk1 : lenE (toksS (fun i => (nS (wl (zl [97, 124, 98, 42]) 4 1100 0) i).r.tp fl0) (wl (zl [97, 124, 98, 42]) 4 1100 0).length) = some 4 := by decide +kernel
theorem tk2 : erE (toksS (fun i => (nS (wl (zl [97, 42, 42]) 3 1100 0) i).r.tp fl0) (wl (zl [97, 42, 42]) 3 1100 0).length) = some (2, 60) := by decide +kernel
def RetB1 (w : World) (e : Ending) (w' : World) : Prop := ∃ no nc, e = .returned (.tuple #[.agg #[.slice no 4 nc], .int .i64 4, .int .i64 0]) ∧ Below w.heap.size w w'
def RetB2 (w : World) (e : Ending) (w' : World) : Prop := e = .returned (.tuple #[.agg #[.slice none 0 0], .int .i64 2, .int .i64 60]) ∧ Below w.heap.size w w'
theorem par1 (W : World) : Calls Try.prog 17 #[.slice (some ⟨W.heap.size, 0, none⟩) 4 4, .agg #[.bool false, .bool false, .bool false, .bool false, .bool false]] (W.alloc (.cells #[.int .u8 97, .int .u8 124, .int .u8 98, .int .u8 42] 5 (4, 5))) (RetB1 (W.alloc (.cells #[.int .u8 97, .int .u8 124, .int .u8 98, .int .u8 42] 5 (4, 5)))) := by
  refine (parse_flat (some ⟨W.heap.size, 0, none⟩) 4 4 (zl [97, 124, 98, 42]) fl0 _ (rd1 W) (by decide) wl1 ln1).mono ?_
  intro e w' h
  have ht := tk1
  cases hE : toksS (fun i => (nS (wl (zl [97, 124, 98, 42]) 4 1100 0) i).r.tp fl0) (wl (zl [97, 124, 98, 42]) 4 1100 0).length with
  | error c => rw [hE] at ht; cases ht
  | ok l =>
    obtain ⟨no, nc, rfl, _, hb⟩ := h.2 l hE
    rw [hE] at ht
    have hl : l.length = 4 := by injection ht
    rw [hl]
    exact ⟨no, nc, rfl, hb⟩
theorem par2 (W : World) : Calls Try.prog 17 #[.slice (some ⟨W.heap.size, 0, none⟩) 3 3, .agg #[.bool false, .bool false, .bool false, .bool false, .bool false]] (W.alloc (.cells #[.int .u8 97, .int .u8 42, .int .u8 42] 5 (3, 4))) (RetB2 (W.alloc (.cells #[.int .u8 97, .int .u8 42, .int .u8 42] 5 (3, 4)))) := by
  refine (parse_flat (some ⟨W.heap.size, 0, none⟩) 3 3 (zl [97, 42, 42]) fl0 _ (rd2 W) (by decide) wl2 ln2).mono ?_
  intro e w' h
  have ht := tk2
  cases hE : toksS (fun i => (nS (wl (zl [97, 42, 42]) 3 1100 0) i).r.tp fl0) (wl (zl [97, 42, 42]) 3 1100 0).length with
  | ok l => rw [hE] at ht; cases ht
  | error c =>
    obtain ⟨rfl, hb⟩ := h.1 c hE
    rw [hE] at ht
    have hl : c = (2, 60) := by injection ht
    rw [hl]
    exact ⟨rfl, hb⟩
theorem cv1 (w : World) : (convert 48 48 (.slice (some ⟨w.heap.size, 0, none⟩) 4 4)).run Try.prog (w.alloc (.cells #[.int .u8 97, .int .u8 124, .int .u8 98, .int .u8 42] 5)) = .ok (.slice (some ⟨w.heap.size, 0, none⟩) 4 4) (w.alloc (.cells #[.int .u8 97, .int .u8 124, .int .u8 98, .int .u8 42] 5 (4, 5))) := Lib.run_convert_bytes_const w 48 5 #[.int .u8 97, .int .u8 124, .int .u8 98, .int .u8 42] 4 4 Try.underlying48 Try.underlying5
theorem cv2 (w : World) : (convert 48 48 (.slice (some ⟨w.heap.size, 0, none⟩) 3 3)).run Try.prog (w.alloc (.cells #[.int .u8 97, .int .u8 42, .int .u8 42] 5)) = .ok (.slice (some ⟨w.heap.size, 0, none⟩) 3 3) (w.alloc (.cells #[.int .u8 97, .int .u8 42, .int .u8 42] 5 (3, 4))) := Lib.run_convert_bytes_const w 48 5 #[.int .u8 97, .int .u8 42, .int .u8 42] 3 3 Try.underlying48 Try.underlying5
set_option maxRecDepth 10000 in
set_option maxHeartbeats 4000000 in
theorem begun_any (w : World) : Calls Try.prog 11 #[] w fun e w' => e = .returned (.bool true) ∧ Below w.heap.size w w' := by
  have HP := par1 w
  have hcv := cv1 w
  go_enter Try.func11, Try.ntmps11
  go_wp2_with fail
  refine HP.mono ?_
  clear HP hcv
  rintro e W1 ⟨no, nc, rfl, hb1⟩
  have hB1 : Below w.heap.size w W1 := ((Below.refl _ _).alloc (Nat.le_refl _) _).trans (hb1.mono (by simp))
  have hbA := bel1 W1 (.cells #[.slice no 4 nc] 28)
  have hB2 := hB1.trans (hbA.mono hB1.size)
  have t0 : (W1.alloc (.cells #[.slice no 4 nc] 28)).cell? ⟨W1.heap.size, 0, none⟩ = some (.slice no 4 nc) := (Cl.new W1 28 [.slice no 4 nc]).cell 0 rfl
  have kT := Cl.new W1 28 [.slice no 4 nc]
  have HP := par2 (W1.alloc (.cells #[.slice no 4 nc] 28))
  have hcv := cv2 (W1.alloc (.cells #[.slice no 4 nc] 28))
  clear hb1 hB1 hbA t0
  rw [World.size_alloc] at hcv HP
  go_wp2_with fail
  refine HP.mono ?_
  clear HP hcv
  generalize W1.alloc (.cells #[.slice no 4 nc] 28) = W2 at *
  rintro e W3 ⟨rfl, hb3⟩
  have hB3 : Below W2.heap.size W2 W3 := ((Below.refl _ _).alloc (Nat.le_refl _) _).trans (hb3.mono (by simp))
  have hbC := bel1 W3 (.cells #[.slice none 0 0] 28)
  have hB4 := hB3.trans (hbC.mono hB3.size)
  have kT4 := kT.below hB4
  have HB := hB2.trans (hB4.mono hB2.size)
  have t0 := kT4.cell 0 rfl
  clear hb3 hB3 hbC hB4 kT kT4 hB2
  go_wp2_with fail
  go_ret
  exact ⟨rfl, HB⟩
end Go.Proofs.Ytlmmiicibjfcdaa
namespace Go.Proofs.Ytlmmiicibjfcdaa
open Go.RowKit
end Go.Proofs.Ytlmmiicibjfcdaa
namespace Go.Proofs.Ytlmmiicibjfcdaa
open Go.ChangeShapes Go.WideShapes Go.ChangeAt Go.RowKit Go.Joins Go.Deep
theorem Try.own : ownKnob Try.prog.godebug = none := by kernel_rfl
theorem Try.laidOut : laidOutB Try.prog = true := by kernel_rfl
theorem cell_lt {w : World} {a : Addr} {v : Value} (h : w.cell? a = some v) : a.block < w.heap.size := by
  rcases Nat.lt_or_ge a.block w.heap.size with h' | h'
  · exact h'
  · simp [World.cell?, Array.getElem?_eq_none h'] at h
theorem list5 {α : Type} {l : List α} (h : l.length = 5) : ∃ c0 c1 c2 c3 c4, l = [c0, c1, c2, c3, c4] := by
  match l, h with
  | [c0, c1, c2, c3, c4], _ => exact ⟨c0, c1, c2, c3, c4, rfl⟩
set_option maxRecDepth 100000 in
/-- Flags that came in. -/
theorem fg_of {H : Type} {enc : TypeId × Value → H} {W : World} {bb : Nat} {v : Value} {dd : DataW H} {p : List MemPlace} (hv : Value.okWide Try.prog W .any bb 23 v) (h : DataW.Trod enc Try.prog W 0 (fun _ => true) true 23 v dd p) : ∃ fl : Fg, v = fgV fl := by
  obtain ⟨fuel, hf⟩ := h
  obtain ⟨xs, q, _, hx, hl, hlen, hfs⟩ := DataW.trod_struct Try.underlying23 hf
  have k23 : Try.prog.cellsOf 23 = 5 := by kernel_rfl
  have k4 : Try.prog.cellsOf 4 = 1 := by kernel_rfl
  simp only [Value.okWide, Try.underlying23] at hv
  obtain ⟨cs, rfl, hsz, _⟩ := hv
  simp only [Value.cells] at hl hfs
  obtain ⟨v0, v1, v2, v3, v4, hcs⟩ := list5 (hl.trans k23)
  obtain ⟨y0, y1, y2, y3, y4, rfl⟩ := list5 hlen
  rw [hcs] at hfs
  have e0 : DataW.trod enc Try.prog W 0 (fun _ => true) true q 4 [v0] = some y0 := by simpa [k4] using hfs 0 _ rfl
  have e1 : DataW.trod enc Try.prog W 0 (fun _ => true) true q 4 [v1] = some y1 := by simpa [k4] using hfs 1 _ rfl
  have e2 : DataW.trod enc Try.prog W 0 (fun _ => true) true q 4 [v2] = some y2 := by simpa [k4] using hfs 2 _ rfl
  have e3 : DataW.trod enc Try.prog W 0 (fun _ => true) true q 4 [v3] = some y3 := by simpa [k4] using hfs 3 _ rfl
  have e4 : DataW.trod enc Try.prog W 0 (fun _ => true) true q 4 [v4] = some y4 := by simpa [k4] using hfs 4 _ rfl
  obtain ⟨b0, h0, _⟩ := DataW.trod_bool Try.underlying4 e0
  obtain ⟨b1, h1, _⟩ := DataW.trod_bool Try.underlying4 e1
  obtain ⟨b2, h2, _⟩ := DataW.trod_bool Try.underlying4 e2
  obtain ⟨b3, h3, _⟩ := DataW.trod_bool Try.underlying4 e3
  obtain ⟨b4, h4, _⟩ := DataW.trod_bool Try.underlying4 e4
  simp at h0 h1 h2 h3 h4
  subst h0 h1 h2 h3 h4
  refine ⟨⟨b0, b1, b2, b3, b4⟩, ?_⟩
  unfold fgV
  rw [← hcs]
end Go.Proofs.Ytlmmiicibjfcdaa
