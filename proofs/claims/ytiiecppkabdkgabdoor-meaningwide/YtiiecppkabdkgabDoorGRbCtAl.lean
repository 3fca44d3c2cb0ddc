/- rowByRow, for each function that it is handed: the walks. cat and its function: the walks. alt, stay and their functions: the walks. -/
import Derived.Test.YtiiecppkabdkgabDoorGHcRrWtTwSw
import Derived.Test.YtiiecppkabdkgabDoorGRdMrVrOw
import Derived.Test.YtiiecppkabdkgabDoorGTailScWaWoWmWwMwMe
import Derived.Sort.CutIn
import Derived.Sort.BigQuietIn
import Derived.BigRegionIn
import Derived.Deep.RegionHeld3
namespace Go.Proofs.YtiiecppkabdkgabDoor
open Go.RowKit
theorem b_row : (Tryd.prog.info? 52).map (fun i => (i.zero, i.size, i.bytes)) = some (some (.slice none 0 0), 1, 24) := by kernel_rfl
theorem make_rows (n : Nat) (hn : n ≤ 25) (w : World) : (Instr.makeSlice 47 (.int .i64 (n : Nat)) (.int .i64 (n : Nat))).run Tryd.prog w = .ok (.slice (some ⟨w.heap.size, 0, none⟩) n n) (w.alloc (.cells (vals (fun _ => .slice none 0 0) n).toArray 52)) := by
  obtain ⟨i, hi, hz, hs, hb⟩ := info_parts b_row
  have := run_make (P := Tryd.prog) w 47 52 i _ Tryd.underlying47 hi hz .i64 .i64 (n : Int) (n : Int) (by omega) (by omega) (by rw [hb]; omega) (by omega)
  rw [this, hs]
  have e : madeCells #[Value.slice none 0 0] (n * 1) = (vals (fun _ => .slice none 0 0) n).toArray := by
    apply Array.ext_getElem?
    intro q
    rw [Nat.mul_one]
    by_cases hq : q < n
    · have hs : q < (madeCells #[Value.slice none 0 0] n).size := by rw [size_madeCells]; exact hq
      rw [Array.getElem?_eq_getElem hs, List.getElem?_toArray, vals_get _ hq]
      simp [madeCells, Array.getElem_map, Nat.mod_one]
    · rw [Array.getElem?_eq_none (by rw [size_madeCells]; omega), Array.getElem?_eq_none (by simp [vals_len]; omega)]
  rw [Nat.mul_one] at e
  simp [Value.cells, e]
theorem RowV.slice {W : World} {v : Value} {x : Nat} (h : RowV W v x) : ∃ ao l cap, v = .slice ao l cap := by
  rcases h.2 with ⟨_, ao, cap, e⟩ | ⟨b, cap, _, _, e, _⟩
  · exact ⟨_, _, _, e⟩
  · exact ⟨_, _, _, e⟩
/-- The rows of a table from a place on. -/
def Rows (W : World) (tb N k : Nat) (S : Nat → Nat) : Prop := ∃ M : Nat → Value, Cl W tb 52 (vals M N) ∧ ∀ j, k ≤ j → j < N → RowV W (M j) (S j)
theorem Rows.below {W W' : World} {tb N k : Nat} {S : Nat → Nat} (h : Rows W tb N k S) (hb : Below W.heap.size W W') : Rows W' tb N k S := by
  obtain ⟨M, h1, h2⟩ := h
  exact ⟨M, h1.below hb, fun j h3 h4 => (h2 j h3 h4).below hb⟩
theorem RowV.put {W : World} {tb i : Nat} {vs : List Value} {v u : Value} {x : Nat} (h : RowV W v x) (k : Cl W tb 52 vs) : RowV (W.setCell ⟨tb, i, none⟩ u) v x :=
  h.at_ fun b cur fz hc => Below.heap_setCell _ _ _ _ (fun e => by
    have e : b = tb := e
    subst e
    unfold Cl at k
    rw [hc] at k
    injection k with k
    injection k with _ k
    cases k)
/-- A row more. -/
theorem Rows.set {W : World} {tb N k : Nat} {S : Nat → Nat} {r : Value} (h : Rows W tb N (k + 1) S) (hk : k < N) (hr : RowV W r (S k)) : Rows (W.setCell ⟨tb, k, none⟩ r) tb N k S := by
  obtain ⟨M, h1, h2⟩ := h
  refine ⟨updV M k r, ?_, fun j h3 h4 => ?_⟩
  · have := h1.set k r
    rwa [vals_set] at this
  · by_cases e : j = k
    · subst e
      simp only [updV, if_true]
      exact hr.put h1
    · simp only [updV, e, if_false]
      exact (h2 j (by omega) h4).put h1
structure RbI (w : World) (N tb k : Nat) (S : Nat → Nat) (W : World) : Prop where
  le : k ≤ N
  rows : Rows W tb N k S
  bel : Below w.heap.size w W
  tbl : w.heap.size ≤ tb
/-- What rowByRow answers. -/
def RetTb (w : World) (N : Nat) (S : Nat → Nat) (e : Ending) (w' : World) : Prop := ∃ tb, e = .returned (.slice (some ⟨tb, 0, none⟩) N N) ∧ Rows w' tb N 0 S ∧ Below w.heap.size w w' ∧ w.heap.size ≤ tb
def fr74 (f : Value) (N tb : Nat) (k : Int) (u : Nat → Value) : Array Value := #[.int .i64 (N : Nat), f, u 2, u 3, u 4, .slice (some ⟨tb, 0, none⟩) N N, .int .i64 k, u 7, u 8, u 9, u 10, u 11, u 12, u 13, u 14, u 15, u 16, u 17, u 18, u 19, u 20, u 21]
def Fr74 (f : Value) (N tb : Nat) (k : Int) (tm : Array Value) : Prop := ∃ u, tm = fr74 f N tb k u
theorem Fr74.of {f : Value} {N tb : Nat} {k : Int} (tm : Array Value) (h : tm = fr74 f N tb k (nth tm.toList)) : Fr74 f N tb k tm := ⟨_, h⟩
def RbJ (w : World) (f : Value) (N tb : Nat) (S : Nat → Nat) (l m : Nat) (a : Act) (W : World) : Prop := l = 0 ∧ ∃ tm, Fr74 f N tb (m : Int) tm ∧ a = ⟨tm, []⟩ ∧ RbI w N tb m S W
theorem rb_label : findLabel (scopeIn Tryd.f43) 0 = some (Code.skip.seq (labelIn Tryd.f43 0)) := by kernel_rfl
set_option maxRecDepth 20000 in
set_option maxHeartbeats 2000000 in
theorem rb_pass75 (c0 c1 : Value) (w : World) (N tb : Nat) (S : Nat → Nat) (hN : N ≤ 25) (H : Hid (∀ (k tb : Nat) (W : World), k < N → Below w.heap.size w W → w.heap.size ≤ tb → Rows W tb N (k + 1) S → Calls Tryd.prog 44 #[.slice (some ⟨tb, 0, none⟩) N N, .int .i64 (k : Nat), c0, c1] W fun e w' => ∃ r, e = .returned r ∧ RowV w' r (S k) ∧ Below W.heap.size W w')) (k : Nat) (u : Nat → Value) (W : World) (hI : RbI w N tb k S W) :
    Code.wp Tryd.prog (labelIn Tryd.f43 0) (jumps (fun l' a' w' => ∃ m', m' < k ∧ RbJ w (.func (.func 44) #[] #[c0, c1]) N tb S l' m' a' w') (bodyPost Tryd.prog Tryd.f43 (RetTb w N S))) ⟨fr74 (.func (.func 44) #[] #[c0, c1]) N tb (k : Int) u, []⟩ W := by
  obtain ⟨hle, hrows, hbel, htb⟩ := hI
  cases k with
  | zero =>
    have HR : Hid (RetTb w N S (.returned (.slice (some ⟨tb, 0, none⟩) N N)) W) := ⟨tb, rfl, hrows, hbel, htb⟩
    clear hrows hbel H
    unfold fr74
    conv => arg 2; whnf
    go_wp2_with fail
    refine (show bodyPost Tryd.prog Tryd.f43 (RetTb w N S) Exit.ret _ _ from ?_)
    go_ret
    exact HR.out
  | succ k =>
    have hk0 : ((((k + 1 : Nat) : Int)) == 0) = false := by simp; omega
    have hk1 : ((k + 1 : Nat) : Int) - 1 = (k : Nat) := by omega
    have hkN : (k : Int) < (N : Int) := by omega
    have HC := H.out k tb W (by omega) hbel htb hrows
    have HZ : Hid (∀ r w2, RowV w2 r (S k) → Below W.heap.size W w2 → (∃ x, w2.cell? ⟨tb, k, none⟩ = some x) ∧ w2.frozen? ⟨tb, k, none⟩ = false ∧ ∀ tm, Fr74 (.func (.func 44) #[] #[c0, c1]) N tb (k : Int) tm → ∃ m', m' < k + 1 ∧ RbJ w (.func (.func 44) #[] #[c0, c1]) N tb S 0 m' ⟨tm, []⟩ (w2.setCell ⟨tb, k, none⟩ r)) := by
      intro r w2 h1 h2
      have hrw := hrows.below h2
      obtain ⟨M, hM, _⟩ := id hrw
      refine ⟨⟨_, hM.cell k (vals_get M (by omega))⟩, hM.frozen k, fun tm ht => ⟨k, by omega, rfl, tm, ht, rfl, by omega, hrw.set (by omega) h1, (hbel.trans (h2.mono hbel.size)).setCell (p := ⟨tb, k, none⟩) htb _, htb⟩⟩
    clear hrows hbel H
    unfold fr74
    conv => arg 2; whnf
    go_wp2_with (go_at_call 44; refine HC.mono ?_; rintro e w2 ⟨r, rfl, hr, hb2⟩; obtain ⟨ro, rl, rc, rfl⟩ := hr.slice; obtain ⟨⟨x, dx⟩, fx, HK⟩ := HZ.out _ w2 hr hb2; have HK' : Hid _ := HK; clear HK hr hb2)
    first | (go_step3; exact HK'.out _ (Fr74.of _ rfl)) | exact HK'.out _ (Fr74.of _ rfl)
set_option maxRecDepth 20000 in
set_option maxHeartbeats 2000000 in
theorem rbr75 (c0 c1 : Value) (w : World) (N : Nat) (S : Nat → Nat) (hN : N ≤ 25) (H : (∀ (k tb : Nat) (W : World), k < N → Below w.heap.size w W → w.heap.size ≤ tb → Rows W tb N (k + 1) S → Calls Tryd.prog 44 #[.slice (some ⟨tb, 0, none⟩) N N, .int .i64 (k : Nat), c0, c1] W fun e w' => ∃ r, e = .returned r ∧ RowV w' r (S k) ∧ Below W.heap.size W w')) : Calls Tryd.prog 43 #[.int .i64 (N : Nat), (.func (.func 44) #[] #[c0, c1])] w (RetTb w N S) := by
  have HH : Hid _ := H
  have hmk := make_rows N hN
  have I0 : RbI w N w.heap.size N S (w.alloc (.cells (vals (fun _ => .slice none 0 0) N).toArray 52)) := ⟨Nat.le_refl _, ⟨_, Cl.new _ _ _, fun j h1 h2 => by omega⟩, below1 _ _, Nat.le_refl _⟩
  have HL : Hid (∀ l m a W, RbJ w (.func (.func 44) #[] #[c0, c1]) N w.heap.size S l m a W → ∃ rest, findLabel (scopeIn Tryd.f43) l = some rest ∧ rest.wp Tryd.prog (jumps (fun l' a' w' => ∃ m', m' < m ∧ RbJ w (.func (.func 44) #[] #[c0, c1]) N w.heap.size S l' m' a' w') (bodyPost Tryd.prog Tryd.f43 (RetTb w N S))) a W) := by
    rintro l m a W ⟨rfl, tm, ⟨u, rfl⟩, rfl, hI⟩
    exact ⟨_, rb_label, wp_skip_seq (rb_pass75 c0 c1 w N w.heap.size S hN HH m u W hI)⟩
  have HP : Hid (∀ tm, Fr74 (.func (.func 44) #[] #[c0, c1]) N w.heap.size (N : Int) tm → Code.wp Tryd.prog (labelIn Tryd.f43 0) (jumps (fun l' a' w' => ∃ m', m' < N ∧ RbJ w (.func (.func 44) #[] #[c0, c1]) N w.heap.size S l' m' a' w') (bodyPost Tryd.prog Tryd.f43 (RetTb w N S))) ⟨tm, []⟩ (w.alloc (.cells (vals (fun _ => .slice none 0 0) N).toArray 52))) := by
    rintro tm ⟨u, rfl⟩
    exact rb_pass75 c0 c1 w N w.heap.size S hN HH N u _ I0
  clear I0 H HH
  go_enter Tryd.func43, Tryd.ntmps43
  go_wp2_with fail
  refine wp_scope_labels (RbJ w (.func (.func 44) #[] #[c0, c1]) N w.heap.size S) ?_ (fun l m a W hJ => HL.out l m a W hJ)
  go_wp2_with fail
  go_step3
  rename_i K hK
  refine hK _ _ ?_
  clear hK
  refine Code.wp_mono (jumps_mono (fun l a w hq => ?_)) (HP.out _ (Fr74.of _ rfl))
  obtain ⟨m, _, hm⟩ := hq
  exact ⟨m, hm⟩
set_option maxRecDepth 20000 in
set_option maxHeartbeats 2000000 in
theorem rb_pass77 (c0 c1 : Value) (w : World) (N tb : Nat) (S : Nat → Nat) (hN : N ≤ 25) (H : Hid (∀ (k tb : Nat) (W : World), k < N → Below w.heap.size w W → w.heap.size ≤ tb → Rows W tb N (k + 1) S → Calls Tryd.prog 46 #[.slice (some ⟨tb, 0, none⟩) N N, .int .i64 (k : Nat), c0, c1] W fun e w' => ∃ r, e = .returned r ∧ RowV w' r (S k) ∧ Below W.heap.size W w')) (k : Nat) (u : Nat → Value) (W : World) (hI : RbI w N tb k S W) :
    Code.wp Tryd.prog (labelIn Tryd.f43 0) (jumps (fun l' a' w' => ∃ m', m' < k ∧ RbJ w (.func (.func 46) #[] #[c0, c1]) N tb S l' m' a' w') (bodyPost Tryd.prog Tryd.f43 (RetTb w N S))) ⟨fr74 (.func (.func 46) #[] #[c0, c1]) N tb (k : Int) u, []⟩ W := by
  obtain ⟨hle, hrows, hbel, htb⟩ := hI
  cases k with
  | zero =>
    have HR : Hid (RetTb w N S (.returned (.slice (some ⟨tb, 0, none⟩) N N)) W) := ⟨tb, rfl, hrows, hbel, htb⟩
    clear hrows hbel H
    unfold fr74
    conv => arg 2; whnf
    go_wp2_with fail
    refine (show bodyPost Tryd.prog Tryd.f43 (RetTb w N S) Exit.ret _ _ from ?_)
    go_ret
    exact HR.out
  | succ k =>
    have hk0 : ((((k + 1 : Nat) : Int)) == 0) = false := by simp; omega
    have hk1 : ((k + 1 : Nat) : Int) - 1 = (k : Nat) := by omega
    have hkN : (k : Int) < (N : Int) := by omega
    have HC := H.out k tb W (by omega) hbel htb hrows
    have HZ : Hid (∀ r w2, RowV w2 r (S k) → Below W.heap.size W w2 → (∃ x, w2.cell? ⟨tb, k, none⟩ = some x) ∧ w2.frozen? ⟨tb, k, none⟩ = false ∧ ∀ tm, Fr74 (.func (.func 46) #[] #[c0, c1]) N tb (k : Int) tm → ∃ m', m' < k + 1 ∧ RbJ w (.func (.func 46) #[] #[c0, c1]) N tb S 0 m' ⟨tm, []⟩ (w2.setCell ⟨tb, k, none⟩ r)) := by
      intro r w2 h1 h2
      have hrw := hrows.below h2
      obtain ⟨M, hM, _⟩ := id hrw
      refine ⟨⟨_, hM.cell k (vals_get M (by omega))⟩, hM.frozen k, fun tm ht => ⟨k, by omega, rfl, tm, ht, rfl, by omega, hrw.set (by omega) h1, (hbel.trans (h2.mono hbel.size)).setCell (p := ⟨tb, k, none⟩) htb _, htb⟩⟩
    clear hrows hbel H
    unfold fr74
    conv => arg 2; whnf
    go_wp2_with (go_at_call 46; refine HC.mono ?_; rintro e w2 ⟨r, rfl, hr, hb2⟩; obtain ⟨ro, rl, rc, rfl⟩ := hr.slice; obtain ⟨⟨x, dx⟩, fx, HK⟩ := HZ.out _ w2 hr hb2; have HK' : Hid _ := HK; clear HK hr hb2)
    first | (go_step3; exact HK'.out _ (Fr74.of _ rfl)) | exact HK'.out _ (Fr74.of _ rfl)
set_option maxRecDepth 20000 in
set_option maxHeartbeats 2000000 in
theorem rbr77 (c0 c1 : Value) (w : World) (N : Nat) (S : Nat → Nat) (hN : N ≤ 25) (H : (∀ (k tb : Nat) (W : World), k < N → Below w.heap.size w W → w.heap.size ≤ tb → Rows W tb N (k + 1) S → Calls Tryd.prog 46 #[.slice (some ⟨tb, 0, none⟩) N N, .int .i64 (k : Nat), c0, c1] W fun e w' => ∃ r, e = .returned r ∧ RowV w' r (S k) ∧ Below W.heap.size W w')) : Calls Tryd.prog 43 #[.int .i64 (N : Nat), (.func (.func 46) #[] #[c0, c1])] w (RetTb w N S) := by
  have HH : Hid _ := H
  have hmk := make_rows N hN
  have I0 : RbI w N w.heap.size N S (w.alloc (.cells (vals (fun _ => .slice none 0 0) N).toArray 52)) := ⟨Nat.le_refl _, ⟨_, Cl.new _ _ _, fun j h1 h2 => by omega⟩, below1 _ _, Nat.le_refl _⟩
  have HL : Hid (∀ l m a W, RbJ w (.func (.func 46) #[] #[c0, c1]) N w.heap.size S l m a W → ∃ rest, findLabel (scopeIn Tryd.f43) l = some rest ∧ rest.wp Tryd.prog (jumps (fun l' a' w' => ∃ m', m' < m ∧ RbJ w (.func (.func 46) #[] #[c0, c1]) N w.heap.size S l' m' a' w') (bodyPost Tryd.prog Tryd.f43 (RetTb w N S))) a W) := by
    rintro l m a W ⟨rfl, tm, ⟨u, rfl⟩, rfl, hI⟩
    exact ⟨_, rb_label, wp_skip_seq (rb_pass77 c0 c1 w N w.heap.size S hN HH m u W hI)⟩
  have HP : Hid (∀ tm, Fr74 (.func (.func 46) #[] #[c0, c1]) N w.heap.size (N : Int) tm → Code.wp Tryd.prog (labelIn Tryd.f43 0) (jumps (fun l' a' w' => ∃ m', m' < N ∧ RbJ w (.func (.func 46) #[] #[c0, c1]) N w.heap.size S l' m' a' w') (bodyPost Tryd.prog Tryd.f43 (RetTb w N S))) ⟨tm, []⟩ (w.alloc (.cells (vals (fun _ => .slice none 0 0) N).toArray 52))) := by
    rintro tm ⟨u, rfl⟩
    exact rb_pass77 c0 c1 w N w.heap.size S hN HH N u _ I0
  clear I0 H HH
  go_enter Tryd.func43, Tryd.ntmps43
  go_wp2_with fail
  refine wp_scope_labels (RbJ w (.func (.func 46) #[] #[c0, c1]) N w.heap.size S) ?_ (fun l m a W hJ => HL.out l m a W hJ)
  go_wp2_with fail
  go_step3
  rename_i K hK
  refine hK _ _ ?_
  clear hK
  refine Code.wp_mono (jumps_mono (fun l a w hq => ?_)) (HP.out _ (Fr74.of _ rfl))
  obtain ⟨m, _, hm⟩ := hq
  exact ⟨m, hm⟩
set_option maxRecDepth 20000 in
set_option maxHeartbeats 2000000 in
theorem rb_pass88 (c0 : Value) (w : World) (N tb : Nat) (S : Nat → Nat) (hN : N ≤ 25) (H : Hid (∀ (k tb : Nat) (W : World), k < N → Below w.heap.size w W → w.heap.size ≤ tb → Rows W tb N (k + 1) S → Calls Tryd.prog 59 #[.slice (some ⟨tb, 0, none⟩) N N, .int .i64 (k : Nat), c0] W fun e w' => ∃ r, e = .returned r ∧ RowV w' r (S k) ∧ Below W.heap.size W w')) (k : Nat) (u : Nat → Value) (W : World) (hI : RbI w N tb k S W) :
    Code.wp Tryd.prog (labelIn Tryd.f43 0) (jumps (fun l' a' w' => ∃ m', m' < k ∧ RbJ w (.func (.func 59) #[] #[c0]) N tb S l' m' a' w') (bodyPost Tryd.prog Tryd.f43 (RetTb w N S))) ⟨fr74 (.func (.func 59) #[] #[c0]) N tb (k : Int) u, []⟩ W := by
  obtain ⟨hle, hrows, hbel, htb⟩ := hI
  cases k with
  | zero =>
    have HR : Hid (RetTb w N S (.returned (.slice (some ⟨tb, 0, none⟩) N N)) W) := ⟨tb, rfl, hrows, hbel, htb⟩
    clear hrows hbel H
    unfold fr74
    conv => arg 2; whnf
    go_wp2_with fail
    refine (show bodyPost Tryd.prog Tryd.f43 (RetTb w N S) Exit.ret _ _ from ?_)
    go_ret
    exact HR.out
  | succ k =>
    have hk0 : ((((k + 1 : Nat) : Int)) == 0) = false := by simp; omega
    have hk1 : ((k + 1 : Nat) : Int) - 1 = (k : Nat) := by omega
    have hkN : (k : Int) < (N : Int) := by omega
    have HC := H.out k tb W (by omega) hbel htb hrows
    have HZ : Hid (∀ r w2, RowV w2 r (S k) → Below W.heap.size W w2 → (∃ x, w2.cell? ⟨tb, k, none⟩ = some x) ∧ w2.frozen? ⟨tb, k, none⟩ = false ∧ ∀ tm, Fr74 (.func (.func 59) #[] #[c0]) N tb (k : Int) tm → ∃ m', m' < k + 1 ∧ RbJ w (.func (.func 59) #[] #[c0]) N tb S 0 m' ⟨tm, []⟩ (w2.setCell ⟨tb, k, none⟩ r)) := by
      intro r w2 h1 h2
      have hrw := hrows.below h2
      obtain ⟨M, hM, _⟩ := id hrw
      refine ⟨⟨_, hM.cell k (vals_get M (by omega))⟩, hM.frozen k, fun tm ht => ⟨k, by omega, rfl, tm, ht, rfl, by omega, hrw.set (by omega) h1, (hbel.trans (h2.mono hbel.size)).setCell (p := ⟨tb, k, none⟩) htb _, htb⟩⟩
    clear hrows hbel H
    unfold fr74
    conv => arg 2; whnf
    go_wp2_with (go_at_call 59; refine HC.mono ?_; rintro e w2 ⟨r, rfl, hr, hb2⟩; obtain ⟨ro, rl, rc, rfl⟩ := hr.slice; obtain ⟨⟨x, dx⟩, fx, HK⟩ := HZ.out _ w2 hr hb2; have HK' : Hid _ := HK; clear HK hr hb2)
    first | (go_step3; exact HK'.out _ (Fr74.of _ rfl)) | exact HK'.out _ (Fr74.of _ rfl)
set_option maxRecDepth 20000 in
set_option maxHeartbeats 2000000 in
theorem rbr88 (c0 : Value) (w : World) (N : Nat) (S : Nat → Nat) (hN : N ≤ 25) (H : (∀ (k tb : Nat) (W : World), k < N → Below w.heap.size w W → w.heap.size ≤ tb → Rows W tb N (k + 1) S → Calls Tryd.prog 59 #[.slice (some ⟨tb, 0, none⟩) N N, .int .i64 (k : Nat), c0] W fun e w' => ∃ r, e = .returned r ∧ RowV w' r (S k) ∧ Below W.heap.size W w')) : Calls Tryd.prog 43 #[.int .i64 (N : Nat), (.func (.func 59) #[] #[c0])] w (RetTb w N S) := by
  have HH : Hid _ := H
  have hmk := make_rows N hN
  have I0 : RbI w N w.heap.size N S (w.alloc (.cells (vals (fun _ => .slice none 0 0) N).toArray 52)) := ⟨Nat.le_refl _, ⟨_, Cl.new _ _ _, fun j h1 h2 => by omega⟩, below1 _ _, Nat.le_refl _⟩
  have HL : Hid (∀ l m a W, RbJ w (.func (.func 59) #[] #[c0]) N w.heap.size S l m a W → ∃ rest, findLabel (scopeIn Tryd.f43) l = some rest ∧ rest.wp Tryd.prog (jumps (fun l' a' w' => ∃ m', m' < m ∧ RbJ w (.func (.func 59) #[] #[c0]) N w.heap.size S l' m' a' w') (bodyPost Tryd.prog Tryd.f43 (RetTb w N S))) a W) := by
    rintro l m a W ⟨rfl, tm, ⟨u, rfl⟩, rfl, hI⟩
    exact ⟨_, rb_label, wp_skip_seq (rb_pass88 c0 w N w.heap.size S hN HH m u W hI)⟩
  have HP : Hid (∀ tm, Fr74 (.func (.func 59) #[] #[c0]) N w.heap.size (N : Int) tm → Code.wp Tryd.prog (labelIn Tryd.f43 0) (jumps (fun l' a' w' => ∃ m', m' < N ∧ RbJ w (.func (.func 59) #[] #[c0]) N w.heap.size S l' m' a' w') (bodyPost Tryd.prog Tryd.f43 (RetTb w N S))) ⟨tm, []⟩ (w.alloc (.cells (vals (fun _ => .slice none 0 0) N).toArray 52))) := by
    rintro tm ⟨u, rfl⟩
    exact rb_pass88 c0 w N w.heap.size S hN HH N u _ I0
  clear I0 H HH
  go_enter Tryd.func43, Tryd.ntmps43
  go_wp2_with fail
  refine wp_scope_labels (RbJ w (.func (.func 59) #[] #[c0]) N w.heap.size S) ?_ (fun l m a W hJ => HL.out l m a W hJ)
  go_wp2_with fail
  go_step3
  rename_i K hK
  refine hK _ _ ?_
  clear hK
  refine Code.wp_mono (jumps_mono (fun l a w hq => ?_)) (HP.out _ (Fr74.of _ rfl))
  obtain ⟨m, _, hm⟩ := hq
  exact ⟨m, hm⟩
set_option maxRecDepth 20000 in
set_option maxHeartbeats 2000000 in
theorem rb_pass89 (w : World) (N tb : Nat) (S : Nat → Nat) (hN : N ≤ 25) (H : Hid (∀ (k tb : Nat) (W : World), k < N → Below w.heap.size w W → w.heap.size ≤ tb → Rows W tb N (k + 1) S → Calls Tryd.prog 60 #[.slice (some ⟨tb, 0, none⟩) N N, .int .i64 (k : Nat)] W fun e w' => ∃ r, e = .returned r ∧ RowV w' r (S k) ∧ Below W.heap.size W w')) (k : Nat) (u : Nat → Value) (W : World) (hI : RbI w N tb k S W) :
    Code.wp Tryd.prog (labelIn Tryd.f43 0) (jumps (fun l' a' w' => ∃ m', m' < k ∧ RbJ w (.func (.func 60) #[] #[]) N tb S l' m' a' w') (bodyPost Tryd.prog Tryd.f43 (RetTb w N S))) ⟨fr74 (.func (.func 60) #[] #[]) N tb (k : Int) u, []⟩ W := by
  obtain ⟨hle, hrows, hbel, htb⟩ := hI
  cases k with
  | zero =>
    have HR : Hid (RetTb w N S (.returned (.slice (some ⟨tb, 0, none⟩) N N)) W) := ⟨tb, rfl, hrows, hbel, htb⟩
    clear hrows hbel H
    unfold fr74
    conv => arg 2; whnf
    go_wp2_with fail
    refine (show bodyPost Tryd.prog Tryd.f43 (RetTb w N S) Exit.ret _ _ from ?_)
    go_ret
    exact HR.out
  | succ k =>
    have hk0 : ((((k + 1 : Nat) : Int)) == 0) = false := by simp; omega
    have hk1 : ((k + 1 : Nat) : Int) - 1 = (k : Nat) := by omega
    have hkN : (k : Int) < (N : Int) := by omega
    have HC := H.out k tb W (by omega) hbel htb hrows
    have HZ : Hid (∀ r w2, RowV w2 r (S k) → Below W.heap.size W w2 → (∃ x, w2.cell? ⟨tb, k, none⟩ = some x) ∧ w2.frozen? ⟨tb, k, none⟩ = false ∧ ∀ tm, Fr74 (.func (.func 60) #[] #[]) N tb (k : Int) tm → ∃ m', m' < k + 1 ∧ RbJ w (.func (.func 60) #[] #[]) N tb S 0 m' ⟨tm, []⟩ (w2.setCell ⟨tb, k, none⟩ r)) := by
      intro r w2 h1 h2
      have hrw := hrows.below h2
      obtain ⟨M, hM, _⟩ := id hrw
      refine ⟨⟨_, hM.cell k (vals_get M (by omega))⟩, hM.frozen k, fun tm ht => ⟨k, by omega, rfl, tm, ht, rfl, by omega, hrw.set (by omega) h1, (hbel.trans (h2.mono hbel.size)).setCell (p := ⟨tb, k, none⟩) htb _, htb⟩⟩
    clear hrows hbel H
    unfold fr74
    conv => arg 2; whnf
    go_wp2_with (go_at_call 60; refine HC.mono ?_; rintro e w2 ⟨r, rfl, hr, hb2⟩; obtain ⟨ro, rl, rc, rfl⟩ := hr.slice; obtain ⟨⟨x, dx⟩, fx, HK⟩ := HZ.out _ w2 hr hb2; have HK' : Hid _ := HK; clear HK hr hb2)
    first | (go_step3; exact HK'.out _ (Fr74.of _ rfl)) | exact HK'.out _ (Fr74.of _ rfl)
set_option maxRecDepth 20000 in
set_option maxHeartbeats 2000000 in
theorem rbr89 (w : World) (N : Nat) (S : Nat → Nat) (hN : N ≤ 25) (H : (∀ (k tb : Nat) (W : World), k < N → Below w.heap.size w W → w.heap.size ≤ tb → Rows W tb N (k + 1) S → Calls Tryd.prog 60 #[.slice (some ⟨tb, 0, none⟩) N N, .int .i64 (k : Nat)] W fun e w' => ∃ r, e = .returned r ∧ RowV w' r (S k) ∧ Below W.heap.size W w')) : Calls Tryd.prog 43 #[.int .i64 (N : Nat), (.func (.func 60) #[] #[])] w (RetTb w N S) := by
  have HH : Hid _ := H
  have hmk := make_rows N hN
  have I0 : RbI w N w.heap.size N S (w.alloc (.cells (vals (fun _ => .slice none 0 0) N).toArray 52)) := ⟨Nat.le_refl _, ⟨_, Cl.new _ _ _, fun j h1 h2 => by omega⟩, below1 _ _, Nat.le_refl _⟩
  have HL : Hid (∀ l m a W, RbJ w (.func (.func 60) #[] #[]) N w.heap.size S l m a W → ∃ rest, findLabel (scopeIn Tryd.f43) l = some rest ∧ rest.wp Tryd.prog (jumps (fun l' a' w' => ∃ m', m' < m ∧ RbJ w (.func (.func 60) #[] #[]) N w.heap.size S l' m' a' w') (bodyPost Tryd.prog Tryd.f43 (RetTb w N S))) a W) := by
    rintro l m a W ⟨rfl, tm, ⟨u, rfl⟩, rfl, hI⟩
    exact ⟨_, rb_label, wp_skip_seq (rb_pass89  w N w.heap.size S hN HH m u W hI)⟩
  have HP : Hid (∀ tm, Fr74 (.func (.func 60) #[] #[]) N w.heap.size (N : Int) tm → Code.wp Tryd.prog (labelIn Tryd.f43 0) (jumps (fun l' a' w' => ∃ m', m' < N ∧ RbJ w (.func (.func 60) #[] #[]) N w.heap.size S l' m' a' w') (bodyPost Tryd.prog Tryd.f43 (RetTb w N S))) ⟨tm, []⟩ (w.alloc (.cells (vals (fun _ => .slice none 0 0) N).toArray 52))) := by
    rintro tm ⟨u, rfl⟩
    exact rb_pass89  w N w.heap.size S hN HH N u _ I0
  clear I0 H HH
  go_enter Tryd.func43, Tryd.ntmps43
  go_wp2_with fail
  refine wp_scope_labels (RbJ w (.func (.func 60) #[] #[]) N w.heap.size S) ?_ (fun l m a W hJ => HL.out l m a W hJ)
  go_wp2_with fail
  go_step3
  rename_i K hK
  refine hK _ _ ?_
  clear hK
  refine Code.wp_mono (jumps_mono (fun l a w hq => ?_)) (HP.out _ (Fr74.of _ rfl))
  obtain ⟨m, _, hm⟩ := hq
  exact ⟨m, hm⟩
set_option maxRecDepth 20000 in
set_option maxHeartbeats 2000000 in
theorem rb_pass90 (c0 c1 c2 : Value) (w : World) (N tb : Nat) (S : Nat → Nat) (hN : N ≤ 25) (H : Hid (∀ (k tb : Nat) (W : World), k < N → Below w.heap.size w W → w.heap.size ≤ tb → Rows W tb N (k + 1) S → Calls Tryd.prog 61 #[.slice (some ⟨tb, 0, none⟩) N N, .int .i64 (k : Nat), c0, c1, c2] W fun e w' => ∃ r, e = .returned r ∧ RowV w' r (S k) ∧ Below W.heap.size W w')) (k : Nat) (u : Nat → Value) (W : World) (hI : RbI w N tb k S W) :
    Code.wp Tryd.prog (labelIn Tryd.f43 0) (jumps (fun l' a' w' => ∃ m', m' < k ∧ RbJ w (.func (.func 61) #[] #[c0, c1, c2]) N tb S l' m' a' w') (bodyPost Tryd.prog Tryd.f43 (RetTb w N S))) ⟨fr74 (.func (.func 61) #[] #[c0, c1, c2]) N tb (k : Int) u, []⟩ W := by
  obtain ⟨hle, hrows, hbel, htb⟩ := hI
  cases k with
  | zero =>
    have HR : Hid (RetTb w N S (.returned (.slice (some ⟨tb, 0, none⟩) N N)) W) := ⟨tb, rfl, hrows, hbel, htb⟩
    clear hrows hbel H
    unfold fr74
    conv => arg 2; whnf
    go_wp2_with fail
    refine (show bodyPost Tryd.prog Tryd.f43 (RetTb w N S) Exit.ret _ _ from ?_)
    go_ret
    exact HR.out
  | succ k =>
    have hk0 : ((((k + 1 : Nat) : Int)) == 0) = false := by simp; omega
    have hk1 : ((k + 1 : Nat) : Int) - 1 = (k : Nat) := by omega
    have hkN : (k : Int) < (N : Int) := by omega
    have HC := H.out k tb W (by omega) hbel htb hrows
    have HZ : Hid (∀ r w2, RowV w2 r (S k) → Below W.heap.size W w2 → (∃ x, w2.cell? ⟨tb, k, none⟩ = some x) ∧ w2.frozen? ⟨tb, k, none⟩ = false ∧ ∀ tm, Fr74 (.func (.func 61) #[] #[c0, c1, c2]) N tb (k : Int) tm → ∃ m', m' < k + 1 ∧ RbJ w (.func (.func 61) #[] #[c0, c1, c2]) N tb S 0 m' ⟨tm, []⟩ (w2.setCell ⟨tb, k, none⟩ r)) := by
      intro r w2 h1 h2
      have hrw := hrows.below h2
      obtain ⟨M, hM, _⟩ := id hrw
      refine ⟨⟨_, hM.cell k (vals_get M (by omega))⟩, hM.frozen k, fun tm ht => ⟨k, by omega, rfl, tm, ht, rfl, by omega, hrw.set (by omega) h1, (hbel.trans (h2.mono hbel.size)).setCell (p := ⟨tb, k, none⟩) htb _, htb⟩⟩
    clear hrows hbel H
    unfold fr74
    conv => arg 2; whnf
    go_wp2_with (go_at_call 61; refine HC.mono ?_; rintro e w2 ⟨r, rfl, hr, hb2⟩; obtain ⟨ro, rl, rc, rfl⟩ := hr.slice; obtain ⟨⟨x, dx⟩, fx, HK⟩ := HZ.out _ w2 hr hb2; have HK' : Hid _ := HK; clear HK hr hb2)
    first | (go_step3; exact HK'.out _ (Fr74.of _ rfl)) | exact HK'.out _ (Fr74.of _ rfl)
set_option maxRecDepth 20000 in
set_option maxHeartbeats 2000000 in
theorem rbr90 (c0 c1 c2 : Value) (w : World) (N : Nat) (S : Nat → Nat) (hN : N ≤ 25) (H : (∀ (k tb : Nat) (W : World), k < N → Below w.heap.size w W → w.heap.size ≤ tb → Rows W tb N (k + 1) S → Calls Tryd.prog 61 #[.slice (some ⟨tb, 0, none⟩) N N, .int .i64 (k : Nat), c0, c1, c2] W fun e w' => ∃ r, e = .returned r ∧ RowV w' r (S k) ∧ Below W.heap.size W w')) : Calls Tryd.prog 43 #[.int .i64 (N : Nat), (.func (.func 61) #[] #[c0, c1, c2])] w (RetTb w N S) := by
  have HH : Hid _ := H
  have hmk := make_rows N hN
  have I0 : RbI w N w.heap.size N S (w.alloc (.cells (vals (fun _ => .slice none 0 0) N).toArray 52)) := ⟨Nat.le_refl _, ⟨_, Cl.new _ _ _, fun j h1 h2 => by omega⟩, below1 _ _, Nat.le_refl _⟩
  have HL : Hid (∀ l m a W, RbJ w (.func (.func 61) #[] #[c0, c1, c2]) N w.heap.size S l m a W → ∃ rest, findLabel (scopeIn Tryd.f43) l = some rest ∧ rest.wp Tryd.prog (jumps (fun l' a' w' => ∃ m', m' < m ∧ RbJ w (.func (.func 61) #[] #[c0, c1, c2]) N w.heap.size S l' m' a' w') (bodyPost Tryd.prog Tryd.f43 (RetTb w N S))) a W) := by
    rintro l m a W ⟨rfl, tm, ⟨u, rfl⟩, rfl, hI⟩
    exact ⟨_, rb_label, wp_skip_seq (rb_pass90 c0 c1 c2 w N w.heap.size S hN HH m u W hI)⟩
  have HP : Hid (∀ tm, Fr74 (.func (.func 61) #[] #[c0, c1, c2]) N w.heap.size (N : Int) tm → Code.wp Tryd.prog (labelIn Tryd.f43 0) (jumps (fun l' a' w' => ∃ m', m' < N ∧ RbJ w (.func (.func 61) #[] #[c0, c1, c2]) N w.heap.size S l' m' a' w') (bodyPost Tryd.prog Tryd.f43 (RetTb w N S))) ⟨tm, []⟩ (w.alloc (.cells (vals (fun _ => .slice none 0 0) N).toArray 52))) := by
    rintro tm ⟨u, rfl⟩
    exact rb_pass90 c0 c1 c2 w N w.heap.size S hN HH N u _ I0
  clear I0 H HH
  go_enter Tryd.func43, Tryd.ntmps43
  go_wp2_with fail
  refine wp_scope_labels (RbJ w (.func (.func 61) #[] #[c0, c1, c2]) N w.heap.size S) ?_ (fun l m a W hJ => HL.out l m a W hJ)
  go_wp2_with fail
  go_step3
  rename_i K hK
  refine hK _ _ ?_
  clear hK
  refine Code.wp_mono (jumps_mono (fun l a w hq => ?_)) (HP.out _ (Fr74.of _ rfl))
  obtain ⟨m, _, hm⟩ := hq
  exact ⟨m, hm⟩
end Go.Proofs.YtiiecppkabdkgabDoor
namespace Go.Proofs.YtiiecppkabdkgabDoor
open Go.RowKit Go.Shelf
attribute [local go_sem] Oper.semAt_some
/-- A table that can be read. -/
def TabV (W : World) (v : Value) (N : Nat) (T : Tab) : Prop := ∃ tb, v = .slice (some ⟨tb, 0, none⟩) N N ∧ Rows W tb N 0 (wrd N T)
theorem TabV.below {W W' : World} {v : Value} {N : Nat} {T : Tab} (h : TabV W v N T) (hb : Below W.heap.size W W') : TabV W' v N T := by
  obtain ⟨tb, e, hr⟩ := h
  exact ⟨tb, e, hr.below hb⟩
theorem Rows.get {W : World} {tb N : Nat} {S : Nat → Nat} (h : Rows W tb N 0 S) {i : Nat} (hi : i < N) : ∃ ao l cap, W.cell? ⟨tb, i, none⟩ = some (.slice ao l cap) ∧ RowV W (.slice ao l cap) (S i) ∧ tb < W.heap.size := by
  obtain ⟨M, h1, h2⟩ := h
  have hr := h2 i (Nat.zero_le _) hi
  obtain ⟨ao, l, cap, e⟩ := hr.slice
  exact ⟨ao, l, cap, by rw [h1.cell i (vals_get M hi), e], by rw [← e]; exact hr, h1.lt⟩
/-- What stands between the rounds of cat's function. -/
structure CI (W : World) (h0 k : Nat) (f : Nat → Nat) (l : List Nat) (i : Nat) (A : World) : Prop where
  at_ : Cl A h0 3 [.int .i64 (k : Nat)]
  box : ∃ ao bl cap, Cl A (h0 + 1) 52 [.slice ao bl cap] ∧ OwR A (h0 + 5) (.slice ao bl cap) (acc f 0 (l.take i))
  bel : Below h0 W A
theorem OwR.at_ {A B : World} {c x : Nat} {v : Value} (h : OwR A c v x) (hs : ∀ g, c ≤ g → g < A.heap.size → B.heap[g]? = A.heap[g]?) : OwR B c v x :=
  ⟨h.1, h.2.imp id fun ⟨g, cap, cur, e, hB, hc, h0⟩ => ⟨g, cap, cur, e, hB, (hs g hB (Array.getElem?_eq_some_iff.1 hc).1).trans hc, h0⟩⟩
theorem CI.turn {W : World} {h0 k : Nat} {f : Nat → Nat} {l : List Nat} {i : Nat} {A B : World} (h : CI W h0 k f l i A) (hW : h0 = W.heap.size) (ht : Turn (h0 + 3) A B) : CI W h0 k f l i B := by
  obtain ⟨ao, bl, cap, hk, ho⟩ := h.box
  refine ⟨by unfold Cl; rw [ht.block h0 h.at_.lt (.inl (by omega))]; exact h.at_, ⟨ao, bl, cap, by unfold Cl; rw [ht.block _ hk.lt (.inl (by omega))]; exact hk, ho.at_ fun g h1 h2 => ht.block g h2 (.inr (by omega))⟩, ?_⟩
  exact ⟨ht.os.trans h.bel.os, ht.tape.trans h.bel.tape, ht.output.trans h.bel.output, Nat.le_trans h.bel.size ht.size, fun j hj => (ht.block j (Nat.lt_of_lt_of_le (by omega) h.bel.size) (.inl (by omega))).trans (h.bel.block j hj)⟩
def fr75 (p q h0 : Nat) (d : Int) (u : Nat → Value) : Array Value := #[u 0, u 1, .pointer (some ⟨p, 0, none⟩), .pointer (some ⟨q, 0, none⟩), u 4, .pointer (some ⟨h0, 0, none⟩), u 6, .pointer (some ⟨h0 + 1, 0, none⟩), .int .i64 d, u 9, u 10, u 11, u 12, u 13, u 14, u 15, u 16, u 17, u 18, u 19, u 20, u 21, u 22, u 23, u 24]
def Fr75 (p q h0 : Nat) (d : Int) (tm : Array Value) : Prop := ∃ u, tm = fr75 p q h0 d u
theorem Fr75.of {p q h0 : Nat} {d : Int} (tm : Array Value) (h : tm = fr75 p q h0 d (nth tm.toList)) : Fr75 p q h0 d tm := ⟨_, h⟩
set_option maxRecDepth 100000 in
set_option maxHeartbeats 4000000 in
theorem catf_any (N k p q ta tb : Nat) (a b : Tab) (v : Value) (W : World) (hN : N ≤ 25) (hk : k < N) (hp : Cl W p 47 [.slice (some ⟨ta, 0, none⟩) N N]) (hq : Cl W q 47 [.slice (some ⟨tb, 0, none⟩) N N]) (hA : Rows W ta N 0 (wrd N a)) (hB : Rows W tb N 0 (wrd N b)) (hT : TabZ W) :
    Calls Tryd.prog 44 #[v, .int .i64 (k : Nat), .pointer (some ⟨p, 0, none⟩), .pointer (some ⟨q, 0, none⟩)] W fun e w' => ∃ r, e = .returned r ∧ RowV w' r (wrd N (tCat a b) k) ∧ Below W.heap.size W w' := by
  have hki : (k : Int) < (N : Int) := by omega
  have hki2 : (k : Int) ≤ 25 := by omega
  obtain ⟨rao, rl, rcap, dr, hr, htal⟩ := hA.get hk
  have hacc := acc_cat hN a b hk
  have hb1 := below2 W (.cells #[.int .i64 (k : Nat)] 3) (.cells #[.slice none 0 0] 52)
  have hb2 : Below W.heap.size W (((W.alloc (.cells #[.int .i64 (k : Nat)] 3)).alloc (.cells #[.slice none 0 0] 52)).alloc (.cells #[.slice rao rl rcap] 52)) := hb1.trans ((below1 _ _).mono hb1.size)
  have e1 := (hp.below hb1).cell 0 rfl
  have e2 : ((W.alloc (.cells #[.int .i64 (k : Nat)] 3)).alloc (.cells #[.slice none 0 0] 52)).cell? ⟨ta, k, none⟩ = some (.slice rao rl rcap) := (hb1.cell (p := ⟨ta, k, none⟩) htal).trans dr
  have e3 := ((Cl.new W 3 [.int .i64 (k : Nat)]).alloc (.cells #[.slice none 0 0] 52)).cell 0 rfl
  have hsz6 : (((W.alloc (.cells #[.int .i64 (k : Nat)] 3)).alloc (.cells #[.slice none 0 0] 52)).alloc (.cells #[.slice rao rl rcap] 52)).heap.size = W.heap.size + 3 := by simp
  have K0 : CI W W.heap.size k (fun d => wrd N b (k + d)) (come (wrd N a k).testBit 64) 0 (((W.alloc (.cells #[.int .i64 (k : Nat)] 3)).alloc (.cells #[.slice none 0 0] 52)).alloc (.cells #[.slice rao rl rcap] 52)) := by
    refine ⟨((Cl.new W 3 [.int .i64 (k : Nat)]).alloc _).alloc _, ⟨none, 0, 0, ?_, by simp [acc], .inl ⟨by simp [acc], none, rfl⟩⟩, hb2⟩
    have := (Cl.new (W.alloc (.cells #[.int .i64 (k : Nat)] 3)) 52 [.slice none 0 0]).alloc (.cells #[.slice rao rl rcap] 52)
    simpa only [World.size_alloc] using this
  have KX : Cl (((W.alloc (.cells #[.int .i64 (k : Nat)] 3)).alloc (.cells #[.slice none 0 0] 52)).alloc (.cells #[.slice rao rl rcap] 52)) (W.heap.size + 1 + 1) 52 [.slice rao rl rcap] := by
    have := Cl.new ((W.alloc (.cells #[.int .i64 (k : Nat)] 3)).alloc (.cells #[.slice none 0 0] 52)) 52 [.slice rao rl rcap]
    simpa only [World.size_alloc] using this
  have hr6 := hr.below hb2
  have hT6 := hT.below hb2
  have hpos := hT.lt
  refine (callsIn_wide (n := 5)).1 ?_
  refine callsIn_of_wp_marks Tryd.func44 rfl trivial ?_ rfl
  simp only [Tryd.ntmps44, List.size_toArray, List.length_cons, List.length_nil, Nat.reduceAdd, Nat.reduceSub, Array.replicate_succ, Array.replicate_zero, List.push_toArray, List.append_toArray, List.nil_append, List.cons_append]
  gi_wp2_with (refine ⟨trivial, ?_⟩; gi_at_call 16; refine (callsIn_wide.2 (widths_mk _ _ _ _)).mono ?_; rintro e w2 ⟨rfl, rfl⟩)
  clear e1 e2 e3 dr hr hb1
  generalize ((W.alloc (.cells #[.int .i64 (k : Nat)] 3)).alloc (.cells #[.slice none 0 0] 52)).alloc (.cells #[.slice rao rl rcap] 52) = V6 at *
  have hseq := widths_seq V6.heap.size (W.heap.size + 1 + 1) (fun j => j = 0) rao rl rcap (wrd N a k) V6 hr6 KX hT6 rfl rfl
  refine wpIn_rangeFunc_steps (n := 5) rfl (by decide) (gf := 28) (lb := #[.pointer (some ⟨W.heap.size + 1 + 1, 0, none⟩)]) rfl trivial (enters_of Tryd.func28 (by kernel_rfl) rfl) (fun j => j = 0) (fun j hj => by rw [hsz6]; omega) hseq (fun _ => rfl)
    (fun i A => CI W W.heap.size k (fun d => wrd N b (k + d)) (come (wrd N a k).testBit 64) i A) (fun i A B h ht => h.turn rfl (by rw [hsz6] at ht; exact ht)) K0
    (fun i a' A => Fr75 p q W.heap.size (((come (wrd N a k).testBit 64).getD i 0 : Nat) : Int) a'.tmps ∧ a'.defers = []) (fun i a' A B h _ => h) ?assign ?body ?done
  case assign =>
    rintro i A K hi hC hsz hK
    have HK : Hid (∀ tm, Fr75 p q W.heap.size (((come (wrd N a k).testBit 64).getD i 0 : Nat) : Int) tm → K ⟨tm, []⟩ A) := fun tm h => hK _ _ (KeepT.refl _ _ _) hC ⟨h, rfl⟩
    clear hK hC K0 KX hseq hr6
    generalize (come (wrd N a k).testBit 64).getD i 0 = d at *
    gi_wp2
    exact HK.out _ (Fr75.of _ rfl)
  case body =>
    rintro i a' A hi hC ⟨⟨u, hfr⟩, hdf⟩ hsz
    obtain ⟨tm, dfs⟩ := a'
    dsimp only at hfr hdf
    subst hfr hdf
    rw [hsz6] at hsz
    obtain ⟨d, hd⟩ : ∃ d, (come (wrd N a k).testBit 64)[i]? = some d := ⟨_, List.getElem?_eq_getElem hi⟩
    have hgd : (come (wrd N a k).testBit 64).getD i 0 = d := by simp [List.getD, hd]
    obtain ⟨hd64, hdb⟩ := come_lt hd
    rw [wrd_bit hN, Bool.and_eq_true, decide_eq_true_eq] at hdb
    have hkd := hdb.1
    obtain ⟨ao, bl, cap, kB, ho⟩ := hC.box
    have hbA := hC.bel
    have kq := hq.below hbA
    have hBA := hB.below hbA
    obtain ⟨sao, sl, scap, ds, hs, htl⟩ := hBA.get hkd
    have d1 := kB.cell 0 rfl
    have d2 := kq.cell 0 rfl
    have d3 := hC.at_.cell 0 rfl
    have HF : Hid (∀ r A', OwR A' (W.heap.size + 5) r (acc (fun d => wrd N b (k + d)) 0 ((come (wrd N a k).testBit 64).take i) ||| wrd N b (k + d) * 2 ^ d) → Below (W.heap.size + 5) A A' → (∃ x, A'.cell? ⟨W.heap.size + 1, 0, none⟩ = some x) ∧ A'.frozen? ⟨W.heap.size + 1, 0, none⟩ = false ∧ stepPost V6.heap.size (fun j => j = 0) (fun i A => CI W W.heap.size k (fun d => wrd N b (k + d)) (come (wrd N a k).testBit 64) i A) i A .normal ⟨#[], []⟩ (A'.setCell ⟨W.heap.size + 1, 0, none⟩ r)) := by
      intro r A' h1 h2
      have kB' := kB.belowB h2 (by omega)
      have hs2 := h2.size
      refine ⟨⟨_, kB'.cell 0 rfl⟩, kB'.frozen 0, ⟨by simpa using hs2, fun j hj => ?_⟩, ?_⟩
      · rw [hsz6] at hj
        rw [set_heap _ _ _ _ (by dsimp only; omega)]
        exact h2.block j (by omega)
      · obtain ⟨ro, rl', rc, rfl⟩ := h1.row.slice
        refine ⟨(hC.at_.belowB h2 (by omega)).other (by omega) _ _, ⟨ro, rl', rc, by simpa using kB'.set 0 (.slice ro rl' rc), ?_⟩, (hbA.trans (h2.mono (by omega))).setCell (p := ⟨W.heap.size + 1, 0, none⟩) (by simp) _⟩
        rw [take_snoc hd, acc_app]
        exact h1.at_ fun g h3 h4 => set_heap _ _ _ _ (by dsimp only; omega)
    have hmv := wrd_move hN b (k := k) (d := d)
    have hd32 : d < 32 := by omega
    have hkdi : (k : Int) + (d : Int) < (N : Int) := by omega
    have hdi : (d : Int) ≤ 25 := by omega
    have hsk : ((k : Int) + (d : Int)).toNat = k + d := by omega
    rw [hgd]
    unfold fr75
    have n1 := Near.cell d1 kB.lt
    have n2 := Near.cell d2 kq.lt
    have n3 := Near.cell d3 hC.at_.lt
    have n4 := Near.cell ds htl
    clear K0 KX hseq hr6 hC hB hBA hT hT6 hA hacc hp hq d1 d2 d3 ds
    gi_wp2_with fail
    refine round_quiet_tail 8 (fun w' => ∃ u : World, w' = near A u) (by kernel_rfl) (by kernel_rfl) (by kernel_rfl) (fun ⟨_, _, h⟩ => h) (Near.start _) ?_
    simp only [List.take_succ_cons, List.take_zero, List.drop_succ_cons, List.drop_zero]
    repeat (go_big_quiet_step (fail))
    refine wpQuiet_nil ?_
    rintro _ ⟨u', rfl⟩
    have HW := with_any (W.heap.size + 5) _ _ _ _ d _ (ho.below (near_below A u')) (hs.below (near_below A u')) hd32 hmv (Nat.le_trans hsz (near_below A u').size)
    have hnb : Below (W.heap.size + 5) A (near A u') := (near_below A u').mono hsz
    clear n1 n2 n3 n4
    go_wp2_with (go_at_call 45; refine HW.mono ?_; rintro e A' ⟨r, rfl, hr', hb'⟩; obtain ⟨ro, rl', rc, rfl⟩ := hr'.row.slice; obtain ⟨⟨x, dx⟩, fx, HS⟩ := HF.out _ A' hr' (hnb.trans hb'); have HS' : Hid _ := HS; clear HS)
    exact HS'.out
  case done =>
    rintro A hC hD
    obtain ⟨ao, bl, cap, kB, ho⟩ := hC.box
    have hbA := hC.bel
    rw [List.take_of_length_le (Nat.le_refl _), hacc] at ho
    have d1 := kB.cell 0 rfl
    rw [hsz6] at hD
    have hput : ∀ j, j ≠ W.heap.size + 3 → (A.putObj (W.heap.size + 3) (.deferred none)).heap[j]? = A.heap[j]? := fun j hj => World.putObj_heap_other hj
    have H1 : Hid (RowV (A.putObj (W.heap.size + 3) (.deferred none)) (.slice ao bl cap) (wrd N (tCat a b) k)) := (ho.at_ fun g h1 h2 => hput g (by omega)).row
    have H2 : Hid _ := hbA.trans (belowK_b (w := W) (Nat.le_refl _) A (W.heap.size + 3) _ (.deferred none) (by omega) hD rfl rfl)
    clear K0 KX hseq hr6 hC hB hT hT6 hA hacc hp hq ho kB
    rw [hsz6]
    gi_wp2
    refine ⟨by simp, .inl ⟨_, _, rfl, run_takeDeferred hD, ?_⟩⟩
    exact ⟨_, results_tmp rfl _ _ _, .slice ao bl cap, rfl, H1.out, H2.out⟩
/-- What a call that makes a table answers. -/
def RetTab (w : World) (N : Nat) (T : Tab) (e : Ending) (w' : World) : Prop := ∃ tb, e = .returned (.slice (some ⟨tb, 0, none⟩) N N) ∧ Rows w' tb N 0 (wrd N T) ∧ Below w.heap.size w w'
set_option maxHeartbeats 1000000 in
theorem cat_any (N ta tb : Nat) (a b : Tab) (w : World) (hN : N ≤ 25) (hA : Rows w ta N 0 (wrd N a)) (hB : Rows w tb N 0 (wrd N b)) (hT : TabZ w) :
    Calls Tryd.prog 37 #[.slice (some ⟨ta, 0, none⟩) N N, .slice (some ⟨tb, 0, none⟩) N N] w (RetTab w N (tCat a b)) := by
  have hb1 := below2 w (.cells #[.slice (some ⟨ta, 0, none⟩) N N] 47) (.cells #[.slice (some ⟨tb, 0, none⟩) N N] 47)
  have k1 := (Cl.new w 47 [.slice (some ⟨ta, 0, none⟩) N N]).alloc (.cells #[.slice (some ⟨tb, 0, none⟩) N N] 47)
  have k2 : Cl ((w.alloc (.cells #[.slice (some ⟨ta, 0, none⟩) N N] 47)).alloc (.cells #[.slice (some ⟨tb, 0, none⟩) N N] 47)) (w.heap.size + 1) 47 [.slice (some ⟨tb, 0, none⟩) N N] := by
    have := Cl.new (w.alloc (.cells #[.slice (some ⟨ta, 0, none⟩) N N] 47)) 47 [.slice (some ⟨tb, 0, none⟩) N N]
    simpa only [World.size_alloc] using this
  have HR := rbr75 (.pointer (some ⟨w.heap.size, 0, none⟩)) (.pointer (some ⟨w.heap.size + 1, 0, none⟩)) _ N (wrd N (tCat a b)) hN (fun k t' W hk hW _ _ => catf_any N k w.heap.size (w.heap.size + 1) ta tb a b (.slice (some ⟨t', 0, none⟩) N N) W hN hk (k1.below hW) (k2.below hW) ((hA.below hb1).below hW) ((hB.below hb1).below hW) ((hT.below hb1).below hW))
  have hmf := mk_func
  clear k1 k2 hA hB hT
  go_enter Tryd.func37, Tryd.ntmps37
  go_wp2_with (go_at_call 43; refine HR.mono ?_; rintro e w2 ⟨t2, rfl, hr2, hb2, _⟩)
  go_ret
  exact ⟨t2, rfl, hr2, hb1.trans (hb2.mono (by simp; omega))⟩
end Go.Proofs.YtiiecppkabdkgabDoor
namespace Go.Proofs.YtiiecppkabdkgabDoor
open Go.RowKit
theorem alt_word {N : Nat} (hN : N ≤ 25) (a b : Tab) (k : Nat) : 0 ||| wrd N a k * 2 ^ 0 ||| wrd N b k * 2 ^ 0 = wrd N (tAlt a b) k := by
  refine word_is hN fun d => ?_
  rw [Nat.testBit_or, Nat.testBit_or, mul_bit, mul_bit, wrd_bit hN, wrd_bit hN]
  simp [tAlt, Bool.and_or_distrib_left]
theorem stay_word {N : Nat} (hN : N ≤ 25) {k : Nat} (hk : k < N) : 1 = wrd N tStay k := by
  refine word_is hN fun d => ?_
  cases d with
  | zero => simp [tStay, hk]
  | succ d => rw [Nat.testBit_succ]; simp [tStay]
set_option maxRecDepth 10000 in
set_option maxHeartbeats 2000000 in
theorem altf_any (N k p q ta tb : Nat) (a b : Tab) (v : Value) (W : World) (hN : N ≤ 25) (hk : k < N) (hp : Cl W p 47 [.slice (some ⟨ta, 0, none⟩) N N]) (hq : Cl W q 47 [.slice (some ⟨tb, 0, none⟩) N N]) (hA : Rows W ta N 0 (wrd N a)) (hB : Rows W tb N 0 (wrd N b)) :
    Calls Tryd.prog 46 #[v, .int .i64 (k : Nat), .pointer (some ⟨p, 0, none⟩), .pointer (some ⟨q, 0, none⟩)] W fun e w' => ∃ r, e = .returned r ∧ RowV w' r (wrd N (tAlt a b) k) ∧ Below W.heap.size W w' := by
  have hki : (k : Int) < (N : Int) := by omega
  obtain ⟨rao, rl, rcap, dr, hr, htal⟩ := hA.get hk
  obtain ⟨sao, sl, scap, ds, hs, htbl⟩ := hB.get hk
  have hx := wrd_lt N a k
  have hy := wrd_lt N b k
  have hal := alt_word hN a b k
  have HX : Hid (∀ W', Below W.heap.size W W' → ((W'.cell? ⟨p, 0, none⟩ = some (.slice (some ⟨ta, 0, none⟩) N N) ∧ W'.cell? ⟨q, 0, none⟩ = some (.slice (some ⟨tb, 0, none⟩) N N)) ∧ W'.cell? ⟨ta, k, none⟩ = some (.slice rao rl rcap) ∧ W'.cell? ⟨tb, k, none⟩ = some (.slice sao sl scap)) ∧ RowV W' (.slice rao rl rcap) (wrd N a k) ∧ RowV W' (.slice sao sl scap) (wrd N b k)) := fun W' h => ⟨⟨⟨(hp.below h).cell 0 rfl, (hq.below h).cell 0 rfl⟩, by rw [h.cell (p := ⟨ta, k, none⟩) htal]; exact dr, by rw [h.cell (p := ⟨tb, k, none⟩) htbl]; exact ds⟩, hr.below h, hs.below h⟩
  generalize wrd N a k = x at *
  generalize wrd N b k = y at *
  generalize wrd N (tAlt a b) k = z at *
  clear hA hB hp hq dr ds hr hs
  have m1 : Hid True := trivial
  have hc0 := (HX.out _ (Below.refl W.heap.size W).drew).1
  have tB1 : Below W.heap.size W (W.alloc (.cells #[] 39)).drew := (below1 W _).drew
  obtain ⟨hc1, ra, rb⟩ := HX.out _ tB1
  have TB : Hid _ := tB1
  have O0 : OwR (W.alloc (.cells #[] 39)).drew W.heap.size (.slice (some ⟨W.heap.size, 0, none⟩) 0 0) 0 := ⟨by decide, .inl ⟨rfl, _, rfl⟩⟩
  have HW := with_any W.heap.size _ _ 0 x 0 _ O0 ra (by decide) (by omega) tB1.size
  clear tB1 O0
  go_enter Tryd.func46, Tryd.ntmps46
  go_wp2_with fail
  go_region_held3 (fun w' => (w'.cell? ⟨p, 0, none⟩ = some (.slice (some ⟨ta, 0, none⟩) N N) ∧ w'.cell? ⟨q, 0, none⟩ = some (.slice (some ⟨tb, 0, none⟩) N N)) ∧ w'.cell? ⟨ta, k, none⟩ = some (.slice rao rl rcap) ∧ w'.cell? ⟨tb, k, none⟩ = some (.slice sao sl scap)) (first | exact hc1 | exact hc0 | exact hc2 | exact hc3)
    (first
      | (go_at_call 45; clear m1; refine HW.mono ?_; rintro e w1 ⟨r1, rfl, o1, b1⟩; obtain ⟨o1a, o1l, o1c, rfl⟩ := o1.row.slice; have tB := TB.out.trans b1; clear TB ra rb; obtain ⟨hc2, ra, rb⟩ := HX.out _ tB; have TB2 : Hid _ := tB; clear tB)
      | (go_at_call 45; refine (with_any W.heap.size _ _ _ y 0 _ o1 rb (by decide) (by omega) TB2.out.size).mono ?_; rintro e w3 ⟨r3, rfl, o3, b3⟩; obtain ⟨o3a, o3l, o3c, rfl⟩ := o3.row.slice; have tB3 := TB2.out.trans b3; have hc3 := (HX.out _ tB3).1))
  all_goals
    go_wp2_with fail
    go_ret
    exact ⟨_, rfl, by rw [← hal]; exact o3.row, tB3⟩
set_option maxHeartbeats 1000000 in
theorem alt_any (N ta tb : Nat) (a b : Tab) (w : World) (hN : N ≤ 25) (hA : Rows w ta N 0 (wrd N a)) (hB : Rows w tb N 0 (wrd N b)) :
    Calls Tryd.prog 38 #[.slice (some ⟨ta, 0, none⟩) N N, .slice (some ⟨tb, 0, none⟩) N N] w (RetTab w N (tAlt a b)) := by
  have hb1 := below2 w (.cells #[.slice (some ⟨ta, 0, none⟩) N N] 47) (.cells #[.slice (some ⟨tb, 0, none⟩) N N] 47)
  have k1 := (Cl.new w 47 [.slice (some ⟨ta, 0, none⟩) N N]).alloc (.cells #[.slice (some ⟨tb, 0, none⟩) N N] 47)
  have k2 : Cl ((w.alloc (.cells #[.slice (some ⟨ta, 0, none⟩) N N] 47)).alloc (.cells #[.slice (some ⟨tb, 0, none⟩) N N] 47)) (w.heap.size + 1) 47 [.slice (some ⟨tb, 0, none⟩) N N] := by
    have := Cl.new (w.alloc (.cells #[.slice (some ⟨ta, 0, none⟩) N N] 47)) 47 [.slice (some ⟨tb, 0, none⟩) N N]
    simpa only [World.size_alloc] using this
  have HR := rbr77 (.pointer (some ⟨w.heap.size, 0, none⟩)) (.pointer (some ⟨w.heap.size + 1, 0, none⟩)) _ N (wrd N (tAlt a b)) hN (fun k t' W hk hW _ _ => altf_any N k w.heap.size (w.heap.size + 1) ta tb a b (.slice (some ⟨t', 0, none⟩) N N) W hN hk (k1.below hW) (k2.below hW) ((hA.below hb1).below hW) ((hB.below hb1).below hW))
  have hmf := mk_func
  clear k1 k2 hA hB
  go_enter Tryd.func38, Tryd.ntmps38
  go_wp2_with (go_at_call 43; refine HR.mono ?_; rintro e w2 ⟨t2, rfl, hr2, hb2, _⟩)
  go_ret
  exact ⟨t2, rfl, hr2, hb1.trans (hb2.mono (by simp; omega))⟩
theorem stayf_any (N k : Nat) (v : Value) (W : World) (hN : N ≤ 25) (hk : k < N) : Calls Tryd.prog 60 #[v, .int .i64 (k : Nat)] W fun e w' => ∃ r, e = .returned r ∧ RowV w' r (wrd N tStay k) ∧ Below W.heap.size W w' := by
  have HF : Hid (RowV (W.alloc (.cells #[.int .u64 1] 39)) (.slice (some ⟨W.heap.size, 0, none⟩) 1 1) (wrd N tStay k)) := by
    rw [← stay_word hN hk]
    exact ⟨by decide, .inr ⟨W.heap.size, 1, #[.int .u64 1], (0, 0), rfl, heap_alloc_new W _, rfl⟩⟩
  go_enter Tryd.func60, Tryd.ntmps60
  go_wp2
  go_ret
  exact ⟨_, rfl, HF.out, below1 _ _⟩
theorem stay_any (N : Nat) (w : World) (hN : N ≤ 25) : Calls Tryd.prog 49 #[.int .i64 (N : Nat)] w (RetTab w N tStay) := by
  have HR := rbr89 w N (wrd N tStay) hN (fun k t' W hk _ _ _ => stayf_any N k (.slice (some ⟨t', 0, none⟩) N N) W hN hk)
  go_enter Tryd.func49, Tryd.ntmps49
  go_wp2_with (go_at_call 43; refine HR.mono ?_; rintro e w2 ⟨t2, rfl, hr2, hb2, _⟩)
  go_ret
  exact ⟨t2, rfl, hr2, hb2⟩
end Go.Proofs.YtiiecppkabdkgabDoor
