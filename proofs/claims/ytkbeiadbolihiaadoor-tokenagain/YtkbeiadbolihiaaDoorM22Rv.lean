/- The iterator of Runs, where the caller may leave early: what was told is a head of the runs. runs: the first runs of a class, in a slice of its own: the walk. slices.Equal of runs, where both are the same: the walk. The reference's way to the runs is the program's: the sums. -/
import Derived.Test.YtkbeiadbolihiaaDoorM21To
import Derived.Laws.StructEq
namespace Go.Proofs.YtkbeiadbolihiaaDoor
open Go.RowKit Go.Shelf
attribute [local go_sem] Oper.semAt_some
theorem rs_mono (P : Nat → Bool) (i j : Nat) (h : i ≤ j) : (rs P i).1 <+: (rs P j).1 := by
  induction j with
  | zero => obtain rfl : i = 0 := by omega
            exact List.prefix_refl _
  | succ j ih =>
    by_cases e : i = j + 1
    · subst e; exact List.prefix_refl _
    · refine (ih (by omega)).trans ?_
      rw [rs]
      split
      · exact List.prefix_refl _
      · show (rs P j).1 <+: (ite _ _ _ : List (Nat × Nat))
        split
        · exact List.prefix_append _ _
        · exact List.prefix_refl _
set_option maxRecDepth 100000 in
set_option maxHeartbeats 4000000 in
theorem runsIt_pre {P : Nat → Bool} {a b c d : Nat} (m l bc B : Nat) (h4 : C4 P a b c d) (Kp : World → World → Prop) (J Jx : List (Nat × Nat) → World → Prop) (hm : 1 ≤ m) (hA : AbidesFrom B J)
    (hK : ∀ W W', Kp W W' → Bx W bc (.int .u64 (a : Nat)) (.int .u64 (b : Nat)) (.int .u64 (c : Nat)) (.int .u64 (d : Nat)) → Bx W' bc (.int .u64 (a : Nat)) (.int .u64 (b : Nat)) (.int .u64 (c : Nat)) (.int .u64 (d : Nat)))
    (hY : ∀ pre x W, J pre W → pre.length < 257 → x.1 ≤ x.2 → x.2 < 256 → YieldAt Fence.wide (m - 1) Tryd.prog l #[.int .u8 (x.1 : Nat), .int .u8 (x.2 : Nat)] W fun e W' =>
      (e = .returned (.bool true) ∧ J (pre ++ [x]) W' ∧ Kp W W') ∨ (e = .returned (.bool false) ∧ Jx (pre ++ [x]) W'))
    (W : World) (hb : Bx W bc (.int .u64 (a : Nat)) (.int .u64 (b : Nat)) (.int .u64 (c : Nat)) (.int .u64 (d : Nat))) (h0 : J [] W) :
    CallsIn Fence.wide m Tryd.prog 66 #[.func (.yield l) #[] #[], .pointer (some ⟨bc, 0, none⟩)] W fun e W' => (∃ v, e = .returned v) ∧
      ((∃ ys, ys = (rs P 257).1 ∧ J ys W') ∨ (∃ pre, pre <+: (rs P 257).1 ∧ Jx pre W')) := by
  refine callsIn_of_wp Tryd.func66 rfl trivial ?_ rfl
  simp only [Tryd.ntmps66, List.size_toArray, List.length_cons, List.length_nil, Nat.reduceAdd, Nat.reduceSub, Array.replicate_succ, Array.replicate_zero, List.push_toArray, List.append_toArray, List.nil_append, List.cons_append]
  gi_wp2
  gi_loopw [3, 5] (fun j i wr => ∃ k lo : Nat, k ≤ 257 ∧ i = .int .i64 (k : Nat) ∧ j = .int .i64 (lo : Nat) ∧ (rs P k).2 = lo ∧ J (rs P k).1 wr ∧ Bx wr bc (.int .u64 (a : Nat)) (.int .u64 (b : Nat)) (.int .u64 (c : Nat)) (.int .u64 (d : Nat))) (fun _ i _ => 257 - (intOf i).toNat)
  case atStart => exact ⟨0, 0, by omega, rfl, rfl, rfl, h0, hb⟩
  case round =>
    obtain ⟨k, lo, hk, rfl, rfl, hlo, hJ, hx⟩ := hrel
    obtain ⟨c0, c1, c2, c3, f0, f1, f2, f3⟩ := hx.cells
    have hlk : lo ≤ k := by rw [← hlo]; exact rs_lo P k
    have hlen : k < 257 → (rs P k).1.length < 257 := by have := rs_len P k; omega
    by_cases hlt : k < 257
    · have hlen := hlen hlt
      have hki : (k : Int) < 257 := by omega
      by_cases h256 : k < 256
      · have hk2 : (k : Int) < 256 := by omega
        have hh := has_c h4 k wr h256
        cases hP : P k with
        | true =>
          rw [hP] at hh
          have hin := rs_in h256 hP
          gi_wp2_with (refine ⟨trivial, ?_⟩; gi_at_call 67; refine (callsIn_wide.2 hh).mono ?_; rintro e w1 ⟨rfl, hb1⟩; have hJ1 := abides hA hb1 hJ; have hx1 := hx.below hb1)
          go_roundw
          case rel => exact ⟨k + 1, lo, by omega, by go_num, rfl, by rw [hin]; exact hlo, by rw [hin]; exact hJ1, hx1⟩
          case measure => simp [intOf]; omega
        | false =>
          rw [hP] at hh
          have hq : (decide (k < 256) && P k) = false := by rw [hP, Bool.and_false]
          by_cases hl : lo < k
          · have hout := rs_out hq (by rw [hlo]; exact hl)
            have hpx : Hid ((rs P k).1 ++ [(lo, k - 1)] <+: (rs P 257).1) := (by have h := rs_mono P (k + 1) 257 (by omega); rw [hout, hlo] at h; exact h)
            have hli : (lo : Int) < (k : Int) := by omega
            have hk1 : ((k - 1 : Nat) : Int) = (k : Int) - 1 := by omega
            have hv1 : (lo, k - 1).1 ≤ (lo, k - 1).2 := by show lo ≤ k - 1; omega
            have hv2 : (lo, k - 1).2 < 256 := by show k - 1 < 256; omega
            gi_wp2_with (refine ⟨trivial, ?_⟩; gi_at_call 67; refine (callsIn_wide.2 hh).mono ?_; rintro e w1 ⟨rfl, hb1⟩; have hJ1 := abides hA hb1 hJ; have hx1 := hx.below hb1; obtain ⟨fn, tmps, assign, body, hy, hR⟩ := hY (rs P k).1 (lo, k - 1) w1 hJ1 hlen hv1 hv2; rw [hk1] at hy)
            refine hR.mono ?_
            rintro e W3 (⟨rfl, hJ3, hk3⟩ | ⟨rfl, hJx3⟩)
            · have hx3 := hK _ _ hk3 hx1
              gi_wp2
              go_roundw
              case rel => exact ⟨k + 1, k + 1, by omega, by go_num, by go_num, by rw [hout], by rw [hout, hlo]; exact hJ3, hx3⟩
              case measure => simp [intOf]; omega
            · gi_wp2
              refine bodyPost_ret (results_none rfl _ _ _) rfl ?_
              exact ⟨⟨_, rfl⟩, .inr ⟨_, hpx.out, hJx3⟩⟩
          · have hout := rs_skip hq (by rw [hlo]; exact hl)
            have hli : ¬ ((lo : Int) < (k : Int)) := by omega
            gi_wp2_with (refine ⟨trivial, ?_⟩; gi_at_call 67; refine (callsIn_wide.2 hh).mono ?_; rintro e w1 ⟨rfl, hb1⟩; have hJ1 := abides hA hb1 hJ; have hx1 := hx.below hb1)
            refine ⟨(fun f h => by cases h), ?_⟩
            gi_wp2
            go_roundw
            case rel => exact ⟨k + 1, k + 1, by omega, by go_num, by go_num, by rw [hout], by rw [hout]; exact hJ1, hx1⟩
            case measure => simp [intOf]; omega
      · have hk2 : ¬ ((k : Int) < 256) := by omega
        have hq : (decide (k < 256) && P k) = false := by rw [decide_eq_false h256, Bool.false_and]
        by_cases hl : lo < k
        · have hout := rs_out hq (by rw [hlo]; exact hl)
          have hpx : Hid ((rs P k).1 ++ [(lo, k - 1)] <+: (rs P 257).1) := (by have h := rs_mono P (k + 1) 257 (by omega); rw [hout, hlo] at h; exact h)
          have hli : (lo : Int) < (k : Int) := by omega
          have hk1 : ((k - 1 : Nat) : Int) = (k : Int) - 1 := by omega
          have hv1 : (lo, k - 1).1 ≤ (lo, k - 1).2 := by show lo ≤ k - 1; omega
          have hv2 : (lo, k - 1).2 < 256 := by show k - 1 < 256; omega
          obtain ⟨fn, tmps, assign, body, hy, hR⟩ := hY (rs P k).1 (lo, k - 1) wr hJ hlen hv1 hv2
          rw [hk1] at hy
          gi_wp2
          refine ⟨trivial, ?_⟩
          gi_wp2
          refine hR.mono ?_
          rintro e W3 (⟨rfl, hJ3, hk3⟩ | ⟨rfl, hJx3⟩)
          · have hx3 := hK _ _ hk3 hx
            gi_wp2
            go_roundw
            case rel => exact ⟨k + 1, k + 1, by omega, by go_num, by go_num, by rw [hout], by rw [hout, hlo]; exact hJ3, hx3⟩
            case measure => simp [intOf]; omega
          · gi_wp2
            refine bodyPost_ret (results_none rfl _ _ _) rfl ?_
            exact ⟨⟨_, rfl⟩, .inr ⟨_, hpx.out, hJx3⟩⟩
        · have hout := rs_skip hq (by rw [hlo]; exact hl)
          have hli : ¬ ((lo : Int) < (k : Int)) := by omega
          gi_wp2
          refine ⟨trivial, ?_⟩
          gi_wp2
          refine ⟨(fun f h => by cases h), ?_⟩
          gi_wp2
          go_roundw
          case rel => exact ⟨k + 1, k + 1, by omega, by go_num, by go_num, by rw [hout], by rw [hout]; exact hJ, hx⟩
          case measure => simp [intOf]; omega
    · have hki : ¬ ((k : Int) < 257) := by omega
      have hke : Hid (J (rs P 257).1 wr) := by rw [show 257 = k by omega]; exact hJ
      gi_wp2
      go_end0
      exact ⟨⟨_, rfl⟩, .inl hke.out⟩
theorem runs_seqp {P : Nat → Bool} {a b c d : Nat} {bc l : Nat} {w4 W : World} {Kp : World → World → Prop} {J Jx : List Rn → World → Prop} (h4 : C4 P a b c d) (hx : Bx w4 bc (.int .u64 (a : Nat)) (.int .u64 (b : Nat)) (.int .u64 (c : Nat)) (.int .u64 (d : Nat))) (hKp : ∀ X Y, Kp X Y → Bx X bc (.int .u64 (a : Nat)) (.int .u64 (b : Nat)) (.int .u64 (c : Nat)) (.int .u64 (d : Nat)) → Bx Y bc (.int .u64 (a : Nat)) (.int .u64 (b : Nat)) (.int .u64 (c : Nat)) (.int .u64 (d : Nat))) (hW : Below w4.heap.size w4 W) (hA : AbidesFrom W.heap.size J)
    (hY : ∀ (pre : List Rn) (x : Rn) W1, J pre W1 → pre.length < 257 → YieldAt Fence.wide (5 - 1 - 1) Tryd.prog l #[.int .u8 (x.1.1 : Nat), .int .u8 (x.1.2 : Nat)] W1 fun e W' =>
      (e = .returned (.bool true) ∧ J (pre ++ [x]) W' ∧ Kp W1 W') ∨ (e = .returned (.bool false) ∧ Jx (pre ++ [x]) W')) (h0 : J [] W) :
    CallsIn Fence.wide (5 - 1) Tryd.prog 66 (#[.func (.yield l) #[] #[]] ++ #[.pointer (some ⟨bc, 0, none⟩)]) W fun e W' => (∃ v, e = .returned v) ∧ ((∃ ys : List Rn, ys.map (·.1) = (rs P 257).1 ∧ J ys W') ∨ (∃ pre : List Rn, pre.map (·.1) <+: (rs P 257).1 ∧ Jx pre W')) := by
  have := runsIt_pre 4 l bc W.heap.size h4 Kp (fun pre W => ∃ p : List Rn, p.map (·.1) = pre ∧ J p W) (fun pre W => ∃ p : List Rn, p.map (·.1) = pre ∧ Jx p W) (by decide)
    (fun s X Y row ⟨p, hp, hj⟩ hg hr => ⟨p, hp, hA p X Y row hj hg hr⟩) hKp (fun pre x X hj hlen h1 h2 => by
      obtain ⟨p, hp, hj⟩ := hj
      obtain ⟨fn, tmps, assign, body, hy, hR⟩ := hY p ⟨x, h1, h2⟩ X hj (by rw [← hp] at hlen; simpa using hlen)
      refine ⟨fn, tmps, assign, body, hy, hR.mono ?_⟩
      rintro e X' (⟨he, hj', hk⟩ | ⟨he, hj'⟩)
      · exact .inl ⟨he, ⟨_, by simp [hp], hj'⟩, hk⟩
      · exact .inr ⟨he, ⟨_, by simp [hp], hj'⟩⟩) W (hx.below hW) ⟨[], rfl, h0⟩
  refine this.mono ?_
  rintro e X ⟨hv, ⟨ys, hys, p, hp, hj⟩ | ⟨pre, hpp, p, hp, hj⟩⟩
  · exact ⟨hv, .inl ⟨p, by rw [hp, hys], hj⟩⟩
  · exact ⟨hv, .inr ⟨p, by rw [hp]; exact hpp, hj⟩⟩
end Go.Proofs.YtkbeiadbolihiaaDoor
namespace Go.Proofs.YtkbeiadbolihiaaDoor
open Go.RowKit Go.Shelf
attribute [local go_sem] Oper.semAt_some
theorem b_run : (Tryd.prog.info? 65).map (fun i => (i.zero, i.size, i.bytes)) = some (some (.agg #[.int .u8 0, .int .u8 0]), 2, 2) := by kernel_rfl
/-- A row of runs as values. -/
def runV (l : List (Nat × Nat)) : List Value := l.flatMap fun r => [Value.int .u8 (r.1 : Nat), Value.int .u8 (r.2 : Nat)]
/-- A list of runs in memory of its own; nothing old has turned. -/
def RetRn (w : World) (l : List (Nat × Nat)) (e : Ending) (w' : World) : Prop := ∃ ao cap, e = .returned (.slice ao l.length cap) ∧ w'.ownsRow w.heap.size 65 2 (.slice ao l.length cap) l.length (runV l) ∧ Below w.heap.size w w'
theorem two_new (w : World) (x y : Value) (t : TypeId) : ∀ j u, [x, y][j]? = some u → (w.alloc (.cells #[x, y] t)).cell? ((⟨w.heap.size, 0, none⟩ : Addr).add j) = some u := by
  intro j u hj
  have h := heap_alloc_new w (.cells #[x, y] t)
  match j, hj with
  | 0, hj => cases hj; show World.cell? _ ⟨w.heap.size, 0, none⟩ = _; rw [Lib.cell_of_heap h]; rfl
  | 1, hj => cases hj; show World.cell? _ ⟨w.heap.size, 1, none⟩ = _; rw [Lib.cell_of_heap h]; rfl
theorem row2_mono {B B' : Nat} {w : World} {v : Value} {n : Nat} {xs : List Value} (h : w.ownsRow B 65 2 v n xs) (hB : B' ≤ B) : w.ownsRow B' 65 2 v n xs :=
  ⟨h.1, h.2.imp id fun ⟨g, cap, cur, e, hg, r⟩ => ⟨g, cap, cur, e, Nat.le_trans hB hg, r⟩⟩
theorem row2_succ {B k : Nat} {w : World} {v : Value} {xs : List Value} (h : w.ownsRow B 65 2 v (k + 1) xs) : ∃ g cap, v = .slice (some ⟨g, 0, none⟩) (k + 1) cap := by
  rcases h.2 with ⟨_, h0⟩ | ⟨g, cap, cur, h', _⟩
  · omega
  · exact ⟨g, cap, h'⟩
theorem run_snoc (l : List (Nat × Nat)) (x : Rn) : runV (l ++ [x].map (·.1)) = runV l ++ [.int .u8 (x.1.1 : Nat), .int .u8 (x.1.2 : Nat)] := by
  simp [runV]
/-- The boxes of classes are as they were. -/
def K26 (W W' : World) : Prop := ∀ (k : Nat) (cs : Array Value) (fz : Nat × Nat), W.heap[k]? = some (.cells cs 24 fz) → W'.heap[k]? = some (.cells cs 24 fz)
theorem K26.trans {A B C : World} (h : K26 A B) (k : K26 B C) : K26 A C := fun i cs fz hi => k i cs fz (h i cs fz hi)
theorem K26.put (W : World) (l : Nat) (o o' : Obj) (h : W.heap[l]? = some o) (ho : o.isCells = false) : K26 W (W.putObj l o') := fun k cs fz hk => by
  rw [World.putObj_heap_other (fun e => by subst e; rw [h] at hk; cases hk; cases ho)]
  exact hk
theorem K26.below {W W' : World} (h : Below W.heap.size W W') : K26 W W' := fun k cs fz hk => by
  rw [h.block k (Array.getElem?_eq_some_iff.1 hk).1]; exact hk
theorem boxed_appended2 {W w1 : World} {n₀ B : Nat} {v v' : Value} {k m : Nat} {xs ys : List Value} {tmp : Obj}
    (hv : Boxed W B 62 v) (hrow : W.ownsRow n₀ 65 2 v k xs) (hBn : B ≤ n₀)
    (hown' : w1.ownsRow n₀ 65 2 v' m ys) (hgrow : (W.alloc tmp).grownBy w1 v.ownBlock) (hle : n₀ ≤ W.heap.size) :
    Boxed w1 B 62 v ∧ Boxed (w1.setCell ⟨B, 0, none⟩ v') B 62 v' ∧ (w1.setCell ⟨B, 0, none⟩ v').ownsRow n₀ 65 2 v' m ys ∧ KeepsOthers W (w1.setCell ⟨B, 0, none⟩ v') ∧ K26 W (w1.setCell ⟨B, 0, none⟩ v') ∧ Below B W (w1.setCell ⟨B, 0, none⟩ v') := by
  obtain ⟨h1, h2, _, h4, h5⟩ := Boxed.appended hv (by decide) (row2_mono hrow hBn) (by omega) (Nat.le_refl B) (row2_mono hown' hBn) hgrow
  refine ⟨h1, h2, hown'.kept (grownBy_setCell' w1 B v') (.inr (h1.not_row (by decide) hown').symm), h4, fun j cs fz hj => ?_, h5⟩
  have hn : j ≠ B := fun e => by subst e; rw [show W.heap[j]? = _ from hv] at hj; cases hj
  rw [Below.heap_setCell _ _ _ _ hn, hgrow.block j (by simp; have := (Array.getElem?_eq_some_iff.1 hj).1; omega) ?_, Below.heap_alloc W tmp j (Array.getElem?_eq_some_iff.1 hj).1]
  · exact hj
  intro e'
  rcases hrow.2 with ⟨rfl, _⟩ | ⟨g, cap, cur, rfl, _, hg, _⟩
  · cases e'
  · simp [Value.ownBlock] at e'
    subst e'
    rw [hj] at hg
    cases hg
end Go.Proofs.YtkbeiadbolihiaaDoor
namespace Go.Proofs.YtkbeiadbolihiaaDoor
open Go.RowKit
theorem neq_same52 (x y : Nat) (w : World) : (Go.binOp BinOp.neq 65 (.agg #[.int .u8 (x : Nat), .int .u8 (y : Nat)]) (.agg #[.int .u8 (x : Nat), .int .u8 (y : Nat)])).run Tryd.prog w = Result.ok (.bool false) w := by
  have f52 : Tryd.prog.fieldsOf 65 = #[{ name := "Lo", type := 5, offset := 0, embedded := false, tag := "", pkgPath := "", byteOffset := 0 }, { name := "Hi", type := 5, offset := 1, embedded := false, tag := "", pkgPath := "", byteOffset := 1 }] := by kernel_rfl
  have h : (Op.equalIn (9999 + 1) 65 (.agg #[.int .u8 (x : Nat), .int .u8 (y : Nat)]) (.agg #[.int .u8 (x : Nat), .int .u8 (y : Nat)])).run Tryd.prog w = .ok true w := by
    rw [run_equalIn_struct w 9999 65 _ _ (by kernel_rfl) (by kernel_rfl), f52]
    have p0 : ∀ (a b : Value) w, (part 5 #[a, b] 0).run Tryd.prog w = .ok a w := fun a b w => by kernel_rfl
    have p1 : ∀ (a b : Value) w, (part 5 #[a, b] 1).run Tryd.prog w = .ok b w := fun a b w => by kernel_rfl
    have e5 : ∀ (z : Int) w, (Op.equalIn 9999 5 (.int .u8 z) (.int .u8 z)).run Tryd.prog w = .ok true w := fun z w => by
      rw [run_equalIn_int w 9998 5 _ _ _ _ Tryd.underlying5]; simp
    simp [Op.eqFields, p0, p1, e5]
  simp only [binOp]
  simp only [Op.equal, Op.maxDepth, Sem.run_bind, h, Result.andThen_ok]
  simp
/-- Runs that can be read. -/
structure RdR (w : World) (ao : Option Addr) (n : Nat) (F G : Nat → Nat) : Prop where
  at_ : 0 < n → ∃ g, ao = some ⟨g, 0, none⟩ ∧ g < w.heap.size ∧ ∀ k, k < n → w.cell? ⟨g, k * 2, none⟩ = some (.int .u8 (F k : Nat)) ∧ w.cell? ⟨g, k * 2 + 1, none⟩ = some (.int .u8 (G k : Nat))
theorem runV_at (l : List (Nat × Nat)) (k : Nat) (h : k < l.length) : (runV l)[k * 2]? = some (.int .u8 ((l.getD k (0, 0)).1 : Nat)) ∧ (runV l)[k * 2 + 1]? = some (.int .u8 ((l.getD k (0, 0)).2 : Nat)) := by
  induction l generalizing k with
  | nil => simp at h
  | cons x l ih =>
    have e : runV (x :: l) = Value.int .u8 (x.1 : Nat) :: Value.int .u8 (x.2 : Nat) :: runV l := rfl
    cases k with
    | zero => rw [e]; exact ⟨rfl, rfl⟩
    | succ k =>
      have := ih k (by simp at h; omega)
      rw [e, show (k + 1) * 2 = k * 2 + 1 + 1 by omega]
      simpa using this
theorem RdR.own {B : Nat} {w : World} {ao : Option Addr} {cap n : Nat} {l : List (Nat × Nat)} (h : w.ownsRow B 65 2 (.slice ao n cap) n (runV l)) (m : Nat) (hm : m ≤ n) (hl : l.length = n) : RdR w ao m (fun k => (l.getD k (0, 0)).1) (fun k => (l.getD k (0, 0)).2) := by
  refine ⟨fun h0 => ?_⟩
  rcases h.2 with ⟨h', h0'⟩ | ⟨g, cap', cur, h', hB, hh, _⟩
  · omega
  · obtain ⟨rfl, -, rfl⟩ : ao = some ⟨g, 0, none⟩ ∧ n = n ∧ cap = cap' := by simpa using h'
    refine ⟨g, rfl, (Array.getElem?_eq_some_iff.1 hh).1, fun k hk => ?_⟩
    obtain ⟨e1, e2⟩ := runV_at l k (by omega)
    exact ⟨by rw [h.cellAt (k * 2) (by omega), e1], by rw [h.cellAt (k * 2 + 1) (by omega), e2]⟩
end Go.Proofs.YtkbeiadbolihiaaDoor
namespace Go.Proofs.YtkbeiadbolihiaaDoor
open Go.RowKit
/-- One byte more, as the reference takes it. -/
def more (l : List (Nat × Nat)) (x : Nat) : List (Nat × Nat) :=
  match l.getLast? with
  | some r => if r.2 + 1 = x then l.dropLast ++ [(r.1, x)] else l ++ [(x, x)]
  | none => [(x, x)]
/-- The runs of the bytes below n, by what the program has told and the run that is open. -/
def opn (P : Nat → Bool) (n : Nat) : List (Nat × Nat) := if (rs P n).2 < n then (rs P n).1 ++ [((rs P n).2, n - 1)] else (rs P n).1
theorem rs_no {P : Nat → Bool} {n : Nat} (h : P n = false) : rs P (n + 1) = (opn P n, n + 1) := by
  rw [rs, h, Bool.and_false, if_neg (by decide)]
  rfl
theorem rs_last {P : Nat → Bool} (n : Nat) (hn : n ≤ 256) : ∀ r, (rs P n).1.getLast? = some r → r.2 + 2 ≤ (rs P n).2 := by
  induction n with
  | zero => intro r h; cases h
  | succ n ih =>
    intro r h
    cases hP : P n with
    | true =>
      rw [rs_in (by omega) hP] at h ⊢
      exact ih (by omega) r h
    | false =>
      rw [rs_no hP] at h ⊢
      show r.2 + 2 ≤ n + 1
      unfold opn at h
      split at h
      · rw [List.getLast?_concat] at h
        cases h
        show n - 1 + 2 ≤ n + 1
        omega
      · have := ih (by omega) r h
        have := rs_lo P n
        omega
theorem more_opn {P : Nat → Bool} (n : Nat) (hn : n < 256) (h : P n = true) : more (opn P n) n = opn P (n + 1) := by
  have hlo := rs_lo P n
  have e : opn P (n + 1) = (rs P n).1 ++ [((rs P n).2, n)] := by
    unfold opn
    rw [rs_in hn h, if_pos (by omega)]
    rfl
  rw [e]
  by_cases hl : (rs P n).2 < n
  · have e2 : opn P n = (rs P n).1 ++ [((rs P n).2, n - 1)] := by unfold opn; rw [if_pos hl]
    rw [e2]
    unfold more
    rw [List.getLast?_concat]
    show (if n - 1 + 1 = n then _ else _) = _
    rw [if_pos (by omega), List.dropLast_concat]
  · have e2 : opn P n = (rs P n).1 := by unfold opn; rw [if_neg hl]
    rw [e2]
    have hen : (rs P n).2 = n := by omega
    have hr := rs_last (P := P) n (by omega)
    unfold more
    cases hg : (rs P n).1.getLast? with
    | none =>
      rw [List.getLast?_eq_none_iff] at hg
      rw [hg, hen]
      rfl
    | some r =>
      have := hr r hg
      show (if r.2 + 1 = n then _ else _) = _
      rw [if_neg (by omega), hen]
theorem opn_no {P : Nat → Bool} (n : Nat) (h : P n = false) : opn P n = opn P (n + 1) := by
  rw [show opn P (n + 1) = (rs P (n + 1)).1 from ?_, rs_no h]
  unfold opn
  rw [rs_no h, if_neg (Nat.lt_irrefl _)]
theorem more_all {P : Nat → Bool} (n : Nat) (hn : n ≤ 256) : (come P n).foldl more [] = opn P n := by
  induction n with
  | zero => rfl
  | succ n ih =>
    cases h : P n with
    | false => rw [come_no h, ih (by omega), opn_no n h]
    | true => rw [come_yes h, List.foldl_append, ih (by omega)]; exact more_opn n (by omega) h
theorem more_runs (P : Nat → Bool) : (come P 256).foldl more [] = (rs P 257).1 := by
  rw [more_all 256 (Nat.le_refl _), opn, rs]
  rfl
end Go.Proofs.YtkbeiadbolihiaaDoor
