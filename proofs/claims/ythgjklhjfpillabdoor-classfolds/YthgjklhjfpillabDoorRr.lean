/- runs: the first runs of a class, in a slice of its own: the walk. -/
import Derived.Test.YthgjklhjfpillabDoorIp
namespace Go.Proofs.YthgjklhjfpillabDoor
open Go.RowKit Go.Shelf
attribute [local go_sem] Oper.semAt_some
theorem b_run : (Tryd.prog.info? 36).map (fun i => (i.zero, i.size, i.bytes)) = some (some (.agg #[.int .u8 0, .int .u8 0]), 2, 2) := by kernel_rfl
/-- A row of runs as values. -/
def runV (l : List (Nat × Nat)) : List Value := l.flatMap fun r => [Value.int .u8 (r.1 : Nat), Value.int .u8 (r.2 : Nat)]
/-- A list of runs in memory of its own; nothing old has turned. -/
def RetRn (w : World) (l : List (Nat × Nat)) (e : Ending) (w' : World) : Prop := ∃ ao cap, e = .returned (.slice ao l.length cap) ∧ w'.ownsRow w.heap.size 36 2 (.slice ao l.length cap) l.length (runV l) ∧ Below w.heap.size w w'
theorem two_new (w : World) (x y : Value) (t : TypeId) : ∀ j u, [x, y][j]? = some u → (w.alloc (.cells #[x, y] t)).cell? ((⟨w.heap.size, 0, none⟩ : Addr).add j) = some u := by
  intro j u hj
  have h := heap_alloc_new w (.cells #[x, y] t)
  match j, hj with
  | 0, hj => cases hj; show World.cell? _ ⟨w.heap.size, 0, none⟩ = _; rw [Lib.cell_of_heap h]; rfl
  | 1, hj => cases hj; show World.cell? _ ⟨w.heap.size, 1, none⟩ = _; rw [Lib.cell_of_heap h]; rfl
theorem row2_mono {B B' : Nat} {w : World} {v : Value} {n : Nat} {xs : List Value} (h : w.ownsRow B 36 2 v n xs) (hB : B' ≤ B) : w.ownsRow B' 36 2 v n xs :=
  ⟨h.1, h.2.imp id fun ⟨g, cap, cur, e, hg, r⟩ => ⟨g, cap, cur, e, Nat.le_trans hB hg, r⟩⟩
theorem row2_succ {B k : Nat} {w : World} {v : Value} {xs : List Value} (h : w.ownsRow B 36 2 v (k + 1) xs) : ∃ g cap, v = .slice (some ⟨g, 0, none⟩) (k + 1) cap := by
  rcases h.2 with ⟨_, h0⟩ | ⟨g, cap, cur, h', _⟩
  · omega
  · exact ⟨g, cap, h'⟩
theorem run_snoc (l : List (Nat × Nat)) (x : Rn) : runV (l ++ [x].map (·.1)) = runV l ++ [.int .u8 (x.1.1 : Nat), .int .u8 (x.1.2 : Nat)] := by
  simp [runV]
/-- The boxes of classes are as they were. -/
def K26 (W W' : World) : Prop := ∀ (k : Nat) (cs : Array Value) (fz : Nat × Nat), W.heap[k]? = some (.cells cs 24 fz) → W'.heap[k]? = some (.cells cs 24 fz)
theorem K26.trans {A B C : World} (h : K26 A B) (k : K26 B C) : K26 A C := fun i cs fz hi => k i cs fz (h i cs fz hi)
theorem K26.put (W : World) (l : Nat) (o o' : Obj) (h : W.heap[l]? = some o) (ho : o.isCells = false) : K26 W (W.putObj l o') := fun k cs fz hk => by
  rw [World.putObj_heap_other (fun e => by subst e; rw [h] at hk; cases hk; cases ho)]
  exact hk
theorem K26.below {W W' : World} (h : Below W.heap.size W W') : K26 W W' := fun k cs fz hk => by
  rw [h.block k (Array.getElem?_eq_some_iff.1 hk).1]; exact hk
theorem boxed_appended2 {W w1 : World} {n₀ B : Nat} {v v' : Value} {k m : Nat} {xs ys : List Value} {tmp : Obj}
    (hv : Boxed W B 30 v) (hrow : W.ownsRow n₀ 36 2 v k xs) (hBn : B ≤ n₀)
    (hown' : w1.ownsRow n₀ 36 2 v' m ys) (hgrow : (W.alloc tmp).grownBy w1 v.ownBlock) (hle : n₀ ≤ W.heap.size) :
    Boxed w1 B 30 v ∧ Boxed (w1.setCell ⟨B, 0, none⟩ v') B 30 v' ∧ (w1.setCell ⟨B, 0, none⟩ v').ownsRow n₀ 36 2 v' m ys ∧ KeepsOthers W (w1.setCell ⟨B, 0, none⟩ v') ∧ K26 W (w1.setCell ⟨B, 0, none⟩ v') ∧ Below B W (w1.setCell ⟨B, 0, none⟩ v') := by
  obtain ⟨h1, h2, _, h4, h5⟩ := Boxed.appended hv (by decide) (row2_mono hrow hBn) (by omega) (Nat.le_refl B) (row2_mono hown' hBn) hgrow
  refine ⟨h1, h2, hown'.kept (grownBy_setCell' w1 B v') (.inr (h1.not_row (by decide) hown').symm), h4, fun j cs fz hj => ?_, h5⟩
  have hn : j ≠ B := fun e => by subst e; rw [show W.heap[j]? = _ from hv] at hj; cases hj
  rw [Below.heap_setCell _ _ _ _ hn, hgrow.block j (by simp; have := (Array.getElem?_eq_some_iff.1 hj).1; omega) ?_, Below.heap_alloc W tmp j (Array.getElem?_eq_some_iff.1 hj).1]
  · exact hj
  intro e'
  rcases hrow.2 with ⟨rfl, _⟩ | ⟨g, cap, cur, rfl, _, hg, _⟩
  · cases e'
  · simp [Value.ownBlock] at e'
    subst e'
    rw [hj] at hg
    cases hg
set_option maxRecDepth 100000 in
set_option maxHeartbeats 4000000 in
theorem runs_c {P : Nat → Bool} {a b c d : Nat} (h4 : C4 P a b c d) (bc q : Nat) (w : World) (hx : Bx w bc (.int .u64 (a : Nat)) (.int .u64 (b : Nat)) (.int .u64 (c : Nat)) (.int .u64 (d : Nat))) : Calls Tryd.prog 7 #[.func (.func 20) #[] #[.pointer (some ⟨bc, 0, none⟩)], .int .i64 (q : Nat)] w (RetRn w ((rs P 257).1.take q)) := by
  obtain ⟨i0, hi, hz0, hz1, hz2⟩ := info_parts b_run
  have heq : ∀ (fn : Fn) (a b : Array Value) (w : World), (Go.binOp BinOp.eql 33 (.func fn a b) .nilFunc).run Tryd.prog w = Result.ok (.bool false) w := fun _ _ _ _ => rfl
  have hB0 : Below w.heap.size w ((w.alloc (.cells #[.int .i64 (q : Nat)] 3)).alloc (.cells #[.slice none 0 0] 30)) := ((Below.refl _ _).alloc (Nat.le_refl _) _).alloc (by simp) _
  have bM := (Boxed.new w 3 (.int .i64 (q : Nat))).alloc (.cells #[.slice none 0 0] 30)
  have bO := Boxed.new (w.alloc (.cells #[.int .i64 (q : Nat)] 3)) 30 (.slice none 0 0)
  rw [World.size_alloc] at bO
  have hx1 := (hx.alloc (.cells #[.int .i64 (q : Nat)] 3)).alloc (.cells #[.slice none 0 0] 30)
  have hlt := hx.lt
  refine (callsIn_wide (n := 5)).1 ?_
  refine callsIn_of_wp_marks Tryd.func7 rfl trivial ?_ rfl
  simp only [Tryd.ntmps7, List.size_toArray, List.length_cons, List.length_nil, Nat.reduceAdd, Nat.reduceSub, Array.replicate_succ, Array.replicate_zero, List.push_toArray, List.append_toArray, List.nil_append, List.cons_append]
  gi_wp2
  generalize hw1 : (w.alloc (.cells #[.int .i64 (q : Nat)] 3)).alloc (.cells #[.slice none 0 0] 30) = w1 at *
  have hsz1 : w1.heap.size = w.heap.size + 2 := by rw [← hw1]; simp
  clear hw1
  refine wpIn_rangeFunc_ownG (n := 5) rfl (by decide) (gf := 20) (lb := #[.pointer (some ⟨bc, 0, none⟩)]) rfl trivial (enters_of Tryd.func20 (by kernel_rfl) rfl)
    (w0 := w1) (encs := fun x : Rn => #[Value.int .u8 (x.1.1 : Nat), Value.int .u8 (x.1.2 : Nat)]) (Kp := K26) (S := fun ys => ys.map (·.1) = (rs P 257).1) (Sp := fun ys => ys.map (·.1) <+: (rs P 257).1) (N := 257)
    (fun l J Jx W hW hA _ hY h0 => runs_seqp h4 hx1 (fun X Y hk hb => hk _ _ _ hb) hW hA hY h0)
    K26.trans (fun W l o o' _ h ho _ => K26.put W l o o' h ho) (Below.refl _ _) (fun _ => rfl)
    (fun (pre : List Rn) W => (∃ v, Boxed W (w.heap.size + 1) 30 v ∧ W.ownsRow w1.heap.size 36 2 v pre.length (runV (pre.map (·.1))) ∧ pre.length ≤ q) ∧ Below (w.heap.size + 1) w1 W)
    (fun c (pre : List Rn) W => (∃ v, Boxed W (w.heap.size + 1) 30 v ∧ W.ownsRow w1.heap.size 36 2 v q (runV ((pre.map (·.1)).take q)) ∧ (c = .exit 0 ∧ q < pre.length)) ∧ Below (w.heap.size + 1) w1 W)
    (OwnFrom.and (Own.from (holdsRow_own w1.heap.size (w.heap.size + 1) 30 36 2 (fun (pre : List Rn) => pre.length) (fun (pre : List Rn) => runV (pre.map (·.1))) (fun pre _ => pre.length ≤ q)) _) (ownFrom_below (by omega) (by omega)))
    (fun c => OwnFrom.and (Own.from (holdsRow_own w1.heap.size (w.heap.size + 1) 30 36 2 (fun (_ : List Rn) => q) (fun (pre : List Rn) => runV ((pre.map (·.1)).take q)) (fun pre _ => c = .exit 0 ∧ q < pre.length)) _) (ownFrom_below (by omega) (by omega)))
    ⟨⟨_, bO, World.ownsRow_nil _ _ _ _, Nat.zero_le _⟩, Below.refl _ _⟩
    (fun x => { tmps := #[.func (.func 20) #[] #[.pointer (some ⟨bc, 0, none⟩)], .int .i64 (q : Nat), undef, .pointer (some ⟨w.heap.size, 0, none⟩), .slice none 0 0, .pointer (some ⟨w.heap.size + 1, 0, none⟩), .int .u8 (x.1.1 : Nat), .int .u8 (x.1.2 : Nat), .func (.func 20) #[] #[.pointer (some ⟨bc, 0, none⟩)], .bool false, .func (.func 20) #[] #[.pointer (some ⟨bc, 0, none⟩)], .int .u8 (x.1.1 : Nat), .int .u8 (x.1.2 : Nat), undef, undef, undef, undef, undef, undef, undef, undef, undef, undef, undef], defers := [] }) ?assign ?body ?done ?stop
  case assign =>
    intro l x W K hK
    gi_wp2
    exact hK
  case body =>
    rintro l pre x W ⟨⟨v, hv, hrow, hpq⟩, hB⟩ hlt2
    have hc := hv.cell
    have hM : W.cell? ⟨w.heap.size, 0, none⟩ = some (.int .i64 (q : Nat)) := by rw [hB.cell (p := ⟨w.heap.size, 0, none⟩) (by show w.heap.size < _; omega)]; exact bM.cell
    have hszW : w1.heap.size ≤ W.heap.size := hB.size
    obtain ⟨ao, cap, rfl⟩ : ∃ ao cap, v = .slice ao pre.length cap := by
      rcases hrow.2 with ⟨h, h0⟩ | ⟨g, cap, cur, h, _⟩
      · exact ⟨none, 0, by rw [h, h0]⟩
      · exact ⟨_, cap, h⟩
    by_cases hge : q ≤ pre.length
    · have hgi : (q : Int) ≤ (pre.length : Int) := by omega
      gi_wp2
      have e : q = pre.length := by omega
      have e2 : (((pre ++ [x]).map (·.1)).take q) = pre.map (·.1) := by
        rw [List.map_append]; exact List.take_left' (by rw [List.length_map, e])
      refine ⟨(KeepsOthers.refl _).from _, ⟨_, hv, ?_, rfl, by rw [List.length_append, List.length_singleton]; omega⟩, hB⟩
      show W.ownsRow w1.heap.size 36 2 _ q (runV (((pre ++ [x]).map (·.1)).take q))
      rw [e2, e]
      exact hrow
    · have hgi : ¬ ((q : Int) ≤ (pre.length : Int)) := by omega
      gi_wp2_with (gi_at_builtin; refine wpListIn_append_own _ rfl _ _ 30 rfl w1.heap.size 36 i0 (.agg #[.int .u8 0, .int .u8 0]) 2 2 Tryd.underlying30 hi hz0 hz1 hz2 rfl (by decide) _ _ _ rfl (hrow.alloc _) ⟨W.heap.size, 0, none⟩ 1 1 [.int .u8 (x.1.1 : Nat), .int .u8 (x.1.2 : Nat)] rfl rfl (two_new _ _ _ _) (by simp [Value.oneCell']) (by unfold maxLen; omega) (by omega) (by simp; omega) ?_; intro v' w2 hown' hgrow _; obtain ⟨g', cap', rfl⟩ := row2_succ hown'; obtain ⟨hv1, hv2, hr2, hk2, hb2, hb3⟩ := boxed_appended2 hv hrow (by omega) hown' hgrow hszW; have hc1 := hv1.cell; have hf1 := hv1.frozen)
      exact ⟨hk2.from _, hb2, ⟨_, hv2, by rw [List.map_append, run_snoc, List.length_append]; rw [hsz1] at hr2; exact hr2, by rw [List.length_append, List.length_singleton]; omega⟩, hB.trans hb3⟩
  case done =>
    rintro D ys W hD hys ⟨⟨v, hv, hrow, hpq⟩, hB⟩ hK
    have hc := hv.cell
    gi_wp2
    have hl : ((rs P 257).1.take q) = (rs P 257).1 := List.take_of_length_le (by rw [← hys, List.length_map]; exact hpq)
    have hn : ys.length = ((rs P 257).1.take q).length := by rw [hl, ← hys, List.length_map]
    replace hrow : W.ownsRow w1.heap.size 36 2 v ((rs P 257).1.take q).length (runV ((rs P 257).1.take q)) := by rw [hl, ← hys, List.length_map]; exact hrow
    refine ⟨by simp, .inl ⟨_, _, rfl, run_takeDeferred hK, ?_⟩⟩
    obtain ⟨ao, cap, rfl⟩ : ∃ ao cap, v = .slice ao ((rs P 257).1.take q).length cap := by
      rcases hrow.2 with ⟨h, h0⟩ | ⟨g, cap, cur, h, _⟩
      · exact ⟨none, 0, by rw [h, h0]⟩
      · exact ⟨_, cap, h⟩
    have hr3 := row2_mono (ownsRow_putObj hrow (.deferred none) hK rfl) (show w.heap.size ≤ w1.heap.size by omega)
    exact ⟨_, results_tmp rfl _ _ _, ao, cap, rfl, hr3, (hB0.trans (hB.mono (by omega))).trans (belowK_b (w := w) (Nat.le_refl _) W D _ _ (by omega) hK rfl rfl)⟩
  case stop =>
    rintro D c pre W hD hsp ⟨⟨v, hv, hrow, rfl, hpl⟩, hB⟩ hK
    have hc := hv.cell
    gi_wp2
    have hl : ((rs P 257).1.take q) = ((pre.map (·.1)).take q) := by
      obtain ⟨t, ht⟩ := hsp
      rw [← ht]
      exact List.take_append_of_le_length (by rw [List.length_map]; omega)
    have hn : ((rs P 257).1.take q).length = q := by rw [hl, List.length_take, List.length_map]; omega
    replace hrow : W.ownsRow w1.heap.size 36 2 v ((rs P 257).1.take q).length (runV ((rs P 257).1.take q)) := by rw [hn, hl]; exact hrow
    refine ⟨by simp, .inl ⟨_, _, rfl, run_takeDeferred hK, ?_⟩⟩
    obtain ⟨ao, cap, rfl⟩ : ∃ ao cap, v = .slice ao ((rs P 257).1.take q).length cap := by
      rcases hrow.2 with ⟨h, h0⟩ | ⟨g, cap, cur, h, _⟩
      · exact ⟨none, 0, by rw [h, h0]⟩
      · exact ⟨_, cap, h⟩
    have hr3 := row2_mono (ownsRow_putObj hrow (.deferred none) hK rfl) (show w.heap.size ≤ w1.heap.size by omega)
    exact ⟨_, results_tmp rfl _ _ _, ao, cap, rfl, hr3, (hB0.trans (hB.mono (by omega))).trans (belowK_b (w := w) (Nat.le_refl _) W D _ _ (by omega) hK rfl rfl)⟩
end Go.Proofs.YthgjklhjfpillabDoor
