/- told: the bytes of a class, in a slice of its own: the walk. -/
import Derived.Test.YthgjklhjfpillabDoorBy
import Derived.Test.YthgjklhjfpillabDoorFo
namespace Go.Proofs.YthgjklhjfpillabDoor
open Go.RowKit Go.Shelf
attribute [local go_sem] Oper.semAt_some
theorem boxed_appended {W w1 : World} {n₀ B : Nat} {t : TypeId} {v v' : Value} {k m : Nat} {xs ys : List Value} {tmp : Obj}
    (hv : Boxed W B t v) (hte : t ≠ 5) (hrow : W.ownsRow n₀ 5 1 v k xs) (hBn : B ≤ n₀)
    (hown' : w1.ownsRow n₀ 5 1 v' m ys) (hgrow : (W.alloc tmp).grownBy w1 v.ownBlock) (hle : n₀ ≤ W.heap.size) :
    Boxed w1 B t v ∧ Boxed (w1.setCell ⟨B, 0, none⟩ v') B t v' ∧ (w1.setCell ⟨B, 0, none⟩ v').ownsRow n₀ 5 1 v' m ys ∧ KeepsOthers W (w1.setCell ⟨B, 0, none⟩ v') ∧ KeepC B W (w1.setCell ⟨B, 0, none⟩ v') ∧ Below B W (w1.setCell ⟨B, 0, none⟩ v') := by
  obtain ⟨h1, h2, _, h4, h5⟩ := Boxed.appended hv hte (row_mono hrow hBn) (by omega) (Nat.le_refl B) (row_mono hown' hBn) hgrow
  refine ⟨h1, h2, hown'.kept (grownBy_setCell' w1 B v') (.inr (h1.not_row hte hown').symm), h4, fun j cs t' fz hj hn ht => ?_, h5⟩
  rw [Below.heap_setCell _ _ _ _ hn, hgrow.block j (by simp; have := (Array.getElem?_eq_some_iff.1 hj).1; omega) ?_, Below.heap_alloc W tmp j (Array.getElem?_eq_some_iff.1 hj).1]
  · exact hj
  intro e'
  obtain ⟨c, f, h⟩ := kind_of_owns hrow j e'.symm
  rw [hj] at h
  cases h
  exact ht rfl
set_option maxRecDepth 100000 in
set_option maxHeartbeats 4000000 in
theorem told_c {P : Nat → Bool} {a b c d : Nat} (h4 : C4 P a b c d) (bc : Nat) (w : World) (hx : Bx w bc (.int .u64 (a : Nat)) (.int .u64 (b : Nat)) (.int .u64 (c : Nat)) (.int .u64 (d : Nat))) : Calls Tryd.prog 5 #[.func (.func 18) #[] #[.pointer (some ⟨bc, 0, none⟩)]] w (RetBs w (come P 256)) := by
  obtain ⟨i0, hi, hz0, hz1, hz2⟩ := info_parts b_byte
  have heq : ∀ (fn : Fn) (a b : Array Value) (w : World), (Go.binOp BinOp.eql 28 (.func fn a b) .nilFunc).run Tryd.prog w = Result.ok (.bool false) w := fun _ _ _ _ => rfl
  have hB0 : Below w.heap.size w (w.alloc (.cells #[.slice none 0 0] 25)) := (Below.refl _ _).alloc (Nat.le_refl _) _
  have bO := Boxed.new w 25 (.slice none 0 0)
  have hx1 := hx.alloc (.cells #[.slice none 0 0] 25)
  have hlt := hx.lt
  refine (callsIn_wide (n := 5)).1 ?_
  refine callsIn_of_wp_marks Tryd.func5 rfl trivial ?_ rfl
  simp only [Tryd.ntmps5, List.size_toArray, List.length_cons, List.length_nil, Nat.reduceAdd, Nat.reduceSub, Array.replicate_succ, Array.replicate_zero, List.push_toArray, List.append_toArray, List.nil_append, List.cons_append]
  gi_wp2
  generalize hw1 : w.alloc (.cells #[.slice none 0 0] 25) = w1 at *
  have hsz1 : w1.heap.size = w.heap.size + 1 := by rw [← hw1]; simp
  clear hw1
  refine wpIn_rangeFunc_ownG (n := 5) rfl (by decide) (gf := 18) (lb := #[.pointer (some ⟨bc, 0, none⟩)]) rfl trivial (enters_of Tryd.func18 (by kernel_rfl) rfl)
    (w0 := w1) (encs := fun x : Bt => #[Value.int .u8 (x.1 : Nat)]) (Kp := KeepC w.heap.size) (S := fun ys => ys.map (·.1) = come P 256) (Sp := fun _ => True) (N := 256)
    (fun l J Jx W hW hA _ hY h0 => all_seq h4 hx1 (by omega) hW hA hY h0)
    KeepC.trans (fun W l o o' _ h ho _ => KeepC.put W l o o' h ho) (Below.refl _ _) (fun _ => rfl)
    (fun (pre : List Bt) W => (∃ v, Boxed W w.heap.size 25 v ∧ W.ownsRow w1.heap.size 5 1 v pre.length (byt (pre.map (·.1))) ∧ True) ∧ Below w.heap.size w1 W)
    (fun _ _ _ => False)
    (OwnFrom.and (Own.from (holdsRow_own w1.heap.size w.heap.size 25 5 1 (fun (pre : List Bt) => pre.length) (fun (pre : List Bt) => byt (pre.map (·.1))) (fun _ _ => True)) _) (ownFrom_below (by omega) (by omega)))
    (fun _ _ _ _ _ hs _ _ => hs)
    ⟨⟨_, bO, World.ownsRow_nil _ _ _ _, trivial⟩, Below.refl _ _⟩
    (fun x => { tmps := #[.func (.func 18) #[] #[.pointer (some ⟨bc, 0, none⟩)], undef, .slice none 0 0, .pointer (some ⟨w.heap.size, 0, none⟩), .int .u8 (x.1 : Nat), .func (.func 18) #[] #[.pointer (some ⟨bc, 0, none⟩)], .bool false, .func (.func 18) #[] #[.pointer (some ⟨bc, 0, none⟩)], .int .u8 (x.1 : Nat), undef, undef, undef, undef, undef], defers := [] }) ?assign ?body ?done ?stop
  case assign =>
    intro l x W K hK
    gi_wp2
    exact hK
  case body =>
    rintro l pre x W ⟨⟨v, hv, hrow, _⟩, hB⟩ hlt2
    have hc := hv.cell
    have hszW : w1.heap.size ≤ W.heap.size := hB.size
    gi_wp2_with (gi_at_builtin; refine wpListIn_append_own _ rfl _ _ 25 rfl w1.heap.size 5 i0 (.int .u8 0) 1 1 Tryd.underlying25 hi hz0 hz1 hz2 rfl (by decide) _ _ _ rfl (hrow.alloc _) ⟨W.heap.size, 0, none⟩ 1 1 [.int .u8 (x.1 : Nat)] rfl rfl (cell_one_new _ _ _) (by simp [Value.oneCell']) (by unfold maxLen; omega) (by omega) (by simp; omega) ?_; intro v' w2 hown' hgrow _; obtain ⟨g', cap', rfl⟩ := ownsRow_succ hown'; obtain ⟨hv1, hv2, hr2, hk2, hb2, hb3⟩ := boxed_appended hv (by decide) hrow (by omega) hown' hgrow hszW; have hc1 := hv1.cell; have hf1 := hv1.frozen)
    exact ⟨hk2.from _, hb2, ⟨_, hv2, by simpa [byt] using hr2, trivial⟩, hB.trans hb3⟩
  case done =>
    rintro D ys W hD hys ⟨⟨v, hv, hrow, _⟩, hB⟩ hK
    have hc := hv.cell
    gi_wp2
    refine ⟨by simp, .inl ⟨_, _, rfl, run_takeDeferred hK, ?_⟩⟩
    rw [hys] at hrow
    have hl : ys.length = (come P 256).length := by rw [← hys]; simp
    rw [hl] at hrow
    have hr3 := row_mono (ownsRow_putObj hrow (.deferred none) hK rfl) (show w.heap.size ≤ w1.heap.size by omega)
    obtain ⟨ao, cap, rfl⟩ : ∃ ao cap, v = .slice ao (come P 256).length cap := by
      rcases hrow.2 with ⟨h, h0⟩ | ⟨g, cap, cur, h, _⟩
      · exact ⟨none, 0, by rw [h, h0]⟩
      · exact ⟨_, cap, h⟩
    exact ⟨_, results_tmp rfl _ _ _, ao, cap, rfl, hr3, (hB0.trans hB).trans (belowK_b (w := w) (Nat.le_refl _) W D _ _ (by omega) hK rfl rfl)⟩
  case stop =>
    rintro D c pre W _ _ h _
    exact h.elim
end Go.Proofs.YthgjklhjfpillabDoor
