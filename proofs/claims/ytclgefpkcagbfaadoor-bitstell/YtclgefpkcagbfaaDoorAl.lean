/- The law's all: the numbers of a set, in a slice of its own: the walk. -/
import Derived.Test.YtclgefpkcagbfaaDoorIt
namespace Go.Proofs.YtclgefpkcagbfaaDoor
open Go.RowKit Go.Shelf
attribute [local go_sem] Oper.semAt_some
/-- A row of numbers as values. -/
def ints (l : List Nat) : List Value := l.map fun x => Value.int .i64 (x : Nat)
theorem ints_len (l : List Nat) : (ints l).length = l.length := by simp [ints]
/-- What a call answers that makes a list: the list, in memory of its own; nothing old has turned. -/
def RetInts (w : World) (l : List Nat) (e : Ending) (w' : World) : Prop := ∃ v, e = .returned v ∧ w'.ownsRow w.heap.size 3 1 v l.length (ints l) ∧ Below w.heap.size w w'
theorem ownsRow_mono {B B' : Nat} {w : World} {t : TypeId} {v : Value} {n : Nat} {xs : List Value} (h : w.ownsRow B t 1 v n xs) (hB : B' ≤ B) : w.ownsRow B' t 1 v n xs :=
  ⟨h.1, h.2.imp id fun ⟨g, cap, cur, e, hg, r⟩ => ⟨g, cap, cur, e, Nat.le_trans hB hg, r⟩⟩
theorem boxed_appended {W w1 : World} {n₀ B : Nat} {t e : TypeId} {v v' : Value} {k m : Nat} {xs ys : List Value} {tmp : Obj}
    (hv : Boxed W B t v) (hte : t ≠ e) (hrow : W.ownsRow n₀ e 1 v k xs) (hn₀ : n₀ ≤ W.heap.size) (hBn : B ≤ n₀)
    (hown' : w1.ownsRow n₀ e 1 v' m ys) (hgrow : (W.alloc tmp).grownBy w1 v.ownBlock) :
    Boxed w1 B t v ∧ Boxed (w1.setCell ⟨B, 0, none⟩ v') B t v' ∧ (w1.setCell ⟨B, 0, none⟩ v').ownsRow n₀ e 1 v' m ys ∧ KeepsOthers W (w1.setCell ⟨B, 0, none⟩ v') ∧ Exc B n₀ W (w1.setCell ⟨B, 0, none⟩ v') ∧ Below B W (w1.setCell ⟨B, 0, none⟩ v') := by
  obtain ⟨h1, h2, _, h4, h5⟩ := Boxed.appended hv hte (ownsRow_mono hrow hBn) (by omega) (Nat.le_refl B) (ownsRow_mono hown' hBn) hgrow
  refine ⟨h1, h2, hown'.kept (grownBy_setCell' w1 B v') (.inr (h1.not_row hte hown').symm), h4, ⟨h5.size, fun j hj hn => ?_⟩, h5⟩
  rw [Below.heap_setCell _ _ _ _ hn, hgrow.block j (by simp; omega) ?_, Below.heap_alloc W tmp j (by omega)]
  intro e'
  have := (hrow.lt j e'.symm).1
  omega
set_option maxRecDepth 100000 in
set_option maxHeartbeats 2000000 in
/-- all. -/
theorem all_any {w : World} {x : Value} {n : Nat} {P : Nat → Bool} (h : Arg w x n P) (hT : Tab w) : Calls Tryd.prog 14 #[x] w (RetInts w (come P n)) := by
  obtain ⟨m, a0, l0, c0, rfl⟩ := h.shape
  obtain ⟨i0, hi, hz0, hz1, hz2⟩ := info_parts Tryd.info3
  have hB0 : Below w.heap.size w ((w.alloc (.cells #[.int .i64 m, .slice a0 l0 c0] 24)).alloc (.cells #[.slice none 0 0] 26)) := ((Below.refl _ _).alloc (Nat.le_refl _) _).alloc (by simp) _
  have bO := Boxed.new (w.alloc (.cells #[.int .i64 m, .slice a0 l0 c0] 24)) 26 (.slice none 0 0)
  rw [World.size_alloc] at bO
  have heq : ∀ (fn : Fn) (a b : Array Value) (w : World), (Go.binOp BinOp.eql 51 (.func fn a b) .nilFunc).run Tryd.prog w = Result.ok (.bool false) w := fun _ _ _ _ => rfl
  refine (callsIn_wide (n := 5)).1 ?_
  refine callsIn_of_wp_marks Tryd.func14 rfl trivial ?_ rfl
  simp only [Tryd.ntmps14, List.size_toArray, List.length_cons, List.length_nil, Nat.reduceAdd, Nat.reduceSub, Array.replicate_succ, Array.replicate_zero, List.push_toArray, List.append_toArray, List.nil_append, List.cons_append]
  gi_wp2_with (refine ⟨trivial, ?_⟩; gi_at_call 29; refine (callsIn_wide.2 (all_mk (h.below hB0))).mono ?_; rintro e w1 ⟨bc, ao, len, cap, f, rfl, hbx, hbc, ho, hs, hb⟩)
  have bO1 : Boxed w1 (w.heap.size + 1) 26 (.slice none 0 0) := (hb.block _ bO.lt).trans bO
  have hB1 : Below w.heap.size w w1 := hB0.trans (hb.mono (by simp; omega))
  have hsz2 : w.heap.size + 2 ≤ w1.heap.size := by have := hb.size; simpa using this
  have hbc2 : w.heap.size + 2 ≤ bc := by simpa using hbc
  have ho2 : Own (w.heap.size + 2) w1 ao len f := by simpa using ho
  have hT1 : Tab w1 := hT.below hB1
  have hle : n ≤ 64 * len := by have := hs.hlen; omega
  have hcn : come P (64 * len) = come P n := come_all hs.hout hle
  have hlen8 : (come P (64 * len)).length ≤ 8192 := by rw [hcn]; have := come_len P n; have := hs.hle; omega
  clear hbc hb ho bO hB0 h
  refine wpIn_rangeFunc_ownG rfl (by decide) (gf := 38) (lb := #[.pointer (some ⟨bc, 0, none⟩)]) rfl trivial (enters_of Tryd.func38 (by kernel_rfl) rfl)
    (w0 := w1) (encs := fun x : Nat => #[Value.int .i64 (x : Nat)]) (Kp := Exc (w.heap.size + 1) w1.heap.size) (S := fun ys => ys = come P (64 * len)) (Sp := fun _ => True) (N := (come P (64 * len)).length)
    (fun l J Jx W hW _ _ hY h0 => it_in 4 l bc (w.heap.size + 1) w1.heap.size hs J Jx (by decide) hY W (hbx.below hW) (ho2.rd.below hW) (hT1.below hW) (fun a e => by have := ho2.lt a e; omega) (by omega) (by omega) h0)
    Exc.trans (fun W l o o' hl h _ _ => Exc.put (Nat.le_refl _) W l o o' hl h) (Below.refl _ _) (fun _ => rfl)
    (fun pre W => (∃ v, Boxed W (w.heap.size + 1) 26 v ∧ W.ownsRow w1.heap.size 3 1 v pre.length (ints pre) ∧ True) ∧ Below (w.heap.size + 1) w1 W)
    (fun _ _ _ => False)
    (OwnFrom.and (Own.from (holdsRow_own w1.heap.size (w.heap.size + 1) 26 3 1 (fun pre => pre.length) ints (fun _ _ => True)) _) (ownFrom_below (by omega) (by omega)))
    (fun _ _ _ _ _ hs _ _ => hs)
    ⟨⟨_, bO1, World.ownsRow_nil _ _ _ _, trivial⟩, Below.refl _ _⟩
    (fun x => { tmps := #[.agg #[.int .i64 m, .slice a0 l0 c0], .pointer (some ⟨w.heap.size, 0, none⟩), .slice none 0 0, .pointer (some ⟨w.heap.size + 1, 0, none⟩), .func (.func 38) #[] #[.pointer (some ⟨bc, 0, none⟩)], .int .i64 (x : Nat),
      .agg #[.int .i64 m, .slice a0 l0 c0], .func (.func 38) #[] #[.pointer (some ⟨bc, 0, none⟩)], .func (.func 38) #[] #[.pointer (some ⟨bc, 0, none⟩)], .bool false, .func (.func 38) #[] #[.pointer (some ⟨bc, 0, none⟩)], .int .i64 (x : Nat), undef, undef, undef, undef, undef], defers := [] }) ?assign ?body ?done ?stop
  case assign =>
    intro l x W K hK
    gi_wp2
    exact hK
  case body =>
    rintro l pre x W ⟨⟨v, hv, hrow, _⟩, hB⟩ hlt
    have hc := hv.cell
    have hszW : w1.heap.size ≤ W.heap.size := hB.size
    gi_wp2_with (gi_at_builtin; refine wpListIn_append_own _ rfl _ _ 26 rfl w1.heap.size 3 i0 (.int .i64 0) 1 8 Tryd.underlying26 hi hz0 hz1 hz2 rfl (by decide) _ _ _ rfl (hrow.alloc _) ⟨W.heap.size, 0, none⟩ 1 1 [.int .i64 (x : Nat)] rfl rfl (cell_one_new _ _ _) (by simp [Value.oneCell']) (by unfold maxLen; omega) (by omega) (by simp; omega) ?_; intro v' w2 hown' hgrow _; obtain ⟨g', cap', rfl⟩ := ownsRow_succ hown'; obtain ⟨hv1, hv2, hr2, hk2, hb2, hb3⟩ := boxed_appended hv (by decide) hrow hszW (by omega) hown' hgrow; have hc1 := hv1.cell; have hf1 := hv1.frozen)
    exact ⟨hk2.from _, hb2, ⟨_, hv2, by simpa [ints] using hr2, trivial⟩, hB.trans hb3⟩
  case done =>
    rintro D ys W hD rfl ⟨⟨v, hv, hrow, _⟩, hB⟩ hK
    have hc := hv.cell
    gi_wp2
    refine ⟨by simp, .inl ⟨_, _, rfl, run_takeDeferred hK, ?_⟩⟩
    rw [← hcn]
    exact ⟨_, results_tmp rfl _ _ _, v, rfl, ownsRow_mono (ownsRow_putObj hrow _ hK rfl) (by omega), (hB1.trans (hB.mono (by omega))).trans (belowK_b (w := w) (Nat.le_refl _) W D _ _ (by omega) hK rfl rfl)⟩
  case stop =>
    rintro D c pre W _ _ h _
    exact h.elim
end Go.Proofs.YtclgefpkcagbfaaDoor
