/- Worlds near one another; cutLast. -/
import Derived.Test.YtehlmjjdegmnaaaDoorCpd
import Derived.Test.YtehlmjjdegmnaaaDoorTail
namespace Go.Proofs.YtehlmjjdegmnaaaDoor
open Go.RowKit

/-- u, but all that was there in W is as it was. -/
def near (W u : World) : World := { u with os := W.os, tape := W.tape, output := W.output, heap := W.heap ++ u.heap.extract W.heap.size }
theorem near_below (W u : World) : Below W.heap.size W (near W u) := by
  refine ⟨rfl, rfl, rfl, ?_, fun k hk => ?_⟩
  · show W.heap.size ≤ (W.heap ++ u.heap.extract W.heap.size).size
    rw [Array.size_append]; omega
  · show (W.heap ++ u.heap.extract W.heap.size)[k]? = _
    rw [Array.getElem?_append_left hk]
theorem near_self {W w : World} (h : Below W.heap.size W w) : near W w = w := by
  have e : W.heap ++ w.heap.extract W.heap.size = w.heap := by
    apply Array.ext_getElem?
    intro i
    by_cases hi : i < W.heap.size
    · rw [Array.getElem?_append_left hi, h.block i hi]
    · rw [Array.getElem?_append_right (by omega), Array.getElem?_extract]
      have := h.size
      by_cases h2 : i < w.heap.size
      · rw [if_pos (by omega), show W.heap.size + (i - W.heap.size) = i by omega]
      · rw [if_neg (by omega), Array.getElem?_eq_none (by omega)]
  unfold near
  rw [e, ← h.os, ← h.tape, ← h.output]
theorem Near.cell {W : World} {b o : Nat} {v : Value} (hc : W.cell? ⟨b, o, none⟩ = some v) (hb : b < W.heap.size) : ∀ u : World, (near W u).cell? ⟨b, o, none⟩ = some v := fun u => by
  rw [(near_below W u).cell (p := ⟨b, o, none⟩) hb]; exact hc
theorem Near.frozen {W : World} {b o : Nat} {v : Bool} (hc : W.frozen? ⟨b, o, none⟩ = v) (hb : b < W.heap.size) : ∀ u : World, (near W u).frozen? ⟨b, o, none⟩ = v := fun u => by
  rw [(near_below W u).frozen (p := ⟨b, o, none⟩) hb]; exact hc
theorem Near.start (W : World) : ∃ u : World, { W with drawn := W.drawn + 1 } = near W u := ⟨W.drew, (near_self (Below.refl _ _).drew).symm⟩
theorem Near.call {P : Program} {f : FuncId} {args : Array Value} {W : World} {u : World} {v : Value} (h : Calls P f args (near W u) fun e w' => e = .returned v ∧ Below (near W u).heap.size (near W u) w') :
    Calls P f args (near W u) fun e w' => e = .returned v ∧ ∃ u' : World, w' = near W u' :=
  h.mono fun _ w' h => ⟨h.1, w', (near_self ((near_below W u).trans (h.2.mono (near_below W u).size))).symm⟩
theorem Near.same {P : Program} {f : FuncId} {args : Array Value} {W : World} {u : World} {v : Value} (h : Calls P f args (near W u) fun e w' => e = .returned v ∧ w' = near W u) :
    Calls P f args (near W u) fun e w' => e = .returned v ∧ ∃ u' : World, w' = near W u' :=
  h.mono fun _ _ h => ⟨h.1, u, h.2⟩

set_option maxHeartbeats 400000 in
theorem cutLast_pos (n m b len cap : Nat) (x : Nat) (w : World) (hn0 : (0 : Int) < (n : Int)) (hn : (n : Int) ≤ 8192) (hl : (m : Int) < (len : Int)) (hl2 : (len : Int) ≤ 128) (hm : m + 1 = len)
    (hc : w.cell? ⟨b, m, none⟩ = some (.int .u64 x)) (hz : w.frozen? ⟨b, m, none⟩ = false) (hb : b < w.heap.size) :
    Calls Tryd.prog 52 #[.agg #[.int .i64 (n : Nat), .slice (some ⟨b, 0, none⟩) len cap]] w fun e w' => e = .returned (.tuple #[]) ∧ ∃ w1, Below w.heap.size w w1 ∧ w' = (w1.setCell ⟨b, m, none⟩ (.int .u64 (bits .and .u64 (x : Int) (mask n : Nat)))) := by
  have hwr : IntKind.i64.wrap ((len : Int) - 1) = m := by rw [wrapi64_in _ (by omega) (by omega)]; omega
  have h0m : (0 : Int) ≤ (m : Int) := by omega
  clear hm
  have bx := Box.new w (.int .i64 (n : Nat)) (.slice (some ⟨b, 0, none⟩) len cap)
  go_enter Tryd.func52, Tryd.ntmps52
  go_wp2
  have u0 := Near.cell bx.cells.1 bx.lt
  have u1 := Near.cell bx.cells.2.1 bx.lt
  have u2 := Near.cell (W := w.alloc (.cells #[.int .i64 (n : Nat), .slice (some ⟨b, 0, none⟩) len cap] 29)) (b := b) (o := m) (v := .int .u64 x) (by simp [hc, World.cell?_alloc_lt, hb]) (by simp; omega)
  have u3 := Near.frozen (W := w.alloc (.cells #[.int .i64 (n : Nat), .slice (some ⟨b, 0, none⟩) len cap] 29)) (b := b) (o := m) (v := false) (by rw [((Below.refl _ w).alloc (Nat.le_refl _) _).frozen (p := ⟨b, m, none⟩) hb]; exact hz) (by simp; omega)
  refine wp_region_quiet_tail 13 (fun w' => ∃ u : World, w' = near (w.alloc (.cells #[.int .i64 (n : Nat), .slice (some ⟨b, 0, none⟩) len cap] 29)) u) (by kernel_rfl) (by kernel_rfl) (Near.start _) ?_
  simp only [List.take_succ_cons, List.take_zero, List.drop_succ_cons, List.drop_zero]
  repeat (go_big_quiet_step ((go_at_call 58; exact Near.same (lastMask_any n _ (by omega) (by omega)))))
  refine wpQuiet_nil ?_
  rintro _ ⟨u, rfl⟩
  go_wp2
  go_end0
  exact ⟨rfl, _, ((Below.refl _ _).alloc (Nat.le_refl _) _).trans ((near_below _ u).mono (by simp)), rfl⟩
set_option maxHeartbeats 400000 in
theorem cutLast_zero (ao : Option Addr) (len cap : Nat) (w : World) :
    Calls Tryd.prog 52 #[.agg #[.int .i64 0, .slice ao len cap]] w fun e w' => e = .returned (.tuple #[]) ∧ Below w.heap.size w w' := by
  go_enter Tryd.func52, Tryd.ntmps52
  go_wp2
  go_end0
  exact ⟨rfl, (Below.refl _ _).alloc (Nat.le_refl _) _⟩

theorem bitAt_upd_mask (n len : Nat) (f : Nat → Nat) (hn : 0 < n) (hl : len = (n + 63) / 64) (k : Nat) (hk : k < 64 * len) :
    bitAt (upd f (len - 1) (f (len - 1) &&& mask n)) k = (bitAt f k && decide (k < n)) := by
  unfold bitAt upd
  by_cases h : k / 64 = len - 1
  · rw [if_pos h, Nat.testBit_and, mask_bit, h]
    congr 1
    rw [decide_eq_decide]; omega
  · rw [if_neg h, decide_eq_true (by omega), Bool.and_true]

/-- cutLast: what is not below n goes; nothing else turns. -/
theorem cut_any {B : Nat} {w : World} {n : Nat} {ao : Option Addr} {len cap : Nat} {f : Nat → Nat} (ho : Own B w ao len f) (hn : n ≤ 8192) (hl : len = (n + 63) / 64) :
    Calls Tryd.prog 52 #[.agg #[.int .i64 (n : Nat), .slice ao len cap]] w fun e w' => e = .returned (.tuple #[]) ∧
      ∃ g, Own B w' ao len g ∧ (∀ k, k < 64 * len → bitAt g k = (bitAt f k && decide (k < n))) ∧ But ao w w' := by
  by_cases h0 : n = 0
  · subst h0
    exact (cutLast_zero ao len cap w).mono fun e w' ⟨he, hb⟩ => ⟨he, f, ho.below hb, fun k hk => by omega, But.of_below hb⟩
  · obtain ⟨b, rfl, hc⟩ := ho.at_ (by omega)
    have hj := hc (len - 1) (by omega)
    have hs := ho.small (len - 1) (by omega)
    refine (cutLast_pos n (len - 1) b len cap (f (len - 1)) w (by omega) (by omega) (by omega) (by omega) (by omega) hj.1 hj.2 (ho.lt _ rfl).1).mono fun e w' ⟨he, w1, hb, hw⟩ =>
      ⟨he, upd f (len - 1) (f (len - 1) &&& mask n), ?_, bitAt_upd_mask n len f (by omega) hl, ?_⟩
    · rw [hw, u64_and_nat _ _ hs (mask_lt n)]
      exact (ho.below hb).set rfl (by omega) (and_lt hs _)
    · rw [hw]
      exact (But.of_below hb).setCell (p := ⟨b, len - 1, none⟩) (.inl ⟨⟨b, 0, none⟩, rfl, rfl⟩) _
end Go.Proofs.YtehlmjjdegmnaaaDoor
