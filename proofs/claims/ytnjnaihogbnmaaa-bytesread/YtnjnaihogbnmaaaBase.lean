/- Bytes and words in memory: read, owned; make with room behind what is there. -/
import Derived.Test.YtnjnaihogbnmaaaProg
import Derived.Test.YtnjnaihogbnmaaaMath
import Derived.WalkKit
import Derived.WalkSpells
import Derived.WalkLawsBesides
import Derived.Deep.QuietTactic
import Derived.BigQuiet
import Derived.Laws.CopyOwn
namespace Go.Proofs.Ytnjnaihogbnmaaa
open Go.RowKit
/-- The cells of a slice of bytes can be read, and hold f. -/
structure Rd (w : World) (ao : Option Addr) (len : Nat) (f : Nat → Nat) : Prop where
  small : ∀ i, i < len → f i < 256
  at_ : 0 < len → ∃ b off, ao = some ⟨b, off, none⟩ ∧ b < w.heap.size ∧ ∀ i, i < len → w.cell? ⟨b, off + i, none⟩ = some (.int .u8 (f i : Nat))
theorem Rd.below {w w' : World} {ao : Option Addr} {len : Nat} {f : Nat → Nat} (h : Rd w ao len f) (hb : Below w.heap.size w w') : Rd w' ao len f := by
  refine ⟨h.small, fun hl => ?_⟩
  obtain ⟨b, off, e, hlt, hc⟩ := h.at_ hl
  exact ⟨b, off, e, Nat.lt_of_lt_of_le hlt hb.size, fun i hi => by rw [hb.cell (p := ⟨b, off + i, none⟩) hlt]; exact hc i hi⟩
theorem Rd.congr {w : World} {ao : Option Addr} {len : Nat} {f g : Nat → Nat} (h : Rd w ao len f) (e : ∀ i, i < len → f i = g i) : Rd w ao len g := by
  refine ⟨fun i hi => e i hi ▸ h.small i hi, fun hl => ?_⟩
  obtain ⟨b, off, e', hlt, hc⟩ := h.at_ hl
  exact ⟨b, off, e', hlt, fun i hi => by rw [hc i hi, e i hi]⟩
theorem rd_none (w : World) (ao : Option Addr) (f : Nat → Nat) : Rd w ao 0 f := ⟨fun i h => by omega, fun h => by omega⟩
/-- The same of words. -/
structure RdU (w : World) (ao : Option Addr) (len : Nat) (f : Nat → Nat) : Prop where
  small : ∀ i, i < len → f i < 18446744073709551616
  at_ : 0 < len → ∃ b off, ao = some ⟨b, off, none⟩ ∧ b < w.heap.size ∧ ∀ i, i < len → w.cell? ⟨b, off + i, none⟩ = some (.int .u64 (f i : Nat))
theorem RdU.below {w w' : World} {ao : Option Addr} {len : Nat} {f : Nat → Nat} (h : RdU w ao len f) (hb : Below w.heap.size w w') : RdU w' ao len f := by
  refine ⟨h.small, fun hl => ?_⟩
  obtain ⟨b, off, e, hlt, hc⟩ := h.at_ hl
  exact ⟨b, off, e, Nat.lt_of_lt_of_le hlt hb.size, fun i hi => by rw [hb.cell (p := ⟨b, off + i, none⟩) hlt]; exact hc i hi⟩
/-- n bytes as cells. -/
def row (f : Nat → Nat) (n : Nat) : List Value := (List.range n).map fun i => Value.int .u8 (f i : Nat)
theorem row_length (f : Nat → Nat) (n : Nat) : (row f n).length = n := by simp [row]
theorem row_get (f : Nat → Nat) {n i : Nat} (h : i < n) : (row f n)[i]? = some (.int .u8 (f i : Nat)) := by simp [row, h]
theorem row_some {f : Nat → Nat} {n j : Nat} {u : Value} (h : (row f n)[j]? = some u) : j < n ∧ u = .int .u8 (f j : Nat) := by
  by_cases hj : j < n
  · rw [row_get f hj] at h; exact ⟨hj, by simpa using h.symm⟩
  · rw [List.getElem?_eq_none (by rw [row_length]; omega)] at h; simp at h
theorem row_succ (f : Nat → Nat) (n : Nat) : row f (n + 1) = row f n ++ [.int .u8 (f n : Nat)] := by simp [row, List.range_succ]
theorem row_congr {f g : Nat → Nat} {n : Nat} (h : ∀ i, i < n → f i = g i) : row f n = row g n := by
  unfold row
  apply List.map_congr_left
  intro i hi
  rw [h i (by simpa using hi)]
theorem row_one (f : Nat → Nat) (n : Nat) : ∀ u ∈ row f n, u.oneCell' = true := by
  intro u hu
  simp only [row, List.mem_map] at hu
  obtain ⟨i, _, rfl⟩ := hu
  rfl
/-- A slice of n bytes f in a block from B on that may be written. -/
structure Own (B : Nat) (w : World) (ao : Option Addr) (n cap : Nat) (f : Nat → Nat) : Prop where
  small : ∀ i, i < n → f i < 256
  own : w.ownsRow B 5 1 (.slice ao n cap) n (row f n)
theorem Own.rd {B : Nat} {w : World} {ao : Option Addr} {n cap : Nat} {f : Nat → Nat} (h : Own B w ao n cap f) : Rd w ao n f := by
  refine ⟨h.small, fun hl => ?_⟩
  rcases h.own.2 with ⟨_, h0⟩ | ⟨g, c, cur, h', hbg, hg, hnc, _, hsz, htake⟩
  · omega
  · simp only [Value.slice.injEq] at h'
    obtain ⟨rfl, _, rfl⟩ := h'
    refine ⟨g, 0, rfl, (Array.getElem?_eq_some_iff.1 hg).1, fun i hi => ?_⟩
    rw [cell_of_row w g (0 + i) cur 5 (0, 0) hg, Nat.zero_add]
    have e : cur.toList[i]? = (row f n)[i]? := by rw [← htake, List.getElem?_take, if_pos (by omega)]
    rw [← Array.getElem?_toList, e, row_get f hi]
theorem Own.mono {B B' : Nat} {w : World} {ao : Option Addr} {n cap : Nat} {f : Nat → Nat} (h : Own B w ao n cap f) (hB : B' ≤ B) : Own B' w ao n cap f := by
  refine ⟨h.small, h.own.1, ?_⟩
  rcases h.own.2 with h0 | ⟨g, c, cur, h', hbg, hr⟩
  · exact .inl h0
  · exact .inr ⟨g, c, cur, h', Nat.le_trans hB hbg, hr⟩
theorem Own.below {B : Nat} {w w' : World} {ao : Option Addr} {n cap : Nat} {f : Nat → Nat} (h : Own B w ao n cap f) (hb : Below w.heap.size w w') : Own B w' ao n cap f := by
  refine ⟨h.small, h.own.1, ?_⟩
  rcases h.own.2 with h0 | ⟨g, c, cur, h', hbg, hg, hr⟩
  · exact .inl h0
  · exact .inr ⟨g, c, cur, h', hbg, by rw [hb.block g (Array.getElem?_eq_some_iff.1 hg).1]; exact hg, hr⟩
theorem Own.congr {B : Nat} {w : World} {ao : Option Addr} {n cap : Nat} {f g : Nat → Nat} (h : Own B w ao n cap f) (e : ∀ i, i < n → f i = g i) : Own B w ao n cap g :=
  ⟨fun i hi => e i hi ▸ h.small i hi, by rw [← row_congr e]; exact h.own⟩
/-- Of one byte or more there is a block. -/
theorem Own.pos {B : Nat} {w : World} {ao : Option Addr} {n cap : Nat} {f : Nat → Nat} (h : Own B w ao n cap f) (hn : 0 < n) :
    ∃ g cur, ao = some ⟨g, 0, none⟩ ∧ B ≤ g ∧ g < w.heap.size ∧ w.heap[g]? = some (.cells cur 5 (0, 0)) ∧ n ≤ cap ∧ cap ≤ maxLen ∧ cur.size = cap ∧ cur.toList.take n = row f n := by
  rcases h.own.2 with ⟨_, h0⟩ | ⟨g, c, cur, h', hbg, hg, hnc, hm, hsz, htake⟩
  · omega
  · simp only [Value.slice.injEq] at h'
    obtain ⟨rfl, _, rfl⟩ := h'
    exact ⟨g, cur, rfl, hbg, (Array.getElem?_eq_some_iff.1 hg).1, hg, hnc, hm, by simpa using hsz, by simpa using htake⟩
/-- Another byte at one place. -/
def upd (f : Nat → Nat) (i v : Nat) : Nat → Nat := fun j => if j = i then v else f j
theorem Own.set {B : Nat} {w : World} {g n cap : Nat} {f : Nat → Nat} (h : Own B w (some ⟨g, 0, none⟩) n cap f) {i v : Nat} (hi : i < n) (hv : v < 256) :
    Own B (w.setCell ⟨g, i, none⟩ (.int .u8 (v : Nat))) (some ⟨g, 0, none⟩) n cap (upd f i v) := by
  obtain ⟨g', cur, e, hB, hlt, hg, hnc, hm, hsz, htake⟩ := h.pos (by omega)
  obtain rfl : g = g' := by simpa using e
  refine ⟨fun j hj => ?_, by simp [row_length], .inr ⟨g, cap, cur.setIfInBounds i (.int .u8 (v : Nat)), rfl, hB, heap_setCell_same w g i cur 5 _ hg, hnc, hm, by simpa using hsz, ?_⟩⟩
  · unfold upd; split
    · exact hv
    · exact h.small j hj
  · apply List.ext_getElem?
    intro j
    rw [Nat.mul_one]
    by_cases hj : j < n
    · have e : cur.toList[j]? = (row f n)[j]? := by rw [← htake, List.getElem?_take, if_pos (by omega)]
      rw [List.getElem?_take, if_pos (by omega), row_get _ hj, Array.getElem?_toList]
      by_cases hji : j = i
      · subst hji
        have : j < cur.size := by omega
        simp [upd, this]
      · rw [Array.getElem?_setIfInBounds_ne (by omega), ← Array.getElem?_toList, e, row_get _ hj]
        simp [upd, hji]
    · rw [List.getElem?_eq_none (by simp; omega), List.getElem?_eq_none (by simp [row_length]; omega)]
/-- What a call answers that makes bytes: n bytes f in memory of its own; nothing old has turned. -/
def RetB (w : World) (n : Nat) (f : Nat → Nat) (e : Ending) (w' : World) : Prop :=
  ∃ ao cap, e = .returned (.slice ao n cap) ∧ Own w.heap.size w' ao n cap f ∧ Below w.heap.size w w'
theorem Try.info5 : (Try.prog.info? 5).map (fun i => (i.zero, i.size, i.bytes)) = some (some (.int .u8 0), 1, 1) := by kernel_rfl
theorem Try.size5 : (Try.prog.info? 5).map (·.size) = some 1 := by kernel_rfl
/-- make with a length and a room. -/
theorem wpList_make_room {P : Program} {w : World} {ops : Array Oper} {rest : List Oper} {o : Oper} {a : Act} {Q : Exit → Act → World → Prop}
    (hg : o.guard = none) (l c : Operand) (t : TypeId) (hop : o.op = Op.makeSlice t l c) (e : TypeId) (i : TypeInfo) (z : Value) (h1 : P.underlying t = some (.slice e)) (h2 : P.info? e = some i) (h3 : i.zero = some z) (h4 : i.size = 1)
    (kl kc : IntKind) (L C : Int) (n m : Nat) (hl : a.eval l = .int kl L) (hc : a.eval c = .int kc C) (hL : L = (n : Int)) (hC : C = (m : Int)) (hnm : n ≤ m) (b2 : i.bytes * m ≤ 281474976710656) (b3 : m ≤ 9223372036854775807)
    (hK : wpList P ops Q rest (a.put o.dst (.slice (some ⟨w.heap.size, 0, none⟩) n m)) (w.alloc (.cells (madeCells z.cells m) e))) :
    wpList P ops Q (o :: rest) a w := by
  refine wpList_plain hg fun K hK' => ?_
  subst hL
  subst hC
  have hb : (i.bytes : Int) * (m : Int) ≤ 281474976710656 := by
    have : ((i.bytes * m : Nat) : Int) ≤ 281474976710656 := by omega
    simpa using this
  have hrun := run_make (P := P) w t e i z h1 h2 h3 kl kc (n : Int) (m : Int) (by omega) (by omega) hb (by omega)
  unfold Oper.wp
  simp [execOp, hop, hl, hc, hrun, Result.andThen, h4]
  exact hK' _ _ hK
end Go.Proofs.Ytnjnaihogbnmaaa
