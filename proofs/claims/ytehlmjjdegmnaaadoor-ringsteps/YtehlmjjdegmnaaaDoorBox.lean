/- A boxed struct of two cells in memory; a copy of words. -/
import Derived.Test.YtehlmjjdegmnaaaDoorCop
namespace Go.Proofs.YtehlmjjdegmnaaaDoor
open Go.RowKit

/-- Block b is a struct of two cells. -/
def Box (w : World) (b : Nat) (x y : Value) : Prop := w.heap[b]? = some (.cells #[x, y] 29 (0, 0))
theorem Box.lt {w : World} {b : Nat} {x y : Value} (h : Box w b x y) : b < w.heap.size := (Array.getElem?_eq_some_iff.1 h).1
theorem Box.new (w : World) (x y : Value) : Box (w.alloc (.cells #[x, y] 29)) w.heap.size x y := heap_alloc_new w _
theorem Box.new1 (w : World) (o : Obj) (x y : Value) : Box ((w.alloc o).alloc (.cells #[x, y] 29)) (w.heap.size + 1) x y := by
  have := Box.new (w.alloc o) x y
  simpa using this
theorem Box.new2 (w : World) (o o' : Obj) (x y : Value) : Box (((w.alloc o).alloc o').alloc (.cells #[x, y] 29)) (w.heap.size + 2) x y := by
  have := Box.new ((w.alloc o).alloc o') x y
  simpa using this
theorem Box.below {w w' : World} {b : Nat} {x y : Value} (h : Box w b x y) (hb : Below w.heap.size w w') : Box w' b x y := by
  unfold Box; rw [hb.block b h.lt]; exact h
theorem Box.belowB {B : Nat} {w w' : World} {b : Nat} {x y : Value} (h : Box w b x y) (hb : Below B w w') (hlt : b < B) : Box w' b x y := by
  unfold Box; rw [hb.block b hlt]; exact h
theorem Box.alloc {w : World} {b : Nat} {x y : Value} (h : Box w b x y) (o : Obj) : Box (w.alloc o) b x y := h.below ((Below.refl _ _).alloc (Nat.le_refl _) o)
theorem Box.drewN {w : World} {b : Nat} {x y : Value} (h : Box w b x y) (n : Nat) : Box (w.drewN n) b x y := h
theorem Box.drew {w : World} {b : Nat} {x y : Value} (h : Box w b x y) : Box w.drew b x y := h
theorem Box.but {ao : Option Addr} {w w' : World} {b : Nat} {x y : Value} (h : Box w b x y) (hb : But ao w w') (hne : ∀ a, ao = some a → a.block ≠ b) : Box w' b x y := by
  unfold Box; rw [hb.block b h.lt hne]; exact h
theorem Box.set0 {w : World} {b : Nat} {x y : Value} (h : Box w b x y) (u : Value) : Box (w.setCell ⟨b, 0, none⟩ u) b u y := by
  have := heap_setCell_same w b 0 #[x, y] 29 u h
  simpa [Box] using this
theorem Box.set1 {w : World} {b : Nat} {x y : Value} (h : Box w b x y) (u : Value) : Box (w.setCell ⟨b, 1, none⟩ u) b x u := by
  have := heap_setCell_same w b 1 #[x, y] 29 u h
  simpa [Box] using this
theorem Box.set {w : World} {b : Nat} {x y : Value} (h : Box w b x y) (u v : Value) : Box ((w.setCell ⟨b, 0, none⟩ u).setCell ⟨b, 1, none⟩ v) b u v := (h.set0 u).set1 v
theorem Box.other {w : World} {b : Nat} {x y : Value} (h : Box w b x y) {p : Addr} (hp : p.block ≠ b) (u : Value) : Box (w.setCell p u) b x y := by
  unfold Box; rw [Below.heap_setCell _ _ _ _ (Ne.symm hp)]; exact h
theorem Box.cells {w : World} {b : Nat} {x y : Value} (h : Box w b x y) :
    w.cell? ⟨b, 0, none⟩ = some x ∧ w.cell? ⟨b, 1, none⟩ = some y ∧ w.frozen? ⟨b, 0, none⟩ = false ∧ w.frozen? ⟨b, 1, none⟩ = false :=
  ⟨cell_of_row w b 0 _ 29 (0, 0) h, cell_of_row w b 1 _ 29 (0, 0) h, frozen_of_row w b 0 _ 29 h, frozen_of_row w b 1 _ 29 h⟩

theorem copy_law {w : World} {ops : Array Oper} {rest : List Oper} {o : Oper} {a : Act} {Q : Exit → Act → World → Prop} (hgd : o.guard = none) (d s : Operand)
    (ho : o.op = .call { callee := .builtin .copy, args := #[d, s], argTypes := #[27, 27] })
    {B : Nat} {dp sp : Option Addr} {len dCap sCap : Nat} {f0 f : Nat → Nat} (hd : a.eval d = .slice dp len dCap) (hs : a.eval s = .slice sp len sCap)
    (how : Own B w dp len f0) (hr : Rd w sp len f)
    (h : ∀ w', Own B w' dp len f → But dp w w' → wpList Tryd.prog ops Q rest (a.put o.dst (goInt len)) w') : wpList Tryd.prog ops Q (o :: rest) a w := by
  by_cases h0 : len = 0
  · subst h0
    refine wpList_copy_nothing hgd d s 27 27 ho 22 Tryd.underlying27 Tryd.size22 dp sp 0 dCap 0 sCap hd hs rfl ?_
    exact h w ⟨fun i hi => absurd hi (by omega), how.lt, fun hl => absurd hl (by omega)⟩ (But.refl _ _)
  · obtain ⟨b, off, rfl, hb, hc⟩ := hr.at_ (by omega)
    obtain ⟨g, cur, rfl, hg, hsz, hcur⟩ := how.row (by omega)
    have hcs : ((List.range len).map fun i => Value.int .u64 (f i : Nat)).length = len := by simp
    refine wpList_copy_own hgd d s 27 27 ho 22 Tryd.underlying27 Tryd.size22 g 0 len dCap ⟨b, off, none⟩ len sCap hd hs cur 22 hg ((List.range len).map fun i => Value.int .u64 (f i : Nat)) (by simp) ?_ (by rw [hcs]; omega) ?_ ?_
    · intro j v hj
      simp only [List.getElem?_map, Option.map_eq_some_iff] at hj
      obtain ⟨i, hi, rfl⟩ := hj
      have : j < len ∧ i = j := by
        by_cases hjl : j < len
        · rw [List.getElem?_range hjl] at hi; exact ⟨hjl, by simpa using hi.symm⟩
        · rw [List.getElem?_eq_none (by simp; omega)] at hi; simp at hi
      obtain ⟨hjl, rfl⟩ := this
      have hci := hc i hjl
      by_cases hi0 : i = 0
      · subst hi0; simpa [Addr.add] using hci
      · simpa [Addr.add, hi0] using hci
    · intro v hv
      simp only [List.mem_map] at hv
      obtain ⟨i, _, rfl⟩ := hv
      rfl
    · rw [hcs]
      refine h _ ⟨hr.small, fun a e => ?_, fun hl => ⟨g, _, rfl, setRow_heap w g cur _ 22 (0, 0) hg, ?_, fun i hi => ?_⟩⟩ ⟨rfl, rfl, rfl, ?_, fun j hj hn => ?_⟩
      · have := how.lt a e; simpa [World.setRow] using this
      · simp [hsz]
      · simp [hi, List.getElem?_append]
      · simp [World.setRow]
      · exact setRow_other _ _ _ _ (fun e => hn _ rfl e.symm)

set_option maxHeartbeats 400000 in
theorem empty_zero (w : World) : Calls Tryd.prog 50 #[.int .i64 0] w fun e w' => e = .returned (.agg #[.int .i64 0, .slice none 0 0]) ∧ Below w.heap.size w w' := by
  go_enter Tryd.func50, Tryd.ntmps50
  go_wp2
  refine bodyPost_ret (v := .agg #[.int .i64 0, .slice none 0 0]) (by simp [results, Tryd.results50, go_sem]) rfl ⟨rfl, ?_⟩
  exact (Below.refl _ _).alloc (Nat.le_refl _) _
/-- empty: the empty set of N n. -/
theorem empty_any (n : Nat) (w : World) (h1 : n ≤ 8192) :
    Calls Tryd.prog 50 #[.int .i64 (n : Nat)] w fun e w' => ∃ ao len cap, e = .returned (.agg #[.int .i64 (n : Nat), .slice ao len cap]) ∧ Own w.heap.size w' ao len (fun _ => 0) ∧ len = (n + 63) / 64 ∧ Below w.heap.size w w' := by
  by_cases h0 : n = 0
  · subst h0
    exact (empty_zero w).mono fun e w' ⟨he, hb⟩ => ⟨none, 0, 0, he, ⟨fun i hi => by omega, fun a e => by simp at e, fun hl => by omega⟩, by omega, hb⟩
  · exact empty_pos n w (by omega) (by omega)
end Go.Proofs.YtehlmjjdegmnaaaDoor
