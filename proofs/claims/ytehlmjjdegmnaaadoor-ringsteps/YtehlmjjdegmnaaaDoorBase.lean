/- What a word row is in memory: read, owned; what a call leaves of the rest. -/
import Derived.Test.YtehlmjjdegmnaaaDoorMath
import Derived.WalkKit
import Derived.WalkSpells
import Derived.WalkLawsBesides
namespace Go.Proofs.YtehlmjjdegmnaaaDoor
open Go.RowKit

/-- The cells of a slice of words can be read, and hold f. -/
structure Rd (w : World) (ao : Option Addr) (len : Nat) (f : Nat → Nat) : Prop where
  small : ∀ i, i < len → f i < 18446744073709551616
  at_ : 0 < len → ∃ b off, ao = some ⟨b, off, none⟩ ∧ b < w.heap.size ∧ ∀ i, i < len → w.cell? ⟨b, off + i, none⟩ = some (.int .u64 (f i : Nat))

/-- The same, in a block from B on that may be written. -/
structure Own (B : Nat) (w : World) (ao : Option Addr) (len : Nat) (f : Nat → Nat) : Prop where
  small : ∀ i, i < len → f i < 18446744073709551616
  lt : ∀ a, ao = some a → a.block < w.heap.size ∧ B ≤ a.block
  row : 0 < len → ∃ b cur, ao = some ⟨b, 0, none⟩ ∧ w.heap[b]? = some (.cells cur 22 (0, 0)) ∧ cur.size = len ∧ ∀ i, i < len → cur[i]? = some (.int .u64 (f i : Nat))

theorem Own.at_ {B : Nat} {w : World} {ao : Option Addr} {len : Nat} {f : Nat → Nat} (h : Own B w ao len f) (hl : 0 < len) :
    ∃ b, ao = some ⟨b, 0, none⟩ ∧ ∀ i, i < len → w.cell? ⟨b, i, none⟩ = some (.int .u64 (f i : Nat)) ∧ w.frozen? ⟨b, i, none⟩ = false := by
  obtain ⟨b, cur, e, hh, _, hc⟩ := h.row hl
  exact ⟨b, e, fun i hi => ⟨by rw [cell_of_row w b i cur 22 (0, 0) hh]; exact hc i hi, frozen_of_row w b i cur 22 hh⟩⟩

theorem Own.rd {B : Nat} {w : World} {ao : Option Addr} {len : Nat} {f : Nat → Nat} (h : Own B w ao len f) : Rd w ao len f := by
  refine ⟨h.small, fun hl => ?_⟩
  obtain ⟨b, e, hc⟩ := h.at_ hl
  exact ⟨b, 0, e, (h.lt _ e).1, fun i hi => by rw [Nat.zero_add]; exact (hc i hi).1⟩

theorem Own.mono {B B' : Nat} {w : World} {ao : Option Addr} {len : Nat} {f : Nat → Nat} (h : Own B w ao len f) (hB : B' ≤ B) : Own B' w ao len f :=
  ⟨h.small, fun a e => ⟨(h.lt a e).1, Nat.le_trans hB (h.lt a e).2⟩, h.row⟩

theorem Rd.below {w w' : World} {ao : Option Addr} {len : Nat} {f : Nat → Nat} (h : Rd w ao len f) (hb : Below w.heap.size w w') : Rd w' ao len f := by
  refine ⟨h.small, fun hl => ?_⟩
  obtain ⟨b, off, e, hlt, hc⟩ := h.at_ hl
  exact ⟨b, off, e, Nat.lt_of_lt_of_le hlt hb.size, fun i hi => by rw [hb.cell (p := ⟨b, off + i, none⟩) hlt]; exact hc i hi⟩

theorem Own.below {B : Nat} {w w' : World} {ao : Option Addr} {len : Nat} {f : Nat → Nat} (h : Own B w ao len f) (hb : Below w.heap.size w w') : Own B w' ao len f := by
  refine ⟨h.small, fun a e => ⟨Nat.lt_of_lt_of_le (h.lt a e).1 hb.size, (h.lt a e).2⟩, fun hl => ?_⟩
  obtain ⟨b, cur, e, hh, hc⟩ := h.row hl
  have hlt := (h.lt _ e).1
  exact ⟨b, cur, e, by rw [hb.block b hlt]; exact hh, hc⟩

/-- All old blocks but the one that ao names are as they were. -/
structure But (ao : Option Addr) (w w' : World) : Prop where
  os : w'.os = w.os
  tape : w'.tape = w.tape
  output : w'.output = w.output
  size : w.heap.size ≤ w'.heap.size
  block : ∀ j, j < w.heap.size → (∀ a, ao = some a → a.block ≠ j) → w'.heap[j]? = w.heap[j]?

theorem But.cell {ao : Option Addr} {w w' : World} (h : But ao w w') {p : Addr} (hp : p.block < w.heap.size) (hne : ∀ a, ao = some a → a.block ≠ p.block) : w'.cell? p = w.cell? p :=
  World.cell?_of_block (w := w) (h.block p.block hp hne)
theorem But.frozen {ao : Option Addr} {w w' : World} (h : But ao w w') {p : Addr} (hp : p.block < w.heap.size) (hne : ∀ a, ao = some a → a.block ≠ p.block) : w'.frozen? p = w.frozen? p :=
  World.frozen?_of_block (w := w) (h.block p.block hp hne)
theorem But.below {ao : Option Addr} {w w' : World} (h : But ao w w') {B : Nat} (hB : B ≤ w.heap.size) (hao : ∀ a, ao = some a → B ≤ a.block) : Below B w w' :=
  ⟨h.os, h.tape, h.output, h.size, fun k hk => h.block k (by omega) fun a e => by have := hao a e; omega⟩
theorem But.of_below {ao : Option Addr} {w w' : World} (h : Below w.heap.size w w') : But ao w w' := ⟨h.os, h.tape, h.output, h.size, fun k hk _ => h.block k hk⟩
theorem But.trans {ao : Option Addr} {a b c : World} (h : But ao a b) (k : But ao b c) : But ao a c :=
  ⟨k.os.trans h.os, k.tape.trans h.tape, k.output.trans h.output, Nat.le_trans h.size k.size, fun j hj hn => (k.block j (Nat.lt_of_lt_of_le hj h.size) hn).trans (h.block j hj hn)⟩
theorem But.refl (ao : Option Addr) (w : World) : But ao w w := ⟨rfl, rfl, rfl, Nat.le_refl _, fun _ _ _ => rfl⟩
theorem But.setCell {ao : Option Addr} {a w : World} (h : But ao a w) {p : Addr} (hp : (∃ q, ao = some q ∧ q.block = p.block) ∨ a.heap.size ≤ p.block) (u : Value) : But ao a (w.setCell p u) := by
  refine ⟨h.os, h.tape, h.output, Nat.le_trans h.size (by simp [World.setCell]), fun j hj hn => ?_⟩
  rw [Below.heap_setCell _ _ _ _ ?_]
  · exact h.block j hj hn
  · rcases hp with ⟨q, e, hq⟩ | hp
    · have := hn q e; omega
    · omega
theorem But.alloc {ao : Option Addr} {a w : World} (h : But ao a w) (o : Obj) : But ao a (w.alloc o) :=
  h.trans (But.of_below ((Below.refl _ _).alloc (Nat.le_refl _) o))
theorem But.drew {ao : Option Addr} {a w : World} (h : But ao a w) : But ao a w.drew := ⟨h.os, h.tape, h.output, h.size, h.block⟩
theorem But.drewN {ao : Option Addr} {a w : World} (h : But ao a w) (n : Nat) : But ao a (w.drewN n) := h.trans ⟨rfl, rfl, rfl, Nat.le_refl _, fun _ _ _ => rfl⟩

/-- What is owned behind a store into it. -/
theorem Own.set {B : Nat} {w : World} {ao : Option Addr} {len : Nat} {f : Nat → Nat} (h : Own B w ao len f) {b i v : Nat} (e : ao = some ⟨b, 0, none⟩) (hi : i < len) (hv : v < 18446744073709551616) :
    Own B (w.setCell ⟨b, i, none⟩ (.int .u64 (v : Nat))) ao len (upd f i v) := by
  refine ⟨fun j hj => ?_, fun a ea => ?_, fun hl => ?_⟩
  · unfold upd; split
    · exact hv
    · exact h.small j hj
  · have := h.lt a ea; simpa [World.setCell] using this
  · obtain ⟨b', cur, e', hh, hsz, hc⟩ := h.row hl
    obtain rfl : b' = b := by rw [e] at e'; simpa using e'.symm
    refine ⟨b', cur.setIfInBounds i (.int .u64 (v : Nat)), e, heap_setCell_same w b' i cur 22 _ hh, by simpa using hsz, fun j hj => ?_⟩
    by_cases hji : j = i
    · subst hji
      simp [upd, hsz, hj]
    · rw [Array.getElem?_setIfInBounds_ne (by omega)]
      simp only [upd, if_neg hji]
      exact hc j hj

theorem Own.drewN {B : Nat} {w : World} {ao : Option Addr} {len : Nat} {f : Nat → Nat} (h : Own B w ao len f) (n : Nat) : Own B (w.drewN n) ao len f := h.below (below_drewN (Below.refl _ _) n)
theorem Own.alloc {B : Nat} {w : World} {ao : Option Addr} {len : Nat} {f : Nat → Nat} (h : Own B w ao len f) (o : Obj) : Own B (w.alloc o) ao len f := h.below ((Below.refl _ _).alloc (Nat.le_refl _) o)
theorem Own.drew {B : Nat} {w : World} {ao : Option Addr} {len : Nat} {f : Nat → Nat} (h : Own B w ao len f) : Own B w.drew ao len f := h.below (Below.refl _ _).drew
theorem Own.but {B : Nat} {w w' : World} {ao ax : Option Addr} {len : Nat} {f : Nat → Nat} (h : Own B w ao len f) (hb : But ax w w') (hne : ∀ a c, ao = some a → ax = some c → c.block ≠ a.block) : Own B w' ao len f := by
  refine ⟨h.small, fun a e => ⟨Nat.lt_of_lt_of_le (h.lt a e).1 hb.size, (h.lt a e).2⟩, fun hl => ?_⟩
  obtain ⟨b, cur, e, hh, hc⟩ := h.row hl
  have hlt := (h.lt _ e).1
  exact ⟨b, cur, e, by rw [hb.block b hlt (fun c ec => by have := hne _ c e ec; exact this)]; exact hh, hc⟩
theorem Rd.but {w w' : World} {ao ax : Option Addr} {len : Nat} {f : Nat → Nat} (h : Rd w ao len f) (hb : But ax w w') (hne : ∀ a c, ao = some a → ax = some c → c.block ≠ a.block) : Rd w' ao len f := by
  refine ⟨h.small, fun hl => ?_⟩
  obtain ⟨b, off, e, hlt, hc⟩ := h.at_ hl
  exact ⟨b, off, e, Nat.lt_of_lt_of_le hlt hb.size, fun i hi => by rw [hb.cell (p := ⟨b, off + i, none⟩) hlt (fun c ec => by have := hne _ c e ec; exact this)]; exact hc i hi⟩

/-- What make leaves. -/
theorem own_made {B : Nat} {w : World} {g n : Nat} (h : w.ownsRow B 22 1 (.slice (some ⟨g, 0, none⟩) n n) n (madeCells #[Value.int .u64 0] n).toList) (hlt : g < w.heap.size) (hB : B ≤ g) :
    Own B w (some ⟨g, 0, none⟩) n (fun _ => 0) := by
  refine ⟨fun _ _ => by decide, fun a e => ?_, fun hl => ?_⟩
  · obtain rfl := Option.some.inj e; exact ⟨hlt, hB⟩
  · rcases h.2 with ⟨h', _⟩ | ⟨g', cap', cur, h', _, hg, _, _, hsz, htake⟩
    · simp at h'
    · simp only [Value.slice.injEq, Option.some.injEq, Addr.mk.injEq, and_true, true_and] at h'
      obtain ⟨rfl, rfl⟩ := h'
      refine ⟨g, cur, rfl, hg, by simpa using hsz, fun i hi => ?_⟩
      have e : cur.toList[i]? = ((madeCells #[Value.int .u64 0] n).toList)[i]? := by
        rw [← htake, List.getElem?_take, if_pos (by omega)]
      rw [← Array.getElem?_toList, e]
      rw [toList_madeCells_one, List.getElem?_replicate, if_pos (by omega)]
      rfl

theorem Rd.alloc {w : World} {ao : Option Addr} {len : Nat} {f : Nat → Nat} (h : Rd w ao len f) (o : Obj) : Rd (w.alloc o) ao len f := h.below ((Below.refl _ _).alloc (Nat.le_refl _) o)
theorem Rd.drewN {w : World} {ao : Option Addr} {len : Nat} {f : Nat → Nat} (h : Rd w ao len f) (n : Nat) : Rd (w.drewN n) ao len f := h.below (below_drewN (Below.refl _ _) n)
theorem bcell {W w1 : World} (hb : Below W.heap.size W w1) : (∀ b o, b < W.heap.size → w1.cell? ⟨b, o, none⟩ = W.cell? ⟨b, o, none⟩) ∧ (∀ b o, b < W.heap.size → w1.frozen? ⟨b, o, none⟩ = W.frozen? ⟨b, o, none⟩) :=
  ⟨fun b o h => hb.cell (p := ⟨b, o, none⟩) h, fun b o h => hb.frozen (p := ⟨b, o, none⟩) h⟩
/-- A value of type Bits that is a set. -/
def SetAt (w : World) (x : Value) (n : Nat) (P : Nat → Bool) : Prop :=
  ∃ ao len cap f, x = .agg #[.int .i64 (n : Nat), .slice ao len cap] ∧ Rd w ao len f ∧ IsSet n len f P
/-- The same in memory from B on. -/
def OwnAt (B : Nat) (w : World) (x : Value) (n : Nat) (P : Nat → Bool) : Prop :=
  ∃ ao len cap f, x = .agg #[.int .i64 (n : Nat), .slice ao len cap] ∧ Own B w ao len f ∧ IsSet n len f P
/-- Any value of type Bits, and the set that it stands for: one that Check refuses is the empty one of N 0. -/
def Arg (w : World) (x : Value) (n : Nat) (P : Nat → Bool) : Prop :=
  ∃ (m : Int) (ao : Option Addr) (len cap : Nat) (f : Nat → Nat), x = .agg #[.int .i64 m, .slice ao len cap] ∧ Rd w ao len f ∧ ((m = n ∧ IsSet n len f P) ∨ (¬ Ok m len f ∧ n = 0 ∧ P = fun _ => false))
theorem OwnAt.setAt {B : Nat} {w : World} {x : Value} {n : Nat} {P : Nat → Bool} (h : OwnAt B w x n P) : SetAt w x n P := by
  obtain ⟨ao, len, cap, f, e, ho, hs⟩ := h; exact ⟨ao, len, cap, f, e, ho.rd, hs⟩
theorem SetAt.arg {w : World} {x : Value} {n : Nat} {P : Nat → Bool} (h : SetAt w x n P) : Arg w x n P := by
  obtain ⟨ao, len, cap, f, e, ho, hs⟩ := h; exact ⟨n, ao, len, cap, f, e, ho, .inl ⟨rfl, hs⟩⟩
theorem Arg.below {w w' : World} {x : Value} {n : Nat} {P : Nat → Bool} (h : Arg w x n P) (hb : Below w.heap.size w w') : Arg w' x n P := by
  obtain ⟨m, ao, len, cap, f, e, ho, hs⟩ := h; exact ⟨m, ao, len, cap, f, e, ho.below hb, hs⟩
theorem SetAt.below {w w' : World} {x : Value} {n : Nat} {P : Nat → Bool} (h : SetAt w x n P) (hb : Below w.heap.size w w') : SetAt w' x n P := by
  obtain ⟨ao, len, cap, f, e, ho, hs⟩ := h; exact ⟨ao, len, cap, f, e, ho.below hb, hs⟩
theorem OwnAt.below {B : Nat} {w w' : World} {x : Value} {n : Nat} {P : Nat → Bool} (h : OwnAt B w x n P) (hb : Below w.heap.size w w') : OwnAt B w' x n P := by
  obtain ⟨ao, len, cap, f, e, ho, hs⟩ := h; exact ⟨ao, len, cap, f, e, ho.below hb, hs⟩
theorem OwnAt.mono {B B' : Nat} {w : World} {x : Value} {n : Nat} {P : Nat → Bool} (h : OwnAt B w x n P) (hB : B' ≤ B) : OwnAt B' w x n P := by
  obtain ⟨ao, len, cap, f, e, ho, hs⟩ := h; exact ⟨ao, len, cap, f, e, ho.mono hB, hs⟩
/-- Every value that can be read stands for one set. -/
theorem arg_of {w : World} {m : Int} {ao : Option Addr} {len cap : Nat} {f : Nat → Nat} (h : Rd w ao len f) : ∃ n P, Arg w (.agg #[.int .i64 m, .slice ao len cap]) n P := by
  by_cases hok : Ok m len f
  · obtain ⟨n, rfl, hs⟩ := hok.isSet
    exact ⟨n, _, n, ao, len, cap, f, rfl, h, .inl ⟨rfl, hs⟩⟩
  · exact ⟨0, fun _ => false, m, ao, len, cap, f, rfl, h, .inr ⟨hok, rfl, rfl⟩⟩
theorem isSet_none : IsSet 0 0 (fun _ => 0) (fun _ => false) := ⟨by decide, by decide, fun k h => by omega, fun _ _ => rfl⟩
theorem rd_none (w : World) (ao : Option Addr) (f : Nat → Nat) : Rd w ao 0 f := ⟨fun i h => by omega, fun h => by omega⟩
end Go.Proofs.YtehlmjjdegmnaaaDoor
