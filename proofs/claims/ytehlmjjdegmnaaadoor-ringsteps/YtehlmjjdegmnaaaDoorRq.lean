/- The reference's Ends: the walk. -/
import Derived.Test.YtehlmjjdegmnaaaDoorRa
import Derived.Test.YtehlmjjdegmnaaaDoorAl
namespace Go.Proofs.YtehlmjjdegmnaaaDoor
open Go.RowKit Go.Shelf
theorem hidM {p : Prop} (h : p) : Hid p := h
theorem ownsRow_atR {W W' : World} {base e size k : Nat} {v : Value} {xs : List Value} (h : W.ownsRow base e size v k xs) (hs : ∀ g, base ≤ g → g < W.heap.size → W'.heap[g]? = W.heap[g]?) : W'.ownsRow base e size v k xs :=
  ⟨h.1, h.2.imp id fun ⟨g, cap, cur, hv, hg, hh, r⟩ => ⟨g, cap, cur, hv, hg, by rw [hs g hg (Array.getElem?_eq_some_iff.1 hh).1]; exact hh, r⟩⟩
theorem ownsRow_belowR {W W' : World} {base e size k : Nat} {v : Value} {xs : List Value} (h : W.ownsRow base e size v k xs) (hb : Below W.heap.size W W') : W'.ownsRow base e size v k xs := ownsRow_atR h fun g _ hg => hb.block g hg
/-- The state's box: a state of N ages, its words apart from the block that v owns, and from the box. -/
def Stb (W : World) (sb N : Nat) (Q : Nat → Bool) (v : Value) : Prop := ∃ ao len cap f, Box W sb (.int .i64 (N : Nat)) (.slice ao len cap) ∧ Rd W ao len f ∧ IsSet N len f Q ∧ ∀ q, ao = some q → 0 < len → q.block ≠ sb ∧ some q.block ≠ v.ownBlock
theorem Stb.lt {W : World} {sb N : Nat} {Q : Nat → Bool} {v : Value} (h : Stb W sb N Q v) : sb < W.heap.size := by
  obtain ⟨_, _, _, _, hb, _⟩ := h
  exact hb.lt
theorem Stb.below {W W' : World} {sb N : Nat} {Q : Nat → Bool} {v : Value} (h : Stb W sb N Q v) (hb : Below W.heap.size W W') : Stb W' sb N Q v := by
  obtain ⟨ao, len, cap, f, h1, h2, h3, h4⟩ := h
  exact ⟨ao, len, cap, f, h1.below hb, h2.below hb, h3, h4⟩
theorem Stb.congr {W : World} {sb N : Nat} {P Q : Nat → Bool} {v : Value} (h : Stb W sb N P v) (e : ∀ i, P i = Q i) : Stb W sb N Q v := by
  obtain rfl : P = Q := funext e
  exact h
/-- A new state comes into the box. -/
theorem Stb.put {W w1 : World} {sb N : Nat} {P Q : Nat → Bool} {v : Value} {ao : Option Addr} {len cap : Nat} {f : Nat → Nat} (h : Stb W sb N P v) (hv : ∀ j, v.ownBlock = some j → j < W.heap.size) (hb : Below W.heap.size W w1) (hr : Rd w1 ao len f) (hq : ∀ q, ao = some q → W.heap.size ≤ q.block) (hs : IsSet N len f Q) :
    Stb ((w1.setCell ⟨sb, 0, none⟩ (.int .i64 (N : Nat))).setCell ⟨sb, 1, none⟩ (.slice ao len cap)) sb N Q v := by
  have hlt := h.lt
  obtain ⟨_, _, _, _, h1, _⟩ := h
  refine ⟨ao, len, cap, f, (h1.below hb).set _ _, hr.set2 (fun q e _ => by have := hq q e; omega) _ _, hs, fun q e _ => ⟨by have := hq q e; omega, fun e2 => ?_⟩⟩
  have := hv q.block e2.symm
  have := hq q e
  omega
/-- What the loop holds on to. -/
structure RqI (w : World) (a b c d : Nat) (lo hi : Int) (N : Nat) (l : List Nat) (v : Value) (sb : Nat) (Q : Nat → Bool) (W : World) : Prop where
  rg : RgAt W w.heap.size a b c d lo hi
  st : Stb W sb N Q v
  row : W.ownsRow (w.heap.size + 1) 3 1 v l.length (ints l)
  sbl : w.heap.size + 1 ≤ sb
  bel : Below w.heap.size w W
section
variable {w : World} {a b c d : Nat} {lo hi : Int} {N : Nat} {l : List Nat} {v : Value} {sb : Nat} {Q : Nat → Bool} {W W' : World}
theorem RqI.next (h : RqI w a b c d lo hi N l v sb Q W) (hb : Below W.heap.size W W') : RqI w a b c d lo hi N l v sb Q W' :=
  ⟨h.rg.below hb, h.st.below hb, ownsRow_belowR h.row hb, h.sbl, h.bel.trans (hb.mono h.bel.size)⟩
theorem RqI.sbo (h : RqI w a b c d lo hi N l v sb Q W) : some sb ≠ v.ownBlock := fun e => by
  obtain ⟨_, _, _, _, h1, _⟩ := h.st
  rcases h.row.2 with ⟨rfl, _⟩ | ⟨g, cap, cur, rfl, _, hg, _⟩
  · simp [Value.ownBlock] at e
  · simp [Value.ownBlock] at e
    subst e
    unfold Box at h1
    rw [hg] at h1
    injection h1 with h1
    injection h1 with _ h2 _
    exact absurd h2 (by decide)
theorem RqI.lts (h : RqI w a b c d lo hi N l v sb Q W) : ∀ j, v.ownBlock = some j → j < W.heap.size := fun j e => (h.row.lt j e).2
theorem RqI.congr {Q' : Nat → Bool} (h : RqI w a b c d lo hi N l v sb Q W) (e : ∀ i, Q i = Q' i) : RqI w a b c d lo hi N l v sb Q' W := by
  obtain rfl : Q = Q' := funext e
  exact h
theorem RqI.put {w1 : World} {Q' : Nat → Bool} {ao : Option Addr} {len cap : Nat} {f : Nat → Nat} (h : RqI w a b c d lo hi N l v sb Q W) (hb : Below W.heap.size W w1) (hr : Rd w1 ao len f) (hq : ∀ q, ao = some q → W.heap.size ≤ q.block) (hs : IsSet N len f Q') :
    RqI w a b c d lo hi N l v sb Q' ((w1.setCell ⟨sb, 0, none⟩ (.int .i64 (N : Nat))).setCell ⟨sb, 1, none⟩ (.slice ao len cap)) := by
  have hn := h.next hb
  have hl := h.sbl
  have hk : ∀ (W : World) (j : Nat) (v : Value) (k : Nat), k ≠ sb → (W.setCell ⟨sb, j, none⟩ v).heap[k]? = W.heap[k]? := fun W j v k hk => Below.heap_setCell _ _ _ _ hk
  refine ⟨?_, h.st.put h.lts hb hr hq hs, ?_, hl, (hn.bel.setCell (p := ⟨sb, 0, none⟩) (by simp; omega) _).setCell (p := ⟨sb, 1, none⟩) (by simp; omega) _⟩
  · have := hn.rg
    unfold RgAt Cl at this ⊢
    rw [hk _ _ _ _ (by omega), hk _ _ _ _ (by omega)]
    exact this
  · rcases hn.row with ⟨r1, r2 | ⟨g, cp, cur, hv, hg, hh, r⟩⟩
    · exact ⟨r1, .inl r2⟩
    · have hne : g ≠ sb := fun e => hn.sbo (by rw [hv, e]; rfl)
      exact ⟨r1, .inr ⟨g, cp, cur, hv, hg, by rw [hk _ _ _ _ hne, hk _ _ _ _ hne]; exact hh, r⟩⟩
/-- A place is told. -/
theorem RqI.app {w3 : World} {o : Obj} {v' : Value} {x : Nat} (h : RqI w a b c d lo hi N l v sb Q W) (hown' : w3.ownsRow (w.heap.size + 1) 3 1 v' (l.length + 1) (ints l ++ [.int .i64 (x : Nat)])) (hgrow : (W.alloc o).grownBy w3 v.ownBlock) (hk : ∃ k cap, v' = .slice (some ⟨k, 0, none⟩) (l.length + 1) cap ∧ (v.ownBlock = some k ∨ W.heap.size ≤ k)) :
    RqI w a b c d lo hi N (l ++ [x]) v' sb Q w3 := by
  have hb0 : Below W.heap.size W (W.alloc o) := (Below.refl _ _).alloc (Nat.le_refl _) o
  have h1 := h.next hb0
  have hso := h.sbo
  obtain ⟨ao, len, cap, f, s1, s2, s3, s4⟩ := h.st
  have hsb := s1.lt
  have q1 := s1.below hb0
  have q2 := s2.below hb0
  refine ⟨?_, ⟨ao, len, cap, f, ?_, ⟨s2.small, fun hl => ?_⟩, s3, fun q e hl => ⟨(s4 q e hl).1, ?_⟩⟩, by simpa [ints] using hown', h.sbl, ?_⟩
  · have hr := h1.rg
    have hlt : w.heap.size < (W.alloc o).heap.size := hr.lt
    unfold RgAt Cl at hr ⊢
    rw [hgrow.block _ hlt (fun e => by have := (h.row.lt _ e.symm).1; omega)]
    exact hr
  · have hlt := q1.lt
    unfold Box at q1 ⊢
    rw [hgrow.block sb hlt hso]
    exact q1
  · obtain ⟨g, off, e, hlt, hc⟩ := q2.at_ hl
    have hne := (s4 _ e hl).2
    have hbk := hgrow.block g hlt hne
    refine ⟨g, off, e, Nat.lt_of_lt_of_le hlt hgrow.size, fun i hi => ?_⟩
    rw [World.cell?_of_block hbk]
    exact hc i hi
  · obtain ⟨k, cp, rfl, hk⟩ := hk
    intro e2
    have e3 : q.block = k := by simpa [Value.ownBlock] using e2
    rcases hk with hk | hk
    · exact (s4 q e hl).2 (by rw [e3, hk])
    · have := s2.lo q e hl
      omega
  · exact h1.bel.trans ((Below.refl _ _).grown hgrow (by have := h1.bel.size; exact this) (fun j e => by have := (h.row.lt j e).1; omega))
end
end Go.Proofs.YtehlmjjdegmnaaaDoor
