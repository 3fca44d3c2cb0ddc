/- RingJoins: what its walks hold on to. -/
import Derived.Test.YtehlmjjdegmnaaaTg
import Derived.Test.YtehlmjjdegmnaaaLv
import Derived.Test.YtehlmjjdegmnaaaRw
import Derived.Deep.RegionHeld3
import Derived.Deep.CutRange
namespace Go.Proofs.Ytehlmjjdegmnaaa
open Go.RowKit Go.Shelf
theorem slice_to (ao : Option Addr) (n cap x : Nat) (hx : x ≤ cap) (w : World) : (Instr.slice 28 (.slice ao n cap) none (some (.int .i64 (x : Nat))) none).run Try.prog w = .ok (.slice ao x cap) w := by
  have hxn : (x : Int) ≤ (cap : Int) := by omega
  by_cases h : cap = 0
  · subst h
    obtain rfl : x = 0 := by omega
    simp [go_sem, Try.underlying28]
  · cases ao <;> simp [go_sem, Try.underlying28, hxn, h, Addr.add]
theorem slice_from (ao : Option Addr) (n cap x : Nat) (hx : x ≤ n) (w : World) : (Instr.slice 28 (.slice ao n cap) (some (.int .i64 (x : Nat))) none none).run Try.prog w = .ok (.slice (if cap = x then ao else ao.map (·.add x)) (n - x) (cap - x)) w := by
  have hxn : (x : Int) ≤ (n : Int) := by omega
  by_cases h : cap = x <;> simp [go_sem, Try.underlying28, hxn, h]
theorem RdB.upto {w : World} {ao : Option Addr} {n : Nat} {f : Nat → Nat} (h : RdB w ao n f) (k : Nat) (hk : k ≤ n) : RdB w ao k f :=
  ⟨fun i hi => h.small i (by omega), fun h0 => by
    obtain ⟨b, off, e, hlt, hc⟩ := h.at_ (by omega)
    exact ⟨b, off, e, hlt, fun i hi => hc i (by omega)⟩⟩
theorem RdB.after {w : World} {ao : Option Addr} {n cap : Nat} {f : Nat → Nat} (h : RdB w ao n f) (hc : n ≤ cap) (x : Nat) (hx : x ≤ n) : RdB w (if cap = x then ao else ao.map (·.add x)) (n - x) (fun i => f (x + i)) := by
  refine ⟨fun i hi => h.small (x + i) (by omega), fun h0 => ?_⟩
  obtain ⟨b, off, rfl, hlt, hcc⟩ := h.at_ (by omega)
  rw [if_neg (by omega)]
  refine ⟨b, off + x, ?_, hlt, fun i hi => ?_⟩
  · by_cases hx0 : x = 0
    · subst hx0; simp [Addr.add]
    · simp [Addr.add, hx0]
  · rw [Nat.add_assoc]
    exact hcc (x + i) (by omega)
theorem alF_add (P : Nat → Bool) (t : Nat → Nat) (k : Nat) : ∀ m, alF P t (k + m) = (alF P t k && alF P (fun i => t (k + i)) m)
  | 0 => by simp [alF]
  | m + 1 => by rw [← Nat.add_assoc, alF, alF_add P t k m, alF, Bool.and_assoc]
/-- Two texts one behind the other. -/
theorem rP_two (P : Nat → Bool) (t : Nat → Nat) (N k m : Nat) (Q : Nat → Bool) (i : Nat) : rP P (fun j => t (k + j)) m N (rP P t k N Q) i = rP P t (k + m) N Q i := by
  unfold rP
  rw [alF_add]
  by_cases h1 : k + m ≤ i
  · rw [decide_eq_true (p := m ≤ i) (by omega), decide_eq_true (p := k ≤ i - m) (by omega), decide_eq_true h1, show i - m - k = i - (k + m) by omega]
    by_cases h2 : i < N
    · rw [decide_eq_true (p := i - m < N) (by omega), decide_eq_true h2]
      cases alF P t k <;> cases alF P (fun j => t (k + j)) m <;> simp
    · rw [decide_eq_false h2]; simp
  · rw [decide_eq_false h1]
    by_cases h3 : m ≤ i
    · rw [decide_eq_false (p := k ≤ i - m) (by omega)]; simp
    · rw [decide_eq_false h3]; simp
/-- What the law holds on to. -/
structure TJ (w : World) (a b c d : Nat) (lo hi m : Int) (xo : Option Addr) (xl xc N : Nat) (Q : Nat → Bool) (ao : Option Addr) (n : Nat) (t : Nat → Nat) (W : World) : Prop where
  rg : RgAt W w.heap.size a b c d lo hi
  bs : Box W (w.heap.size + 1) (.int .i64 m) (.slice xo xl xc)
  st : Sta W (.agg #[.int .i64 m, .slice xo xl xc]) N Q
  tx : RdB W ao n t
  bel : Below w.heap.size w W
theorem TJ.next {w : World} {a b c d : Nat} {lo hi m : Int} {xo : Option Addr} {xl xc N : Nat} {Q : Nat → Bool} {ao : Option Addr} {n : Nat} {t : Nat → Nat} {W W' : World} (h : TJ w a b c d lo hi m xo xl xc N Q ao n t W) (hb : Below W.heap.size W W') : TJ w a b c d lo hi m xo xl xc N Q ao n t W' :=
  ⟨h.rg.below hb, h.bs.below hb, h.st.below hb, h.tx.below hb, h.bel.trans (hb.mono h.bel.size)⟩
theorem TJ.put2 {w : World} {a b c d : Nat} {lo hi m : Int} {xo : Option Addr} {xl xc N : Nat} {Q : Nat → Bool} {ao : Option Addr} {n : Nat} {t : Nat → Nat} {W : World} (h : TJ w a b c d lo hi m xo xl xc N Q ao n t W)
    (hx : Sta w (.agg #[.int .i64 m, .slice xo xl xc]) N Q) (ht : RdB w ao n t) {pb : Nat} (hp : w.heap.size + 2 ≤ pb) (u v : Value) : TJ w a b c d lo hi m xo xl xc N Q ao n t ((W.setCell ⟨pb, 0, none⟩ u).setCell ⟨pb, 1, none⟩ v) := by
  have hb : Below w.heap.size w ((W.setCell ⟨pb, 0, none⟩ u).setCell ⟨pb, 1, none⟩ v) := (h.bel.setCell (p := ⟨pb, 0, none⟩) (by simp; omega) u).setCell (p := ⟨pb, 1, none⟩) (by simp; omega) v
  exact ⟨Cl.other (Cl.other h.rg (by omega) 0 u) (by omega) 1 v, (h.bs.other (p := ⟨pb, 0, none⟩) (by simp; omega) u).other (p := ⟨pb, 1, none⟩) (by simp; omega) v, hx.below hb, ht.below hb, hb⟩
/-- Where a lies. -/
def JA (w : World) (a b c d : Nat) (lo hi m : Int) (xo : Option Addr) (xl xc hi' : Nat) (Q R : Nat → Bool) (ao : Option Addr) (n : Nat) (t : Nat → Nat) (v : Value) (W : World) : Prop :=
  ∃ pb yo yl yc, v = .pointer (some ⟨pb, 0, none⟩) ∧ Box W pb (.int .i64 ((hi' : Int) + 1)) (.slice yo yl yc) ∧ SetAt W (.agg #[.int .i64 ((hi' : Int) + 1), .slice yo yl yc]) (hi' + 1) R ∧ TJ w a b c d lo hi m xo xl xc (hi' + 1) Q ao n t W ∧ w.heap.size + 2 ≤ pb
theorem setAt_set2 {W : World} {hi' : Nat} {yo : Option Addr} {yl yc : Nat} {f : Nat → Nat} {R : Nat → Bool} {p : Nat} {u v : Value} (hr : Rd W yo yl f) (hs : IsSet (hi' + 1) yl f R) (hne : ∀ q, yo = some q → q.block ≠ p) : SetAt ((W.setCell ⟨p, 0, none⟩ u).setCell ⟨p, 1, none⟩ v) (.agg #[.int .i64 ((hi' : Int) + 1), .slice yo yl yc]) (hi' + 1) R :=
  ⟨yo, yl, yc, f, rfl, hr.set2 (fun q e _ => hne q e) u v, hs⟩
theorem Hid.mk' {p : Prop} (h : p) : Hid p := h
/-- What the law holds on to at its end. -/
structure TL (w : World) (a b c d : Nat) (lo hi m : Int) (xo : Option Addr) (xl xc hi' : Nat) (Q R : Nat → Bool) (ao : Option Addr) (n : Nat) (t : Nat → Nat) (pa : Nat) (ya : Option Addr) (la ca pb : Nat) (yb : Option Addr) (lb cb : Nat) (fb : Nat → Nat) (R' : Nat → Bool) (W : World) : Prop where
  tj : TJ w a b c d lo hi m xo xl xc (hi' + 1) Q ao n t W
  ba : Box W pa (.int .i64 ((hi' : Int) + 1)) (.slice ya la ca)
  sa : SetAt W (.agg #[.int .i64 ((hi' : Int) + 1), .slice ya la ca]) (hi' + 1) R
  bb : Box W pb (.int .i64 ((hi' : Int) + 1)) (.slice yb lb cb)
  rb : Rd W yb lb fb
  sb : IsSet (hi' + 1) lb fb R'
theorem TL.next {w : World} {a b c d : Nat} {lo hi m : Int} {xo : Option Addr} {xl xc hi' : Nat} {Q R : Nat → Bool} {ao : Option Addr} {n : Nat} {t : Nat → Nat} {pa : Nat} {ya : Option Addr} {la ca pb : Nat} {yb : Option Addr} {lb cb : Nat} {fb : Nat → Nat} {R' : Nat → Bool} {W W' : World} (h : TL w a b c d lo hi m xo xl xc hi' Q R ao n t pa ya la ca pb yb lb cb fb R' W) (hb : Below W.heap.size W W') : TL w a b c d lo hi m xo xl xc hi' Q R ao n t pa ya la ca pb yb lb cb fb R' W' :=
  ⟨h.tj.next hb, h.ba.below hb, h.sa.below hb, h.bb.below hb, h.rb.below hb, h.sb⟩
end Go.Proofs.Ytehlmjjdegmnaaa
