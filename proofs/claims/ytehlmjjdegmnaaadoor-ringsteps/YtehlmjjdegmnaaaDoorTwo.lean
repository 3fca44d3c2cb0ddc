/- What Or, And, Not begin with; a word of a row; their loop's relation. -/
import Derived.Test.YtehlmjjdegmnaaaDoorWth
import Derived.Deep.RegionWith
import Derived.Deep.DeepCutAuto
import Derived.Deep.DrawnRows
namespace Go.Proofs.YtehlmjjdegmnaaaDoor
open Go.RowKit
attribute [local go_sem ↓] Go.wp_at_zero Go.wp_at_succ

/-- The two arguments' boxes and the result's, as they were laid. -/
structure Inv (w : World) (x0 x1 y0 y1 : Value) (W : World) : Prop where
  below : Below w.heap.size w W
  b0 : Box W w.heap.size x0 x1
  b1 : Box W (w.heap.size + 1) y0 y1
  b2 : Box W (w.heap.size + 2) (.int .i64 0) (.slice none 0 0)
theorem Inv.next {w W W' : World} {x0 x1 y0 y1 : Value} (h : Inv w x0 x1 y0 y1 W) (hb : Below W.heap.size W W') : Inv w x0 x1 y0 y1 W' :=
  ⟨h.below.trans (hb.mono h.below.size), h.b0.below hb, h.b1.below hb, h.b2.below hb⟩
theorem Inv.drew {w W : World} {x0 x1 y0 y1 : Value} (h : Inv w x0 x1 y0 y1 W) : Inv w x0 x1 y0 y1 W.drew := h.next (Below.refl _ _).drew
theorem Inv.alloc {w W : World} {x0 x1 y0 y1 : Value} (h : Inv w x0 x1 y0 y1 W) (o : Obj) : Inv w x0 x1 y0 y1 (W.alloc o) := h.next ((Below.refl _ _).alloc (Nat.le_refl _) _)
theorem Inv.start (w : World) (x0 x1 y0 y1 : Value) : Inv w x0 x1 y0 y1 (((w.alloc (.cells #[x0, x1] 29)).alloc (.cells #[y0, y1] 29)).alloc (.cells #[.int .i64 0, .slice none 0 0] 29)) :=
  ⟨(((Below.refl _ _).alloc (Nat.le_refl _) _).alloc (by simp) _).alloc (by simp; omega) _, ((Box.new w x0 x1).alloc _).alloc _, (Box.new1 w _ y0 y1).alloc _, Box.new2 w _ _ _ _⟩
theorem Inv.size {w W : World} {x0 x1 y0 y1 : Value} (h : Inv w x0 x1 y0 y1 W) : w.heap.size + 3 ≤ W.heap.size := h.b2.lt
theorem copied_inv {w W : World} {x0 x1 y0 y1 x : Value} {n : Nat} {P : Nat → Bool} (h : Arg w x n P) (hI : Inv w x0 x1 y0 y1 W) :
    Calls Tryd.prog 47 #[x] W fun e w' => ∃ ao len cap f, e = .returned (.agg #[.int .i64 (n : Nat), .slice ao len cap]) ∧ Own (w.heap.size + 3) w' ao len f ∧ (∀ a, ao = some a → W.heap.size ≤ a.block ∧ a.block < w'.heap.size) ∧ IsSet n len f P ∧ Inv w x0 x1 y0 y1 w' ∧ Below W.heap.size W w' :=
  (copied_any (h.below hI.below)).mono fun _ _ ⟨ao, len, cap, f, he, ho, hs, hb⟩ => ⟨ao, len, cap, f, he, ho.mono hI.size, fun a e => ⟨(ho.lt a e).2, (ho.lt a e).1⟩, hs, hI.next hb, hb⟩
theorem sound_inv {w W : World} {x0 x1 y0 y1 x : Value} {n : Nat} {P : Nat → Bool} (h : Arg w x n P) (hI : Inv w x0 x1 y0 y1 W) :
    Calls Tryd.prog 40 #[x] W fun e w' => ∃ ao len cap f, e = .returned (.agg #[.int .i64 (n : Nat), .slice ao len cap]) ∧ Rd w ao len f ∧ IsSet n len f P ∧ Inv w x0 x1 y0 y1 w' ∧ Below W.heap.size W w' :=
  (sound_any h hI.below).mono fun _ _ ⟨ao, len, cap, f, he, hr, hs, hb⟩ => ⟨ao, len, cap, f, he, hr, hs, hI.next hb, hb⟩

/-- Behind 'c, b := copied(a), sound(b)': the boxes, and what lies in them. -/
structure Two (w : World) (n : Nat) (P : Nat → Bool) (n2 : Nat) (Q : Nat → Bool) (p : Value) (wx : World) : Prop where
  ex : ∃ bc ao len cap f ao2 len2 cap2 g, p = .pointer (some ⟨bc, 0, none⟩) ∧ w.heap.size + 3 ≤ bc ∧ Box wx bc (.int .i64 (n : Nat)) (.slice ao len cap) ∧ Own (w.heap.size + 3) wx ao len f ∧ (∀ a, ao = some a → a.block ≠ bc) ∧ IsSet n len f P ∧
    Box wx (w.heap.size + 1) (.int .i64 (n2 : Nat)) (.slice ao2 len2 cap2) ∧ Rd w ao2 len2 g ∧ IsSet n2 len2 g Q ∧ Below w.heap.size w wx ∧ Box wx (w.heap.size + 2) (.int .i64 0) (.slice none 0 0)

theorem Own.box {B : Nat} {w : World} {ao : Option Addr} {len : Nat} {f : Nat → Nat} (h : Own B w ao len f) {q : Nat} (hne : ∀ a, ao = some a → a.block ≠ q) (u v : Value) :
    Own B ((w.setCell ⟨q, 0, none⟩ u).setCell ⟨q, 1, none⟩ v) ao len f := by
  refine Own.but (ax := some ⟨q, 0, none⟩) h (((But.refl _ _).setCell (p := ⟨q, 0, none⟩) (.inl ⟨_, rfl, rfl⟩) _).setCell (p := ⟨q, 1, none⟩) (.inl ⟨_, rfl, rfl⟩) _) ?_
  intro a c ea ec
  obtain rfl := Option.some.inj ec
  exact Ne.symm (hne a ea)
/-- c's box was made last. -/
theorem two_new {w w2 : World} {x0 x1 y0 y1 : Value} {n : Nat} {P : Nat → Bool} {m : Nat} {Q : Nat → Bool} {ao ao2 : Option Addr} {len cap len2 cap2 : Nat} {f g : Nat → Nat} (hI : Inv w x0 x1 y0 y1 w2) (ho : Own (w.heap.size + 3) w2 ao len f) (hs : IsSet n len f P)
    (hr2 : Rd w ao2 len2 g) (hs2 : IsSet m len2 g Q) :
    Two w n P m Q (.pointer (some ⟨w2.heap.size, 0, none⟩)) (((w2.setCell ⟨w.heap.size + 1, 0, none⟩ (.int .i64 (m : Nat))).setCell ⟨w.heap.size + 1, 1, none⟩ (.slice ao2 len2 cap2)).alloc (.cells #[.int .i64 (n : Nat), .slice ao len cap] 29)) := by
  have hz := hI.size
  refine ⟨w2.heap.size, ao, len, cap, f, ao2, len2, cap2, g, rfl, hz, ?_, ?_, ?_, hs, ?_, hr2, hs2, ?_, ?_⟩
  · have := Box.new ((w2.setCell ⟨w.heap.size + 1, 0, none⟩ (.int .i64 (m : Nat))).setCell ⟨w.heap.size + 1, 1, none⟩ (.slice ao2 len2 cap2)) (.int .i64 (n : Nat)) (.slice ao len cap)
    simpa using this
  · exact (ho.box (fun a e => by have := ho.lt a e; omega) _ _).alloc _
  · intro a e; have := ho.lt a e; omega
  · exact (hI.b1.set _ _).alloc _
  · exact ((hI.below.setCell (p := ⟨w.heap.size + 1, 0, none⟩) (by simp) _).setCell (p := ⟨w.heap.size + 1, 1, none⟩) (by simp) _).alloc (by simp; omega) _
  · exact ((hI.b2.other (p := ⟨w.heap.size + 1, 0, none⟩) (by simp) _).other (p := ⟨w.heap.size + 1, 1, none⟩) (by simp) _).alloc _
/-- c's box was made before. -/
theorem two_set {w w2 : World} {x0 x1 y0 y1 : Value} {n : Nat} {P : Nat → Bool} {m : Nat} {Q : Nat → Bool} {ao ao2 : Option Addr} {len cap len2 cap2 : Nat} {f g : Nat → Nat} (hI : Inv w x0 x1 y0 y1 w2) (ho : Own (w.heap.size + 3) w2 ao len f) (hs : IsSet n len f P)
    (hr2 : Rd w ao2 len2 g) (hs2 : IsSet m len2 g Q) {q : Nat} (hq : w.heap.size + 3 ≤ q) {u v : Value} (bq : Box w2 q u v) (hne : ∀ a, ao = some a → a.block ≠ q) :
    Two w n P m Q (.pointer (some ⟨q, 0, none⟩)) ((((w2.setCell ⟨q, 0, none⟩ (.int .i64 (n : Nat))).setCell ⟨q, 1, none⟩ (.slice ao len cap)).setCell ⟨w.heap.size + 1, 0, none⟩ (.int .i64 (m : Nat))).setCell ⟨w.heap.size + 1, 1, none⟩ (.slice ao2 len2 cap2)) := by
  have hz := hI.size
  refine ⟨q, ao, len, cap, f, ao2, len2, cap2, g, rfl, hq, ?_, ?_, hne, hs, ?_, hr2, hs2, ?_, ?_⟩
  · exact ((bq.set _ _).other (p := ⟨w.heap.size + 1, 0, none⟩) (by show w.heap.size + 1 ≠ q; omega) _).other (p := ⟨w.heap.size + 1, 1, none⟩) (by show w.heap.size + 1 ≠ q; omega) _
  · exact (ho.box hne _ _).box (fun a e => by have := ho.lt a e; omega) _ _
  · exact ((hI.b1.other (p := ⟨q, 0, none⟩) (by show q ≠ _; omega) _).other (p := ⟨q, 1, none⟩) (by show q ≠ _; omega) _).set _ _
  · exact (((hI.below.setCell (p := ⟨q, 0, none⟩) (by show w.heap.size ≤ q; omega) _).setCell (p := ⟨q, 1, none⟩) (by show w.heap.size ≤ q; omega) _).setCell (p := ⟨w.heap.size + 1, 0, none⟩) (by simp) _).setCell (p := ⟨w.heap.size + 1, 1, none⟩) (by simp) _
  · exact (((hI.b2.other (p := ⟨q, 0, none⟩) (by show q ≠ _; omega) _).other (p := ⟨q, 1, none⟩) (by show q ≠ _; omega) _).other (p := ⟨w.heap.size + 1, 0, none⟩) (by simp) _).other (p := ⟨w.heap.size + 1, 1, none⟩) (by simp) _


/-- The word i of a row, 0 outside it. -/
def wd (len : Nat) (g : Nat → Nat) (i : Int) : Nat := if 0 ≤ i ∧ i < len then g i.toNat else 0
theorem wd_lt {len : Nat} {g : Nat → Nat} (h : ∀ i, i < len → g i < 18446744073709551616) (i : Int) : wd len g i < 18446744073709551616 := by
  unfold wd; split
  · exact h _ (by omega)
  · decide
theorem wordAt_any (n i : Int) (ao : Option Addr) (len cap : Nat) (g : Nat → Nat) (w : World) (hr : Rd w ao len g) :
    Calls Tryd.prog 51 #[.agg #[.int .i64 n, .slice ao len cap], .int .i64 i] w fun e w' => e = .returned (.int .u64 (wd len g i : Nat)) ∧ Below w.heap.size w w' := by
  by_cases hi : 0 ≤ i ∧ i < len
  · obtain ⟨b, off, rfl, hb, hc⟩ := hr.at_ (by omega)
    have := wordAt_in n i b off len cap (g i.toNat : Nat) w hi.1 hi.2 (hc _ (by omega)) hb
    unfold wd; rw [if_pos hi]; exact this
  · have := wordAt_out n i ao len cap w (by omega)
    unfold wd; rw [if_neg hi]; exact this


theorem wd_bit {m len2 : Nat} {g : Nat → Nat} {Q : Nat → Bool} (h : IsSet m len2 g Q) (i : Nat) : (wd len2 g ((i / 64 : Nat) : Int)).testBit (i % 64) = Q i := by
  unfold wd
  by_cases hi : i / 64 < len2
  · rw [if_pos (by omega), Int.toNat_natCast]
    exact h.hbit i (by omega)
  · have := h.hlen
    rw [if_neg (by omega), Nat.zero_testBit, h.hout i (by omega)]
theorem set_or {n len m len2 : Nat} {f g g2 : Nat → Nat} {P Q : Nat → Bool} (h : IsSet n len f P) (h2 : IsSet m len2 g Q)
    (hb : ∀ k, k < 64 * len → bitAt g2 k = (bitAt (fun j => f j ||| wd len2 g j) k && decide (k < n))) : IsSet n len g2 (fun i => P i || (Q i && decide (i < n))) := by
  refine ⟨h.hle, h.hlen, fun i hi => ?_, fun i hi => ?_⟩
  · rw [hb i hi]
    show ((f (i / 64) ||| wd len2 g ((i / 64 : Nat) : Int)).testBit (i % 64) && _) = _
    rw [Nat.testBit_or, wd_bit h2 i]
    have := h.hbit i hi
    unfold bitAt at this
    rw [this]
    by_cases hin : i < n
    · simp [hin]
    · simp [hin, h.hout i (by omega)]
  · rw [h.hout i hi, decide_eq_false (by omega)]; simp
theorem set_and {n len m len2 : Nat} {f g : Nat → Nat} {P Q : Nat → Bool} (h : IsSet n len f P) (h2 : IsSet m len2 g Q) : IsSet n len (fun j => f j &&& wd len2 g j) (fun i => P i && Q i) := by
  refine ⟨h.hle, h.hlen, fun i hi => ?_, fun i hi => ?_⟩
  · show (f (i / 64) &&& wd len2 g ((i / 64 : Nat) : Int)).testBit (i % 64) = _
    rw [Nat.testBit_and, wd_bit h2 i]
    have := h.hbit i hi
    unfold bitAt at this
    rw [this]
  · rw [h.hout i hi]; rfl
theorem set_not {n len m len2 : Nat} {f g : Nat → Nat} {P Q : Nat → Bool} (h : IsSet n len f P) (h2 : IsSet m len2 g Q) (hf : ∀ i, i < len → f i < 18446744073709551616) (hg : ∀ i, i < len2 → g i < 18446744073709551616) :
    IsSet n len (fun j => f j &&& (18446744073709551615 - wd len2 g j)) (fun i => P i && !Q i) := by
  refine ⟨h.hle, h.hlen, fun i hi => ?_, fun i hi => ?_⟩
  · show (f (i / 64) &&& (18446744073709551615 - wd len2 g ((i / 64 : Nat) : Int))).testBit (i % 64) = _
    rw [andNot_bit _ _ (hf _ (by omega)) (wd_lt hg _), wd_bit h2 i]
    have := h.hbit i hi
    unfold bitAt at this
    rw [this]
  · rw [h.hout i hi]; rfl

/-- The loop of Or, And, Not: below k the new words h, from k on the old ones f. -/
structure Rel (w : World) (n n2 bc : Nat) (ao ao2 : Option Addr) (len cap len2 cap2 : Nat) (f h : Nat → Nat) (k : Nat) (wr : World) : Prop where
  bc1 : Box wr bc (.int .i64 (n : Nat)) (.slice ao len cap)
  own : Own (w.heap.size + 3) wr ao len (fun j => if j < k then h j else f j)
  b1 : Box wr (w.heap.size + 1) (.int .i64 (n2 : Nat)) (.slice ao2 len2 cap2)
  below : Below w.heap.size w wr
  b2 : Box wr (w.heap.size + 2) (.int .i64 0) (.slice none 0 0)
theorem Rel.start {w wc : World} {n n2 bc : Nat} {ao ao2 : Option Addr} {len cap len2 cap2 : Nat} {f : Nat → Nat} (h : Nat → Nat) (bc1 : Box wc bc (.int .i64 (n : Nat)) (.slice ao len cap)) (own : Own (w.heap.size + 3) wc ao len f)
    (b1 : Box wc (w.heap.size + 1) (.int .i64 (n2 : Nat)) (.slice ao2 len2 cap2)) (below : Below w.heap.size w wc) (b2 : Box wc (w.heap.size + 2) (.int .i64 0) (.slice none 0 0)) : Rel w n n2 bc ao ao2 len cap len2 cap2 f h 0 wc :=
  ⟨bc1, by simpa using own, b1, below, b2⟩
theorem Rel.next {w wr : World} {n n2 bc : Nat} {ao ao2 : Option Addr} {len cap len2 cap2 : Nat} {f h : Nat → Nat} {k : Nat} (r : Rel w n n2 bc ao ao2 len cap len2 cap2 f h k wr) (u : World) (hk : k < len) {b : Nat} (e : ao = some ⟨b, 0, none⟩)
    (hv : h k < 18446744073709551616) (hne : ∀ a, ao = some a → a.block ≠ bc) : Rel w n n2 bc ao ao2 len cap len2 cap2 f h (k + 1) ((near wr u).setCell ⟨b, k, none⟩ (.int .u64 (h k : Nat))) := by
  have hl := r.own.lt _ e
  have hn := hne _ e
  refine ⟨(r.bc1.below (near_below wr u)).other (p := ⟨b, k, none⟩) hn _, ?_, (r.b1.below (near_below wr u)).other (p := ⟨b, k, none⟩) (by show b ≠ _; have := hl.2; simp at this; omega) _, ?_, (r.b2.below (near_below wr u)).other (p := ⟨b, k, none⟩) (by show b ≠ _; have := hl.2; simp at this; omega) _⟩
  · have := (r.own.below (near_below wr u)).set e hk hv
    have e2 : upd (fun j => if j < k then h j else f j) k (h k) = fun j => if j < k + 1 then h j else f j := by
      funext j
      unfold upd
      by_cases hj : j = k
      · subst hj; simp
      · by_cases hj2 : j < k
        · simp [hj, hj2, Nat.lt_succ_of_lt hj2]
        · have : ¬ j < k + 1 := by omega
          simp [hj, hj2, this]
    rw [e2] at this
    exact this
  · exact (r.below.trans ((near_below wr u).mono r.below.size)).setCell (p := ⟨b, k, none⟩) (by show w.heap.size ≤ b; have := hl.2; simp at this; omega) _
theorem Rel.done {w wr : World} {n n2 bc : Nat} {ao ao2 : Option Addr} {len cap len2 cap2 : Nat} {f h : Nat → Nat} (r : Rel w n n2 bc ao ao2 len cap len2 cap2 f h len wr) : Own (w.heap.size + 3) wr ao len h := by
  have := r.own
  refine ⟨fun i hi => ?_, this.lt, fun hl => ?_⟩
  · have := this.small i hi; simpa [hi] using this
  · obtain ⟨b, cur, e, hh, hsz, hc⟩ := this.row hl
    exact ⟨b, cur, e, hh, hsz, fun i hi => by have := hc i hi; simpa [hi] using this⟩
end Go.Proofs.YtehlmjjdegmnaaaDoor
