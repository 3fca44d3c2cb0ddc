/- What ring.Ends makes; the calls that it makes: contracts. -/
import Derived.Test.YtehlmjjdegmnaaaDoorMk
import Derived.Deep.RegionWith
import Derived.Deep.RegionHeld3
import Derived.Deep.CutBlock
namespace Go.Proofs.YtehlmjjdegmnaaaDoor
open Go.RowKit Go.Shelf
/-- What Ends makes: a function value that captures the marks, the ring, the bytes. -/
def RetEn (w : World) (a b c d : Nat) (lo hi : Int) (n : Nat) (B : Nat → Bool) (t : Nat → Nat) (e : Ending) (w' : World) : Prop :=
  ∃ pb pr pw g ao cap, e = .returned (.func (.func 56) #[] #[.pointer (some ⟨pb, 0, none⟩), .pointer (some ⟨pr, 0, none⟩), .pointer (some ⟨pw, 0, none⟩)]) ∧
    Cl w' pb 67 [.slice (some ⟨g, 0, none⟩) (n + 1) (n + 1)] ∧ Cl w' g 4 (bls B (n + 1)) ∧ RgAt w' pr a b c d lo hi ∧ Cl w' pw 30 [.slice ao n cap] ∧ RdB w' ao n t ∧
    (w.heap.size ≤ pb ∧ w.heap.size ≤ g ∧ w.heap.size ≤ pr ∧ w.heap.size ≤ pw ∧ ∀ q, ao = some q → w.heap.size ≤ q.block) ∧ Below w.heap.size w w'
theorem below_two (w : World) (o o' : Obj) : Below w.heap.size w ((w.alloc o).alloc o') := ((Below.refl _ _).alloc (Nat.le_refl _) _).alloc (by simp) _
theorem marked_in {W V : World} (hV : Below W.heap.size W V) (zo : Option Addr) (l lc n : Nat) (z : Nat → Int) (hr : RdI W zo l z) (hm : (l : Int) ≤ 9223372036854775807) (hn : n ≤ 1024) :
    Calls Tryd.prog 54 #[.slice zo l lc, .int .i64 (n : Nat)] V fun e w' => ∃ g, e = .returned (.slice (some ⟨g, 0, none⟩) (n + 1) (n + 1)) ∧ Cl w' g 4 (bls (among z l) (n + 1)) ∧ V.heap.size ≤ g ∧ Below V.heap.size V w' ∧ Below W.heap.size W w' ∧ W.heap.size ≤ g := by
  refine (marked_any zo l lc n z V (hr.below hV) hm hn).mono ?_
  rintro e w' ⟨g, he, h1, h2, h3⟩
  have := hV.size
  exact ⟨g, he, h1, h2, h3, hV.trans (h3.mono hV.size), by omega⟩
theorem clone_in {W V : World} (hV : Below W.heap.size W V) (ao : Option Addr) (n cap : Nat) (t : Nat → Nat) (ht : RdB W ao n t) (hm : (n : Int) ≤ 1024) (hn : (ao = none ∧ n = 0 ∧ cap = 0) ∨ ∃ a, ao = some a) :
    Calls Tryd.prog 55 #[.slice ao n cap] V fun e w' => ∃ ao4 cap4, e = .returned (.slice ao4 n cap4) ∧ RdB w' ao4 n t ∧ (∀ q, ao4 = some q → V.heap.size ≤ q.block ∧ W.heap.size ≤ q.block ∧ q.block < w'.heap.size) ∧ Below V.heap.size V w' ∧ Below W.heap.size W w' := by
  refine (clone_any ao n cap t V (ht.below hV) hm hn).mono ?_
  rintro e w' ⟨ao4, cap4, he, h1, h3⟩
  have := hV.size
  exact ⟨ao4, cap4, he, h1.1, fun q hq => ⟨(h1.2 q hq).1, by have := (h1.2 q hq).1; omega, (h1.2 q hq).2⟩, h3, hV.trans (h3.mono hV.size)⟩
theorem RdB.set {w : World} {ao : Option Addr} {n p i : Nat} {t : Nat → Nat} (h : RdB w ao n t) (hne : ∀ q, ao = some q → q.block ≠ p) (v : Value) : RdB (w.setCell ⟨p, i, none⟩ v) ao n t := by
  refine ⟨h.small, fun hl => ?_⟩
  obtain ⟨b, off, e, hlt, hc⟩ := h.at_ hl
  have hbp : b ≠ p := hne _ e
  refine ⟨b, off, e, by simpa using hlt, fun j hj => ?_⟩
  rw [World.cell?_of_block (w := w) (Below.heap_setCell _ _ _ _ hbp)]
  exact hc j hj
theorem Cl.ne {w : World} {b b' : Nat} {t t' : TypeId} {vs vs' : List Value} (h : Cl w b t vs) (h' : Cl w b' t' vs') (ht : t ≠ t') : b ≠ b' := by
  rintro rfl
  unfold Cl at h h'
  rw [h] at h'
  simp only [Option.some.injEq, Obj.cells.injEq] at h'
  exact ht h'.2.1
theorem en_fin {w X : World} {a b c d : Nat} {lo hi : Int} {n : Nat} {B : Nat → Bool} {t : Nat → Nat} {pb g cap4 : Nat} {ao4 : Option Addr} {v : Value}
    (k1 : Cl X pb 67 [.slice (some ⟨g, 0, none⟩) (n + 1) (n + 1)]) (k2 : Cl X g 4 (bls B (n + 1))) (k3 : RgAt X w.heap.size a b c d lo hi) (k4 : Cl X (w.heap.size + 1) 30 [v]) (k5 : RdB X ao4 n t)
    (h1 : w.heap.size ≤ pb) (h2 : w.heap.size ≤ g) (h3 : ∀ q, ao4 = some q → w.heap.size + 1 < q.block) (hb : Below w.heap.size w X) :
    RetEn w a b c d lo hi n B t (.returned (.func (.func 56) #[] #[.pointer (some ⟨pb, 0, none⟩), .pointer (some ⟨w.heap.size, 0, none⟩), .pointer (some ⟨w.heap.size + 1, 0, none⟩)])) (X.setCell ⟨w.heap.size + 1, 0, none⟩ (.slice ao4 n cap4)) := by
  refine ⟨pb, w.heap.size, w.heap.size + 1, g, ao4, cap4, rfl, k1.other (k4.ne k1 (by decide)) 0 _, k2.other (k4.ne k2 (by decide)) 0 _, Cl.other k3 (by omega) 0 _, k4.set 0 _, k5.set (fun q hq => by have := h3 q hq; omega) _, ⟨h1, h2, Nat.le_refl _, by omega, fun q hq => by have := h3 q hq; omega⟩, hb.setCell (p := ⟨w.heap.size + 1, 0, none⟩) (by simp) _⟩
theorem en_finA {w W w4 : World} {a b c d : Nat} {lo hi : Int} {n : Nat} {B : Nat → Bool} {t : Nat → Nat} {g cap4 : Nat} {ao4 : Option Addr} {v : Value}
    (hB2 : Below w.heap.size w W) (hlt : w.heap.size + 1 < W.heap.size) (hbW4 : Below W.heap.size W w4) (HK : Cl W (w.heap.size + 1) 30 [v]) (HR : RgAt W w.heap.size a b c d lo hi) (g4 : Cl w4 g 4 (bls B (n + 1))) (hgW : W.heap.size ≤ g)
    (ho4 : RdB w4 ao4 n t) (hq : ∀ q, ao4 = some q → W.heap.size ≤ q.block) :
    RetEn w a b c d lo hi n B t (.returned (.func (.func 56) #[] #[.pointer (some ⟨w4.heap.size, 0, none⟩), .pointer (some ⟨w.heap.size, 0, none⟩), .pointer (some ⟨w.heap.size + 1, 0, none⟩)])) ((w4.alloc (.cells #[.slice (some ⟨g, 0, none⟩) (n + 1) (n + 1)] 67)).setCell ⟨w.heap.size + 1, 0, none⟩ (.slice ao4 n cap4)) := by
  have := hbW4.size
  exact en_fin (Cl.new w4 67 [.slice (some ⟨g, 0, none⟩) (n + 1) (n + 1)]) (g4.alloc _) (Cl.alloc (HR.below hbW4) _) ((HK.below hbW4).alloc _) (ho4.below ((Below.refl _ _).alloc (Nat.le_refl _) _)) (by omega) (by omega) (fun q h => by have := hq q h; omega) ((hB2.trans (hbW4.mono (by omega))).alloc (by omega) _)
theorem en_finB {w W w4 : World} {a b c d : Nat} {lo hi : Int} {n : Nat} {B : Nat → Bool} {t : Nat → Nat} {pb g cap4 : Nat} {ao4 : Option Addr} {v : Value}
    (hB2 : Below w.heap.size w W) (hlt : w.heap.size + 1 < W.heap.size) (hbW4 : Below W.heap.size W w4) (HK : Cl W (w.heap.size + 1) 30 [v]) (HR : RgAt W w.heap.size a b c d lo hi) (g4 : Cl w4 g 4 (bls B (n + 1))) (hgW : W.heap.size ≤ g)
    (ho4 : RdB w4 ao4 n t) (hq : ∀ q, ao4 = some q → W.heap.size ≤ q.block ∧ q.block ≠ pb) (kb4 : Cl w4 pb 67 [.slice none 0 0]) (hpb : W.heap.size ≤ pb) :
    RetEn w a b c d lo hi n B t (.returned (.func (.func 56) #[] #[.pointer (some ⟨pb, 0, none⟩), .pointer (some ⟨w.heap.size, 0, none⟩), .pointer (some ⟨w.heap.size + 1, 0, none⟩)])) ((w4.setCell ⟨pb, 0, none⟩ (.slice (some ⟨g, 0, none⟩) (n + 1) (n + 1))).setCell ⟨w.heap.size + 1, 0, none⟩ (.slice ao4 n cap4)) := by
  have := hbW4.size
  exact en_fin (kb4.set 0 _) (g4.other (kb4.ne g4 (by decide)) 0 _) (Cl.other (HR.below hbW4) (by omega) 0 _) ((HK.below hbW4).other (by omega) 0 _) (ho4.set (fun q h => (hq q h).2) _) (by omega) (by omega) (fun q h => by have := hq q h; omega) ((hB2.trans (hbW4.mono (by omega))).setCell (p := ⟨pb, 0, none⟩) (by simp; omega) _)
end Go.Proofs.YtehlmjjdegmnaaaDoor
