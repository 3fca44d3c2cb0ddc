/- The reference's reader: Read, Done, Fail, Num: the walks. -/
import Derived.Test.YtnjnaihogbnmaaaFr
namespace Go.Proofs.Ytnjnaihogbnmaaa
open Go.RowKit
/-- The reference's reader, in block b: n bytes f are left, the error e. -/
structure FRdr (w : World) (b : Nat) (ao : Option Addr) (n cap : Nat) (f : Nat → Nat) (e : Int) : Prop where
  blk : w.heap[b]? = some (.cells #[.slice ao n cap, .int .i64 e] 51 (0, 0))
  rd : Rd w ao n f
  room : n ≤ cap
  nil : ao = none → n = 0 ∧ cap = 0
  inv : e ≠ 0 → n = 0
theorem FRdr.lt {w : World} {b : Nat} {ao : Option Addr} {n cap : Nat} {f : Nat → Nat} {e : Int} (h : FRdr w b ao n cap f e) : b < w.heap.size := (Array.getElem?_eq_some_iff.1 h.blk).1
theorem FRdr.cells {w : World} {b : Nat} {ao : Option Addr} {n cap : Nat} {f : Nat → Nat} {e : Int} (h : FRdr w b ao n cap f e) :
    w.cell? ⟨b, 0, none⟩ = some (.slice ao n cap) ∧ w.cell? ⟨b, 1, none⟩ = some (.int .i64 e) ∧ w.frozen? ⟨b, 0, none⟩ = false ∧ w.frozen? ⟨b, 1, none⟩ = false :=
  ⟨cell_of_row w b 0 _ 51 (0, 0) h.blk, cell_of_row w b 1 _ 51 (0, 0) h.blk, frozen_of_row w b 0 _ 51 h.blk, frozen_of_row w b 1 _ 51 h.blk⟩
theorem FRdr.apart {w : World} {b : Nat} {ao : Option Addr} {n cap : Nat} {f : Nat → Nat} {e : Int} (h : FRdr w b ao n cap f e) {ar : Option Addr} {m : Nat} {g : Nat → Nat} (hr : Rd w ar m g) (hn : 0 < m) (a : Addr) (ea : ar = some a) : b ≠ a.block := by
  obtain ⟨b', off, e', _, hc⟩ := hr.at_ hn
  rw [e'] at ea
  obtain rfl := Option.some.inj ea
  rintro rfl
  have h0 := hc 0 hn
  rw [cell_of_row w b (off + 0) _ 51 (0, 0) h.blk] at h0
  have : off = 0 ∨ off = 1 ∨ 2 ≤ off := by omega
  rcases this with rfl | rfl | h3
  · simp at h0
  · simp at h0
  · rw [Array.getElem?_eq_none (by simp; omega)] at h0
    simp at h0
theorem FRdr.below {w w' : World} {b : Nat} {ao : Option Addr} {n cap : Nat} {f : Nat → Nat} {e : Int} (h : FRdr w b ao n cap f e) (hb : Below w.heap.size w w') : FRdr w' b ao n cap f e :=
  ⟨by rw [hb.block b h.lt]; exact h.blk, h.rd.below hb, h.room, h.nil, h.inv⟩
theorem FRdr.congr {w : World} {b : Nat} {ao : Option Addr} {n cap : Nat} {f g : Nat → Nat} {e : Int} (h : FRdr w b ao n cap f e) (hg : ∀ i, i < n → f i = g i) : FRdr w b ao n cap g e :=
  ⟨h.blk, h.rd.congr hg, h.room, h.nil, h.inv⟩
/-- Another block is written. -/
theorem FRdr.but {w w' : World} {b q : Nat} {ao : Option Addr} {n cap : Nat} {f : Nat → Nat} {e : Int} (h : FRdr w b ao n cap f e) (hb : But (some ⟨q, 0, none⟩) w w') (hne : q ≠ b) (hq : 0 < n → ∀ a, ao = some a → q ≠ a.block) : FRdr w' b ao n cap f e :=
  ⟨by rw [hb.block b h.lt (fun a ea => by obtain rfl := Option.some.inj ea; exact hne)]; exact h.blk, h.rd.but hb (fun hl a c ea ec => by obtain rfl := Option.some.inj ec; exact hq hl a ea), h.room, h.nil, h.inv⟩
theorem FRdr.set0 {w : World} {b : Nat} {ao : Option Addr} {n cap : Nat} {f : Nat → Nat} {e : Int} (h : FRdr w b ao n cap f e) {ao' : Option Addr} {n' cap' : Nat} {f' : Nat → Nat} (hr : Rd w ao' n' f') (hc : n' ≤ cap') (hnil : ao' = none → n' = 0 ∧ cap' = 0) (hinv : e ≠ 0 → n' = 0) :
    FRdr (w.setCell ⟨b, 0, none⟩ (.slice ao' n' cap')) b ao' n' cap' f' e := by
  refine ⟨?_, ?_, hc, hnil, hinv⟩
  · rw [heap_setCell_same w b 0 _ 51 _ h.blk]; rfl
  · refine hr.but (ax := some ⟨b, 0, none⟩) ((But.refl _ _).setCell (.inl ⟨_, rfl, rfl⟩) _) fun hl a c ea ec => ?_
    obtain rfl := Option.some.inj ec
    exact h.apart hr hl a ea
/-- The reference's reader in block b behind a call. -/
def RetF (w : World) (b n : Nat) (f : Nat → Nat) (e : Int) (w' : World) : Prop := (∃ ao cap, FRdr w' b ao n cap f e) ∧ But (some ⟨b, 0, none⟩) w w'
set_option maxHeartbeats 400000 in
theorem fread_any (ao : Option Addr) (n cap : Nat) (f : Nat → Nat) (w : World) (hr : Rd w ao n f) (hc : n ≤ cap) (hn : ao = none → n = 0 ∧ cap = 0) :
    Calls Try.prog 24 #[.slice ao n cap] w fun en w' => ∃ b, en = .returned (.pointer (some ⟨b, 0, none⟩)) ∧ FRdr w' b ao n cap f 0 ∧ w.heap.size ≤ b ∧ Below w.heap.size w w' := by
  have ha : Below w.heap.size w (w.alloc (.cells #[.slice ao n cap, .int .i64 0] 51)) := (Below.refl _ _).alloc (Nat.le_refl _) _
  go_enter Try.func24, Try.ntmps24
  go_wp2
  go_ret
  exact ⟨w.heap.size, rfl, ⟨heap_alloc_new w _, hr.below ha, hc, hn, fun h => absurd rfl h⟩, Nat.le_refl _, ha⟩
set_option maxHeartbeats 400000 in
theorem fdone_any {w : World} {b : Nat} {ao : Option Addr} {n cap : Nat} {f : Nat → Nat} {e : Int} (h : FRdr w b ao n cap f e) :
    Calls Try.prog 29 #[.pointer (some ⟨b, 0, none⟩)] w fun en w' => en = .returned (.int .i64 (doneE n e)) ∧ w' = w := by
  obtain ⟨c0, c1, f0, f1⟩ := h.cells
  by_cases he : e = 0
  · subst he
    by_cases hn : 0 < n
    · have hd : decide ((0 : Int) < (n : Int)) = true := by simpa using hn
      have E : Hid (doneE n 0 = 32) := by unfold Hid doneE; rw [if_pos ⟨rfl, hn⟩]
      go_enter Try.func29, Try.ntmps29
      go_wp2
      go_ret
      rw [E.out]
      exact ⟨rfl, rfl⟩
    · have hd : decide ((0 : Int) < (n : Int)) = false := by simp; omega
      have E : Hid (doneE n 0 = 0) := by unfold Hid doneE; rw [if_neg (by rintro ⟨_, h⟩; exact hn h)]
      go_enter Try.func29, Try.ntmps29
      go_wp2
      go_ret
      rw [E.out]
      exact ⟨rfl, rfl⟩
  · have hd : (e == 0) = false := by simpa using he
    have E : Hid (doneE n e = e) := by unfold Hid doneE; rw [if_neg (by rintro ⟨h, _⟩; exact he h)]
    go_enter Try.func29, Try.ntmps29
    go_wp2
    go_ret
    rw [E.out]
    exact ⟨rfl, rfl⟩
/-- What Fail leaves. -/
def failN (n : Nat) (e e' : Int) : Nat := if e = 0 ∧ e' ≠ 0 then 0 else n
def failE (e e' : Int) : Int := if e = 0 then e' else e
set_option maxHeartbeats 400000 in
theorem ffail_any {w : World} {b : Nat} {ao : Option Addr} {n cap : Nat} {f : Nat → Nat} {e : Int} (h : FRdr w b ao n cap f e) (e' : Int) :
    Calls Try.prog 46 #[.pointer (some ⟨b, 0, none⟩), .int .i64 e'] w fun en w' => en = .returned (.tuple #[]) ∧ RetF w b (failN n e e') f (failE e e') w' := by
  obtain ⟨c0, c1, f0, f1⟩ := h.cells
  have hlt := h.lt
  have hinv := h.inv
  by_cases he : e = 0
  · subst he
    have h1 := heap_setCell_same w b 1 _ 51 (.int .i64 e') h.blk
    have d1 : (w.setCell ⟨b, 1, none⟩ (.int .i64 e')).cell? ⟨b, 1, none⟩ = some (.int .i64 e') := by rw [cell_of_row _ b 1 _ 51 (0, 0) h1]; rfl
    have d0 : (w.setCell ⟨b, 1, none⟩ (.int .i64 e')).frozen? ⟨b, 0, none⟩ = false := frozen_of_row _ b 0 _ 51 h1
    have dlt : b < (w.setCell ⟨b, 1, none⟩ (.int .i64 e')).heap.size := (Array.getElem?_eq_some_iff.1 h1).1
    have hB : But (some ⟨b, 0, none⟩) w (w.setCell ⟨b, 1, none⟩ (.int .i64 e')) := (But.refl _ _).setCell (p := ⟨b, 1, none⟩) (.inl ⟨⟨b, 0, none⟩, rfl, rfl⟩) _
    by_cases he' : e' = 0
    · subst he'
      have hR : FRdr (w.setCell ⟨b, 1, none⟩ (.int .i64 0)) b ao n cap f 0 := by
        refine ⟨by rw [h1]; rfl, ?_, h.room, h.nil, fun h => absurd rfl h⟩
        exact h.rd.but hB fun hl a c ea ec => by obtain rfl := Option.some.inj ec; exact h.apart h.rd hl a ea
      go_enter Try.func46, Try.ntmps46
      go_wp2
      go_end0
      exact ⟨rfl, ⟨ao, cap, by simpa [failN, failE] using hR⟩, hB⟩
    · have hd : (e' != 0) = true := by rw [bne_iff_ne]; exact he'
      have hR : FRdr ((w.setCell ⟨b, 1, none⟩ (.int .i64 e')).setCell ⟨b, 0, none⟩ (.slice none 0 0)) b none 0 0 f e' :=
        ⟨by rw [heap_setCell_same _ b 0 _ 51 _ h1]; rfl, rd_none _ _ _, Nat.le_refl _, fun _ => ⟨rfl, rfl⟩, fun _ => rfl⟩
      have hB2 := hB.setCell (p := ⟨b, 0, none⟩) (.inl ⟨⟨b, 0, none⟩, rfl, rfl⟩) (.slice none 0 0)
      go_enter Try.func46, Try.ntmps46
      go_wp2
      go_end0
      exact ⟨rfl, ⟨none, 0, by simpa [failN, failE, he'] using hR⟩, hB2⟩
  · have hd : (e == 0) = false := by simpa using he
    have hd2 : (e != 0) = true := by rw [bne_iff_ne]; exact he
    have hn0 : n = 0 := hinv he
    have hR := h.set0 (ao' := none) (n' := 0) (cap' := 0) (f' := f) (rd_none _ _ _) (Nat.le_refl _) (fun _ => ⟨rfl, rfl⟩) (fun _ => rfl)
    have hB : But (some ⟨b, 0, none⟩) w (w.setCell ⟨b, 0, none⟩ (.slice none 0 0)) := (But.refl _ _).setCell (p := ⟨b, 0, none⟩) (.inl ⟨⟨b, 0, none⟩, rfl, rfl⟩) _
    subst hn0
    go_enter Try.func46, Try.ntmps46
    go_wp2
    go_end0
    exact ⟨rfl, ⟨none, 0, by simpa [failN, failE, he] using hR⟩, hB⟩
end Go.Proofs.Ytnjnaihogbnmaaa
