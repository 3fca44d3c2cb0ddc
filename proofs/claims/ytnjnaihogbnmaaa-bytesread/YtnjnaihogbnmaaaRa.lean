/- The reader: what it is in memory; Err, Left, Done, Fail: the walks. -/
import Derived.Test.YtnjnaihogbnmaaaSe
namespace Go.Proofs.Ytnjnaihogbnmaaa
open Go.RowKit
/-- All old blocks but the one that ao names are as they were. -/
structure But (ao : Option Addr) (w w' : World) : Prop where
  os : w'.os = w.os
  tape : w'.tape = w.tape
  output : w'.output = w.output
  size : w.heap.size ≤ w'.heap.size
  block : ∀ j, j < w.heap.size → (∀ a, ao = some a → a.block ≠ j) → w'.heap[j]? = w.heap[j]?

theorem But.cell {ao : Option Addr} {w w' : World} (h : But ao w w') {p : Addr} (hp : p.block < w.heap.size) (hne : ∀ a, ao = some a → a.block ≠ p.block) : w'.cell? p = w.cell? p :=
  World.cell?_of_block (w := w) (h.block p.block hp hne)
theorem But.frozen {ao : Option Addr} {w w' : World} (h : But ao w w') {p : Addr} (hp : p.block < w.heap.size) (hne : ∀ a, ao = some a → a.block ≠ p.block) : w'.frozen? p = w.frozen? p :=
  World.frozen?_of_block (w := w) (h.block p.block hp hne)
theorem But.below {ao : Option Addr} {w w' : World} (h : But ao w w') {B : Nat} (hB : B ≤ w.heap.size) (hao : ∀ a, ao = some a → B ≤ a.block) : Below B w w' :=
  ⟨h.os, h.tape, h.output, h.size, fun k hk => h.block k (by omega) fun a e => by have := hao a e; omega⟩
theorem But.of_below {ao : Option Addr} {w w' : World} (h : Below w.heap.size w w') : But ao w w' := ⟨h.os, h.tape, h.output, h.size, fun k hk _ => h.block k hk⟩
theorem But.trans {ao : Option Addr} {a b c : World} (h : But ao a b) (k : But ao b c) : But ao a c :=
  ⟨k.os.trans h.os, k.tape.trans h.tape, k.output.trans h.output, Nat.le_trans h.size k.size, fun j hj hn => (k.block j (Nat.lt_of_lt_of_le hj h.size) hn).trans (h.block j hj hn)⟩
theorem But.refl (ao : Option Addr) (w : World) : But ao w w := ⟨rfl, rfl, rfl, Nat.le_refl _, fun _ _ _ => rfl⟩
theorem But.setCell {ao : Option Addr} {a w : World} (h : But ao a w) {p : Addr} (hp : (∃ q, ao = some q ∧ q.block = p.block) ∨ a.heap.size ≤ p.block) (u : Value) : But ao a (w.setCell p u) := by
  refine ⟨h.os, h.tape, h.output, Nat.le_trans h.size (by simp [World.setCell]), fun j hj hn => ?_⟩
  rw [Below.heap_setCell _ _ _ _ ?_]
  · exact h.block j hj hn
  · rcases hp with ⟨q, e, hq⟩ | hp
    · have := hn q e; omega
    · omega
theorem But.alloc {ao : Option Addr} {a w : World} (h : But ao a w) (o : Obj) : But ao a (w.alloc o) :=
  h.trans (But.of_below ((Below.refl _ _).alloc (Nat.le_refl _) o))
theorem But.drew {ao : Option Addr} {a w : World} (h : But ao a w) : But ao a w.drew := ⟨h.os, h.tape, h.output, h.size, h.block⟩
theorem But.drewN {ao : Option Addr} {a w : World} (h : But ao a w) (n : Nat) : But ao a (w.drewN n) := h.trans ⟨rfl, rfl, rfl, Nat.le_refl _, fun _ _ _ => rfl⟩

theorem Rd.but {w w' : World} {ao ax : Option Addr} {len : Nat} {f : Nat → Nat} (h : Rd w ao len f) (hb : But ax w w') (hne : 0 < len → ∀ a c, ao = some a → ax = some c → c.block ≠ a.block) : Rd w' ao len f := by
  refine ⟨h.small, fun hl => ?_⟩
  obtain ⟨b, off, e, hlt, hc⟩ := h.at_ hl
  exact ⟨b, off, e, Nat.lt_of_lt_of_le hlt hb.size, fun i hi => by rw [hb.cell (p := ⟨b, off + i, none⟩) hlt (fun c ec => by have := hne hl _ c e ec; exact this)]; exact hc i hi⟩
/-- A reader that a call made, in block b: n bytes f are left, the error e. -/
structure Rdr (w : World) (b : Nat) (ao : Option Addr) (n cap : Nat) (f : Nat → Nat) (e : Int) : Prop where
  blk : w.heap[b]? = some (.cells #[.slice ao n cap, .int .i64 e, .bool true] 63 (0, 0))
  rd : Rd w ao n f
  room : n ≤ cap
  nil : ao = none → n = 0 ∧ cap = 0
theorem Rdr.lt {w : World} {b : Nat} {ao : Option Addr} {n cap : Nat} {f : Nat → Nat} {e : Int} (h : Rdr w b ao n cap f e) : b < w.heap.size := (Array.getElem?_eq_some_iff.1 h.blk).1
theorem Rdr.cells {w : World} {b : Nat} {ao : Option Addr} {n cap : Nat} {f : Nat → Nat} {e : Int} (h : Rdr w b ao n cap f e) :
    w.cell? ⟨b, 0, none⟩ = some (.slice ao n cap) ∧ w.cell? ⟨b, 1, none⟩ = some (.int .i64 e) ∧ w.cell? ⟨b, 2, none⟩ = some (.bool true) ∧ w.frozen? ⟨b, 0, none⟩ = false ∧ w.frozen? ⟨b, 1, none⟩ = false ∧ w.frozen? ⟨b, 2, none⟩ = false :=
  ⟨by rw [cell_of_row w b 0 _ 63 (0, 0) h.blk]; rfl, by rw [cell_of_row w b 1 _ 63 (0, 0) h.blk]; rfl, by rw [cell_of_row w b 2 _ 63 (0, 0) h.blk]; rfl, frozen_of_row w b 0 _ 63 h.blk, frozen_of_row w b 1 _ 63 h.blk, frozen_of_row w b 2 _ 63 h.blk⟩
/-- Its bytes lie elsewhere. -/
theorem Rdr.apart {w : World} {b : Nat} {ao : Option Addr} {n cap : Nat} {f : Nat → Nat} {e : Int} (h : Rdr w b ao n cap f e) (hn : 0 < n) (a : Addr) (ea : ao = some a) : b ≠ a.block := by
  obtain ⟨b', off, e', _, hc⟩ := h.rd.at_ hn
  rw [e'] at ea
  obtain rfl := Option.some.inj ea
  rintro rfl
  have h0 := hc 0 hn
  rw [cell_of_row w b (off + 0) _ 63 (0, 0) h.blk] at h0
  have : off = 0 ∨ off = 1 ∨ off = 2 ∨ 3 ≤ off := by omega
  rcases this with rfl | rfl | rfl | h3
  · simp at h0
  · simp at h0
  · simp at h0
  · rw [Array.getElem?_eq_none (by simp; omega)] at h0
    simp at h0
theorem Rdr.below {w w' : World} {b : Nat} {ao : Option Addr} {n cap : Nat} {f : Nat → Nat} {e : Int} (h : Rdr w b ao n cap f e) (hb : Below w.heap.size w w') : Rdr w' b ao n cap f e :=
  ⟨by rw [hb.block b h.lt]; exact h.blk, h.rd.below hb, h.room, h.nil⟩
/-- Another rest. -/
theorem Rdr.set0 {w : World} {b : Nat} {ao : Option Addr} {n cap : Nat} {f : Nat → Nat} {e : Int} (h : Rdr w b ao n cap f e) {ao' : Option Addr} {n' cap' : Nat} {f' : Nat → Nat} (hr : Rd w ao' n' f') (hc : n' ≤ cap') (hne : 0 < n' → ∀ a, ao' = some a → b ≠ a.block) (hnil : ao' = none → n' = 0 ∧ cap' = 0) :
    Rdr (w.setCell ⟨b, 0, none⟩ (.slice ao' n' cap')) b ao' n' cap' f' e := by
  refine ⟨?_, ?_, hc, hnil⟩
  · rw [heap_setCell_same w b 0 _ 63 _ h.blk]; rfl
  · refine hr.but (ax := some ⟨b, 0, none⟩) ((But.refl _ _).setCell (.inl ⟨_, rfl, rfl⟩) _) fun hl a c ea ec => ?_
    obtain rfl := Option.some.inj ec
    exact hne hl a ea
/-- The error. -/
theorem Rdr.fail {w : World} {b : Nat} {ao : Option Addr} {n cap : Nat} {f : Nat → Nat} {e : Int} (h : Rdr w b ao n cap f e) (e' : Int) :
    Rdr ((w.setCell ⟨b, 1, none⟩ (.int .i64 e')).setCell ⟨b, 0, none⟩ (.slice none 0 0)) b none 0 0 f e' := by
  have h1 := heap_setCell_same w b 1 _ 63 (.int .i64 e') h.blk
  exact ⟨by rw [heap_setCell_same _ b 0 _ 63 _ h1]; rfl, rd_none _ _ _, Nat.le_refl _, fun _ => ⟨rfl, rfl⟩⟩
/-- A reader that no call made. -/
def Un (w : World) (v : Value) : Prop := v = .pointer none ∨ ∃ b, v = .pointer (some ⟨b, 0, none⟩) ∧ w.heap[b]? = some (.cells #[.slice none 0 0, .int .i64 0, .bool false] 63 (0, 0))
theorem un_cells {w : World} {b : Nat} (h : w.heap[b]? = some (.cells #[.slice none 0 0, .int .i64 0, .bool false] 63 (0, 0))) :
    w.cell? ⟨b, 0, none⟩ = some (.slice none 0 0) ∧ w.cell? ⟨b, 1, none⟩ = some (.int .i64 0) ∧ w.cell? ⟨b, 2, none⟩ = some (.bool false) :=
  ⟨by rw [cell_of_row w b 0 _ 63 (0, 0) h]; rfl, by rw [cell_of_row w b 1 _ 63 (0, 0) h]; rfl, by rw [cell_of_row w b 2 _ 63 (0, 0) h]; rfl⟩
theorem Un.below {w w' : World} {v : Value} (h : Un w v) (hb : Below w.heap.size w w') : Un w' v := by
  rcases h with h | ⟨b, h, hk⟩
  · exact .inl h
  · exact .inr ⟨b, h, by rw [hb.block b (Array.getElem?_eq_some_iff.1 hk).1]; exact hk⟩
set_option maxHeartbeats 400000 in
theorem err_any {w : World} {b : Nat} {ao : Option Addr} {n cap : Nat} {f : Nat → Nat} {e : Int} (h : Rdr w b ao n cap f e) :
    Calls Try.prog 26 #[.pointer (some ⟨b, 0, none⟩)] w fun en w' => en = .returned (.int .i64 e) ∧ w' = w := by
  obtain ⟨c0, c1, c2, f0, f1, f2⟩ := h.cells
  go_enter Try.func26, Try.ntmps26
  go_wp2
  go_ret
  exact ⟨rfl, rfl⟩
set_option maxHeartbeats 400000 in
theorem err_un {w : World} {v : Value} (h : Un w v) : Calls Try.prog 26 #[v] w fun en w' => en = .returned (.int .i64 2) ∧ w' = w := by
  rcases h with rfl | ⟨b, rfl, hk⟩
  · go_enter Try.func26, Try.ntmps26
    go_wp2
    go_ret
    exact ⟨rfl, rfl⟩
  · obtain ⟨c0, c1, c2⟩ := un_cells hk
    go_enter Try.func26, Try.ntmps26
    go_wp2
    go_ret
    exact ⟨rfl, rfl⟩
set_option maxHeartbeats 400000 in
theorem left_any {w : World} {b : Nat} {ao : Option Addr} {n cap : Nat} {f : Nat → Nat} {e : Int} (h : Rdr w b ao n cap f e) :
    Calls Try.prog 27 #[.pointer (some ⟨b, 0, none⟩)] w fun en w' => en = .returned (.int .i64 (if e = 0 then (n : Int) else 0)) ∧ w' = w := by
  obtain ⟨c0, c1, c2, f0, f1, f2⟩ := h.cells
  by_cases he : e = 0
  · subst he
    go_enter Try.func27, Try.ntmps27
    go_wp2_with (go_at_call 26; refine (err_any h).mono ?_; rintro en w' ⟨rfl, rfl⟩)
    go_ret
    exact ⟨rfl, rfl⟩
  · have hd : (e != 0) = true := by rw [bne_iff_ne]; exact he
    go_enter Try.func27, Try.ntmps27
    go_wp2_with (go_at_call 26; refine (err_any h).mono ?_; rintro en w' ⟨rfl, rfl⟩)
    go_ret
    exact ⟨rfl, rfl⟩
set_option maxHeartbeats 400000 in
theorem left_un {w : World} {v : Value} (h : Un w v) : Calls Try.prog 27 #[v] w fun en w' => en = .returned (.int .i64 0) ∧ w' = w := by
  go_enter Try.func27, Try.ntmps27
  go_wp2_with (go_at_call 26; refine (err_un h).mono ?_; rintro en w' ⟨rfl, rfl⟩)
  go_ret
  exact ⟨rfl, rfl⟩
/-- What Done tells. -/
def doneE (n : Nat) (e : Int) : Int := if e = 0 ∧ 0 < n then 32 else e
set_option maxHeartbeats 400000 in
theorem done_any {w : World} {b : Nat} {ao : Option Addr} {n cap : Nat} {f : Nat → Nat} {e : Int} (h : Rdr w b ao n cap f e) :
    Calls Try.prog 28 #[.pointer (some ⟨b, 0, none⟩)] w fun en w' => en = .returned (.int .i64 (doneE n e)) ∧ w' = w := by
  obtain ⟨c0, c1, c2, f0, f1, f2⟩ := h.cells
  by_cases he : e = 0
  · subst he
    by_cases hn : 0 < n
    · have hd : decide ((0 : Int) < (n : Int)) = true := by simpa using hn
      have E : Hid (doneE n 0 = 32) := by unfold Hid doneE; rw [if_pos ⟨rfl, hn⟩]
      go_enter Try.func28, Try.ntmps28
      go_wp2_with (go_at_call 26; refine (err_any h).mono ?_; rintro en w' ⟨rfl, rfl⟩)
      go_ret
      rw [E.out]
      exact ⟨rfl, rfl⟩
    · have hd : decide ((0 : Int) < (n : Int)) = false := by simp; omega
      have E : Hid (doneE n 0 = 0) := by unfold Hid doneE; rw [if_neg (by rintro ⟨_, h⟩; exact hn h)]
      go_enter Try.func28, Try.ntmps28
      go_wp2_with (go_at_call 26; refine (err_any h).mono ?_; rintro en w' ⟨rfl, rfl⟩)
      go_ret
      rw [E.out]
      exact ⟨rfl, rfl⟩
  · have hd : (e == 0) = false := by simpa using he
    have E : Hid (doneE n e = e) := by unfold Hid doneE; rw [if_neg (by rintro ⟨h, _⟩; exact he h)]
    go_enter Try.func28, Try.ntmps28
    go_wp2_with (go_at_call 26; refine (err_any h).mono ?_; rintro en w' ⟨rfl, rfl⟩)
    go_ret
    rw [E.out]
    exact ⟨rfl, rfl⟩
set_option maxHeartbeats 400000 in
theorem done_un {w : World} {v : Value} (h : Un w v) : Calls Try.prog 28 #[v] w fun en w' => en = .returned (.int .i64 2) ∧ w' = w := by
  go_enter Try.func28, Try.ntmps28
  go_wp2_with (go_at_call 26; refine (err_un h).mono ?_; rintro en w' ⟨rfl, rfl⟩)
  go_ret
  exact ⟨rfl, rfl⟩
set_option maxHeartbeats 400000 in
theorem fail_un {w : World} {v : Value} (h : Un w v) (e : Int) : Calls Try.prog 36 #[v, .int .i64 e] w fun en w' => en = .returned (.tuple #[]) ∧ w' = w := by
  by_cases he : e = 0
  · subst he
    go_enter Try.func36, Try.ntmps36
    go_wp2
    exact bodyPost_ret (v := .tuple #[]) (by simp [results, Try.results36]) rfl ⟨rfl, rfl⟩
  · have hd : (e == 0) = false := by simpa using he
    go_enter Try.func36, Try.ntmps36
    go_wp2_with (go_at_call 26; refine (err_un h).mono ?_; rintro en w' ⟨rfl, rfl⟩)
    exact bodyPost_ret (v := .tuple #[]) (by simp [results, Try.results36]) rfl ⟨rfl, rfl⟩
set_option maxHeartbeats 400000 in
/-- Fail of a reader that has an error, or of none. -/
theorem fail_same {w : World} {b : Nat} {ao : Option Addr} {n cap : Nat} {f : Nat → Nat} {e : Int} (h : Rdr w b ao n cap f e) (e' : Int) (he : e' = 0 ∨ e ≠ 0) :
    Calls Try.prog 36 #[.pointer (some ⟨b, 0, none⟩), .int .i64 e'] w fun en w' => en = .returned (.tuple #[]) ∧ w' = w := by
  by_cases h0 : e' = 0
  · subst h0
    go_enter Try.func36, Try.ntmps36
    go_wp2
    exact bodyPost_ret (v := .tuple #[]) (by simp [results, Try.results36]) rfl ⟨rfl, rfl⟩
  · have hd : (e' == 0) = false := by simpa using h0
    have hd2 : (e != 0) = true := by
      rcases he with he | he
      · exact absurd he h0
      · rw [bne_iff_ne]; exact he
    clear he
    go_enter Try.func36, Try.ntmps36
    go_wp2_with (go_at_call 26; refine (err_any h).mono ?_; rintro en w' ⟨rfl, rfl⟩)
    exact bodyPost_ret (v := .tuple #[]) (by simp [results, Try.results36]) rfl ⟨rfl, rfl⟩
set_option maxHeartbeats 400000 in
/-- Fail of a reader without one. -/
theorem fail_new {w : World} {b : Nat} {ao : Option Addr} {n cap : Nat} {f : Nat → Nat} (h : Rdr w b ao n cap f 0) (e' : Int) (he : e' ≠ 0) :
    Calls Try.prog 36 #[.pointer (some ⟨b, 0, none⟩), .int .i64 e'] w fun en w' => en = .returned (.tuple #[]) ∧ Rdr w' b none 0 0 f e' ∧ But (some ⟨b, 0, none⟩) w w' := by
  obtain ⟨c0, c1, c2, f0, f1, f2⟩ := h.cells
  have hd : (e' == 0) = false := by simpa using he
  have hlt := h.lt
  have hF := h.fail e'
  have hB : But (some ⟨b, 0, none⟩) w ((w.setCell ⟨b, 1, none⟩ (.int .i64 e')).setCell ⟨b, 0, none⟩ (.slice none 0 0)) := ((But.refl _ _).setCell (p := ⟨b, 1, none⟩) (.inl ⟨⟨b, 0, none⟩, rfl, rfl⟩) _).setCell (p := ⟨b, 0, none⟩) (.inl ⟨⟨b, 0, none⟩, rfl, rfl⟩) _
  go_enter Try.func36, Try.ntmps36
  go_wp2_with (go_at_call 26; refine (err_any h).mono ?_; rintro en w' ⟨rfl, rfl⟩)
  go_end0
  exact ⟨rfl, hF, hB⟩
end Go.Proofs.Ytnjnaihogbnmaaa
