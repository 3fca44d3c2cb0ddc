/- Has of package class and of the reference; a class in a block of its own. -/
import Derived.Test.YtlmmiicibjfcdaaWth
namespace Go.Proofs.Ytlmmiicibjfcdaa
open Go.RowKit
theorem has_bit (x j : Nat) (hx : x < 18446744073709551616) : (bits BinOp.and IntKind.u64 ((x : Int) / 2 ^ j) 1 == 1) = x.testBit j := by
  have e : (x : Int) / 2 ^ j = ((x / 2 ^ j : Nat) : Int) := by rw [Int.natCast_ediv, Int.natCast_pow]; rfl
  have h1 : x / 2 ^ j < 18446744073709551616 := Nat.lt_of_le_of_lt (Nat.div_le_self _ _) hx
  rw [e, show (1 : Int) = ((1 : Nat) : Int) from rfl, u64_and_nat _ _ h1 (by decide), nat_mask1, Nat.testBit_eq_decide_div_mod_eq]
  rw [Bool.eq_iff_iff]
  simp
  omega
theorem rhas_bit (x j : Nat) : (((x : Int) / 2 ^ j).tmod 2 == 1) = x.testBit j := by
  have e : (x : Int) / 2 ^ j = ((x / 2 ^ j : Nat) : Int) := by rw [Int.natCast_ediv, Int.natCast_pow]; rfl
  rw [e, Int.tmod_eq_emod_of_nonneg (Int.natCast_nonneg _), Nat.testBit_eq_decide_div_mod_eq, Bool.eq_iff_iff]
  simp
  omega
set_option maxHeartbeats 1000000 in
theorem has_at0 (a b c d x : Nat) (v : Bool) (w : World) (hq : (x : Int) / 64 = 0) (hv : (bits BinOp.and IntKind.u64 ((a : Int) / 2 ^ (x % 64)) 1 == 1) = v) :
    Calls Try.prog 83 #[.agg #[.int .u64 (a : Nat), .int .u64 (b : Nat), .int .u64 (c : Nat), .int .u64 (d : Nat)], .int .u8 (x : Nat)] w fun e w' => e = .returned (.bool v) ∧ Below w.heap.size w w' := by
  go_enter Try.func83, Try.ntmps83
  go_wp2
  go_ret
  exact ⟨rfl, (Below.refl _ _).alloc (Nat.le_refl _) _⟩
set_option maxHeartbeats 1000000 in
theorem has_at1 (a b c d x : Nat) (v : Bool) (w : World) (hq : (x : Int) / 64 = 1) (hv : (bits BinOp.and IntKind.u64 ((b : Int) / 2 ^ (x % 64)) 1 == 1) = v) :
    Calls Try.prog 83 #[.agg #[.int .u64 (a : Nat), .int .u64 (b : Nat), .int .u64 (c : Nat), .int .u64 (d : Nat)], .int .u8 (x : Nat)] w fun e w' => e = .returned (.bool v) ∧ Below w.heap.size w w' := by
  go_enter Try.func83, Try.ntmps83
  go_wp2
  go_ret
  exact ⟨rfl, (Below.refl _ _).alloc (Nat.le_refl _) _⟩
set_option maxHeartbeats 1000000 in
theorem has_at2 (a b c d x : Nat) (v : Bool) (w : World) (hq : (x : Int) / 64 = 2) (hv : (bits BinOp.and IntKind.u64 ((c : Int) / 2 ^ (x % 64)) 1 == 1) = v) :
    Calls Try.prog 83 #[.agg #[.int .u64 (a : Nat), .int .u64 (b : Nat), .int .u64 (c : Nat), .int .u64 (d : Nat)], .int .u8 (x : Nat)] w fun e w' => e = .returned (.bool v) ∧ Below w.heap.size w w' := by
  go_enter Try.func83, Try.ntmps83
  go_wp2
  go_ret
  exact ⟨rfl, (Below.refl _ _).alloc (Nat.le_refl _) _⟩
set_option maxHeartbeats 1000000 in
theorem has_at3 (a b c d x : Nat) (v : Bool) (w : World) (hq : (x : Int) / 64 = 3) (hv : (bits BinOp.and IntKind.u64 ((d : Int) / 2 ^ (x % 64)) 1 == 1) = v) :
    Calls Try.prog 83 #[.agg #[.int .u64 (a : Nat), .int .u64 (b : Nat), .int .u64 (c : Nat), .int .u64 (d : Nat)], .int .u8 (x : Nat)] w fun e w' => e = .returned (.bool v) ∧ Below w.heap.size w w' := by
  go_enter Try.func83, Try.ntmps83
  go_wp2
  go_ret
  exact ⟨rfl, (Below.refl _ _).alloc (Nat.le_refl _) _⟩
/-- has: whether it is in the class. -/
theorem has_c {P : Nat → Bool} {a b c d : Nat} (h : C4 P a b c d) (x : Nat) (w : World) (hx : x < 256) : Calls Try.prog 83 #[.agg #[.int .u64 (a : Nat), .int .u64 (b : Nat), .int .u64 (c : Nat), .int .u64 (d : Nat)], .int .u8 (x : Nat)] w fun e w' => e = .returned (.bool (P x)) ∧ Below w.heap.size w w' := by
  have hq : x / 64 = 0 ∨ x / 64 = 1 ∨ x / 64 = 2 ∨ x / 64 = 3 := by omega
  rcases hq with hq | hq | hq | hq
  · exact has_at0 a b c d x _ w (by omega) (by rw [has_bit _ _ h.la, h.ha _ (by omega)]; congr 1; omega)
  · exact has_at1 a b c d x _ w (by omega) (by rw [has_bit _ _ h.lb, h.hb _ (by omega)]; congr 1; omega)
  · exact has_at2 a b c d x _ w (by omega) (by rw [has_bit _ _ h.lc, h.hc _ (by omega)]; congr 1; omega)
  · exact has_at3 a b c d x _ w (by omega) (by rw [has_bit _ _ h.ld, h.hd _ (by omega)]; congr 1; omega)
set_option maxHeartbeats 1000000 in
theorem rhas_at0 (a b c d x : Nat) (v : Bool) (w : World) (hq : (x : Int) / 64 = 0) (hv : ((((a : Int) / 2 ^ (x % 64)).tmod 2) == 1) = v) :
    Calls Try.prog 75 #[.agg #[.int .u64 (a : Nat), .int .u64 (b : Nat), .int .u64 (c : Nat), .int .u64 (d : Nat)], .int .u8 (x : Nat)] w fun e w' => e = .returned (.bool v) ∧ Below w.heap.size w w' := by
  go_enter Try.func75, Try.ntmps75
  go_wp2
  go_ret
  exact ⟨rfl, (Below.refl _ _).alloc (Nat.le_refl _) _⟩
set_option maxHeartbeats 1000000 in
theorem rhas_at1 (a b c d x : Nat) (v : Bool) (w : World) (hq : (x : Int) / 64 = 1) (hv : ((((b : Int) / 2 ^ (x % 64)).tmod 2) == 1) = v) :
    Calls Try.prog 75 #[.agg #[.int .u64 (a : Nat), .int .u64 (b : Nat), .int .u64 (c : Nat), .int .u64 (d : Nat)], .int .u8 (x : Nat)] w fun e w' => e = .returned (.bool v) ∧ Below w.heap.size w w' := by
  go_enter Try.func75, Try.ntmps75
  go_wp2
  go_ret
  exact ⟨rfl, (Below.refl _ _).alloc (Nat.le_refl _) _⟩
set_option maxHeartbeats 1000000 in
theorem rhas_at2 (a b c d x : Nat) (v : Bool) (w : World) (hq : (x : Int) / 64 = 2) (hv : ((((c : Int) / 2 ^ (x % 64)).tmod 2) == 1) = v) :
    Calls Try.prog 75 #[.agg #[.int .u64 (a : Nat), .int .u64 (b : Nat), .int .u64 (c : Nat), .int .u64 (d : Nat)], .int .u8 (x : Nat)] w fun e w' => e = .returned (.bool v) ∧ Below w.heap.size w w' := by
  go_enter Try.func75, Try.ntmps75
  go_wp2
  go_ret
  exact ⟨rfl, (Below.refl _ _).alloc (Nat.le_refl _) _⟩
set_option maxHeartbeats 1000000 in
theorem rhas_at3 (a b c d x : Nat) (v : Bool) (w : World) (hq : (x : Int) / 64 = 3) (hv : ((((d : Int) / 2 ^ (x % 64)).tmod 2) == 1) = v) :
    Calls Try.prog 75 #[.agg #[.int .u64 (a : Nat), .int .u64 (b : Nat), .int .u64 (c : Nat), .int .u64 (d : Nat)], .int .u8 (x : Nat)] w fun e w' => e = .returned (.bool v) ∧ Below w.heap.size w w' := by
  go_enter Try.func75, Try.ntmps75
  go_wp2
  go_ret
  exact ⟨rfl, (Below.refl _ _).alloc (Nat.le_refl _) _⟩
/-- rhas: whether it is in the class. -/
theorem rhas_c {P : Nat → Bool} {a b c d : Nat} (h : C4 P a b c d) (x : Nat) (w : World) (hx : x < 256) : Calls Try.prog 75 #[.agg #[.int .u64 (a : Nat), .int .u64 (b : Nat), .int .u64 (c : Nat), .int .u64 (d : Nat)], .int .u8 (x : Nat)] w fun e w' => e = .returned (.bool (P x)) ∧ Below w.heap.size w w' := by
  have hq : x / 64 = 0 ∨ x / 64 = 1 ∨ x / 64 = 2 ∨ x / 64 = 3 := by omega
  rcases hq with hq | hq | hq | hq
  · exact rhas_at0 a b c d x _ w (by omega) (by rw [rhas_bit, h.ha _ (by omega)]; congr 1; omega)
  · exact rhas_at1 a b c d x _ w (by omega) (by rw [rhas_bit, h.hb _ (by omega)]; congr 1; omega)
  · exact rhas_at2 a b c d x _ w (by omega) (by rw [rhas_bit, h.hc _ (by omega)]; congr 1; omega)
  · exact rhas_at3 a b c d x _ w (by omega) (by rw [rhas_bit, h.hd _ (by omega)]; congr 1; omega)
/-- Block b holds an array of four cells. -/
def Bx (w : World) (b : Nat) (x y z t : Value) : Prop := w.heap[b]? = some (.cells #[x, y, z, t] 40 (0, 0))
section
variable {w w' : World} {b : Nat} {x y z t : Value}
theorem Bx.lt (h : Bx w b x y z t) : b < w.heap.size := (Array.getElem?_eq_some_iff.1 h).1
theorem Bx.new (w : World) (x y z t : Value) : Bx (w.alloc (.cells #[x, y, z, t] 40)) w.heap.size x y z t := heap_alloc_new w _
theorem Bx.below (h : Bx w b x y z t) (hb : Below w.heap.size w w') : Bx w' b x y z t := by
  unfold Bx; rw [hb.block b h.lt]; exact h
theorem Bx.belowB {B : Nat} (h : Bx w b x y z t) (hb : Below B w w') (hlt : b < B) : Bx w' b x y z t := by
  unfold Bx; rw [hb.block b hlt]; exact h
theorem Bx.alloc (h : Bx w b x y z t) (o : Obj) : Bx (w.alloc o) b x y z t := h.below ((Below.refl _ _).alloc (Nat.le_refl _) o)
theorem Bx.drew (h : Bx w b x y z t) : Bx w.drew b x y z t := h
theorem Bx.other (h : Bx w b x y z t) {p : Addr} (hp : p.block ≠ b) (u : Value) : Bx (w.setCell p u) b x y z t := by
  unfold Bx; rw [Below.heap_setCell _ _ _ _ (Ne.symm hp)]; exact h
theorem Bx.set0 (h : Bx w b x y z t) (u : Value) : Bx (w.setCell ⟨b, 0, none⟩ u) b u y z t := by
  have := heap_setCell_same w b 0 #[x, y, z, t] 40 u h
  simpa [Bx] using this
theorem Bx.set1 (h : Bx w b x y z t) (u : Value) : Bx (w.setCell ⟨b, 1, none⟩ u) b x u z t := by
  have := heap_setCell_same w b 1 #[x, y, z, t] 40 u h
  simpa [Bx] using this
theorem Bx.set2 (h : Bx w b x y z t) (u : Value) : Bx (w.setCell ⟨b, 2, none⟩ u) b x y u t := by
  have := heap_setCell_same w b 2 #[x, y, z, t] 40 u h
  simpa [Bx] using this
theorem Bx.set3 (h : Bx w b x y z t) (u : Value) : Bx (w.setCell ⟨b, 3, none⟩ u) b x y z u := by
  have := heap_setCell_same w b 3 #[x, y, z, t] 40 u h
  simpa [Bx] using this
/-- A class stored whole. -/
abbrev put4 (w : World) (b : Nat) (p q r s : Value) : World := (((w.setCell ⟨b, 0, none⟩ p).setCell ⟨b, 1, none⟩ q).setCell ⟨b, 2, none⟩ r).setCell ⟨b, 3, none⟩ s
theorem Bx.set (h : Bx w b x y z t) (p q r s : Value) : Bx (put4 w b p q r s) b p q r s := (((h.set0 p).set1 q).set2 r).set3 s
theorem Bx.others (h : Bx w b x y z t) {k : Nat} (hp : k ≠ b) (p q r s : Value) : Bx (put4 w k p q r s) b x y z t :=
  (((h.other (p := ⟨k, 0, none⟩) hp p).other (p := ⟨k, 1, none⟩) hp q).other (p := ⟨k, 2, none⟩) hp r).other (p := ⟨k, 3, none⟩) hp s
theorem below_put4 {B k : Nat} (h : Below B w w') (hB : B ≤ k) (p q r s : Value) : Below B w (put4 w' k p q r s) :=
  (((h.setCell (p := ⟨k, 0, none⟩) hB p).setCell (p := ⟨k, 1, none⟩) hB q).setCell (p := ⟨k, 2, none⟩) hB r).setCell (p := ⟨k, 3, none⟩) hB s
theorem Bx.cells (h : Bx w b x y z t) : w.cell? ⟨b, 0, none⟩ = some x ∧ w.cell? ⟨b, 1, none⟩ = some y ∧ w.cell? ⟨b, 2, none⟩ = some z ∧ w.cell? ⟨b, 3, none⟩ = some t ∧
    w.frozen? ⟨b, 0, none⟩ = false ∧ w.frozen? ⟨b, 1, none⟩ = false ∧ w.frozen? ⟨b, 2, none⟩ = false ∧ w.frozen? ⟨b, 3, none⟩ = false :=
  ⟨cell_of_row w b 0 _ 40 (0, 0) h, cell_of_row w b 1 _ 40 (0, 0) h, cell_of_row w b 2 _ 40 (0, 0) h, cell_of_row w b 3 _ 40 (0, 0) h,
    frozen_of_row w b 0 _ 40 h, frozen_of_row w b 1 _ 40 h, frozen_of_row w b 2 _ 40 h, frozen_of_row w b 3 _ 40 h⟩
end
end Go.Proofs.Ytlmmiicibjfcdaa
