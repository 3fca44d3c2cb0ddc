/- Classes by their four words, Has of package class and of the reference; rings, Check, sound: the walks. -/
import Derived.Test.YtehlmjjdegmnaaaDoorHas
import Derived.Test.YtehlmjjdegmnaaaDoorEp
namespace Go.Proofs.YtehlmjjdegmnaaaDoor
open Go.RowKit
/-- The four words of a class. -/
structure C4 (P : Nat → Bool) (a b c d : Nat) : Prop where
  la : a < 18446744073709551616
  lb : b < 18446744073709551616
  lc : c < 18446744073709551616
  ld : d < 18446744073709551616
  ha : ∀ j, j < 64 → a.testBit j = P j
  hb : ∀ j, j < 64 → b.testBit j = P (64 + j)
  hc : ∀ j, j < 64 → c.testBit j = P (128 + j)
  hd : ∀ j, j < 64 → d.testBit j = P (192 + j)
theorem C4.congr {P Q : Nat → Bool} {a b c d : Nat} (h : C4 P a b c d) (hpq : ∀ b, b < 256 → P b = Q b) : C4 Q a b c d :=
  ⟨h.la, h.lb, h.lc, h.ld, fun j hj => by rw [h.ha j hj, hpq _ (by omega)], fun j hj => by rw [h.hb j hj, hpq _ (by omega)], fun j hj => by rw [h.hc j hj, hpq _ (by omega)], fun j hj => by rw [h.hd j hj, hpq _ (by omega)]⟩
/-- Any four words are a class. -/
theorem c4_of {a b c d : Nat} (ha : a < 18446744073709551616) (hb : b < 18446744073709551616) (hc : c < 18446744073709551616) (hd : d < 18446744073709551616) : ∃ P, C4 P a b c d := by
  refine ⟨fun x => if x < 64 then a.testBit x else if x < 128 then b.testBit (x - 64) else if x < 192 then c.testBit (x - 128) else d.testBit (x - 192), ha, hb, hc, hd, fun j hj => ?_, fun j hj => ?_, fun j hj => ?_, fun j hj => ?_⟩
  · show _ = ite _ _ _
    rw [if_pos hj]
  · show _ = ite _ _ _
    rw [if_neg (by omega), if_pos (by omega), show 64 + j - 64 = j by omega]
  · show _ = ite _ _ _
    rw [if_neg (by omega), if_neg (by omega), if_pos (by omega), show 128 + j - 128 = j by omega]
  · show _ = ite _ _ _
    rw [if_neg (by omega), if_neg (by omega), if_neg (by omega), show 192 + j - 192 = j by omega]
theorem c4_none : C4 (fun _ => false) 0 0 0 0 :=
  ⟨by decide, by decide, by decide, by decide, fun j _ => by simp, fun j _ => by simp, fun j _ => by simp, fun j _ => by simp⟩
theorem rhas_bit (x j : Nat) : (((x : Int) / 2 ^ j).tmod 2 == 1) = x.testBit j := by
  have e : (x : Int) / 2 ^ j = ((x / 2 ^ j : Nat) : Int) := by rw [Int.natCast_ediv, Int.natCast_pow]; rfl
  rw [e, Int.tmod_eq_emod_of_nonneg (Int.natCast_nonneg _), Nat.testBit_eq_decide_div_mod_eq, Bool.eq_iff_iff]
  simp
  omega
set_option maxHeartbeats 1000000 in
theorem has_at0 (a b c d x : Nat) (v : Bool) (w : World) (hq : (x : Int) / 64 = 0) (hv : (bits BinOp.and IntKind.u64 ((a : Int) / 2 ^ (x % 64)) 1 == 1) = v) :
    Calls Tryd.prog 34 #[.agg #[.int .u64 (a : Nat), .int .u64 (b : Nat), .int .u64 (c : Nat), .int .u64 (d : Nat)], .int .u8 (x : Nat)] w fun e w' => e = .returned (.bool v) ∧ Below w.heap.size w w' := by
  go_enter Tryd.func34, Tryd.ntmps34
  go_wp2
  go_ret
  exact ⟨rfl, (Below.refl _ _).alloc (Nat.le_refl _) _⟩
set_option maxHeartbeats 1000000 in
theorem has_at1 (a b c d x : Nat) (v : Bool) (w : World) (hq : (x : Int) / 64 = 1) (hv : (bits BinOp.and IntKind.u64 ((b : Int) / 2 ^ (x % 64)) 1 == 1) = v) :
    Calls Tryd.prog 34 #[.agg #[.int .u64 (a : Nat), .int .u64 (b : Nat), .int .u64 (c : Nat), .int .u64 (d : Nat)], .int .u8 (x : Nat)] w fun e w' => e = .returned (.bool v) ∧ Below w.heap.size w w' := by
  go_enter Tryd.func34, Tryd.ntmps34
  go_wp2
  go_ret
  exact ⟨rfl, (Below.refl _ _).alloc (Nat.le_refl _) _⟩
set_option maxHeartbeats 1000000 in
theorem has_at2 (a b c d x : Nat) (v : Bool) (w : World) (hq : (x : Int) / 64 = 2) (hv : (bits BinOp.and IntKind.u64 ((c : Int) / 2 ^ (x % 64)) 1 == 1) = v) :
    Calls Tryd.prog 34 #[.agg #[.int .u64 (a : Nat), .int .u64 (b : Nat), .int .u64 (c : Nat), .int .u64 (d : Nat)], .int .u8 (x : Nat)] w fun e w' => e = .returned (.bool v) ∧ Below w.heap.size w w' := by
  go_enter Tryd.func34, Tryd.ntmps34
  go_wp2
  go_ret
  exact ⟨rfl, (Below.refl _ _).alloc (Nat.le_refl _) _⟩
set_option maxHeartbeats 1000000 in
theorem has_at3 (a b c d x : Nat) (v : Bool) (w : World) (hq : (x : Int) / 64 = 3) (hv : (bits BinOp.and IntKind.u64 ((d : Int) / 2 ^ (x % 64)) 1 == 1) = v) :
    Calls Tryd.prog 34 #[.agg #[.int .u64 (a : Nat), .int .u64 (b : Nat), .int .u64 (c : Nat), .int .u64 (d : Nat)], .int .u8 (x : Nat)] w fun e w' => e = .returned (.bool v) ∧ Below w.heap.size w w' := by
  go_enter Tryd.func34, Tryd.ntmps34
  go_wp2
  go_ret
  exact ⟨rfl, (Below.refl _ _).alloc (Nat.le_refl _) _⟩
/-- has: whether it is in the class. -/
theorem has_c {P : Nat → Bool} {a b c d : Nat} (h : C4 P a b c d) (x : Nat) (w : World) (hx : x < 256) : Calls Tryd.prog 34 #[.agg #[.int .u64 (a : Nat), .int .u64 (b : Nat), .int .u64 (c : Nat), .int .u64 (d : Nat)], .int .u8 (x : Nat)] w fun e w' => e = .returned (.bool (P x)) ∧ Below w.heap.size w w' := by
  have hq : x / 64 = 0 ∨ x / 64 = 1 ∨ x / 64 = 2 ∨ x / 64 = 3 := by omega
  rcases hq with hq | hq | hq | hq
  · exact has_at0 a b c d x _ w (by omega) (by rw [has_bit _ _ h.la, h.ha _ (by omega)]; congr 1; omega)
  · exact has_at1 a b c d x _ w (by omega) (by rw [has_bit _ _ h.lb, h.hb _ (by omega)]; congr 1; omega)
  · exact has_at2 a b c d x _ w (by omega) (by rw [has_bit _ _ h.lc, h.hc _ (by omega)]; congr 1; omega)
  · exact has_at3 a b c d x _ w (by omega) (by rw [has_bit _ _ h.ld, h.hd _ (by omega)]; congr 1; omega)
set_option maxHeartbeats 1000000 in
theorem rhas_at0 (a b c d x : Nat) (v : Bool) (w : World) (hq : (x : Int) / 64 = 0) (hv : ((((a : Int) / 2 ^ (x % 64)).tmod 2) == 1) = v) :
    Calls Tryd.prog 32 #[.agg #[.int .u64 (a : Nat), .int .u64 (b : Nat), .int .u64 (c : Nat), .int .u64 (d : Nat)], .int .u8 (x : Nat)] w fun e w' => e = .returned (.bool v) ∧ Below w.heap.size w w' := by
  go_enter Tryd.func32, Tryd.ntmps32
  go_wp2
  go_ret
  exact ⟨rfl, (Below.refl _ _).alloc (Nat.le_refl _) _⟩
set_option maxHeartbeats 1000000 in
theorem rhas_at1 (a b c d x : Nat) (v : Bool) (w : World) (hq : (x : Int) / 64 = 1) (hv : ((((b : Int) / 2 ^ (x % 64)).tmod 2) == 1) = v) :
    Calls Tryd.prog 32 #[.agg #[.int .u64 (a : Nat), .int .u64 (b : Nat), .int .u64 (c : Nat), .int .u64 (d : Nat)], .int .u8 (x : Nat)] w fun e w' => e = .returned (.bool v) ∧ Below w.heap.size w w' := by
  go_enter Tryd.func32, Tryd.ntmps32
  go_wp2
  go_ret
  exact ⟨rfl, (Below.refl _ _).alloc (Nat.le_refl _) _⟩
set_option maxHeartbeats 1000000 in
theorem rhas_at2 (a b c d x : Nat) (v : Bool) (w : World) (hq : (x : Int) / 64 = 2) (hv : ((((c : Int) / 2 ^ (x % 64)).tmod 2) == 1) = v) :
    Calls Tryd.prog 32 #[.agg #[.int .u64 (a : Nat), .int .u64 (b : Nat), .int .u64 (c : Nat), .int .u64 (d : Nat)], .int .u8 (x : Nat)] w fun e w' => e = .returned (.bool v) ∧ Below w.heap.size w w' := by
  go_enter Tryd.func32, Tryd.ntmps32
  go_wp2
  go_ret
  exact ⟨rfl, (Below.refl _ _).alloc (Nat.le_refl _) _⟩
set_option maxHeartbeats 1000000 in
theorem rhas_at3 (a b c d x : Nat) (v : Bool) (w : World) (hq : (x : Int) / 64 = 3) (hv : ((((d : Int) / 2 ^ (x % 64)).tmod 2) == 1) = v) :
    Calls Tryd.prog 32 #[.agg #[.int .u64 (a : Nat), .int .u64 (b : Nat), .int .u64 (c : Nat), .int .u64 (d : Nat)], .int .u8 (x : Nat)] w fun e w' => e = .returned (.bool v) ∧ Below w.heap.size w w' := by
  go_enter Tryd.func32, Tryd.ntmps32
  go_wp2
  go_ret
  exact ⟨rfl, (Below.refl _ _).alloc (Nat.le_refl _) _⟩
/-- rhas: whether it is in the class. -/
theorem rhas_c {P : Nat → Bool} {a b c d : Nat} (h : C4 P a b c d) (x : Nat) (w : World) (hx : x < 256) : Calls Tryd.prog 32 #[.agg #[.int .u64 (a : Nat), .int .u64 (b : Nat), .int .u64 (c : Nat), .int .u64 (d : Nat)], .int .u8 (x : Nat)] w fun e w' => e = .returned (.bool (P x)) ∧ Below w.heap.size w w' := by
  have hq : x / 64 = 0 ∨ x / 64 = 1 ∨ x / 64 = 2 ∨ x / 64 = 3 := by omega
  rcases hq with hq | hq | hq | hq
  · exact rhas_at0 a b c d x _ w (by omega) (by rw [rhas_bit, h.ha _ (by omega)]; congr 1; omega)
  · exact rhas_at1 a b c d x _ w (by omega) (by rw [rhas_bit, h.hb _ (by omega)]; congr 1; omega)
  · exact rhas_at2 a b c d x _ w (by omega) (by rw [rhas_bit, h.hc _ (by omega)]; congr 1; omega)
  · exact rhas_at3 a b c d x _ w (by omega) (by rw [rhas_bit, h.hd _ (by omega)]; congr 1; omega)
/-- A block of cells that may be written. -/
def Cl (w : World) (b : Nat) (t : TypeId) (vs : List Value) : Prop := w.heap[b]? = some (.cells vs.toArray t (0, 0))
section
variable {w w' : World} {b : Nat} {t : TypeId} {vs : List Value}
theorem Cl.lt (h : Cl w b t vs) : b < w.heap.size := (Array.getElem?_eq_some_iff.1 h).1
theorem Cl.new (w : World) (t : TypeId) (vs : List Value) : Cl (w.alloc (.cells vs.toArray t)) w.heap.size t vs := heap_alloc_new w _
theorem Cl.below (h : Cl w b t vs) (hb : Below w.heap.size w w') : Cl w' b t vs := by unfold Cl; rw [hb.block b h.lt]; exact h
theorem Cl.belowB {B : Nat} (h : Cl w b t vs) (hb : Below B w w') (hlt : b < B) : Cl w' b t vs := by unfold Cl; rw [hb.block b hlt]; exact h
theorem Cl.alloc (h : Cl w b t vs) (o : Obj) : Cl (w.alloc o) b t vs := h.below ((Below.refl _ _).alloc (Nat.le_refl _) o)
theorem Cl.drew (h : Cl w b t vs) : Cl w.drew b t vs := h.below (Below.refl _ _).drew
theorem Cl.cell (h : Cl w b t vs) (i : Nat) {v : Value} (hi : vs[i]? = some v) : w.cell? ⟨b, i, none⟩ = some v := by
  rw [cell_of_row w b i _ t (0, 0) h]
  simpa using hi
theorem Cl.frozen (h : Cl w b t vs) (i : Nat) : w.frozen? ⟨b, i, none⟩ = false := frozen_of_row w b i _ t h
theorem Cl.set (h : Cl w b t vs) (i : Nat) (v : Value) : Cl (w.setCell ⟨b, i, none⟩ v) b t (vs.set i v) := by
  have := heap_setCell_same w b i vs.toArray t v h
  simpa [Cl] using this
theorem Cl.other (h : Cl w b t vs) {k : Nat} (hk : k ≠ b) (i : Nat) (v : Value) : Cl (w.setCell ⟨k, i, none⟩ v) b t vs := by
  unfold Cl at *
  rw [Below.heap_setCell _ _ _ _ (Ne.symm hk)]
  exact h
end
/-- A ring as a value, and in memory. -/
@[reducible] def rgV (a b c d : Nat) (lo hi : Int) : Value := .agg #[.int .u64 (a : Nat), .int .u64 (b : Nat), .int .u64 (c : Nat), .int .u64 (d : Nat), .int .i64 lo, .int .i64 hi]
def RgAt (w : World) (p : Nat) (a b c d : Nat) (lo hi : Int) : Prop := Cl w p 26 [.int .u64 (a : Nat), .int .u64 (b : Nat), .int .u64 (c : Nat), .int .u64 (d : Nat), .int .i64 lo, .int .i64 hi]
theorem RgAt.cells {w : World} {p a b c d : Nat} {lo hi : Int} (h : RgAt w p a b c d lo hi) : (w.cell? ⟨p, 0, none⟩ = some (.int .u64 (a : Nat)) ∧ w.cell? ⟨p, 1, none⟩ = some (.int .u64 (b : Nat)) ∧ w.cell? ⟨p, 2, none⟩ = some (.int .u64 (c : Nat)) ∧ w.cell? ⟨p, 3, none⟩ = some (.int .u64 (d : Nat)) ∧ w.cell? ⟨p, 4, none⟩ = some (.int .i64 lo) ∧ w.cell? ⟨p, 5, none⟩ = some (.int .i64 hi)) ∧
    w.frozen? ⟨p, 0, none⟩ = false ∧ w.frozen? ⟨p, 1, none⟩ = false ∧ w.frozen? ⟨p, 2, none⟩ = false ∧ w.frozen? ⟨p, 3, none⟩ = false ∧ w.frozen? ⟨p, 4, none⟩ = false ∧ w.frozen? ⟨p, 5, none⟩ = false :=
  ⟨⟨Cl.cell h 0 rfl, Cl.cell h 1 rfl, Cl.cell h 2 rfl, Cl.cell h 3 rfl, Cl.cell h 4 rfl, Cl.cell h 5 rfl⟩, Cl.frozen h 0, Cl.frozen h 1, Cl.frozen h 2, Cl.frozen h 3, Cl.frozen h 4, Cl.frozen h 5⟩
theorem RgAt.below {w w' : World} {p a b c d : Nat} {lo hi : Int} (h : RgAt w p a b c d lo hi) (hb : Below w.heap.size w w') : RgAt w' p a b c d lo hi := Cl.below h hb
theorem RgAt.belowB {B : Nat} {w w' : World} {p a b c d : Nat} {lo hi : Int} (h : RgAt w p a b c d lo hi) (hb : Below B w w') (hlt : p < B) : RgAt w' p a b c d lo hi := Cl.belowB h hb hlt
theorem RgAt.lt {w : World} {p a b c d : Nat} {lo hi : Int} (h : RgAt w p a b c d lo hi) : p < w.heap.size := Cl.lt h
theorem RgAt.new (w : World) (a b c d : Nat) (lo hi : Int) : RgAt (w.alloc (.cells #[.int .u64 (a : Nat), .int .u64 (b : Nat), .int .u64 (c : Nat), .int .u64 (d : Nat), .int .i64 lo, .int .i64 hi] 26)) w.heap.size a b c d lo hi := Cl.new w 26 [.int .u64 (a : Nat), .int .u64 (b : Nat), .int .u64 (c : Nat), .int .u64 (d : Nat), .int .i64 lo, .int .i64 hi]
/-- A ring put into its cells. -/
def putR (w : World) (p a b c d : Nat) (lo hi : Int) : World := (((((w.setCell ⟨p, 0, none⟩ (.int .u64 (a : Nat))).setCell ⟨p, 1, none⟩ (.int .u64 (b : Nat))).setCell ⟨p, 2, none⟩ (.int .u64 (c : Nat))).setCell ⟨p, 3, none⟩ (.int .u64 (d : Nat))).setCell ⟨p, 4, none⟩ (.int .i64 lo)).setCell ⟨p, 5, none⟩ (.int .i64 hi)
theorem RgAt.put {w : World} {p a b c d a' b' c' d' : Nat} {lo hi lo' hi' : Int} (h : RgAt w p a b c d lo hi) : RgAt (putR w p a' b' c' d' lo' hi') p a' b' c' d' lo' hi' := (((((Cl.set h 0 _).set 1 _).set 2 _).set 3 _).set 4 _).set 5 _
theorem below_putR {B : Nat} {w w' : World} {p a b c d : Nat} {lo hi : Int} (h : Below B w w') (hp : B ≤ p) : Below B w (putR w' p a b c d lo hi) := (((((h.setCell (p := ⟨p, 0, none⟩) hp _).setCell (p := ⟨p, 1, none⟩) hp _).setCell (p := ⟨p, 2, none⟩) hp _).setCell (p := ⟨p, 3, none⟩) hp _).setCell (p := ⟨p, 4, none⟩) hp _).setCell (p := ⟨p, 5, none⟩) hp _
theorem Cl.putR {w : World} {k p a b c d : Nat} {t : TypeId} {vs : List Value} {lo hi : Int} (h : Cl w k t vs) (hk : p ≠ k) : Cl (YtehlmjjdegmnaaaDoor.putR w p a b c d lo hi) k t vs := (((((h.other hk 0 _).other hk 1 _).other hk 2 _).other hk 3 _).other hk 4 _).other hk 5 _
/-- What Check lets by. -/
def okR (lo hi : Int) : Bool := decide (1 ≤ hi) && decide (hi ≤ 1000) && decide (0 ≤ lo) && decide (lo ≤ hi)
set_option maxHeartbeats 1000000 in
theorem check_r (a b c d : Nat) (lo hi : Int) (w : World) : Calls Tryd.prog 7 #[rgV a b c d lo hi] w fun e w' => e = .returned (.int .i64 (if okR lo hi = true then 0 else 130)) ∧ Below w.heap.size w w' := by
  have hB : Below w.heap.size w (w.alloc (.cells #[.int .u64 (a : Nat), .int .u64 (b : Nat), .int .u64 (c : Nat), .int .u64 (d : Nat), .int .i64 lo, .int .i64 hi] 26)) := (Below.refl _ _).alloc (Nat.le_refl _) _
  unfold rgV
  by_cases h1 : hi < 1
  · have e : (if okR lo hi = true then (0 : Int) else 130) = 130 := by unfold okR; rw [decide_eq_false (p := 1 ≤ hi) (by omega)]; rfl
    rw [e]
    go_enter Tryd.func7, Tryd.ntmps7
    go_wp2
    go_ret
    exact ⟨rfl, hB⟩
  by_cases h2 : 1000 < hi
  · have e : (if okR lo hi = true then (0 : Int) else 130) = 130 := by unfold okR; rw [decide_eq_false (p := hi ≤ 1000) (by omega)]; simp
    rw [e]
    go_enter Tryd.func7, Tryd.ntmps7
    go_wp2
    go_ret
    exact ⟨rfl, hB⟩
  by_cases h3 : lo < 0
  · have e : (if okR lo hi = true then (0 : Int) else 130) = 130 := by unfold okR; rw [decide_eq_false (p := 0 ≤ lo) (by omega)]; simp
    rw [e]
    go_enter Tryd.func7, Tryd.ntmps7
    go_wp2
    go_ret
    exact ⟨rfl, hB⟩
  by_cases h4 : hi < lo
  · have e : (if okR lo hi = true then (0 : Int) else 130) = 130 := by unfold okR; rw [decide_eq_false (p := lo ≤ hi) (by omega)]; simp
    rw [e]
    go_enter Tryd.func7, Tryd.ntmps7
    go_wp2
    go_ret
    exact ⟨rfl, hB⟩
  · have e : (if okR lo hi = true then (0 : Int) else 130) = 0 := by unfold okR; rw [decide_eq_true (p := 1 ≤ hi) (by omega), decide_eq_true (p := hi ≤ 1000) (by omega), decide_eq_true (p := 0 ≤ lo) (by omega), decide_eq_true (p := lo ≤ hi) (by omega)]; rfl
    rw [e]
    go_enter Tryd.func7, Tryd.ntmps7
    go_wp2
    go_ret
    exact ⟨rfl, hB⟩
theorem check_yes {a b c d : Nat} {lo hi : Int} (w : World) (h : okR lo hi = true) : Calls Tryd.prog 7 #[rgV a b c d lo hi] w fun e w' => e = .returned (.int .i64 0) ∧ Below w.heap.size w w' := by
  have := check_r a b c d lo hi w
  rwa [if_pos h] at this
theorem check_no {a b c d : Nat} {lo hi : Int} (w : World) (h : okR lo hi = false) : Calls Tryd.prog 7 #[rgV a b c d lo hi] w fun e w' => e = .returned (.int .i64 130) ∧ Below w.heap.size w w' := by
  have := check_r a b c d lo hi w
  rwa [if_neg (by rw [h]; decide)] at this
set_option maxHeartbeats 1000000 in
/-- sound of a ring that may be. -/
theorem sound_yes {a b c d : Nat} {lo hi : Int} (w : World) (h : okR lo hi = true) : Calls Tryd.prog 24 #[rgV a b c d lo hi] w fun e w' => e = .returned (rgV a b c d lo hi) ∧ Below w.heap.size w w' := by
  have HC := check_yes (a := a) (b := b) (c := c) (d := d) (lo := lo) (hi := hi) ((w.alloc (.cells #[.int .u64 (a : Nat), .int .u64 (b : Nat), .int .u64 (c : Nat), .int .u64 (d : Nat), .int .i64 lo, .int .i64 hi] 26)).alloc (.cells #[.int .u64 0, .int .u64 0, .int .u64 0, .int .u64 0, .int .i64 0, .int .i64 0] 26)) h
  have r0 := (RgAt.new w a b c d lo hi).below ((Below.refl _ _).alloc (Nat.le_refl _) (.cells #[.int .u64 0, .int .u64 0, .int .u64 0, .int .u64 0, .int .i64 0, .int .i64 0] 26))
  have r1 := RgAt.new (w.alloc (.cells #[.int .u64 (a : Nat), .int .u64 (b : Nat), .int .u64 (c : Nat), .int .u64 (d : Nat), .int .i64 lo, .int .i64 hi] 26)) 0 0 0 0 0 0
  rw [World.size_alloc] at r1
  have hB0 : Below w.heap.size w ((w.alloc (.cells #[.int .u64 (a : Nat), .int .u64 (b : Nat), .int .u64 (c : Nat), .int .u64 (d : Nat), .int .i64 lo, .int .i64 hi] 26)).alloc (.cells #[.int .u64 0, .int .u64 0, .int .u64 0, .int .u64 0, .int .i64 0, .int .i64 0] 26)) := ((Below.refl _ _).alloc (Nat.le_refl _) _).alloc (by simp) _
  unfold rgV at HC ⊢
  go_enter Tryd.func24, Tryd.ntmps24
  go_wp2_with (go_at_call 7; refine HC.mono ?_; rintro e w1 ⟨rfl, hb⟩; have hB1 := hB0.trans (hb.mono (by simp; omega)); have r0' := r0.below hb; have r1' := r1.below hb; clear hb HC r0 r1 hB0; obtain ⟨⟨g0, g1, g2, g3, g4, g5⟩, _⟩ := r0'.cells; obtain ⟨_, f0, f1, f2, f3, f4, f5⟩ := r1'.cells)
  have r2 := r1'.put (a' := a) (b' := b) (c' := c) (d' := d) (lo' := lo) (hi' := hi)
  have hB2 := below_putR (p := w.heap.size + 1) (a := a) (b := b) (c := c) (d := d) (lo := lo) (hi := hi) hB1 (by omega)
  obtain ⟨⟨k0, k1, k2, k3, k4, k5⟩, _⟩ := r2.cells
  unfold putR at k0 k1 k2 k3 k4 k5 hB2
  go_wp2
  exact bodyPost_ret (by simp [results, Tryd.results24, go_sem, k0, k1, k2, k3, k4, k5]) rfl ⟨rfl, hB2⟩
set_option maxHeartbeats 1000000 in
/-- sound of another one. -/
theorem sound_no {a b c d : Nat} {lo hi : Int} (w : World) (h : okR lo hi = false) : Calls Tryd.prog 24 #[rgV a b c d lo hi] w fun e w' => e = .returned (rgV 0 0 0 0 0 1) ∧ Below w.heap.size w w' := by
  have HC := check_no (a := a) (b := b) (c := c) (d := d) (lo := lo) (hi := hi) ((w.alloc (.cells #[.int .u64 (a : Nat), .int .u64 (b : Nat), .int .u64 (c : Nat), .int .u64 (d : Nat), .int .i64 lo, .int .i64 hi] 26)).alloc (.cells #[.int .u64 0, .int .u64 0, .int .u64 0, .int .u64 0, .int .i64 0, .int .i64 0] 26)) h
  have r1 := RgAt.new (w.alloc (.cells #[.int .u64 (a : Nat), .int .u64 (b : Nat), .int .u64 (c : Nat), .int .u64 (d : Nat), .int .i64 lo, .int .i64 hi] 26)) 0 0 0 0 0 0
  rw [World.size_alloc] at r1
  have hB0 : Below w.heap.size w ((w.alloc (.cells #[.int .u64 (a : Nat), .int .u64 (b : Nat), .int .u64 (c : Nat), .int .u64 (d : Nat), .int .i64 lo, .int .i64 hi] 26)).alloc (.cells #[.int .u64 0, .int .u64 0, .int .u64 0, .int .u64 0, .int .i64 0, .int .i64 0] 26)) := ((Below.refl _ _).alloc (Nat.le_refl _) _).alloc (by simp) _
  unfold rgV at HC ⊢
  go_enter Tryd.func24, Tryd.ntmps24
  go_wp2_with (go_at_call 7; refine HC.mono ?_; rintro e w1 ⟨rfl, hb⟩; have hB1 := hB0.trans (hb.mono (by simp; omega)); have r1' := r1.below hb; clear hb HC r1 hB0; obtain ⟨_, f0, f1, f2, f3, f4, f5⟩ := r1'.cells)
  have r2 := r1'.put (a' := 0) (b' := 0) (c' := 0) (d' := 0) (lo' := 0) (hi' := 1)
  have hB2 := below_putR (p := w.heap.size + 1) (a := 0) (b := 0) (c := 0) (d := 0) (lo := 0) (hi := 1) hB1 (by omega)
  obtain ⟨⟨k0, k1, k2, k3, k4, k5⟩, _⟩ := r2.cells
  unfold putR at k0 k1 k2 k3 k4 k5 hB2
  go_wp2
  exact bodyPost_ret (by simp_all [results, Tryd.results24, go_sem]) rfl ⟨rfl, hB2⟩
end Go.Proofs.YtehlmjjdegmnaaaDoor
