/- Classes by their four words, blocks of cells, slices of ints and bytes; Has, Contains, Equal, marked: the walks. -/
import Derived.Test.YtobgmgpclcfkcaaChecked
import Derived.Test.YtobgmgpclcfkcaaTail
import Derived.WalkKit
import Derived.WalkLawsBesides
import Derived.WalkSpells
import Derived.Deep.QuietTactic
import Derived.BigQuiet
import Derived.Laws.CopyOwn
import Derived.StillTail
import Derived.Deep.RegionWith
import Derived.Deep.DeepCutAuto
import Derived.Deep.DrawnRows
import Derived.Laws.AppendOwn
import Derived.Lib.SliceRun
import Derived.Shelf.Abstract
import Derived.Lib.SlBytesConst
namespace Go.Proofs.Ytobgmgpclcfkcaa
open Go.RowKit Go.Shelf

/-- u, but all that was there in W is as it was. -/
def near (W u : World) : World := { u with os := W.os, tape := W.tape, output := W.output, heap := W.heap ++ u.heap.extract W.heap.size }
theorem near_below (W u : World) : Below W.heap.size W (near W u) := by
  refine ⟨rfl, rfl, rfl, ?_, fun k hk => ?_⟩
  · show W.heap.size ≤ (W.heap ++ u.heap.extract W.heap.size).size
    rw [Array.size_append]; omega
  · show (W.heap ++ u.heap.extract W.heap.size)[k]? = _
    rw [Array.getElem?_append_left hk]
theorem near_self {W w : World} (h : Below W.heap.size W w) : near W w = w := by
  have e : W.heap ++ w.heap.extract W.heap.size = w.heap := by
    apply Array.ext_getElem?
    intro i
    by_cases hi : i < W.heap.size
    · rw [Array.getElem?_append_left hi, h.block i hi]
    · rw [Array.getElem?_append_right (by omega), Array.getElem?_extract]
      have := h.size
      by_cases h2 : i < w.heap.size
      · rw [if_pos (by omega), show W.heap.size + (i - W.heap.size) = i by omega]
      · rw [if_neg (by omega), Array.getElem?_eq_none (by omega)]
  unfold near
  rw [e, ← h.os, ← h.tape, ← h.output]
theorem Near.cell {W : World} {b o : Nat} {v : Value} (hc : W.cell? ⟨b, o, none⟩ = some v) (hb : b < W.heap.size) : ∀ u : World, (near W u).cell? ⟨b, o, none⟩ = some v := fun u => by
  rw [(near_below W u).cell (p := ⟨b, o, none⟩) hb]; exact hc
theorem Near.frozen {W : World} {b o : Nat} {v : Bool} (hc : W.frozen? ⟨b, o, none⟩ = v) (hb : b < W.heap.size) : ∀ u : World, (near W u).frozen? ⟨b, o, none⟩ = v := fun u => by
  rw [(near_below W u).frozen (p := ⟨b, o, none⟩) hb]; exact hc
theorem Near.start (W : World) : ∃ u : World, { W with drawn := W.drawn + 1 } = near W u := ⟨W.drew, (near_self (Below.refl _ _).drew).symm⟩
theorem Near.call {P : Program} {f : FuncId} {args : Array Value} {W : World} {u : World} {v : Value} (h : Calls P f args (near W u) fun e w' => e = .returned v ∧ Below (near W u).heap.size (near W u) w') :
    Calls P f args (near W u) fun e w' => e = .returned v ∧ ∃ u' : World, w' = near W u' :=
  h.mono fun _ w' h => ⟨h.1, w', (near_self ((near_below W u).trans (h.2.mono (near_below W u).size))).symm⟩
theorem Near.same {P : Program} {f : FuncId} {args : Array Value} {W : World} {u : World} {v : Value} (h : Calls P f args (near W u) fun e w' => e = .returned v ∧ w' = near W u) :
    Calls P f args (near W u) fun e w' => e = .returned v ∧ ∃ u' : World, w' = near W u' :=
  h.mono fun _ _ h => ⟨h.1, u, h.2⟩

theorem has_bit (x j : Nat) (hx : x < 18446744073709551616) : (bits BinOp.and IntKind.u64 ((x : Int) / 2 ^ j) 1 == 1) = x.testBit j := by
  have e : (x : Int) / 2 ^ j = ((x / 2 ^ j : Nat) : Int) := by rw [Int.natCast_ediv, Int.natCast_pow]; rfl
  have h1 : x / 2 ^ j < 18446744073709551616 := Nat.lt_of_le_of_lt (Nat.div_le_self _ _) hx
  rw [e, show (1 : Int) = ((1 : Nat) : Int) from rfl, u64_and_nat _ _ h1 (by decide), nat_mask1, Nat.testBit_eq_decide_div_mod_eq]
  rw [Bool.eq_iff_iff]
  simp
  omega

/-- The cells of a slice of ints can be read, and hold z. -/
def RdI (w : World) (ao : Option Addr) (len : Nat) (z : Nat → Int) : Prop :=
  0 < len → ∃ b off, ao = some ⟨b, off, none⟩ ∧ b < w.heap.size ∧ ∀ i, i < len → w.cell? ⟨b, off + i, none⟩ = some (.int .i64 (z i))
theorem RdI.below {w w' : World} {ao : Option Addr} {len : Nat} {z : Nat → Int} (h : RdI w ao len z) (hb : Below w.heap.size w w') : RdI w' ao len z := by
  intro hl
  obtain ⟨b, off, e, hlt, hc⟩ := h hl
  exact ⟨b, off, e, Nat.lt_of_lt_of_le hlt hb.size, fun i hi => by rw [hb.cell (p := ⟨b, off + i, none⟩) hlt]; exact hc i hi⟩
/-- Whether i is among the first k of the numbers z. -/
def among (z : Nat → Int) : Nat → Nat → Bool
  | 0, _ => false
  | k + 1, i => among z k i || decide ((i : Int) = z k)
/-- The four words of a class. -/
structure C4 (P : Nat → Bool) (a b c d : Nat) : Prop where
  la : a < 18446744073709551616
  lb : b < 18446744073709551616
  lc : c < 18446744073709551616
  ld : d < 18446744073709551616
  ha : ∀ j, j < 64 → a.testBit j = P j
  hb : ∀ j, j < 64 → b.testBit j = P (64 + j)
  hc : ∀ j, j < 64 → c.testBit j = P (128 + j)
  hd : ∀ j, j < 64 → d.testBit j = P (192 + j)
theorem C4.congr {P Q : Nat → Bool} {a b c d : Nat} (h : C4 P a b c d) (hpq : ∀ b, b < 256 → P b = Q b) : C4 Q a b c d :=
  ⟨h.la, h.lb, h.lc, h.ld, fun j hj => by rw [h.ha j hj, hpq _ (by omega)], fun j hj => by rw [h.hb j hj, hpq _ (by omega)], fun j hj => by rw [h.hc j hj, hpq _ (by omega)], fun j hj => by rw [h.hd j hj, hpq _ (by omega)]⟩
/-- Any four words are a class. -/
theorem c4_of {a b c d : Nat} (ha : a < 18446744073709551616) (hb : b < 18446744073709551616) (hc : c < 18446744073709551616) (hd : d < 18446744073709551616) : ∃ P, C4 P a b c d := by
  refine ⟨fun x => if x < 64 then a.testBit x else if x < 128 then b.testBit (x - 64) else if x < 192 then c.testBit (x - 128) else d.testBit (x - 192), ha, hb, hc, hd, fun j hj => ?_, fun j hj => ?_, fun j hj => ?_, fun j hj => ?_⟩
  · show _ = ite _ _ _
    rw [if_pos hj]
  · show _ = ite _ _ _
    rw [if_neg (by omega), if_pos (by omega), show 64 + j - 64 = j by omega]
  · show _ = ite _ _ _
    rw [if_neg (by omega), if_neg (by omega), if_pos (by omega), show 128 + j - 128 = j by omega]
  · show _ = ite _ _ _
    rw [if_neg (by omega), if_neg (by omega), if_neg (by omega), show 192 + j - 192 = j by omega]
theorem c4_none : C4 (fun _ => false) 0 0 0 0 :=
  ⟨by decide, by decide, by decide, by decide, fun j _ => by simp, fun j _ => by simp, fun j _ => by simp, fun j _ => by simp⟩
theorem rhas_bit (x j : Nat) : (((x : Int) / 2 ^ j).tmod 2 == 1) = x.testBit j := by
  have e : (x : Int) / 2 ^ j = ((x / 2 ^ j : Nat) : Int) := by rw [Int.natCast_ediv, Int.natCast_pow]; rfl
  rw [e, Int.tmod_eq_emod_of_nonneg (Int.natCast_nonneg _), Nat.testBit_eq_decide_div_mod_eq, Bool.eq_iff_iff]
  simp
  omega
set_option maxHeartbeats 1000000 in
theorem has_at0 (a b c d x : Nat) (v : Bool) (w : World) (hq : (x : Int) / 64 = 0) (hv : (bits BinOp.and IntKind.u64 ((a : Int) / 2 ^ (x % 64)) 1 == 1) = v) :
    Calls Try.prog 36 #[.agg #[.int .u64 (a : Nat), .int .u64 (b : Nat), .int .u64 (c : Nat), .int .u64 (d : Nat)], .int .u8 (x : Nat)] w fun e w' => e = .returned (.bool v) ∧ Below w.heap.size w w' := by
  go_enter Try.func36, Try.ntmps36
  go_wp2
  go_ret
  exact ⟨rfl, (Below.refl _ _).alloc (Nat.le_refl _) _⟩
set_option maxHeartbeats 1000000 in
theorem has_at1 (a b c d x : Nat) (v : Bool) (w : World) (hq : (x : Int) / 64 = 1) (hv : (bits BinOp.and IntKind.u64 ((b : Int) / 2 ^ (x % 64)) 1 == 1) = v) :
    Calls Try.prog 36 #[.agg #[.int .u64 (a : Nat), .int .u64 (b : Nat), .int .u64 (c : Nat), .int .u64 (d : Nat)], .int .u8 (x : Nat)] w fun e w' => e = .returned (.bool v) ∧ Below w.heap.size w w' := by
  go_enter Try.func36, Try.ntmps36
  go_wp2
  go_ret
  exact ⟨rfl, (Below.refl _ _).alloc (Nat.le_refl _) _⟩
set_option maxHeartbeats 1000000 in
theorem has_at2 (a b c d x : Nat) (v : Bool) (w : World) (hq : (x : Int) / 64 = 2) (hv : (bits BinOp.and IntKind.u64 ((c : Int) / 2 ^ (x % 64)) 1 == 1) = v) :
    Calls Try.prog 36 #[.agg #[.int .u64 (a : Nat), .int .u64 (b : Nat), .int .u64 (c : Nat), .int .u64 (d : Nat)], .int .u8 (x : Nat)] w fun e w' => e = .returned (.bool v) ∧ Below w.heap.size w w' := by
  go_enter Try.func36, Try.ntmps36
  go_wp2
  go_ret
  exact ⟨rfl, (Below.refl _ _).alloc (Nat.le_refl _) _⟩
set_option maxHeartbeats 1000000 in
theorem has_at3 (a b c d x : Nat) (v : Bool) (w : World) (hq : (x : Int) / 64 = 3) (hv : (bits BinOp.and IntKind.u64 ((d : Int) / 2 ^ (x % 64)) 1 == 1) = v) :
    Calls Try.prog 36 #[.agg #[.int .u64 (a : Nat), .int .u64 (b : Nat), .int .u64 (c : Nat), .int .u64 (d : Nat)], .int .u8 (x : Nat)] w fun e w' => e = .returned (.bool v) ∧ Below w.heap.size w w' := by
  go_enter Try.func36, Try.ntmps36
  go_wp2
  go_ret
  exact ⟨rfl, (Below.refl _ _).alloc (Nat.le_refl _) _⟩
/-- has: whether it is in the class. -/
theorem has_c {P : Nat → Bool} {a b c d : Nat} (h : C4 P a b c d) (x : Nat) (w : World) (hx : x < 256) : Calls Try.prog 36 #[.agg #[.int .u64 (a : Nat), .int .u64 (b : Nat), .int .u64 (c : Nat), .int .u64 (d : Nat)], .int .u8 (x : Nat)] w fun e w' => e = .returned (.bool (P x)) ∧ Below w.heap.size w w' := by
  have hq : x / 64 = 0 ∨ x / 64 = 1 ∨ x / 64 = 2 ∨ x / 64 = 3 := by omega
  rcases hq with hq | hq | hq | hq
  · exact has_at0 a b c d x _ w (by omega) (by rw [has_bit _ _ h.la, h.ha _ (by omega)]; congr 1; omega)
  · exact has_at1 a b c d x _ w (by omega) (by rw [has_bit _ _ h.lb, h.hb _ (by omega)]; congr 1; omega)
  · exact has_at2 a b c d x _ w (by omega) (by rw [has_bit _ _ h.lc, h.hc _ (by omega)]; congr 1; omega)
  · exact has_at3 a b c d x _ w (by omega) (by rw [has_bit _ _ h.ld, h.hd _ (by omega)]; congr 1; omega)
set_option maxHeartbeats 1000000 in
theorem rhas_at0 (a b c d x : Nat) (v : Bool) (w : World) (hq : (x : Int) / 64 = 0) (hv : ((((a : Int) / 2 ^ (x % 64)).tmod 2) == 1) = v) :
    Calls Try.prog 37 #[.agg #[.int .u64 (a : Nat), .int .u64 (b : Nat), .int .u64 (c : Nat), .int .u64 (d : Nat)], .int .u8 (x : Nat)] w fun e w' => e = .returned (.bool v) ∧ Below w.heap.size w w' := by
  go_enter Try.func37, Try.ntmps37
  go_wp2
  go_ret
  exact ⟨rfl, (Below.refl _ _).alloc (Nat.le_refl _) _⟩
set_option maxHeartbeats 1000000 in
theorem rhas_at1 (a b c d x : Nat) (v : Bool) (w : World) (hq : (x : Int) / 64 = 1) (hv : ((((b : Int) / 2 ^ (x % 64)).tmod 2) == 1) = v) :
    Calls Try.prog 37 #[.agg #[.int .u64 (a : Nat), .int .u64 (b : Nat), .int .u64 (c : Nat), .int .u64 (d : Nat)], .int .u8 (x : Nat)] w fun e w' => e = .returned (.bool v) ∧ Below w.heap.size w w' := by
  go_enter Try.func37, Try.ntmps37
  go_wp2
  go_ret
  exact ⟨rfl, (Below.refl _ _).alloc (Nat.le_refl _) _⟩
set_option maxHeartbeats 1000000 in
theorem rhas_at2 (a b c d x : Nat) (v : Bool) (w : World) (hq : (x : Int) / 64 = 2) (hv : ((((c : Int) / 2 ^ (x % 64)).tmod 2) == 1) = v) :
    Calls Try.prog 37 #[.agg #[.int .u64 (a : Nat), .int .u64 (b : Nat), .int .u64 (c : Nat), .int .u64 (d : Nat)], .int .u8 (x : Nat)] w fun e w' => e = .returned (.bool v) ∧ Below w.heap.size w w' := by
  go_enter Try.func37, Try.ntmps37
  go_wp2
  go_ret
  exact ⟨rfl, (Below.refl _ _).alloc (Nat.le_refl _) _⟩
set_option maxHeartbeats 1000000 in
theorem rhas_at3 (a b c d x : Nat) (v : Bool) (w : World) (hq : (x : Int) / 64 = 3) (hv : ((((d : Int) / 2 ^ (x % 64)).tmod 2) == 1) = v) :
    Calls Try.prog 37 #[.agg #[.int .u64 (a : Nat), .int .u64 (b : Nat), .int .u64 (c : Nat), .int .u64 (d : Nat)], .int .u8 (x : Nat)] w fun e w' => e = .returned (.bool v) ∧ Below w.heap.size w w' := by
  go_enter Try.func37, Try.ntmps37
  go_wp2
  go_ret
  exact ⟨rfl, (Below.refl _ _).alloc (Nat.le_refl _) _⟩
/-- rhas: whether it is in the class. -/
theorem rhas_c {P : Nat → Bool} {a b c d : Nat} (h : C4 P a b c d) (x : Nat) (w : World) (hx : x < 256) : Calls Try.prog 37 #[.agg #[.int .u64 (a : Nat), .int .u64 (b : Nat), .int .u64 (c : Nat), .int .u64 (d : Nat)], .int .u8 (x : Nat)] w fun e w' => e = .returned (.bool (P x)) ∧ Below w.heap.size w w' := by
  have hq : x / 64 = 0 ∨ x / 64 = 1 ∨ x / 64 = 2 ∨ x / 64 = 3 := by omega
  rcases hq with hq | hq | hq | hq
  · exact rhas_at0 a b c d x _ w (by omega) (by rw [rhas_bit, h.ha _ (by omega)]; congr 1; omega)
  · exact rhas_at1 a b c d x _ w (by omega) (by rw [rhas_bit, h.hb _ (by omega)]; congr 1; omega)
  · exact rhas_at2 a b c d x _ w (by omega) (by rw [rhas_bit, h.hc _ (by omega)]; congr 1; omega)
  · exact rhas_at3 a b c d x _ w (by omega) (by rw [rhas_bit, h.hd _ (by omega)]; congr 1; omega)
/-- A block of cells that may be written. -/
def Cl (w : World) (b : Nat) (t : TypeId) (vs : List Value) : Prop := w.heap[b]? = some (.cells vs.toArray t (0, 0))
section
variable {w w' : World} {b : Nat} {t : TypeId} {vs : List Value}
theorem Cl.lt (h : Cl w b t vs) : b < w.heap.size := (Array.getElem?_eq_some_iff.1 h).1
theorem Cl.new (w : World) (t : TypeId) (vs : List Value) : Cl (w.alloc (.cells vs.toArray t)) w.heap.size t vs := heap_alloc_new w _
theorem Cl.below (h : Cl w b t vs) (hb : Below w.heap.size w w') : Cl w' b t vs := by unfold Cl; rw [hb.block b h.lt]; exact h
theorem Cl.belowB {B : Nat} (h : Cl w b t vs) (hb : Below B w w') (hlt : b < B) : Cl w' b t vs := by unfold Cl; rw [hb.block b hlt]; exact h
theorem Cl.alloc (h : Cl w b t vs) (o : Obj) : Cl (w.alloc o) b t vs := h.below ((Below.refl _ _).alloc (Nat.le_refl _) o)
theorem Cl.drew (h : Cl w b t vs) : Cl w.drew b t vs := h.below (Below.refl _ _).drew
theorem Cl.cell (h : Cl w b t vs) (i : Nat) {v : Value} (hi : vs[i]? = some v) : w.cell? ⟨b, i, none⟩ = some v := by
  rw [cell_of_row w b i _ t (0, 0) h]
  simpa using hi
theorem Cl.frozen (h : Cl w b t vs) (i : Nat) : w.frozen? ⟨b, i, none⟩ = false := frozen_of_row w b i _ t h
theorem Cl.set (h : Cl w b t vs) (i : Nat) (v : Value) : Cl (w.setCell ⟨b, i, none⟩ v) b t (vs.set i v) := by
  have := heap_setCell_same w b i vs.toArray t v h
  simpa [Cl] using this
theorem Cl.other (h : Cl w b t vs) {k : Nat} (hk : k ≠ b) (i : Nat) (v : Value) : Cl (w.setCell ⟨k, i, none⟩ v) b t vs := by
  unfold Cl at *
  rw [Below.heap_setCell _ _ _ _ (Ne.symm hk)]
  exact h
end
theorem among_iff (z : Nat → Int) (i : Nat) : ∀ l, among z l i = true ↔ ∃ k, k < l ∧ z k = i
  | 0 => by simp [among]
  | l + 1 => by
    simp only [among, Bool.or_eq_true, among_iff z i l, decide_eq_true_eq]
    constructor
    · rintro (⟨k, h1, h2⟩ | h)
      · exact ⟨k, by omega, h2⟩
      · exact ⟨l, by omega, h.symm⟩
    · rintro ⟨k, h1, h2⟩
      rcases Nat.lt_or_ge k l with h | h
      · exact .inl ⟨k, h, h2⟩
      · obtain rfl : k = l := by omega
        exact .inr h2.symm
/-- What Index answers. -/
def RetIx (w : World) (z : Nat → Int) (l i : Nat) (e : Ending) (w' : World) : Prop := ∃ r : Int, e = .returned (.int .i64 r) ∧ decide (0 ≤ r) = among z l i ∧ w = w'
set_option maxHeartbeats 400000 in
theorem index_any (ao : Option Addr) (l c i : Nat) (z : Nat → Int) (w : World) (hr : RdI w ao l z) (hm : (l : Int) ≤ 9223372036854775807) :
    Calls Try.prog 51 #[.slice ao l c, .int .i64 (i : Nat)] w (RetIx w z l i) := by
  go_enter Try.func51, Try.ntmps51
  go_wp2_with fail
  go_loopw [8] (fun u wr => ∃ k : Nat, k ≤ l ∧ u = .int .i64 k ∧ among z k i = false ∧ wr = w) (fun u _ => l - (intOf u).toNat)
  case atStart => exact ⟨0, Nat.zero_le _, rfl, rfl, rfl⟩
  case round =>
    obtain ⟨k, hk, rfl, hno, rfl⟩ := hrel
    by_cases hlt : k < l
    · obtain ⟨b, off, rfl, hb, hc⟩ := hr (by omega)
      have t1 := hc k hlt
      have hki : (k : Int) < (l : Int) := by omega
      clear hc
      by_cases he : (i : Int) = z k
      · have heq : ((i : Int) == z k) = true := by simpa using he
        have hyes : among z l i = true := (among_iff z i l).2 ⟨k, hlt, he.symm⟩
        clear he
        go_wp2
        go_ret
        exact ⟨k, rfl, by rw [hyes]; simp, rfl⟩
      · have heq : ((i : Int) == z k) = false := by simpa using he
        have hno' : among z (k + 1) i = false := by simp [among, hno, he]
        clear he
        go_wp2
        go_roundw
        case rel => exact ⟨k + 1, by omega, by go_num, hno', trivial⟩
        case measure => simp [intOf]; omega
    · obtain rfl : k = l := by omega
      go_wp2
      go_ret
      exact ⟨-1, rfl, by rw [hno]; rfl, rfl⟩
/-- Contains. -/
theorem contains_any (ao : Option Addr) (l c i : Nat) (z : Nat → Int) (w : World) (hr : RdI w ao l z) (hm : (l : Int) ≤ 9223372036854775807) :
    Calls Try.prog 32 #[.slice ao l c, .int .i64 (i : Nat)] w fun e w' => e = .returned (.bool (among z l i)) ∧ w = w' := by
  have HI := index_any ao l c i z w hr hm
  go_enter Try.func32, Try.ntmps32
  go_wp2_with (go_at_call 51; refine HI.mono ?_; rintro e w1 ⟨r, rfl, hr, rfl⟩)
  go_ret
  exact ⟨rfl, rfl⟩
set_option maxHeartbeats 400000 in
theorem equalI_same (ao bo : Option Addr) (l ca cb : Nat) (f : Nat → Int) (w : World) (hra : RdI w ao l f) (hrb : RdI w bo l f) (hm : (l : Int) ≤ 9223372036854775807) :
    Calls Try.prog 23 #[.slice ao l ca, .slice bo l cb] w fun e w' => e = .returned (.bool true) ∧ Below w.heap.size w w' := by
  have hn : ((l : Int) != (l : Int)) = false := by simp
  go_enter Try.func23, Try.ntmps23
  go_wp2_with fail
  go_loopw [13] (fun i wr => ∃ k : Nat, k ≤ l ∧ i = .int .i64 k ∧ ∃ q, wr = w.drewN q) (fun i _ => l - (intOf i).toNat)
  case atStart => exact ⟨0, Nat.zero_le _, rfl, 0, rfl⟩
  case round =>
    obtain ⟨k, hk, rfl, q, rfl⟩ := hrel
    by_cases hlt : k < l
    · obtain ⟨b, off, rfl, hb, hc⟩ := hra (by omega)
      obtain ⟨b2, off2, rfl, hb2, hc2⟩ := hrb (by omega)
      have t1 := hc k hlt
      have t2 := hc2 k hlt
      have hki : (k : Int) < (l : Int) := by omega
      clear hc hc2
      have hnb : (f k != f k) = false := by simp
      go_wp2
      go_quiet (fail)
      go_wp2
      go_roundw
      case rel => exact ⟨k + 1, by omega, by go_num, _, rfl⟩
      case measure => simp [intOf]; omega
    · go_wp2
      go_ret
      exact ⟨rfl, below_drewN (Below.refl _ _) _⟩
/-- Bytes that can be read. -/
structure RdB (w : World) (ao : Option Addr) (n : Nat) (f : Nat → Nat) : Prop where
  small : ∀ i, i < n → f i < 256
  at_ : 0 < n → ∃ b off, ao = some ⟨b, off, none⟩ ∧ b < w.heap.size ∧ ∀ i, i < n → w.cell? ⟨b, off + i, none⟩ = some (.int .u8 (f i : Nat))
theorem RdB.below {w w' : World} {ao : Option Addr} {n : Nat} {f : Nat → Nat} (h : RdB w ao n f) (hb : Below w.heap.size w w') : RdB w' ao n f :=
  ⟨h.small, fun hl => by
    obtain ⟨b, off, e, hlt, hc⟩ := h.at_ hl
    exact ⟨b, off, e, Nat.lt_of_lt_of_le hlt hb.size, fun i hi => by rw [hb.cell (p := ⟨b, off + i, none⟩) hlt]; exact hc i hi⟩⟩
theorem RdB.belowB {B : Nat} {w w' : World} {ao : Option Addr} {n : Nat} {f : Nat → Nat} (h : RdB w ao n f) (hb : Below B w w') (ha : ∀ a, ao = some a → a.block < B) : RdB w' ao n f :=
  ⟨h.small, fun hl => by
    obtain ⟨b, off, e, hlt, hc⟩ := h.at_ hl
    exact ⟨b, off, e, Nat.lt_of_lt_of_le hlt hb.size, fun i hi => by rw [hb.cell (p := ⟨b, off + i, none⟩) (show b < B from ha _ e)]; exact hc i hi⟩⟩
/-- n bools as cells. -/
def bls (f : Nat → Bool) (n : Nat) : List Value := (List.range n).map fun i => Value.bool (f i)
theorem bls_get (f : Nat → Bool) {n i : Nat} (h : i < n) : (bls f n)[i]? = some (.bool (f i)) := by simp [bls, h]
theorem bls_set (f : Nat → Bool) (n i : Nat) : (bls f n).set i (.bool true) = bls (fun j => f j || decide (j = i)) n := by
  apply List.ext_getElem?
  intro j
  by_cases hj : j < n
  · rw [bls_get _ hj]
    by_cases e : i = j
    · subst e
      rw [List.getElem?_set_self (by simpa [bls] using hj)]
      simp
    · rw [List.getElem?_set_ne e, bls_get _ hj]
      simp [show j ≠ i from fun h => e h.symm]
  · rw [List.getElem?_eq_none (by simp [bls]; omega), List.getElem?_eq_none (by simp [bls]; omega)]
/-- The marks: a row of bools in a block of its own. -/
def RetMk (w : World) (n : Nat) (B : Nat → Bool) (e : Ending) (w' : World) : Prop := ∃ g, e = .returned (.slice (some ⟨g, 0, none⟩) n n) ∧ Cl w' g 4 (bls B n) ∧ w.heap.size ≤ g ∧ Below w.heap.size w w'
theorem b_bool : (Try.prog.info? 4).map (fun i => (i.zero, i.size, i.bytes)) = some (some (.bool false), 1, 1) := by kernel_rfl
theorem cl_made {B : Nat} {w : World} {g n : Nat} (h : w.ownsRow B 4 1 (.slice (some ⟨g, 0, none⟩) n n) n (madeCells #[Value.bool false] n).toList) :
    Cl w g 4 (bls (fun _ => false) n) := by
  rcases h.2 with ⟨h', _⟩ | ⟨g', cap', cur, h', _, hg, _, _, hsz, htake⟩
  · simp at h'
  · simp only [Value.slice.injEq, Option.some.injEq, Addr.mk.injEq, and_true, true_and] at h'
    obtain ⟨rfl, rfl⟩ := h'
    have hsz' : cur.size = n := by simpa using hsz
    have e : cur = (bls (fun _ => false) n).toArray := by
      apply Array.toList_inj.1
      have : cur.toList.take (n * 1) = cur.toList := List.take_of_length_le (by simp [hsz'])
      rw [← this, htake, toList_madeCells_one]
      apply List.ext_getElem?
      intro j
      by_cases hj : j < n
      · simp [bls, hj]
      · rw [List.getElem?_eq_none (by simp; omega), List.getElem?_eq_none (by simp [bls]; omega)]
    unfold Cl
    rw [hg, e]
/-- A row of numbers as values. -/
def ints (l : List Nat) : List Value := l.map fun x => Value.int .i64 (x : Nat)
theorem ints_len (l : List Nat) : (ints l).length = l.length := by simp [ints]
/-- What a call answers that makes a list: the list, in memory of its own; nothing old has turned. -/
def RetInts (w : World) (l : List Nat) (e : Ending) (w' : World) : Prop := ∃ v, e = .returned v ∧ w'.ownsRow w.heap.size 3 1 v l.length (ints l) ∧ Below w.heap.size w w'
theorem ownsRow_mono {B B' : Nat} {w : World} {t : TypeId} {v : Value} {n : Nat} {xs : List Value} (h : w.ownsRow B t 1 v n xs) (hB : B' ≤ B) : w.ownsRow B' t 1 v n xs :=
  ⟨h.1, h.2.imp id fun ⟨g, cap, cur, e, hg, r⟩ => ⟨g, cap, cur, e, Nat.le_trans hB hg, r⟩⟩
theorem Try.info3' : (Try.prog.info? 3).map (fun i => (i.zero, i.size, i.bytes)) = some (some (.int .i64 0), 1, 8) := by kernel_rfl
/-- The slice v holds the numbers l. -/
def RowAt (w : World) (v : Value) (l : List Nat) : Prop := ∃ ao cap, v = .slice ao l.length cap ∧ RdI w ao l.length (fun i => ((l.getD i 0 : Nat) : Int))
theorem rowAt_of {w : World} {B : Nat} {v : Value} {l : List Nat} (h : w.ownsRow B 3 1 v l.length (ints l)) : RowAt w v l := by
  rcases h.2 with ⟨e, h0⟩ | ⟨g, cap, cur, e, _, hg, hle, _, hsz, htake⟩
  · exact ⟨none, 0, by rw [e, h0], fun hl => by omega⟩
  · refine ⟨_, cap, e, fun _ => ⟨g, 0, rfl, (Array.getElem?_eq_some_iff.1 hg).1, fun i hi => ?_⟩⟩
    rw [cell_of_row w g (0 + i) cur 3 (0, 0) hg, Nat.zero_add]
    have e2 : cur.toList[i]? = (ints l)[i]? := by
      rw [← htake, List.getElem?_take, if_pos (by omega)]
    rw [← Array.getElem?_toList, e2]
    simp [ints, hi]
theorem RetInts.out {w w' : World} {l : List Nat} {e : Ending} (h : RetInts w l e w') : ∃ ao cap, e = .returned (.slice ao l.length cap) ∧ RdI w' ao l.length (fun i => ((l.getD i 0 : Nat) : Int)) ∧ Below w.heap.size w w' := by
  obtain ⟨v, he, ho, hb⟩ := h
  obtain ⟨ao, cap, rfl, hr⟩ := rowAt_of ho
  exact ⟨ao, cap, he, hr, hb⟩
/-- Whether a number is among those of a list. -/
theorem among_list (l : List Nat) (i : Nat) : among (fun i => ((l.getD i 0 : Nat) : Int)) l.length i = true ↔ i ∈ l := by
  rw [among_iff]
  constructor
  · rintro ⟨k, hk, e⟩
    have : l.getD k 0 = i := by omega
    rw [← this, List.getD_eq_getElem?_getD, List.getElem?_eq_getElem hk]
    exact List.getElem_mem hk
  · intro h
    obtain ⟨k, hk, e⟩ := List.getElem_of_mem h
    refine ⟨k, hk, ?_⟩
    rw [List.getD_eq_getElem?_getD, List.getElem?_eq_getElem hk]
    simp [e]
@[reducible] def lvI : Obj := .cells #[.int .i64 0, .int .i64 1] 3
@[reducible] def lvB : Obj := .cells #[.int .u8 97, .int .u8 97, .int .u8 97, .int .u8 98] 5 (4, 5)
theorem rdI_lit (w : World) (a b : Int) : RdI (w.alloc (.cells #[.int .i64 a, .int .i64 b] 3)) (some ⟨w.heap.size, 0, none⟩) 2 (fun i => ([a, b] : List Int).getD i 0) := by
  refine fun _ => ⟨w.heap.size, 0, rfl, by simp, fun i hi => ?_⟩
  rw [Nat.zero_add, cell_of_row _ w.heap.size i #[.int .i64 a, .int .i64 b] 3 (0, 0) (heap_alloc_new w _)]
  obtain rfl | rfl : i = 0 ∨ i = 1 := by omega
  all_goals rfl
set_option maxRecDepth 100000 in
set_option maxHeartbeats 1000000 in
/-- marked. -/
theorem marked_any (ao : Option Addr) (l c n : Nat) (z : Nat → Int) (w : World) (hr : RdI w ao l z) (hm : (l : Int) ≤ 9223372036854775807) (hn : n ≤ 1024) :
    Calls Try.prog 38 #[.slice ao l c, .int .i64 (n : Nat)] w (RetMk w (n + 1) (among z l)) := by
  obtain ⟨i0, hi, hz0, hz1, hz2⟩ := info_parts b_bool
  go_enter Try.func38, Try.ntmps38
  go_wp2_with (at_make; refine wpList_make_full _ rfl _ _ 57 rfl w.heap.size 4 i0 (.bool false) 1 Try.underlying57 hi hz0 hz1 .i64 .i64 _ _ (n + 1) rfl rfl (by omega) (by omega) (by rw [hz2]; omega) (by unfold maxLen; omega) (by simp) ?_)
  intro w2 hown hgr
  have hb : Below w.heap.size w w2 := (Below.refl _ _).grown hgr (Nat.le_refl _) (by simp)
  have hcl : Cl w2 w.heap.size 4 (bls (fun _ => false) (n + 1)) := cl_made (B := w.heap.size) (by simpa using hown)
  have hcl0 : Cl w2 w.heap.size 4 (bls (among z 0) (n + 1)) := hcl
  clear hown hgr hcl
  go_wp2_with fail
  go_loopw [13] (fun u wr => ∃ k : Nat, k ≤ l ∧ u = .int .i64 k ∧ Cl wr w.heap.size 4 (bls (among z k) (n + 1)) ∧ Below w.heap.size w wr) (fun u _ => l - (intOf u).toNat)
  case atStart => exact ⟨0, Nat.zero_le _, rfl, hcl0, hb⟩
  case round =>
    obtain ⟨k, hk, rfl, hc, hB⟩ := hrel
    by_cases hlt : k < l
    · obtain ⟨b, off, rfl, hbl, hcz⟩ := hr (by omega)
      have t1 : wr.cell? ⟨b, off + k, none⟩ = some (.int .i64 (z k)) := by rw [hB.cell (p := ⟨b, off + k, none⟩) hbl]; exact hcz k hlt
      have hki : (k : Int) < (l : Int) := by omega
      clear hcz
      by_cases h0 : 0 ≤ z k ∧ z k ≤ (n : Int)
      · obtain ⟨m, hm'⟩ := Int.eq_ofNat_of_zero_le h0.1
        have hmn : m ≤ n := by omega
        have t1' : wr.cell? ⟨b, off + k, none⟩ = some (.int .i64 (m : Nat)) := by rw [t1, hm']
        have hfr := hc.frozen m
        have hcell := hc.cell m (bls_get _ (by omega))
        have hset := hc.set m (.bool true)
        rw [bls_set] at hset
        have hset' : Cl (wr.setCell ⟨w.heap.size, m, none⟩ (.bool true)) w.heap.size 4 (bls (among z (k + 1)) (n + 1)) := by
          have : among z (k + 1) = fun j => among z k j || decide (j = m) := by
            funext j
            simp only [among]
            rw [hm']
            congr 1
            rw [decide_eq_decide]
            omega
          rw [this]
          exact hset
        have hB' : Below w.heap.size w (wr.setCell ⟨w.heap.size, m, none⟩ (.bool true)) := hB.setCell (p := ⟨w.heap.size, m, none⟩) (by simp) _
        have hmi : (m : Int) ≤ (n : Int) := by omega
        have hmj : (m : Int) < (n : Int) + 1 := by omega
        clear hset h0 hm' t1 hc
        go_wp2
        go_roundw
        case rel => exact ⟨k + 1, by omega, by go_num, hset', hB'⟩
        case measure => simp [intOf]; omega
      · have hc' : Cl wr w.heap.size 4 (bls (among z (k + 1)) (n + 1)) := by
          have : bls (among z (k + 1)) (n + 1) = bls (among z k) (n + 1) := by
            unfold bls
            apply List.map_congr_left
            intro j hj
            have := List.mem_range.1 hj
            simp only [among]
            rw [decide_eq_false (p := (j : Int) = z k) (by omega), Bool.or_false]
          rw [this]
          exact hc
        by_cases h1 : 0 ≤ z k
        · have h2 : ¬ z k ≤ (n : Int) := fun h => h0 ⟨h1, h⟩
          clear h0
          go_wp2
          go_roundw
          case rel => exact ⟨k + 1, by omega, by go_num, hc', hB⟩
          case measure => simp [intOf]; omega
        · clear h0
          go_wp2
          go_roundw
          case rel => exact ⟨k + 1, by omega, by go_num, hc', hB⟩
          case measure => simp [intOf]; omega
    · obtain rfl : k = l := by omega
      go_wp2
      go_ret
      exact ⟨w.heap.size, rfl, hc, Nat.le_refl _, hB⟩
end Go.Proofs.Ytobgmgpclcfkcaa
