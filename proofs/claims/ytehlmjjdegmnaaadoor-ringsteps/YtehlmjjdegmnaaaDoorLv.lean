/- live: the walk. -/
import Derived.Test.YtehlmjjdegmnaaaDoorAl
import Derived.Lib.SlBytesConst
namespace Go.Proofs.YtehlmjjdegmnaaaDoor
open Go.RowKit Go.Shelf
/-- The slice v holds the numbers l. -/
def RowAt (w : World) (v : Value) (l : List Nat) : Prop := ∃ ao cap, v = .slice ao l.length cap ∧ RdI w ao l.length (fun i => ((l.getD i 0 : Nat) : Int))
theorem rowAt_of {w : World} {B : Nat} {v : Value} {l : List Nat} (h : w.ownsRow B 3 1 v l.length (ints l)) : RowAt w v l := by
  rcases h.2 with ⟨e, h0⟩ | ⟨g, cap, cur, e, _, hg, hle, _, hsz, htake⟩
  · exact ⟨none, 0, by rw [e, h0], fun hl => by omega⟩
  · refine ⟨_, cap, e, fun _ => ⟨g, 0, rfl, (Array.getElem?_eq_some_iff.1 hg).1, fun i hi => ?_⟩⟩
    rw [cell_of_row w g (0 + i) cur 3 (0, 0) hg, Nat.zero_add]
    have e2 : cur.toList[i]? = (ints l)[i]? := by
      rw [← htake, List.getElem?_take, if_pos (by omega)]
    rw [← Array.getElem?_toList, e2]
    simp [ints, hi]
theorem RetInts.out {w w' : World} {l : List Nat} {e : Ending} (h : RetInts w l e w') : ∃ ao cap, e = .returned (.slice ao l.length cap) ∧ RdI w' ao l.length (fun i => ((l.getD i 0 : Nat) : Int)) ∧ Below w.heap.size w w' := by
  obtain ⟨v, he, ho, hb⟩ := h
  obtain ⟨ao, cap, rfl, hr⟩ := rowAt_of ho
  exact ⟨ao, cap, he, hr, hb⟩
/-- Whether a number is among those of a list. -/
theorem among_list (l : List Nat) (i : Nat) : among (fun i => ((l.getD i 0 : Nat) : Int)) l.length i = true ↔ i ∈ l := by
  rw [among_iff]
  constructor
  · rintro ⟨k, hk, e⟩
    have : l.getD k 0 = i := by omega
    rw [← this, List.getD_eq_getElem?_getD, List.getElem?_eq_getElem hk]
    exact List.getElem_mem hk
  · intro h
    obtain ⟨k, hk, e⟩ := List.getElem_of_mem h
    refine ⟨k, hk, ?_⟩
    rw [List.getD_eq_getElem?_getD, List.getElem?_eq_getElem hk]
    simp [e]
def pA : Nat → Bool := fun x => x == 97
theorem c4_a : C4 pA 0 8589934592 0 0 :=
  ⟨by decide, by decide, by decide, by decide, by decide +kernel, by decide +kernel, by decide +kernel, by decide +kernel⟩
def lvZ (i : Nat) : Int := ([0, 1] : List Int).getD i 0
def lvT (i : Nat) : Nat := ([97, 97, 97, 98] : List Nat).getD i 0
theorem lv_come : come (accF pA 2 3 (among lvZ 2) lvT) 5 = [2, 3] := by decide +kernel
@[reducible] def lvI : Obj := .cells #[.int .i64 0, .int .i64 1] 3
@[reducible] def lvB : Obj := .cells #[.int .u8 97, .int .u8 97, .int .u8 97, .int .u8 98] 5 (4, 5)
theorem rdI_lit (w : World) (a b : Int) : RdI (w.alloc (.cells #[.int .i64 a, .int .i64 b] 3)) (some ⟨w.heap.size, 0, none⟩) 2 (fun i => ([a, b] : List Int).getD i 0) := by
  refine fun _ => ⟨w.heap.size, 0, rfl, by simp, fun i hi => ?_⟩
  rw [Nat.zero_add, cell_of_row _ w.heap.size i #[.int .i64 a, .int .i64 b] 3 (0, 0) (heap_alloc_new w _)]
  obtain rfl | rfl : i = 0 ∨ i = 1 := by omega
  all_goals rfl
theorem rdB_lit (w : World) : RdB (w.alloc lvB) (some ⟨w.heap.size, 0, none⟩) 4 lvT := by
  refine ⟨by decide, fun _ => ⟨w.heap.size, 0, rfl, by simp, fun i hi => ?_⟩⟩
  rw [Nat.zero_add, cell_of_row _ w.heap.size i #[.int .u8 97, .int .u8 97, .int .u8 97, .int .u8 98] 5 (4, 5) (heap_alloc_new w _)]
  obtain rfl | rfl | rfl | rfl : i = 0 ∨ i = 1 ∨ i = 2 ∨ i = 3 := by omega
  all_goals rfl
set_option maxRecDepth 20000 in
set_option maxHeartbeats 1000000 in
theorem live_any (w : World) : Calls Tryd.prog 4 #[] w fun e w' => e = .returned (.bool true) ∧ Below w.heap.size w w' := by
  have kc := fun (w : World) (C : Array Value) (n c : Nat) => Lib.run_convert_bytes_const (P := Tryd.prog) w 30 5 C n c Tryd.underlying30 Tryd.underlying5
  have HE : ∀ W : World, Calls Tryd.prog 21 #[rgV 0 8589934592 0 0 2 3, .slice (some ⟨W.heap.size, 0, none⟩) 2 2, .slice (some ⟨W.heap.size + 1, 0, none⟩) 4 4] ((W.alloc lvI).alloc lvB) (RetInts ((W.alloc lvI).alloc lvB) [2, 3]) := by
    intro W
    have h := ends_any (a' := 0) (b' := 8589934592) (c' := 0) (d' := 0) (lo' := 2) (hi' := 3) (a := 0) (b := 8589934592) (c := 0) (d := 0) (lo := 2) (hi := 3) ((W.alloc lvI).alloc lvB) (some ⟨W.heap.size, 0, none⟩) 2 2 lvZ (some ⟨W.heap.size + 1, 0, none⟩) 4 4 lvT (fun w => sound_yes w (by decide)) c4_a (by decide) (by decide)
      ((rdI_lit W 0 1).below ((Below.refl _ _).alloc (Nat.le_refl _) _)) (by decide) (by have := rdB_lit (W.alloc lvI); rwa [World.size_alloc] at this) (by decide) (.inr ⟨_, rfl⟩)
    rwa [lv_come] at h
  have HQ : Hid (∀ (ao bo : Option Addr) (ca cb : Nat) (w : World), RdI w ao 2 (fun i => (([2, 3] : List Nat).getD i 0 : Nat)) → RdI w bo 2 (fun i => (([2, 3] : List Nat).getD i 0 : Nat)) → Calls Tryd.prog 20 #[.slice ao 2 ca, .slice bo 2 cb] w fun e w' => e = .returned (.bool true) ∧ Below w.heap.size w w') :=
    fun ao bo ca cb w h1 h2 => equalI_same ao bo 2 ca cb _ w h1 h2 (by decide)
  have hB0 : Below w.heap.size w (((w.alloc (.cells #[.int .u64 0, .int .u64 8589934592, .int .u64 0, .int .u64 0, .int .i64 2, .int .i64 3] 26)).alloc lvI).alloc lvB) := (((Below.refl _ _).alloc (Nat.le_refl _) _).alloc (by simp) _).alloc (by simp; omega) _
  have HE0 := HE (w.alloc (.cells #[.int .u64 0, .int .u64 8589934592, .int .u64 0, .int .u64 0, .int .i64 2, .int .i64 3] 26))
  clear HE
  unfold rgV at HE0
  simp only [World.size_alloc] at HE0
  have hcv := kc ((w.alloc (.cells #[.int .u64 0, .int .u64 8589934592, .int .u64 0, .int .u64 0, .int .i64 2, .int .i64 3] 26)).alloc (.cells #[.int .i64 0, .int .i64 1] 3)) #[.int .u8 97, .int .u8 97, .int .u8 97, .int .u8 98] 4 4
  simp only [World.size_alloc] at hcv
  clear kc
  go_enter Tryd.func4, Tryd.ntmps4
  go_wp2_with (go_at_call 21; refine HE0.mono ?_; intro e w1 h; obtain ⟨ao, cap, rfl, hr, hb⟩ := RetInts.out h)
  clear HE0 h hcv
  have hB1 := hB0.trans (hb.mono (by simp; omega))
  have hsz := hB1.size
  have HQ1 := HQ.out ao (some ⟨w1.heap.size, 0, none⟩) cap 2 (w1.alloc (.cells #[.int .i64 2, .int .i64 3] 3)) (hr.below ((Below.refl _ _).alloc (Nat.le_refl _) _)) (by
    have := rdI_lit w1 2 3
    refine fun h0 => ?_
    obtain ⟨b, off, e, h1, h2⟩ := this h0
    refine ⟨b, off, e, h1, fun i hi => ?_⟩
    rw [h2 i hi]
    obtain rfl | rfl : i = 0 ∨ i = 1 := by omega
    all_goals rfl)
  clear HQ hb hB0 hr
  go_wp2_with (go_at_call 20; refine HQ1.mono ?_; rintro e w2 ⟨rfl, hb2⟩)
  go_ret
  exact ⟨rfl, (hB1.alloc hsz _).trans (hb2.mono (by simp; omega))⟩
end Go.Proofs.YtehlmjjdegmnaaaDoor
