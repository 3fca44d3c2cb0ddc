/- isVisible, isLetter, number: the walks. -/
import Derived.Test.YthgjklhjfpillaaDoorTail
import Derived.Test.YthgjklhjfpillaaDoorShelf
namespace Go.Proofs.YthgjklhjfpillaaDoor
open Go.RowKit
/-- A byte that can be seen. -/
def vis (b : Nat) : Bool := decide (33 ≤ b) && decide (b ≤ 126)
/-- The digits of sixteen. -/
def hexd (n : Nat) : Nat := if n < 10 then 48 + n else 87 + n
theorem idxS (n : Nat) (h : n < 16) (w : World) : (Instr.index 9 (.string ⟨#[48, 49, 50, 51, 52, 53, 54, 55, 56, 57, 97, 98, 99, 100, 101, 102]⟩) (.int .u8 (n : Nat))).run Tryd.prog w = .ok (.int .u8 (hexd n : Nat)) w := by
  have hn : n = 0 ∨ n = 1 ∨ n = 2 ∨ n = 3 ∨ n = 4 ∨ n = 5 ∨ n = 6 ∨ n = 7 ∨ n = 8 ∨ n = 9 ∨ n = 10 ∨ n = 11 ∨ n = 12 ∨ n = 13 ∨ n = 14 ∨ n = 15 := by omega
  rcases hn with rfl | rfl | rfl | rfl | rfl | rfl | rfl | rfl | rfl | rfl | rfl | rfl | rfl | rfl | rfl | rfl
  all_goals rfl
set_option maxHeartbeats 400000 in
theorem isVisible_any (b : Nat) (w : World) : Calls Tryd.prog 55 #[.int .u8 (b : Nat)] w fun e w' => e = .returned (.bool (vis b)) ∧ w' = w := by
  by_cases h1 : 33 ≤ b
  · have g1 : (33 : Int) ≤ (b : Int) := by omega
    have e : decide ((b : Int) ≤ 126) = vis b := by unfold vis; rw [decide_eq_true h1, Bool.true_and, decide_eq_decide]; omega
    go_enter Tryd.func55, Tryd.ntmps55
    go_wp2
    go_ret
    exact ⟨rfl, rfl⟩
  · have g1 : ¬ (33 : Int) ≤ (b : Int) := by omega
    have e : vis b = false := by unfold vis; rw [decide_eq_false h1, Bool.false_and]
    go_enter Tryd.func55, Tryd.ntmps55
    go_wp2
    go_ret
    exact ⟨rfl, rfl⟩
/-- The text of a byte as a number. -/
def numB (b : Nat) : List UInt8 := [92, 120, (hexd (b / 16)).toUInt8, (hexd (b % 16)).toUInt8]
set_option maxRecDepth 100000 in
set_option maxHeartbeats 1000000 in
theorem number_any (b : Nat) (w : World) (hb : b < 256) : Calls Tryd.prog 56 #[.int .u8 (b : Nat)] w fun e w' => e = .returned (.string ⟨(numB b).toArray⟩) ∧ Below w.heap.size w w' := by
  have i1 := idxS (b / 16) (by omega)
  have i2 := idxS (b % 16) (by omega)
  rw [show ((b / 16 : Nat) : Int) = (b : Int) / 16 by omega] at i1
  rw [show ((b % 16 : Nat) : Int) = (b : Int) % 16 by omega] at i2
  have a1 : bits BinOp.and IntKind.u8 (b : Int) 15 = (b : Int) % 16 := by rw [show (15 : Int) = ((15 : Nat) : Int) from rfl, u8_and_nat _ _ hb (by decide), nat_mask4, Int.natCast_emod]; rfl
  obtain ⟨p, hp⟩ : ∃ p, hexd (b / 16) = p := ⟨_, rfl⟩
  obtain ⟨q, hq⟩ : ∃ q, hexd (b % 16) = q := ⟨_, rfl⟩
  rw [hp] at i1
  rw [hq] at i2
  go_enter Tryd.func56, Tryd.ntmps56
  go_wp2
  refine wp_region_quiet_tail 6 (fun w' => ∃ u : World, w' = near w u) (by kernel_rfl) (by kernel_rfl) (Near.start _) ?_
  simp only [List.take_succ_cons, List.take_zero, List.drop_succ_cons, List.drop_zero]
  generalize (Value.string ⟨#[48, 49, 50, 51, 52, 53, 54, 55, 56, 57, 97, 98, 99, 100, 101, 102]⟩) = S at *
  repeat (go_big_quiet_step (fail))
  refine wpQuiet_nil ?_
  rintro _ ⟨u, rfl⟩
  clear i1 i2 a1
  have hB : Below w.heap.size w ((near w u).alloc (.cells #[.int .u8 92, .int .u8 120, .int .u8 (p : Nat), .int .u8 (q : Nat)] 5)) := (near_below w u).alloc (near_below w u).size _
  generalize near w u = W at *
  have hcv : (convert 22 9 (.slice (some ⟨W.heap.size, 0, none⟩) 4 4)).run Tryd.prog (W.alloc (.cells #[.int .u8 92, .int .u8 120, .int .u8 (p : Nat), .int .u8 (q : Nat)] 5)) = .ok (.string (strOfNums [92, 120, (p : Nat), (q : Nat)])) (W.alloc (.cells #[.int .u8 92, .int .u8 120, .int .u8 (p : Nat), .int .u8 (q : Nat)] 5)) := by
    refine run_convert_bytes_arg _ 22 5 Tryd.underlying22 Tryd.underlying5 _ 0 4 4 [92, 120, (p : Nat), (q : Nat)] rfl (fun i hi => ?_) 9 Tryd.underlying9
    rw [cell_of_row _ W.heap.size (0 + i) _ 5 (0, 0) (heap_alloc_new W _)]
    have : i = 0 ∨ i = 1 ∨ i = 2 ∨ i = 3 := by omega
    rcases this with rfl | rfl | rfl | rfl <;> rfl
  have hst : strOfNums [92, 120, (p : Nat), (q : Nat)] = ⟨(numB b).toArray⟩ := by unfold strOfNums numB; rw [hp, hq]; rfl
  rw [hst] at hcv
  go_wp2
  go_ret
  exact ⟨rfl, hB⟩
theorem enc_one (b : Nat) (hb : b < 128) : Utf8.encode (b : Int) = ⟨#[b.toUInt8]⟩ := by
  have hv : Utf8.valid (b : Int) = true := by unfold Utf8.valid; simp; omega
  unfold Utf8.encode
  simp only [hv, if_true, Int.toNat_natCast]
  rw [if_pos hb]
theorem str_app (a b : List UInt8) : (⟨a.toArray⟩ : ByteArray) ++ ⟨b.toArray⟩ = ⟨(a ++ b).toArray⟩ := by
  apply ByteArray.ext
  simp [ByteArray.data_append]
/-- More than itself in a pattern; so within brackets. -/
def spec (b : Nat) : Bool := decide (0 ≤ Lib.indexByte [46, 91, 93, 40, 41, 123, 125, 124, 42, 43, 63, 94, 36, 92] b.toUInt8)
def specI (b : Nat) : Bool := decide (0 ≤ Lib.indexByte [93, 91, 92, 94, 45] b.toUInt8)
/-- Literal, Inner, a run: as texts. -/
def litB (b : Nat) : List UInt8 := if vis b then (if spec b then [92, b.toUInt8] else [b.toUInt8]) else numB b
def innB (b : Nat) : List UInt8 := if vis b && !specI b then [b.toUInt8] else numB b
def runB (lo hi : Nat) : List UInt8 := if hi = lo then innB lo else if hi = lo + 1 then innB lo ++ innB hi else innB lo ++ [45] ++ innB hi
/-- What a call answers that makes a text; nothing old has turned. -/
def RetS (w : World) (l : List UInt8) (e : Ending) (w' : World) : Prop := e = .returned (.string ⟨l.toArray⟩) ∧ Below w.heap.size w w'
set_option maxRecDepth 100000 in
set_option maxHeartbeats 1000000 in
theorem literal_any (b : Nat) (w : World) (hb : b < 256) : Calls Tryd.prog 42 #[.int .u8 (b : Nat)] w (RetS w (litB b)) := by
  cases hv : vis b with
  | false =>
    have e : litB b = numB b := by unfold litB; rw [hv]; rfl
    rw [e]
    go_enter Tryd.func42, Tryd.ntmps42
    go_wp2_with (first | (go_at_call 55; refine (isVisible_any b _).mono ?_; rintro e w' ⟨rfl, rfl⟩) | (go_at_call 56; refine (number_any b _ hb).mono ?_; rintro e w' ⟨rfl, hB⟩))
    go_ret
    exact ⟨rfl, hB⟩
  | true =>
    have hlt : b ≤ 126 := by unfold vis at hv; simp at hv; omega
    have en := enc_one b (by omega)
    have hx := Tryd.strings_IndexByte ⟨#[46, 91, 93, 40, 41, 123, 125, 124, 42, 43, 63, 94, 36, 92]⟩ b
    simp only [Int.toNat_natCast] at hx
    cases hs : spec b with
    | true =>
      have e : litB b = [92, b.toUInt8] := by unfold litB; rw [hv, hs]; rfl
      rw [e]
      unfold spec at hs
      generalize hi : Lib.indexByte _ b.toUInt8 = z at hs
      rw [hi] at hx
      have hz : 0 ≤ z := by simpa using hs
      clear hs hi e
      generalize b.toUInt8 = u at *
      go_enter Tryd.func42, Tryd.ntmps42
      go_wp2_with (first | (go_at_call 55; refine (isVisible_any b _).mono ?_; rintro e w1 ⟨rfl, rfl⟩))
      refine (hx _).mono ?_
      rintro e w1 ⟨rfl, rfl⟩
      go_wp2
      go_ret
      exact ⟨rfl, Below.refl _ _⟩
    | false =>
      have e : litB b = [b.toUInt8] := by unfold litB; rw [hv, hs]; rfl
      rw [e]
      unfold spec at hs
      generalize hi : Lib.indexByte _ b.toUInt8 = z at hs
      rw [hi] at hx
      have hz : decide (0 ≤ z) = false := hs
      clear hs hi e
      generalize b.toUInt8 = u at *
      go_enter Tryd.func42, Tryd.ntmps42
      go_wp2_with (first | (go_at_call 55; refine (isVisible_any b _).mono ?_; rintro e w1 ⟨rfl, rfl⟩))
      refine (hx _).mono ?_
      rintro e w1 ⟨rfl, rfl⟩
      go_wp2
      go_ret
      exact ⟨rfl, Below.refl _ _⟩
set_option maxRecDepth 100000 in
set_option maxHeartbeats 1000000 in
theorem inner_any (b : Nat) (w : World) (hb : b < 256) : Calls Tryd.prog 44 #[.int .u8 (b : Nat)] w (RetS w (innB b)) := by
  cases hv : vis b with
  | false =>
    have e : innB b = numB b := by unfold innB; rw [hv]; rfl
    rw [e]
    go_enter Tryd.func44, Tryd.ntmps44
    go_wp2_with (first | (go_at_call 55; refine (isVisible_any b _).mono ?_; rintro e w' ⟨rfl, rfl⟩) | (go_at_call 56; refine (number_any b _ hb).mono ?_; rintro e w' ⟨rfl, hB⟩))
    go_ret
    exact ⟨rfl, hB⟩
  | true =>
    have hlt : b ≤ 126 := by unfold vis at hv; simp at hv; omega
    have en := enc_one b (by omega)
    have hx := Tryd.strings_IndexByte ⟨#[93, 91, 92, 94, 45]⟩ b
    simp only [Int.toNat_natCast] at hx
    cases hs : specI b with
    | true =>
      have e : innB b = numB b := by unfold innB; rw [hv, hs]; rfl
      rw [e]
      unfold specI at hs
      generalize hi : Lib.indexByte _ b.toUInt8 = z at hs
      rw [hi] at hx
      have hz : 0 ≤ z := by simpa using hs
      clear hs hi e
      generalize b.toUInt8 = u at *
      go_enter Tryd.func44, Tryd.ntmps44
      go_wp2_with (first | (go_at_call 55; refine (isVisible_any b _).mono ?_; rintro e w' ⟨rfl, rfl⟩) | (go_at_call 57; refine (hx _).mono ?_; rintro e w' ⟨rfl, rfl⟩) | (go_at_call 56; refine (number_any b _ hb).mono ?_; rintro e w' ⟨rfl, hB⟩))
      go_ret
      exact ⟨rfl, hB⟩
    | false =>
      have e : innB b = [b.toUInt8] := by unfold innB; rw [hv, hs]; rfl
      rw [e]
      unfold specI at hs
      generalize hi : Lib.indexByte _ b.toUInt8 = z at hs
      rw [hi] at hx
      have hz : decide (0 ≤ z) = false := hs
      clear hs hi e
      generalize b.toUInt8 = u at *
      go_enter Tryd.func44, Tryd.ntmps44
      go_wp2_with (first | (go_at_call 55; refine (isVisible_any b _).mono ?_; rintro e w1 ⟨rfl, rfl⟩))
      refine (hx _).mono ?_
      rintro e w1 ⟨rfl, rfl⟩
      go_wp2
      go_ret
      exact ⟨rfl, Below.refl _ _⟩
end Go.Proofs.YthgjklhjfpillaaDoor
