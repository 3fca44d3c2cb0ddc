/- Word, Space and the reference's: the walks. token: has, isDigit, isLetter, hexDigit, hex, mayRepeat, isDash: the walks. token: hexDigit, hex, isDash, mayClass: the walks. -/
import Derived.Test.YtkbeiadbolihiaaDoorM02Str
import Derived.Test.YtkbeiadbolihiaaDoorM04Tx
import Derived.Deep.RegionHeld3
namespace Go.Proofs.YtkbeiadbolihiaaDoor
open Go.RowKit
/-- Classes in a new block. -/
theorem rdc_four (W : World) (a0 b0 c0 d0 a1 b1 c1 d1 a2 b2 c2 d2 a3 b3 c3 d3 : Nat) : RdC (W.alloc (.cells #[.int .u64 (a0 : Nat), .int .u64 (b0 : Nat), .int .u64 (c0 : Nat), .int .u64 (d0 : Nat), .int .u64 (a1 : Nat), .int .u64 (b1 : Nat), .int .u64 (c1 : Nat), .int .u64 (d1 : Nat), .int .u64 (a2 : Nat), .int .u64 (b2 : Nat), .int .u64 (c2 : Nat), .int .u64 (d2 : Nat), .int .u64 (a3 : Nat), .int .u64 (b3 : Nat), .int .u64 (c3 : Nat), .int .u64 (d3 : Nat)] 24)) (some ⟨W.heap.size, 0, none⟩) 4 (fun i j => if i = 0 then (if j = 0 then a0 else if j = 1 then b0 else if j = 2 then c0 else d0) else if i = 1 then (if j = 0 then a1 else if j = 1 then b1 else if j = 2 then c1 else d1) else if i = 2 then (if j = 0 then a2 else if j = 1 then b2 else if j = 2 then c2 else d2) else (if j = 0 then a3 else if j = 1 then b3 else if j = 2 then c3 else d3)) := by
  refine ⟨fun _ => ⟨W.heap.size, 0, rfl, by simp, fun i hi j hj => ?_⟩⟩
  rw [cell_of_row _ W.heap.size (0 + i * 4 + j) _ 24 (0, 0) (heap_alloc_new W _)]
  have h1 : i = 0 ∨ i = 1 ∨ i = 2 ∨ i = 3 := by omega
  have h2 : j = 0 ∨ j = 1 ∨ j = 2 ∨ j = 3 := by omega
  rcases h1 with rfl | rfl | rfl | rfl <;> rcases h2 with rfl | rfl | rfl | rfl <;> rfl
theorem rdc_two (W : World) (a0 b0 c0 d0 a1 b1 c1 d1 : Nat) : RdC (W.alloc (.cells #[.int .u64 (a0 : Nat), .int .u64 (b0 : Nat), .int .u64 (c0 : Nat), .int .u64 (d0 : Nat), .int .u64 (a1 : Nat), .int .u64 (b1 : Nat), .int .u64 (c1 : Nat), .int .u64 (d1 : Nat)] 24)) (some ⟨W.heap.size, 0, none⟩) 2 (fun i j => if i = 0 then (if j = 0 then a0 else if j = 1 then b0 else if j = 2 then c0 else d0) else (if j = 0 then a1 else if j = 1 then b1 else if j = 2 then c1 else d1)) := by
  refine ⟨fun _ => ⟨W.heap.size, 0, rfl, by simp, fun i hi j hj => ?_⟩⟩
  rw [cell_of_row _ W.heap.size (0 + i * 4 + j) _ 24 (0, 0) (heap_alloc_new W _)]
  have h1 : i = 0 ∨ i = 1 := by omega
  have h2 : j = 0 ∨ j = 1 ∨ j = 2 ∨ j = 3 := by omega
  rcases h1 with rfl | rfl <;> rcases h2 with rfl | rfl | rfl | rfl <;> rfl
/-- Letters, digits and _; and what is blank. -/
def wordP : Nat → Bool := unN (fun i => if i = 0 then rg 97 26 else if i = 1 then rg 65 26 else if i = 2 then rg 48 10 else ofN (fun _ => 95) 1) 4
def spaceP : Nat → Bool := unN (fun i => if i = 0 then rg 9 5 else ofN (fun _ => 32) 1) 2
theorem space_ins : ins (rg 9 5) 32 = spaceP := by
  funext x
  simp [spaceP, unN, ofN, ins]
set_option maxHeartbeats 2000000 in
theorem word_any (w : World) : Calls Tryd.prog 80 #[] w (RetC w wordP) := by
  have t : Below (w.heap.size + 1) (w.alloc (.cells #[.int .u64 0, .int .u64 0, .int .u64 0, .int .u64 0] 24)) (w.alloc (.cells #[.int .u64 0, .int .u64 0, .int .u64 0, .int .u64 0] 24)) := Below.refl _ _
  go_enter Tryd.func80, Tryd.ntmps80
  go_wp2_with fail
  refine (range_any 97 122 _ (by decide) (by decide)).mono ?_
  rintro e w0 ⟨⟨a0, b0, c0, d0, rfl, h0⟩, q⟩
  replace t := t.trans (q.mono (by simp))
  clear q
  go_wp2_with fail
  refine (range_any 65 90 _ (by decide) (by decide)).mono ?_
  rintro e w1 ⟨⟨a1, b1, c1, d1, rfl, h1⟩, q⟩
  replace t := t.trans (q.mono (by have := t.size; simpa using this))
  clear q
  go_wp2_with fail
  refine (digit_any _).mono ?_
  rintro e w2 ⟨⟨a2, b2, c2, d2, rfl, h2⟩, q⟩
  replace t := t.trans (q.mono (by have := t.size; simpa using this))
  clear q
  go_wp2_with fail
  refine (of_any _ 1 1 (fun _ => 95) _ (rd_one w2 95 (by decide)) (by decide)).mono ?_
  rintro e w3 ⟨⟨a3, b3, c3, d3, rfl, h3⟩, q⟩
  replace t := (t.alloc (by have := t.size; simpa using this) _).trans (q.mono (by have := t.size; simp at this; simp; omega))
  clear q
  go_wp2_with fail
  refine (union_any _ 4 4 _ (fun i => if i = 0 then rg 97 26 else if i = 1 then rg 65 26 else if i = 2 then rg 48 10 else ofN (fun _ => 95) 1) _ (rdc_four w3 a0 b0 c0 d0 a1 b1 c1 d1 a2 b2 c2 d2 a3 b3 c3 d3) (fun i hi => ?_) (by decide)).mono ?_
  · have hi4 : i = 0 ∨ i = 1 ∨ i = 2 ∨ i = 3 := by omega
    rcases hi4 with rfl | rfl | rfl | rfl
    · exact h0
    · exact h1
    · exact h2
    · exact h3
  rintro e w4 ⟨⟨a, b, c, d, rfl, h4⟩, q⟩
  replace t := (t.alloc (by have := t.size; simpa using this) _).trans (q.mono (by have := t.size; simp at this; simp; omega))
  clear q h0 h1 h2 h3
  have hy := res_cells t
  obtain ⟨y0, y1, y2, y3, v0, v1, v2, v3⟩ := hy.cells
  obtain ⟨z0, z1, z2, z3, _⟩ := (hy.set (.int .u64 (a : Nat)) (.int .u64 (b : Nat)) (.int .u64 (c : Nat)) (.int .u64 (d : Nat))).cells
  go_wp2
  exact bodyPost_ret (v := .agg #[.int .u64 (a : Nat), .int .u64 (b : Nat), .int .u64 (c : Nat), .int .u64 (d : Nat)]) (by simp [results, Tryd.results80, go_sem, z0, z1, z2, z3]) rfl (res_put h4 t)
set_option maxHeartbeats 2000000 in
theorem space_any (w : World) : Calls Tryd.prog 81 #[] w (RetC w spaceP) := by
  have t : Below (w.heap.size + 1) (w.alloc (.cells #[.int .u64 0, .int .u64 0, .int .u64 0, .int .u64 0] 24)) (w.alloc (.cells #[.int .u64 0, .int .u64 0, .int .u64 0, .int .u64 0] 24)) := Below.refl _ _
  go_enter Tryd.func81, Tryd.ntmps81
  go_wp2_with fail
  refine (range_any 9 13 _ (by decide) (by decide)).mono ?_
  rintro e w0 ⟨⟨a0, b0, c0, d0, rfl, h0⟩, q⟩
  replace t := t.trans (q.mono (by simp))
  clear q
  go_wp2_with fail
  refine (of_any _ 1 1 (fun _ => 32) _ (rd_one w0 32 (by decide)) (by decide)).mono ?_
  rintro e w1 ⟨⟨a1, b1, c1, d1, rfl, h1⟩, q⟩
  replace t := (t.alloc (by have := t.size; simpa using this) _).trans (q.mono (by have := t.size; simp at this; simp; omega))
  clear q
  go_wp2_with fail
  refine (union_any _ 2 2 _ (fun i => if i = 0 then rg 9 5 else ofN (fun _ => 32) 1) _ (rdc_two w1 a0 b0 c0 d0 a1 b1 c1 d1) (fun i hi => ?_) (by decide)).mono ?_
  · have hi4 : i = 0 ∨ i = 1 := by omega
    rcases hi4 with rfl | rfl
    · exact h0
    · exact h1
  rintro e w4 ⟨⟨a, b, c, d, rfl, h4⟩, q⟩
  replace t := (t.alloc (by have := t.size; simpa using this) _).trans (q.mono (by have := t.size; simp at this; simp; omega))
  clear q h0 h1
  have hy := res_cells t
  obtain ⟨y0, y1, y2, y3, v0, v1, v2, v3⟩ := hy.cells
  obtain ⟨z0, z1, z2, z3, _⟩ := (hy.set (.int .u64 (a : Nat)) (.int .u64 (b : Nat)) (.int .u64 (c : Nat)) (.int .u64 (d : Nat))).cells
  go_wp2
  exact bodyPost_ret (v := .agg #[.int .u64 (a : Nat), .int .u64 (b : Nat), .int .u64 (c : Nat), .int .u64 (d : Nat)]) (by simp [results, Tryd.results81, go_sem, z0, z1, z2, z3]) rfl (res_put h4 t)
end Go.Proofs.YtkbeiadbolihiaaDoor
namespace Go.Proofs.YtkbeiadbolihiaaDoor
open Go.RowKit
/-- Whether b stands at a place of a pattern of n bytes. -/
def hasP (z : Nat → Nat) (n at_ b : Nat) : Bool := decide (at_ < n) && (z at_ == b)
def digP (b : Nat) : Bool := decide (48 ≤ b) && decide (b ≤ 57)
def letP (b : Nat) : Bool := (decide (97 ≤ b) && decide (b ≤ 122)) || (decide (65 ≤ b) && decide (b ≤ 90))
/-- A digit of sixteen: its number, and whether it is one. -/
def hexP (b : Nat) : Nat × Bool := if digP b then (b - 48, true) else if decide (97 ≤ b) && decide (b ≤ 102) then (b - 87, true) else if decide (65 ≤ b) && decide (b ≤ 70) then (b - 55, true) else (0, false)
def repP (least most : Int) : Bool := decide (0 ≤ least) && decide (least ≤ if most = -1 then 1000 else most) && decide ((if most = -1 then 1000 else most) ≤ 1000)
set_option maxHeartbeats 400000 in
theorem has_any (ao : Option Addr) (n cap at_ b : Nat) (z : Nat → Nat) (w : World) (hr : Rd w ao n z) : Calls Tryd.prog 73 #[.slice ao n cap, .int .i64 (at_ : Nat), .int .u8 (b : Nat)] w fun e w' => e = .returned (.bool (hasP z n at_ b)) ∧ w' = w := by
  by_cases h : at_ < n
  · obtain ⟨bb, off, rfl, hbb, hc⟩ := hr.at_ (by omega)
    have t := hc at_ h
    have hi : (at_ : Int) < (n : Int) := by omega
    have e : (((z at_ : Nat) : Int) == (b : Int)) = hasP z n at_ b := by
      unfold hasP
      rw [decide_eq_true h, Bool.true_and, Bool.eq_iff_iff]
      simp; omega
    have hE : Hid ((((z at_ : Nat) : Int) == (b : Int)) = hasP z n at_ b) := e
    clear hc e
    go_enter Tryd.func73, Tryd.ntmps73
    go_wp2
    go_ret
    exact ⟨by rw [← hE.out]; rfl, rfl⟩
  · have hi : ¬ (at_ : Int) < (n : Int) := by omega
    have e : hasP z n at_ b = false := by unfold hasP; rw [decide_eq_false h, Bool.false_and]
    rw [e]
    go_enter Tryd.func73, Tryd.ntmps73
    go_wp2
    go_ret
    exact ⟨rfl, rfl⟩
set_option maxHeartbeats 400000 in
theorem isDigit_any (b : Nat) (w : World) : Calls Tryd.prog 72 #[.int .u8 (b : Nat)] w fun e w' => e = .returned (.bool (digP b)) ∧ w' = w := by
  by_cases h1 : 48 ≤ b
  · have g1 : (48 : Int) ≤ (b : Int) := by omega
    have e : decide ((b : Int) ≤ 57) = digP b := by unfold digP; rw [decide_eq_true h1, Bool.true_and, decide_eq_decide]; omega
    go_enter Tryd.func72, Tryd.ntmps72
    go_wp2
    go_ret
    exact ⟨rfl, rfl⟩
  · have g1 : ¬ (48 : Int) ≤ (b : Int) := by omega
    have e : digP b = false := by unfold digP; rw [decide_eq_false h1, Bool.false_and]
    rw [e]
    go_enter Tryd.func72, Tryd.ntmps72
    go_wp2
    go_ret
    exact ⟨rfl, rfl⟩
set_option maxHeartbeats 400000 in
theorem isLetter_any (b : Nat) (w : World) : Calls Tryd.prog 71 #[.int .u8 (b : Nat)] w fun e w' => e = .returned (.bool (letP b)) ∧ w' = w := by
  have key : ∀ x : Bool, letP b = x → Calls Tryd.prog 71 #[.int .u8 (b : Nat)] w fun e w' => e = .returned (.bool x) ∧ w' = w := by
    intro x hx
    by_cases h1 : 97 ≤ b
    · have g1 : (97 : Int) ≤ (b : Int) := by omega
      by_cases h2 : b ≤ 122
      · have g2 : (b : Int) ≤ 122 := by omega
        have e : x = true := by rw [← hx]; unfold letP; simp [h1, h2]
        subst e
        clear hx
        go_enter Tryd.func71, Tryd.ntmps71
        go_wp2
        go_ret
        exact ⟨rfl, rfl⟩
      · have g2 : ¬ (b : Int) ≤ 122 := by omega
        have g3 : (65 : Int) ≤ (b : Int) := by omega
        have g4 : ¬ (b : Int) ≤ 90 := by omega
        have e : x = false := by rw [← hx]; unfold letP; simp; omega
        subst e
        clear hx
        go_enter Tryd.func71, Tryd.ntmps71
        go_wp2
        go_ret
        exact ⟨rfl, rfl⟩
    · have g1 : ¬ (97 : Int) ≤ (b : Int) := by omega
      by_cases h2 : 65 ≤ b
      · have g2 : (65 : Int) ≤ (b : Int) := by omega
        by_cases h3 : b ≤ 90
        · have g3 : (b : Int) ≤ 90 := by omega
          have e : x = true := by rw [← hx]; unfold letP; simp [h2, h3]
          subst e
          clear hx
          go_enter Tryd.func71, Tryd.ntmps71
          go_wp2
          go_ret
          exact ⟨rfl, rfl⟩
        · have g3 : ¬ (b : Int) ≤ 90 := by omega
          have e : x = false := by rw [← hx]; unfold letP; simp; omega
          subst e
          clear hx
          go_enter Tryd.func71, Tryd.ntmps71
          go_wp2
          go_ret
          exact ⟨rfl, rfl⟩
      · have g2 : ¬ (65 : Int) ≤ (b : Int) := by omega
        have e : x = false := by rw [← hx]; unfold letP; simp; omega
        subst e
        clear hx
        go_enter Tryd.func71, Tryd.ntmps71
        go_wp2
        go_ret
        exact ⟨rfl, rfl⟩
  exact key _ rfl
set_option maxHeartbeats 400000 in
theorem mayRepeat_any (l m : Int) (w : World) : Calls Tryd.prog 20 #[.int .i64 l, .int .i64 m] w fun e w' => e = .returned (.bool (repP l m)) ∧ w' = w := by
  have key : ∀ x : Bool, repP l m = x → Calls Tryd.prog 20 #[.int .i64 l, .int .i64 m] w fun e w' => e = .returned (.bool x) ∧ w' = w := by
    intro x hx
    by_cases hm : m = -1
    · subst hm
      by_cases h0 : 0 ≤ l
      · by_cases h1 : l ≤ 1000
        · have e : x = true := by rw [← hx]; unfold repP; simp [h0, h1]
          subst e
          clear hx
          go_enter Tryd.func20, Tryd.ntmps20
          go_wp2
          go_ret
          exact ⟨rfl, rfl⟩
        · have e : x = false := by rw [← hx]; unfold repP; simp [h1]
          subst e
          clear hx
          go_enter Tryd.func20, Tryd.ntmps20
          go_wp2
          go_ret
          exact ⟨rfl, rfl⟩
      · have e : x = false := by rw [← hx]; unfold repP; simp [h0]
        subst e
        clear hx
        go_enter Tryd.func20, Tryd.ntmps20
        go_wp2
        go_ret
        exact ⟨rfl, rfl⟩
    · have hb : (m == -1) = false := by simpa using hm
      by_cases h0 : 0 ≤ l
      · by_cases h1 : l ≤ m
        · have e : decide (m ≤ 1000) = x := by rw [← hx]; unfold repP; simp [h0, h1, hm]
          clear hx
          go_enter Tryd.func20, Tryd.ntmps20
          go_wp2
          go_ret
          exact ⟨rfl, rfl⟩
        · have e : x = false := by rw [← hx]; unfold repP; simp [h1, hm]
          subst e
          clear hx
          go_enter Tryd.func20, Tryd.ntmps20
          go_wp2
          go_ret
          exact ⟨rfl, rfl⟩
      · have e : x = false := by rw [← hx]; unfold repP; simp [h0]
        subst e
        clear hx
        go_enter Tryd.func20, Tryd.ntmps20
        go_wp2
        go_ret
        exact ⟨rfl, rfl⟩
  exact key _ rfl
end Go.Proofs.YtkbeiadbolihiaaDoor
namespace Go.Proofs.YtkbeiadbolihiaaDoor
open Go.RowKit
set_option maxHeartbeats 400000 in
theorem hexDigit_any (b : Nat) (w : World) (hb : b < 256) : Calls Tryd.prog 82 #[.int .u8 (b : Nat)] w fun e w' => e = .returned (.tuple #[.int .u8 ((hexP b).1 : Nat), .bool (hexP b).2]) ∧ w' = w := by
  have hd := fun W => isDigit_any b W
  cases h0 : digP b with
  | true =>
    have h48 : 48 ≤ b := by unfold digP at h0; simp at h0; omega
    have e : hexP b = (b - 48, true) := by unfold hexP; rw [h0]; rfl
    have en : ((b - 48 : Nat) : Int) = (b : Int) - 48 := by omega
    rw [h0] at hd
    rw [e]
    have g1 : (48 : Int) ≤ (b : Int) := by omega
    have g2 : (b : Int) < 256 := by omega
    clear e h0
    go_enter Tryd.func82, Tryd.ntmps82
    go_wp2_with (go_at_call 72; refine (hd _).mono ?_; rintro e w' ⟨rfl, rfl⟩)
    exact bodyPost_ret (v := .tuple #[.int .u8 ((b : Int) - 48), .bool true]) (by simp [results, Tryd.results82, go_sem]) rfl ⟨by rw [en], rfl⟩
  | false =>
    rw [h0] at hd
    by_cases h1 : 97 ≤ b ∧ b ≤ 102
    · have e : hexP b = (b - 87, true) := by unfold hexP; rw [h0]; simp [h1]
      have en : ((b - 87 : Nat) : Int) = (b : Int) - 97 + 10 := by omega
      rw [e]
      have g1 : (97 : Int) ≤ (b : Int) := by omega
      have g2 : (b : Int) ≤ 102 := by omega
      clear e h0
      go_enter Tryd.func82, Tryd.ntmps82
      go_wp2_with (go_at_call 72; refine (hd _).mono ?_; rintro e w' ⟨rfl, rfl⟩)
      exact bodyPost_ret (v := .tuple #[.int .u8 ((b : Int) - 97 + 10), .bool true]) (by simp [results, Tryd.results82, go_sem]) rfl ⟨by rw [en], rfl⟩
    · by_cases h2 : 65 ≤ b ∧ b ≤ 70
      · have e : hexP b = (b - 55, true) := by unfold hexP; rw [h0]; simp [h2]; omega
        have en : ((b - 55 : Nat) : Int) = (b : Int) - 65 + 10 := by omega
        rw [e]
        have g1 : ¬ (97 : Int) ≤ (b : Int) := by omega
        have g2 : (65 : Int) ≤ (b : Int) := by omega
        have g3 : (b : Int) ≤ 70 := by omega
        clear e h0
        go_enter Tryd.func82, Tryd.ntmps82
        go_wp2_with (go_at_call 72; refine (hd _).mono ?_; rintro e w' ⟨rfl, rfl⟩)
        exact bodyPost_ret (v := .tuple #[.int .u8 ((b : Int) - 65 + 10), .bool true]) (by simp [results, Tryd.results82, go_sem]) rfl ⟨rfl, rfl⟩
      · have e : hexP b = (0, false) := by
          unfold hexP
          rw [h0]
          have e1 : (decide (97 ≤ b) && decide (b ≤ 102)) = false := by simp; omega
          have e2 : (decide (65 ≤ b) && decide (b ≤ 70)) = false := by simp; omega
          rw [e1, e2]; rfl
        rw [e]
        clear e h0
        by_cases g1 : (97 : Int) ≤ (b : Int)
        · have g2 : ¬ (b : Int) ≤ 102 := by omega
          have g3 : (65 : Int) ≤ (b : Int) := by omega
          have g4 : ¬ (b : Int) ≤ 70 := by omega
          go_enter Tryd.func82, Tryd.ntmps82
          go_wp2_with (go_at_call 72; refine (hd _).mono ?_; rintro e w' ⟨rfl, rfl⟩)
          exact bodyPost_ret (v := .tuple #[.int .u8 0, .bool false]) (by simp [results, Tryd.results82, go_sem]) rfl ⟨rfl, rfl⟩
        · by_cases g3 : (65 : Int) ≤ (b : Int)
          · have g4 : ¬ (b : Int) ≤ 70 := by omega
            go_enter Tryd.func82, Tryd.ntmps82
            go_wp2_with (go_at_call 72; refine (hd _).mono ?_; rintro e w' ⟨rfl, rfl⟩)
            exact bodyPost_ret (v := .tuple #[.int .u8 0, .bool false]) (by simp [results, Tryd.results82, go_sem]) rfl ⟨rfl, rfl⟩
          · go_enter Tryd.func82, Tryd.ntmps82
            go_wp2_with (go_at_call 72; refine (hd _).mono ?_; rintro e w' ⟨rfl, rfl⟩)
            exact bodyPost_ret (v := .tuple #[.int .u8 0, .bool false]) (by simp [results, Tryd.results82, go_sem]) rfl ⟨rfl, rfl⟩
theorem hexP_lt (b : Nat) : (hexP b).1 < 16 := by
  unfold hexP digP
  split
  · rename_i h; simp at h; show b - 48 < 16; omega
  · split
    · rename_i h; simp at h; show b - 87 < 16; omega
    · split
      · rename_i h; simp at h; show b - 55 < 16; omega
      · decide
/-- The byte of two digits of sixteen at a place, and whether they are digits. -/
def hexV (z : Nat → Nat) (n at_ : Nat) : Nat × Bool := if at_ + 2 ≤ n then ((hexP (z at_)).1 * 16 ||| (hexP (z (at_ + 1))).1, (hexP (z at_)).2 && (hexP (z (at_ + 1))).2) else (0, false)
set_option maxHeartbeats 400000 in
theorem hex_any (ao : Option Addr) (n cap at_ : Nat) (z : Nat → Nat) (w : World) (hr : Rd w ao n z) (hn : (n : Int) ≤ 1024) (ha : (at_ : Int) ≤ 2048) : Calls Tryd.prog 70 #[.slice ao n cap, .int .i64 (at_ : Nat)] w fun e w' => e = .returned (.tuple #[.int .u8 ((hexV z n at_).1 : Nat), .bool (hexV z n at_).2]) ∧ w' = w := by
  by_cases h : at_ + 2 ≤ n
  · obtain ⟨bb, off, rfl, hbb, hc⟩ := hr.at_ (by omega)
    have t1 := hc at_ (by omega)
    have t2 := hc (at_ + 1) (by omega)
    have s1 := hr.small at_ (by omega)
    have s2 := hr.small (at_ + 1) (by omega)
    have e : hexV z n at_ = ((hexP (z at_)).1 * 16 ||| (hexP (z (at_ + 1))).1, (hexP (z at_)).2 && (hexP (z (at_ + 1))).2) := by unfold hexV; rw [if_pos h]
    rw [e]
    have d1 := fun W => hexDigit_any (z at_) W s1
    have d2 := fun W => hexDigit_any (z (at_ + 1)) W s2
    have l1 := hexP_lt (z at_)
    have l2 := hexP_lt (z (at_ + 1))
    generalize (hexP (z at_)).1 = x at *
    generalize (hexP (z at_)).2 = bx at *
    generalize (hexP (z (at_ + 1))).1 = y at *
    generalize (hexP (z (at_ + 1))).2 = b_y at *
    generalize z at_ = p at *
    generalize z (at_ + 1) = q at *
    have D1 : Hid (∀ W, Calls Tryd.prog 82 #[.int .u8 (p : Nat)] W fun e w' => e = .returned (.tuple #[.int .u8 (x : Nat), .bool bx]) ∧ w' = W) := d1
    have D2 : Hid (∀ W, Calls Tryd.prog 82 #[.int .u8 (q : Nat)] W fun e w' => e = .returned (.tuple #[.int .u8 (y : Nat), .bool b_y]) ∧ w' = W) := d2
    have i1 : (at_ : Int) < (n : Int) := by omega
    have i2 : (at_ : Int) + 1 < (n : Int) := by omega
    have i3 : (at_ : Int) + 2 ≤ (n : Int) := by omega
    have ob : bits BinOp.or IntKind.u8 ((x : Int) * 16) (y : Int) = ((x * 16 ||| y : Nat) : Int) := by
      rw [show (x : Int) * 16 = ((x * 16 : Nat) : Int) by omega, u8_or_nat _ _ (by omega) (by omega)]
    clear e d1 d2 hc h hr
    go_enter Tryd.func70, Tryd.ntmps70
    go_wp2_with fail
    refine (D1.out _).mono ?_
    rintro e w1 ⟨rfl, rfl⟩
    go_wp2_with fail
    refine (D2.out _).mono ?_
    rintro e w2 ⟨rfl, rfl⟩
    cases bx with
    | true =>
      go_wp2
      exact bodyPost_ret (v := .tuple #[.int .u8 ((x * 16 ||| y : Nat) : Int), .bool b_y]) (by simp [results, Tryd.results70, go_sem]) rfl ⟨by simp, rfl⟩
    | false =>
      go_wp2
      exact bodyPost_ret (v := .tuple #[.int .u8 ((x * 16 ||| y : Nat) : Int), .bool false]) (by simp [results, Tryd.results70, go_sem]) rfl ⟨by simp, rfl⟩
  · have e : hexV z n at_ = (0, false) := by unfold hexV; rw [if_neg h]
    rw [e]
    have i3 : (n : Int) < (at_ : Int) + 2 := by omega
    clear e
    go_enter Tryd.func70, Tryd.ntmps70
    go_wp2
    exact bodyPost_ret (v := .tuple #[.int .u8 0, .bool false]) (by simp [results, Tryd.results70, go_sem]) rfl ⟨rfl, rfl⟩
/-- Whether a dash at a place makes a range of the unit ahead of it. -/
def dashP (z : Nat → Nat) (n at_ : Nat) : Bool := hasP z n at_ 45 && decide (at_ + 1 < n) && !(z (at_ + 1) == 93)
set_option maxHeartbeats 400000 in
theorem isDash_any (ao : Option Addr) (n cap at_ : Nat) (z : Nat → Nat) (w : World) (hr : Rd w ao n z) (hn : (n : Int) ≤ 1024) (ha : (at_ : Int) ≤ 2048) : Calls Tryd.prog 84 #[.slice ao n cap, .int .i64 (at_ : Nat)] w fun e w' => e = .returned (.bool (dashP z n at_)) ∧ w' = w := by
  have hh : ∀ W, Rd W ao n z → Calls Tryd.prog 73 #[.slice ao n cap, .int .i64 (at_ : Nat), .int .u8 45] W fun e w' => e = .returned (.bool (hasP z n at_ 45)) ∧ w' = W := fun W h => has_any ao n cap at_ 45 z W h
  cases h0 : hasP z n at_ 45 with
  | false =>
    have e : dashP z n at_ = false := by unfold dashP; rw [h0]; rfl
    rw [e]
    rw [h0] at hh
    go_enter Tryd.func84, Tryd.ntmps84
    go_wp2_with (go_at_call 73; refine (hh _ hr).mono ?_; rintro e w' ⟨rfl, rfl⟩)
    go_ret
    exact ⟨rfl, rfl⟩
  | true =>
    rw [h0] at hh
    have h1 : at_ < n := by unfold hasP at h0; simp at h0; omega
    by_cases h2 : at_ + 1 < n
    · obtain ⟨bb, off, rfl, hbb, hc⟩ := hr.at_ (by omega)
      have t := hc (at_ + 1) h2
      have e : dashP z n at_ = !(z (at_ + 1) == 93) := by unfold dashP; rw [h0, decide_eq_true h2]; rfl
      rw [e]
      have i2 : (at_ : Int) + 1 < (n : Int) := by omega
      have en : (((z (at_ + 1) : Nat) : Int) != 93) = !(z (at_ + 1) == 93) := by
        rw [Bool.eq_iff_iff]; simp; omega
      have EN : Hid ((((z (at_ + 1) : Nat) : Int) != 93) = !(z (at_ + 1) == 93)) := en
      generalize z (at_ + 1) = q at *
      have HR := Hid.out (p := Rd w (some ⟨bb, off, none⟩) n z) hr
      clear hc e en
      go_enter Tryd.func84, Tryd.ntmps84
      go_wp2_with (go_at_call 73; refine (hh _ HR).mono ?_; rintro e w' ⟨rfl, rfl⟩)
      go_ret
      exact ⟨by rw [← EN.out]; rfl, rfl⟩
    · have e : dashP z n at_ = false := by unfold dashP; rw [decide_eq_false h2]; simp
      rw [e]
      have i2 : ¬ (at_ : Int) + 1 < (n : Int) := by omega
      go_enter Tryd.func84, Tryd.ntmps84
      go_wp2_with (go_at_call 73; refine (hh _ hr).mono ?_; rintro e w' ⟨rfl, rfl⟩)
      go_ret
      exact ⟨rfl, rfl⟩
end Go.Proofs.YtkbeiadbolihiaaDoor
