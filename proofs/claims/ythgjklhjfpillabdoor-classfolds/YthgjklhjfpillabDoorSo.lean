/- cmp.Less and slices.IsSorted of bytes: the walks. -/
import Derived.Test.YthgjklhjfpillabDoorEr
import Derived.Deep.RegionHeld3
namespace Go.Proofs.YthgjklhjfpillabDoor
open Go.RowKit
set_option maxHeartbeats 400000 in
theorem isNaN_any (x : Nat) (w : World) : Calls Tryd.prog 32 #[.int .u8 (x : Nat)] w fun e w' => e = .returned (.bool false) ∧ w' = w := by
  have hn : ((x : Int) != (x : Int)) = false := by simp
  go_enter Tryd.func32, Tryd.ntmps32
  go_wp2
  go_ret
  exact ⟨rfl, rfl⟩
set_option maxHeartbeats 400000 in
theorem less_any (x y : Nat) (w : World) : Calls Tryd.prog 24 #[.int .u8 (x : Nat), .int .u8 (y : Nat)] w fun e w' => e = .returned (.bool (decide (x < y))) ∧ w' = w := by
  have hd : decide ((x : Int) < (y : Int)) = decide (x < y) := by rw [decide_eq_decide]; omega
  go_enter Tryd.func24, Tryd.ntmps24
  go_wp2_with (go_at_call 32; refine (isNaN_any x _).mono ?_; rintro e w' ⟨rfl, rfl⟩)
  go_ret
  exact ⟨rfl, rfl⟩
theorem bel_drewN (w : World) (q : Nat) : Below w.heap.size w (w.drewN q) := by
  induction q with
  | zero => exact Below.refl _ _
  | succ q ih => exact ih.drew
/-- Bytes that rise. -/
structure RdB (w : World) (ao : Option Addr) (n : Nat) (f : Nat → Nat) : Prop where
  at_ : 0 < n → ∃ g, ao = some ⟨g, 0, none⟩ ∧ g < w.heap.size ∧ ∀ k, k < n → w.cell? ⟨g, k, none⟩ = some (.int .u8 (f k : Nat))
theorem RdB.own {B : Nat} {w : World} {ao : Option Addr} {cap n : Nat} {l : List Nat} (h : w.ownsRow B 5 1 (.slice ao n cap) n (byt l)) (hl : l.length = n) : RdB w ao n (fun k => l.getD k 0) := by
  refine ⟨fun h0 => ?_⟩
  rcases h.2 with ⟨h', h0'⟩ | ⟨g, cap', cur, h', hB, hh, _⟩
  · omega
  · obtain ⟨rfl, -, rfl⟩ : ao = some ⟨g, 0, none⟩ ∧ n = n ∧ cap = cap' := by simpa using h'
    refine ⟨g, rfl, (Array.getElem?_eq_some_iff.1 hh).1, fun k hk => ?_⟩
    rw [h.cellAt k (by omega)]
    simp [byt, List.getElem?_eq_getElem (show k < l.length by omega), List.getD]
theorem indexB (b n cap j : Nat) (h : j < n) (W : World) : (Instr.indexAt 25 (.slice (some ⟨b, 0, none⟩) n cap) (.int .i64 (j : Int))).run Tryd.prog W = .ok (.pointer (some ⟨b, j, none⟩)) W := by
  have h1 : (j : Int) < (n : Int) := by omega
  have h2 : (0 : Int) ≤ (j : Int) := by omega
  simp [go_sem, Tryd.underlying25, h1, h2]
set_option maxRecDepth 10000 in
set_option maxHeartbeats 2000000 in
theorem isSorted_up (ao : Option Addr) (n cap : Nat) (f : Nat → Nat) (w : World) (hr : RdB w ao n f) (hm : (n : Int) ≤ 65535) (hs : ∀ k, k + 1 < n → f k ≤ f (k + 1)) :
    Calls Tryd.prog 14 #[.slice ao n cap] w fun e w' => e = .returned (.bool true) ∧ Below w.heap.size w w' := by
  go_enter Tryd.func14, Tryd.ntmps14
  go_wp2_with fail
  go_loopw [3] (fun i wr => ∃ k : Int, k < n ∧ -1 ≤ k ∧ i = .int .i64 k ∧ ∃ q, wr = w.drewN q) (fun i _ => (intOf i).toNat)
  case atStart => exact ⟨(n : Int) - 1, by omega, by omega, rfl, 0, rfl⟩
  case round =>
    obtain ⟨k, hk, hk0, rfl, q, rfl⟩ := hrel
    by_cases hlt : 0 < k
    · obtain ⟨j, rfl⟩ : ∃ j : Nat, k = (j : Int) + 1 := ⟨(k - 1).toNat, by omega⟩
      obtain ⟨b, rfl, hb, hc⟩ := hr.at_ (by omega)
      have t1 := hc (j + 1) (by omega)
      have t2 := hc j (by omega)
      have hjj := hs j (by omega)
      have hle := fun W => less_any (f (j + 1)) (f j) W
      rw [decide_eq_false (by omega)] at hle
      generalize f (j + 1) = x at *
      generalize f j = y at *
      have hq : (w.drewN q).drew.cell? ⟨b, j + 1, none⟩ = some (.int .u8 (x : Nat)) ∧ (w.drewN q).drew.cell? ⟨b, j, none⟩ = some (.int .u8 (y : Nat)) := ⟨by rw [((bel_drewN w q).drew).cell (p := ⟨b, j + 1, none⟩) hb]; exact t1, by rw [((bel_drewN w q).drew).cell (p := ⟨b, j, none⟩) hb]; exact t2⟩
      clear hc t1 t2 hs hr
      have i1 : (0 : Int) ≤ (j : Int) + 1 := by omega
      have i2 : (j : Int) + 1 < (n : Int) := by omega
      have i3 : (j : Int) < (n : Int) := by omega
      have i8 : j < n := by omega
      have i9 : IntKind.i64.wrap (j : Int) = (j : Int) := by rw [IntKind.wrap_i64]; omega
      have i7 := indexB b n cap j (by omega)
      clear hk hk0 hm hlt
      go_wp2_with fail
      go_region_held3 (fun w' => w'.cell? ⟨b, j + 1, none⟩ = some (.int .u8 (x : Nat)) ∧ w'.cell? ⟨b, j, none⟩ = some (.int .u8 (y : Nat))) (exact hq) (first | (go_at_call 24; refine (hle _).mono ?_; rintro e w' ⟨rfl, rfl⟩))
      go_wp2
      go_roundw
      case rel => exact ⟨j, by omega, by omega, by go_num, q + 1, rfl⟩
      case measure => simp [intOf]
    · go_wp2
      go_ret
      exact ⟨rfl, bel_drewN _ _⟩
end Go.Proofs.YthgjklhjfpillabDoor
