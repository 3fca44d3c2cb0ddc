/- token: repeat: the walk. -/
import Derived.Deep.RegionWith
import Derived.Deep.DeepCutAuto
import Derived.Test.YtlmmiicibjfcdaaQ05
namespace Go.Proofs.Ytlmmiicibjfcdaa
open Go.RowKit
/-- What a repeat says: least, most, the place behind it, and the error. -/
def repS (z : Nat → Nat) (n at_ : Nat) : Int × Int × Nat × Int := if z at_ = 43 then (1, -1, at_ + 1, 0) else if z at_ = 42 then (0, -1, at_ + 1, 0) else if z at_ = 63 then (0, 1, at_ + 1, 0) else cntV z n at_
/-- The four blocks of repeat. -/
structure Rp (w : World) (at_ : Nat) (l m : Int) (lz : Bool) (ev : Int) (er : Int) (W : World) : Prop where
  k0 : Cl W w.heap.size 42 [.int .i64 0, .int .u8 0, .int .u64 0, .int .u64 0, .int .u64 0, .int .u64 0, .bool false, .int .i64 0, .int .i64 0, .bool false, .int .i64 0]
  k1 : Cl W (w.heap.size + 1) 96 [.int .i64 0, .int .i64 0]
  k2 : Cl W (w.heap.size + 1 + 1) 42 [.int .i64 7, .int .u8 0, .int .u64 0, .int .u64 0, .int .u64 0, .int .u64 0, .bool false, .int .i64 l, .int .i64 m, .bool lz, .int .i64 (at_ : Nat)]
  k3 : Cl W (w.heap.size + 1 + 1 + 1) 96 [.int .i64 ev, .int .i64 er]
  bel : Below w.heap.size w W
theorem bel4 (w : World) (o p q r : Obj) : Below w.heap.size w ((((w.alloc o).alloc p).alloc q).alloc r) := (bel3 w o p q).alloc (by simp; omega) _
theorem rp_start (w : World) (at_ : Nat) (l m : Int) (lz : Bool) (ev er : Int) : Rp w at_ l m lz ev er ((((w.alloc (.cells #[.int .i64 0, .int .u8 0, .int .u64 0, .int .u64 0, .int .u64 0, .int .u64 0, .bool false, .int .i64 0, .int .i64 0, .bool false, .int .i64 0] 42)).alloc (.cells #[.int .i64 0, .int .i64 0] 96)).alloc (.cells #[.int .i64 7, .int .u8 0, .int .u64 0, .int .u64 0, .int .u64 0, .int .u64 0, .bool false, .int .i64 l, .int .i64 m, .bool lz, .int .i64 (at_ : Nat)] 42)).alloc (.cells #[.int .i64 ev, .int .i64 er] 96)) := by
  refine ⟨(cl0 w _ _).alloc _, (cl1 w _ _).alloc _, (cl2 w _ _ [.int .i64 7, .int .u8 0, .int .u64 0, .int .u64 0, .int .u64 0, .int .u64 0, .bool false, .int .i64 l, .int .i64 m, .bool lz, .int .i64 (at_ : Nat)]).alloc _, ?_, bel4 _ _ _ _ _⟩
  have := Cl.new (((w.alloc (.cells #[.int .i64 0, .int .u8 0, .int .u64 0, .int .u64 0, .int .u64 0, .int .u64 0, .bool false, .int .i64 0, .int .i64 0, .bool false, .int .i64 0] 42)).alloc (.cells #[.int .i64 0, .int .i64 0] 96)).alloc (.cells #[.int .i64 7, .int .u8 0, .int .u64 0, .int .u64 0, .int .u64 0, .int .u64 0, .bool false, .int .i64 l, .int .i64 m, .bool lz, .int .i64 (at_ : Nat)] 42)) 96 [.int .i64 ev, .int .i64 er]
  simpa using this
theorem Rp.next {w W w1 : World} {at_ : Nat} {l m ev er : Int} {lz : Bool} (h : Rp w at_ l m lz ev er W) (hb : Below W.heap.size W w1) : Rp w at_ l m lz ev er w1 :=
  ⟨h.k0.below hb, h.k1.below hb, h.k2.below hb, h.k3.below hb, h.bel.trans (hb.mono h.bel.size)⟩
theorem Rp.count {w W : World} {at_ : Nat} {l m ev er : Int} {lz : Bool} (h : Rp w at_ l m lz ev er W) (l' m' ev' er' : Int) : Rp w at_ l' m' lz ev' er' ((((W.setCell ⟨w.heap.size + 1 + 1, 7, none⟩ (.int .i64 l')).setCell ⟨w.heap.size + 1 + 1, 8, none⟩ (.int .i64 m')).setCell ⟨w.heap.size + 1 + 1 + 1, 0, none⟩ (.int .i64 ev')).setCell ⟨w.heap.size + 1 + 1 + 1, 1, none⟩ (.int .i64 er')) :=
  ⟨((h.k0.other (by omega) 7 _).other (by omega) 8 _).others2 (by omega) _ _, ((h.k1.other (by omega) 7 _).other (by omega) 8 _).others2 (by omega) _ _, ((h.k2.set 7 _).set 8 _).others2 (by omega) _ _, ((h.k3.other (by omega) 7 _).other (by omega) 8 _).put2 _ _,
    below_put2 ((h.bel.setCell (p := ⟨w.heap.size + 1 + 1, 7, none⟩) (by simp; omega) _).setCell (p := ⟨w.heap.size + 1 + 1, 8, none⟩) (by simp; omega) _) (by omega) _ _⟩
theorem Rp.lazy {w W : World} {at_ : Nat} {l m ev er : Int} {lz : Bool} (h : Rp w at_ l m lz ev er W) (ev' : Int) : Rp w at_ l m true ev' er ((W.setCell ⟨w.heap.size + 1 + 1, 9, none⟩ (.bool true)).setCell ⟨w.heap.size + 1 + 1 + 1, 0, none⟩ (.int .i64 ev')) :=
  ⟨(h.k0.other (by omega) 9 _).other (by omega) 0 _, (h.k1.other (by omega) 9 _).other (by omega) 0 _, (h.k2.set 9 _).other (by omega) 0 _, (h.k3.other (by omega) 9 _).set 0 _,
    (h.bel.setCell (p := ⟨w.heap.size + 1 + 1, 9, none⟩) (by simp; omega) _).setCell (p := ⟨w.heap.size + 1 + 1 + 1, 0, none⟩) (by simp; omega) _⟩
/-- What repeat answers. -/
def RetRp (w : World) (z : Nat → Nat) (n at_ : Nat) (v : Int × Int × Nat × Int) : Ending → World → Prop :=
  if v.2.2.2 ≠ 0 then RetK w (tokV 0 0 0 0 0 0 false 0 0 false 0) (markV v.2.2.1 v.2.2.2)
  else if hasP z n v.2.2.1 63 = true then RetK w (tokV 7 0 0 0 0 0 false v.1 v.2.1 true at_) (markV (v.2.2.1 + 1) 0)
  else RetK w (tokV 7 0 0 0 0 0 false v.1 v.2.1 false at_) (markV v.2.2.1 0)
theorem cntV_le (z : Nat → Nat) (n fr : Nat) (h : fr < n) : (cntV z n fr).2.2.1 ≤ n + 1 := by
  obtain ⟨h1, h2, h3⟩ := numR_le z n (fr + 1) (by omega)
  unfold cntV
  split
  · show fr ≤ n + 1; omega
  split
  · show (numR z n (fr + 1)).2 + 1 ≤ n + 1; omega
  split
  · show fr ≤ n + 1; omega
  rename_i h44
  have hk : (numR z n (fr + 1)).2 < n := by
    unfold hasP at h44; simp at h44; omega
  split
  · show (numR z n (fr + 1)).2 + 2 ≤ n + 1; omega
  split
  · show fr ≤ n + 1; omega
  split
  · show fr ≤ n + 1; omega
  split
  · show fr ≤ n + 1; omega
  · have := numR_le z n ((numR z n (fr + 1)).2 + 1) (by omega)
    show (numR z n ((numR z n (fr + 1)).2 + 1)).2 + 1 ≤ n + 1
    omega
set_option maxRecDepth 10000 in
set_option maxHeartbeats 8000000 in
theorem rep_star (ao : Option Addr) (n cap at_ : Nat) (z : Nat → Nat) (w : World) (hr : Rd w ao n z) (hn : (n : Int) ≤ 1024) (ha : at_ < n) (hq : z at_ = 42) (hl : hasP z n (at_ + 1) 63 = false) : Calls Try.prog 87 #[.slice ao n cap, .int .i64 (at_ : Nat)] w (RetK w (tokV 7 0 0 0 0 0 false 0 (-1) false at_) (markV (at_ + 1) 0)) := by
  have HH : Hid (∀ W, Below w.heap.size w W → Calls Try.prog 99 #[.slice ao n cap, .int .i64 ((at_ : Int) + 1), .int .u8 63] W fun e w' => e = .returned (.bool false) ∧ w' = W) := has_at ao n cap at_ 1 63 z w hr false hl
  obtain ⟨bb, off, rfl, hbb, hc⟩ := hr.at_ (by omega)
  have t0 := hc at_ ha
  have i1 : (at_ : Int) < (n : Int) := by omega
  have t1 : ((((w.alloc (.cells #[.int .i64 0, .int .u8 0, .int .u64 0, .int .u64 0, .int .u64 0, .int .u64 0, .bool false, .int .i64 0, .int .i64 0, .bool false, .int .i64 0] 42)).alloc (.cells #[.int .i64 0, .int .i64 0] 96)).alloc (.cells #[.int .i64 7, .int .u8 0, .int .u64 0, .int .u64 0, .int .u64 0, .int .u64 0, .bool false, .int .i64 0, .int .i64 0, .bool false, .int .i64 (at_ : Nat)] 42)).alloc (.cells #[.int .i64 ((at_ : Int) + 1), .int .i64 0] 96)).cell? ⟨bb, off + at_, none⟩ = some (.int .u8 (z at_ : Nat)) := by rw [(bel4 w _ _ _ _).cell (p := ⟨bb, off + at_, none⟩) hbb]; exact t0
  rw [hq] at t1
  clear hc t0 hr hq hl
  go_enter Try.func87, Try.ntmps87
  go_wp2_with fail
  refine (HH.out _ (bel4 _ _ _ _ _)).mono ?_
  rintro e w1 ⟨rfl, rfl⟩
  go_wp2_with fail
  go_region_with (fail)
  all_goals go_wp2
  all_goals exact bodyPost_ret (v := .tuple #[tokV 7 0 0 0 0 0 false 0 (-1) false at_, markV (at_ + 1) 0]) (by simp [results, Try.results87, go_sem, tokV, markV]) rfl ⟨rfl, (bel4 _ _ _ _ _).drew⟩
set_option maxRecDepth 10000 in
set_option maxHeartbeats 8000000 in
theorem rep_starL (ao : Option Addr) (n cap at_ : Nat) (z : Nat → Nat) (w : World) (hr : Rd w ao n z) (hn : (n : Int) ≤ 1024) (ha : at_ < n) (hq : z at_ = 42) (hl : hasP z n (at_ + 1) 63 = true) : Calls Try.prog 87 #[.slice ao n cap, .int .i64 (at_ : Nat)] w (RetK w (tokV 7 0 0 0 0 0 false 0 (-1) true at_) (markV (at_ + 1 + 1) 0)) := by
  have HH : Hid (∀ W, Below w.heap.size w W → Calls Try.prog 99 #[.slice ao n cap, .int .i64 ((at_ : Int) + 1), .int .u8 63] W fun e w' => e = .returned (.bool true) ∧ w' = W) := has_at ao n cap at_ 1 63 z w hr true hl
  obtain ⟨bb, off, rfl, hbb, hc⟩ := hr.at_ (by omega)
  have t0 := hc at_ ha
  have i2 : (at_ : Int) + 1 + 1 < 9223372036854775808 := by omega
  have i1 : (at_ : Int) < (n : Int) := by omega
  have t1 : ((((w.alloc (.cells #[.int .i64 0, .int .u8 0, .int .u64 0, .int .u64 0, .int .u64 0, .int .u64 0, .bool false, .int .i64 0, .int .i64 0, .bool false, .int .i64 0] 42)).alloc (.cells #[.int .i64 0, .int .i64 0] 96)).alloc (.cells #[.int .i64 7, .int .u8 0, .int .u64 0, .int .u64 0, .int .u64 0, .int .u64 0, .bool false, .int .i64 0, .int .i64 0, .bool false, .int .i64 (at_ : Nat)] 42)).alloc (.cells #[.int .i64 ((at_ : Int) + 1), .int .i64 0] 96)).cell? ⟨bb, off + at_, none⟩ = some (.int .u8 (z at_ : Nat)) := by rw [(bel4 w _ _ _ _).cell (p := ⟨bb, off + at_, none⟩) hbb]; exact t0
  rw [hq] at t1
  clear hc t0 hr hq hl
  go_enter Try.func87, Try.ntmps87
  go_wp2_with fail
  refine (HH.out _ (bel4 _ _ _ _ _)).mono ?_
  rintro e w1 ⟨rfl, rfl⟩
  go_wp2_with fail
  go_region_with (fail)
  all_goals go_wp2
  all_goals exact bodyPost_ret (v := .tuple #[tokV 7 0 0 0 0 0 false 0 (-1) true at_, markV (at_ + 1 + 1) 0]) (by simp [results, Try.results87, go_sem, tokV, markV]) rfl ⟨rfl, (bel4 _ _ _ _ _).drew⟩
set_option maxRecDepth 10000 in
set_option maxHeartbeats 8000000 in
theorem rep_plus (ao : Option Addr) (n cap at_ : Nat) (z : Nat → Nat) (w : World) (hr : Rd w ao n z) (hn : (n : Int) ≤ 1024) (ha : at_ < n) (hq : z at_ = 43) (hl : hasP z n (at_ + 1) 63 = false) : Calls Try.prog 87 #[.slice ao n cap, .int .i64 (at_ : Nat)] w (RetK w (tokV 7 0 0 0 0 0 false 1 (-1) false at_) (markV (at_ + 1) 0)) := by
  have HH : Hid (∀ W, Below w.heap.size w W → Calls Try.prog 99 #[.slice ao n cap, .int .i64 ((at_ : Int) + 1), .int .u8 63] W fun e w' => e = .returned (.bool false) ∧ w' = W) := has_at ao n cap at_ 1 63 z w hr false hl
  obtain ⟨bb, off, rfl, hbb, hc⟩ := hr.at_ (by omega)
  have t0 := hc at_ ha
  have i1 : (at_ : Int) < (n : Int) := by omega
  have t1 : ((((w.alloc (.cells #[.int .i64 0, .int .u8 0, .int .u64 0, .int .u64 0, .int .u64 0, .int .u64 0, .bool false, .int .i64 0, .int .i64 0, .bool false, .int .i64 0] 42)).alloc (.cells #[.int .i64 0, .int .i64 0] 96)).alloc (.cells #[.int .i64 7, .int .u8 0, .int .u64 0, .int .u64 0, .int .u64 0, .int .u64 0, .bool false, .int .i64 0, .int .i64 0, .bool false, .int .i64 (at_ : Nat)] 42)).alloc (.cells #[.int .i64 ((at_ : Int) + 1), .int .i64 0] 96)).cell? ⟨bb, off + at_, none⟩ = some (.int .u8 (z at_ : Nat)) := by rw [(bel4 w _ _ _ _).cell (p := ⟨bb, off + at_, none⟩) hbb]; exact t0
  rw [hq] at t1
  clear hc t0 hr hq hl
  go_enter Try.func87, Try.ntmps87
  go_wp2_with fail
  refine (HH.out _ (bel4 _ _ _ _ _)).mono ?_
  rintro e w1 ⟨rfl, rfl⟩
  go_wp2_with fail
  go_region_with (fail)
  all_goals go_wp2
  all_goals exact bodyPost_ret (v := .tuple #[tokV 7 0 0 0 0 0 false 1 (-1) false at_, markV (at_ + 1) 0]) (by simp [results, Try.results87, go_sem, tokV, markV]) rfl ⟨rfl, (bel4 _ _ _ _ _).drew⟩
set_option maxRecDepth 10000 in
set_option maxHeartbeats 8000000 in
theorem rep_plusL (ao : Option Addr) (n cap at_ : Nat) (z : Nat → Nat) (w : World) (hr : Rd w ao n z) (hn : (n : Int) ≤ 1024) (ha : at_ < n) (hq : z at_ = 43) (hl : hasP z n (at_ + 1) 63 = true) : Calls Try.prog 87 #[.slice ao n cap, .int .i64 (at_ : Nat)] w (RetK w (tokV 7 0 0 0 0 0 false 1 (-1) true at_) (markV (at_ + 1 + 1) 0)) := by
  have HH : Hid (∀ W, Below w.heap.size w W → Calls Try.prog 99 #[.slice ao n cap, .int .i64 ((at_ : Int) + 1), .int .u8 63] W fun e w' => e = .returned (.bool true) ∧ w' = W) := has_at ao n cap at_ 1 63 z w hr true hl
  obtain ⟨bb, off, rfl, hbb, hc⟩ := hr.at_ (by omega)
  have t0 := hc at_ ha
  have i2 : (at_ : Int) + 1 + 1 < 9223372036854775808 := by omega
  have i1 : (at_ : Int) < (n : Int) := by omega
  have t1 : ((((w.alloc (.cells #[.int .i64 0, .int .u8 0, .int .u64 0, .int .u64 0, .int .u64 0, .int .u64 0, .bool false, .int .i64 0, .int .i64 0, .bool false, .int .i64 0] 42)).alloc (.cells #[.int .i64 0, .int .i64 0] 96)).alloc (.cells #[.int .i64 7, .int .u8 0, .int .u64 0, .int .u64 0, .int .u64 0, .int .u64 0, .bool false, .int .i64 0, .int .i64 0, .bool false, .int .i64 (at_ : Nat)] 42)).alloc (.cells #[.int .i64 ((at_ : Int) + 1), .int .i64 0] 96)).cell? ⟨bb, off + at_, none⟩ = some (.int .u8 (z at_ : Nat)) := by rw [(bel4 w _ _ _ _).cell (p := ⟨bb, off + at_, none⟩) hbb]; exact t0
  rw [hq] at t1
  clear hc t0 hr hq hl
  go_enter Try.func87, Try.ntmps87
  go_wp2_with fail
  refine (HH.out _ (bel4 _ _ _ _ _)).mono ?_
  rintro e w1 ⟨rfl, rfl⟩
  go_wp2_with fail
  go_region_with (fail)
  all_goals go_wp2
  all_goals exact bodyPost_ret (v := .tuple #[tokV 7 0 0 0 0 0 false 1 (-1) true at_, markV (at_ + 1 + 1) 0]) (by simp [results, Try.results87, go_sem, tokV, markV]) rfl ⟨rfl, (bel4 _ _ _ _ _).drew⟩
set_option maxRecDepth 10000 in
set_option maxHeartbeats 8000000 in
theorem rep_opt (ao : Option Addr) (n cap at_ : Nat) (z : Nat → Nat) (w : World) (hr : Rd w ao n z) (hn : (n : Int) ≤ 1024) (ha : at_ < n) (hq : z at_ = 63) (hl : hasP z n (at_ + 1) 63 = false) : Calls Try.prog 87 #[.slice ao n cap, .int .i64 (at_ : Nat)] w (RetK w (tokV 7 0 0 0 0 0 false 0 1 false at_) (markV (at_ + 1) 0)) := by
  have HH : Hid (∀ W, Below w.heap.size w W → Calls Try.prog 99 #[.slice ao n cap, .int .i64 ((at_ : Int) + 1), .int .u8 63] W fun e w' => e = .returned (.bool false) ∧ w' = W) := has_at ao n cap at_ 1 63 z w hr false hl
  obtain ⟨bb, off, rfl, hbb, hc⟩ := hr.at_ (by omega)
  have t0 := hc at_ ha
  have i1 : (at_ : Int) < (n : Int) := by omega
  have t1 : ((((w.alloc (.cells #[.int .i64 0, .int .u8 0, .int .u64 0, .int .u64 0, .int .u64 0, .int .u64 0, .bool false, .int .i64 0, .int .i64 0, .bool false, .int .i64 0] 42)).alloc (.cells #[.int .i64 0, .int .i64 0] 96)).alloc (.cells #[.int .i64 7, .int .u8 0, .int .u64 0, .int .u64 0, .int .u64 0, .int .u64 0, .bool false, .int .i64 0, .int .i64 0, .bool false, .int .i64 (at_ : Nat)] 42)).alloc (.cells #[.int .i64 ((at_ : Int) + 1), .int .i64 0] 96)).cell? ⟨bb, off + at_, none⟩ = some (.int .u8 (z at_ : Nat)) := by rw [(bel4 w _ _ _ _).cell (p := ⟨bb, off + at_, none⟩) hbb]; exact t0
  rw [hq] at t1
  clear hc t0 hr hq hl
  go_enter Try.func87, Try.ntmps87
  go_wp2_with fail
  refine (HH.out _ (bel4 _ _ _ _ _)).mono ?_
  rintro e w1 ⟨rfl, rfl⟩
  go_wp2_with fail
  go_region_with (fail)
  all_goals go_wp2
  all_goals exact bodyPost_ret (v := .tuple #[tokV 7 0 0 0 0 0 false 0 1 false at_, markV (at_ + 1) 0]) (by simp [results, Try.results87, go_sem, tokV, markV]) rfl ⟨rfl, (bel4 _ _ _ _ _).drew⟩
set_option maxRecDepth 10000 in
set_option maxHeartbeats 8000000 in
theorem rep_optL (ao : Option Addr) (n cap at_ : Nat) (z : Nat → Nat) (w : World) (hr : Rd w ao n z) (hn : (n : Int) ≤ 1024) (ha : at_ < n) (hq : z at_ = 63) (hl : hasP z n (at_ + 1) 63 = true) : Calls Try.prog 87 #[.slice ao n cap, .int .i64 (at_ : Nat)] w (RetK w (tokV 7 0 0 0 0 0 false 0 1 true at_) (markV (at_ + 1 + 1) 0)) := by
  have HH : Hid (∀ W, Below w.heap.size w W → Calls Try.prog 99 #[.slice ao n cap, .int .i64 ((at_ : Int) + 1), .int .u8 63] W fun e w' => e = .returned (.bool true) ∧ w' = W) := has_at ao n cap at_ 1 63 z w hr true hl
  obtain ⟨bb, off, rfl, hbb, hc⟩ := hr.at_ (by omega)
  have t0 := hc at_ ha
  have i2 : (at_ : Int) + 1 + 1 < 9223372036854775808 := by omega
  have i1 : (at_ : Int) < (n : Int) := by omega
  have t1 : ((((w.alloc (.cells #[.int .i64 0, .int .u8 0, .int .u64 0, .int .u64 0, .int .u64 0, .int .u64 0, .bool false, .int .i64 0, .int .i64 0, .bool false, .int .i64 0] 42)).alloc (.cells #[.int .i64 0, .int .i64 0] 96)).alloc (.cells #[.int .i64 7, .int .u8 0, .int .u64 0, .int .u64 0, .int .u64 0, .int .u64 0, .bool false, .int .i64 0, .int .i64 0, .bool false, .int .i64 (at_ : Nat)] 42)).alloc (.cells #[.int .i64 ((at_ : Int) + 1), .int .i64 0] 96)).cell? ⟨bb, off + at_, none⟩ = some (.int .u8 (z at_ : Nat)) := by rw [(bel4 w _ _ _ _).cell (p := ⟨bb, off + at_, none⟩) hbb]; exact t0
  rw [hq] at t1
  clear hc t0 hr hq hl
  go_enter Try.func87, Try.ntmps87
  go_wp2_with fail
  refine (HH.out _ (bel4 _ _ _ _ _)).mono ?_
  rintro e w1 ⟨rfl, rfl⟩
  go_wp2_with fail
  go_region_with (fail)
  all_goals go_wp2
  all_goals exact bodyPost_ret (v := .tuple #[tokV 7 0 0 0 0 0 false 0 1 true at_, markV (at_ + 1 + 1) 0]) (by simp [results, Try.results87, go_sem, tokV, markV]) rfl ⟨rfl, (bel4 _ _ _ _ _).drew⟩
set_option maxRecDepth 10000 in
set_option maxHeartbeats 8000000 in
theorem rep_cnt (ao : Option Addr) (n cap at_ : Nat) (z : Nat → Nat) (w : World) (hr : Rd w ao n z) (hn : (n : Int) ≤ 1024) (ha : at_ < n) (hq : z at_ = 123) (l m : Int) (en : Nat) (he : cntV z n at_ = (l, m, en, 0)) (hl : hasP z n en 63 = false) : Calls Try.prog 87 #[.slice ao n cap, .int .i64 (at_ : Nat)] w (RetK w (tokV 7 0 0 0 0 0 false l m false at_) (markV en 0)) := by
  have HH : Hid (∀ W, Below w.heap.size w W → Calls Try.prog 99 #[.slice ao n cap, .int .i64 (en : Nat), .int .u8 63] W fun e w' => e = .returned (.bool false) ∧ w' = W) := fun W hb => by
    have := has_any ao n cap en 63 z W (hr.below hb)
    rw [hl] at this; exact this
  have HC : Hid (∀ W, Below w.heap.size w W → Calls Try.prog 102 #[.slice ao n cap, .int .i64 (at_ : Nat)] W (RetCt W (l, m, en, 0))) := fun W hb => by
    have := count_any ao n cap at_ z W (hr.below hb) hn ha
    rw [he] at this; exact this
  obtain ⟨bb, off, rfl, hbb, hc⟩ := hr.at_ (by omega)
  have t0 := hc at_ ha
  have i1 : (at_ : Int) < (n : Int) := by omega
  have t1 : ((((w.alloc (.cells #[.int .i64 0, .int .u8 0, .int .u64 0, .int .u64 0, .int .u64 0, .int .u64 0, .bool false, .int .i64 0, .int .i64 0, .bool false, .int .i64 0] 42)).alloc (.cells #[.int .i64 0, .int .i64 0] 96)).alloc (.cells #[.int .i64 7, .int .u8 0, .int .u64 0, .int .u64 0, .int .u64 0, .int .u64 0, .bool false, .int .i64 0, .int .i64 0, .bool false, .int .i64 (at_ : Nat)] 42)).alloc (.cells #[.int .i64 ((at_ : Int) + 1), .int .i64 0] 96)).cell? ⟨bb, off + at_, none⟩ = some (.int .u8 (z at_ : Nat)) := by rw [(bel4 w _ _ _ _).cell (p := ⟨bb, off + at_, none⟩) hbb]; exact t0
  rw [hq] at t1
  clear hc t0 hr hq hl he
  go_enter Try.func87, Try.ntmps87
  go_wp2_with fail
  refine (HC.out _ (bel4 _ _ _ _ _)).mono ?_
  rintro e w1 ⟨rfl, hb1⟩
  have rp := (rp_start w at_ 0 0 false ((at_ : Int) + 1) 0).next hb1
  clear hb1 t1
  obtain ⟨⟨b0, b1, b2, b3, b4, b5, b6, b7, b8, b9, b10⟩, g0, g1, g2, g3, g4, g5, g6, g7, g8, g9, g10⟩ := rp.k2.eleven
  obtain ⟨⟨r0, r1⟩, s0, s1⟩ := rp.k3.two
  have rq := rp.count l m en 0
  simp only [markV]
  go_wp2_with fail
  refine (HH.out _ rq.bel).mono ?_
  rintro e w2 ⟨rfl, rfl⟩
  clear b0 b1 b2 b3 b4 b5 b6 b7 b8 b9 b10 g0 g1 g2 g3 g4 g5 g6 g7 g8 g9 g10 r0 r1 s0 s1 rp
  generalize ((((w1.setCell ⟨w.heap.size + 1 + 1, 7, none⟩ (.int .i64 l)).setCell ⟨w.heap.size + 1 + 1, 8, none⟩ (.int .i64 m)).setCell ⟨w.heap.size + 1 + 1 + 1, 0, none⟩ (.int .i64 (en : Nat))).setCell ⟨w.heap.size + 1 + 1 + 1, 1, none⟩ (.int .i64 0)) = W at *
  obtain ⟨⟨b0, b1, b2, b3, b4, b5, b6, b7, b8, b9, b10⟩, g0, g1, g2, g3, g4, g5, g6, g7, g8, g9, g10⟩ := rq.k2.eleven
  obtain ⟨⟨r0, r1⟩, s0, s1⟩ := rq.k3.two
  obtain ⟨⟨c0, c1, c2, c3, c4, c5, c6, c7, c8, c9, c10⟩, h0, h1, h2, h3, h4, h5, h6, h7, h8, h9, h10⟩ := rq.k0.eleven
  obtain ⟨⟨d0, d1⟩, e0, e1⟩ := rq.k1.two
  have F := ((rq.k0.put11 (.int .i64 7) (.int .u8 0) (.int .u64 0) (.int .u64 0) (.int .u64 0) (.int .u64 0) (.bool false) (.int .i64 l) (.int .i64 m) (.bool false) (.int .i64 (at_ : Nat))).others2 (k := w.heap.size + 1) (by omega) (.int .i64 (en : Nat)) (.int .i64 0)).drew.eleven.1
  have G := ((rq.k1.others11 (k := w.heap.size) (by omega) (.int .i64 7) (.int .u8 0) (.int .u64 0) (.int .u64 0) (.int .u64 0) (.int .u64 0) (.bool false) (.int .i64 l) (.int .i64 m) (.bool false) (.int .i64 (at_ : Nat))).put2 (.int .i64 (en : Nat)) (.int .i64 0)).drew.two.1
  have hB4 := (below_put2 (b := w.heap.size + 1) (below_put11 (b := w.heap.size) rq.bel (Nat.le_refl _) (.int .i64 7) (.int .u8 0) (.int .u64 0) (.int .u64 0) (.int .u64 0) (.int .u64 0) (.bool false) (.int .i64 l) (.int .i64 m) (.bool false) (.int .i64 (at_ : Nat))) (by omega) (.int .i64 (en : Nat)) (.int .i64 0)).drew
  simp only [put2, put11] at F G
  obtain ⟨F0, F1, F2, F3, F4, F5, F6, F7, F8, F9, F10⟩ := F
  obtain ⟨G0, G1⟩ := G
  have HF : Hid (Below w.heap.size w _) := hB4
  clear hB4 rq
  go_wp2_with fail
  go_region_with (fail)
  all_goals go_wp2
  all_goals exact bodyPost_ret (v := .tuple #[tokV 7 0 0 0 0 0 false l m false at_, markV en 0]) (by simp [results, Try.results87, go_sem, tokV, markV, F0, F1, F2, F3, F4, F5, F6, F7, F8, F9, F10, G0, G1]) rfl ⟨rfl, HF.out⟩
set_option maxRecDepth 10000 in
set_option maxHeartbeats 8000000 in
theorem rep_cntL (ao : Option Addr) (n cap at_ : Nat) (z : Nat → Nat) (w : World) (hr : Rd w ao n z) (hn : (n : Int) ≤ 1024) (ha : at_ < n) (hq : z at_ = 123) (l m : Int) (en : Nat) (he : cntV z n at_ = (l, m, en, 0)) (hen : en ≤ n + 1) (hl : hasP z n en 63 = true) : Calls Try.prog 87 #[.slice ao n cap, .int .i64 (at_ : Nat)] w (RetK w (tokV 7 0 0 0 0 0 false l m true at_) (markV (en + 1) 0)) := by
  have HH : Hid (∀ W, Below w.heap.size w W → Calls Try.prog 99 #[.slice ao n cap, .int .i64 (en : Nat), .int .u8 63] W fun e w' => e = .returned (.bool true) ∧ w' = W) := fun W hb => by
    have := has_any ao n cap en 63 z W (hr.below hb)
    rw [hl] at this; exact this
  have HC : Hid (∀ W, Below w.heap.size w W → Calls Try.prog 102 #[.slice ao n cap, .int .i64 (at_ : Nat)] W (RetCt W (l, m, en, 0))) := fun W hb => by
    have := count_any ao n cap at_ z W (hr.below hb) hn ha
    rw [he] at this; exact this
  obtain ⟨bb, off, rfl, hbb, hc⟩ := hr.at_ (by omega)
  have t0 := hc at_ ha
  have i1 : (at_ : Int) < (n : Int) := by omega
  have t1 : ((((w.alloc (.cells #[.int .i64 0, .int .u8 0, .int .u64 0, .int .u64 0, .int .u64 0, .int .u64 0, .bool false, .int .i64 0, .int .i64 0, .bool false, .int .i64 0] 42)).alloc (.cells #[.int .i64 0, .int .i64 0] 96)).alloc (.cells #[.int .i64 7, .int .u8 0, .int .u64 0, .int .u64 0, .int .u64 0, .int .u64 0, .bool false, .int .i64 0, .int .i64 0, .bool false, .int .i64 (at_ : Nat)] 42)).alloc (.cells #[.int .i64 ((at_ : Int) + 1), .int .i64 0] 96)).cell? ⟨bb, off + at_, none⟩ = some (.int .u8 (z at_ : Nat)) := by rw [(bel4 w _ _ _ _).cell (p := ⟨bb, off + at_, none⟩) hbb]; exact t0
  rw [hq] at t1
  clear hc t0 hr hq hl he
  go_enter Try.func87, Try.ntmps87
  go_wp2_with fail
  refine (HC.out _ (bel4 _ _ _ _ _)).mono ?_
  rintro e w1 ⟨rfl, hb1⟩
  have rp := (rp_start w at_ 0 0 false ((at_ : Int) + 1) 0).next hb1
  clear hb1 t1
  obtain ⟨⟨b0, b1, b2, b3, b4, b5, b6, b7, b8, b9, b10⟩, g0, g1, g2, g3, g4, g5, g6, g7, g8, g9, g10⟩ := rp.k2.eleven
  obtain ⟨⟨r0, r1⟩, s0, s1⟩ := rp.k3.two
  have rq := rp.count l m en 0
  simp only [markV]
  go_wp2_with fail
  refine (HH.out _ rq.bel).mono ?_
  rintro e w2 ⟨rfl, rfl⟩
  clear b0 b1 b2 b3 b4 b5 b6 b7 b8 b9 b10 g0 g1 g2 g3 g4 g5 g6 g7 g8 g9 g10 r0 r1 s0 s1 rp
  generalize ((((w1.setCell ⟨w.heap.size + 1 + 1, 7, none⟩ (.int .i64 l)).setCell ⟨w.heap.size + 1 + 1, 8, none⟩ (.int .i64 m)).setCell ⟨w.heap.size + 1 + 1 + 1, 0, none⟩ (.int .i64 (en : Nat))).setCell ⟨w.heap.size + 1 + 1 + 1, 1, none⟩ (.int .i64 0)) = W at *
  obtain ⟨⟨b0, b1, b2, b3, b4, b5, b6, b7, b8, b9, b10⟩, g0, g1, g2, g3, g4, g5, g6, g7, g8, g9, g10⟩ := rq.k2.eleven
  obtain ⟨⟨r0, r1⟩, s0, s1⟩ := rq.k3.two
  have i3 : (en : Int) + 1 < 9223372036854775808 := by omega
  have rz := rq.lazy ((en : Int) + 1)
  go_wp2_with fail
  clear b0 b1 b2 b3 b4 b5 b6 b7 b8 b9 b10 g0 g1 g2 g3 g4 g5 g6 g7 g8 g9 g10 r0 r1 s0 s1 rq
  generalize ((W.setCell ⟨w.heap.size + 1 + 1, 9, none⟩ (.bool true)).setCell ⟨w.heap.size + 1 + 1 + 1, 0, none⟩ (.int .i64 ((en : Int) + 1))) = W2 at *
  obtain ⟨⟨b0, b1, b2, b3, b4, b5, b6, b7, b8, b9, b10⟩, g0, g1, g2, g3, g4, g5, g6, g7, g8, g9, g10⟩ := rz.k2.eleven
  obtain ⟨⟨r0, r1⟩, s0, s1⟩ := rz.k3.two
  obtain ⟨⟨c0, c1, c2, c3, c4, c5, c6, c7, c8, c9, c10⟩, h0, h1, h2, h3, h4, h5, h6, h7, h8, h9, h10⟩ := rz.k0.eleven
  obtain ⟨⟨d0, d1⟩, e0, e1⟩ := rz.k1.two
  have F := ((rz.k0.put11 (.int .i64 7) (.int .u8 0) (.int .u64 0) (.int .u64 0) (.int .u64 0) (.int .u64 0) (.bool false) (.int .i64 l) (.int .i64 m) (.bool true) (.int .i64 (at_ : Nat))).others2 (k := w.heap.size + 1) (by omega) (.int .i64 ((en : Int) + 1)) (.int .i64 0)).drew.eleven.1
  have G := ((rz.k1.others11 (k := w.heap.size) (by omega) (.int .i64 7) (.int .u8 0) (.int .u64 0) (.int .u64 0) (.int .u64 0) (.int .u64 0) (.bool false) (.int .i64 l) (.int .i64 m) (.bool true) (.int .i64 (at_ : Nat))).put2 (.int .i64 ((en : Int) + 1)) (.int .i64 0)).drew.two.1
  have hB4 := (below_put2 (b := w.heap.size + 1) (below_put11 (b := w.heap.size) rz.bel (Nat.le_refl _) (.int .i64 7) (.int .u8 0) (.int .u64 0) (.int .u64 0) (.int .u64 0) (.int .u64 0) (.bool false) (.int .i64 l) (.int .i64 m) (.bool true) (.int .i64 (at_ : Nat))) (by omega) (.int .i64 ((en : Int) + 1)) (.int .i64 0)).drew
  simp only [put2, put11] at F G
  obtain ⟨F0, F1, F2, F3, F4, F5, F6, F7, F8, F9, F10⟩ := F
  obtain ⟨G0, G1⟩ := G
  have HF : Hid (Below w.heap.size w _) := hB4
  clear hB4 rz
  go_region_with (fail)
  all_goals go_wp2
  all_goals exact bodyPost_ret (v := .tuple #[tokV 7 0 0 0 0 0 false l m true at_, markV (en + 1) 0]) (by simp [results, Try.results87, go_sem, tokV, markV, F0, F1, F2, F3, F4, F5, F6, F7, F8, F9, F10, G0, G1]) rfl ⟨rfl, HF.out⟩
set_option maxRecDepth 10000 in
set_option maxHeartbeats 8000000 in
theorem rep_bad (ao : Option Addr) (n cap at_ : Nat) (z : Nat → Nat) (w : World) (hr : Rd w ao n z) (hn : (n : Int) ≤ 1024) (ha : at_ < n) (hq : z at_ = 123) (l m er : Int) (en : Nat) (he : cntV z n at_ = (l, m, en, er)) (hl : er ≠ 0) : Calls Try.prog 87 #[.slice ao n cap, .int .i64 (at_ : Nat)] w (RetK w (tokV 0 0 0 0 0 0 false 0 0 false 0) (markV en er)) := by
  have HC : Hid (∀ W, Below w.heap.size w W → Calls Try.prog 102 #[.slice ao n cap, .int .i64 (at_ : Nat)] W (RetCt W (l, m, en, er))) := fun W hb => by
    have := count_any ao n cap at_ z W (hr.below hb) hn ha
    rw [he] at this; exact this
  obtain ⟨bb, off, rfl, hbb, hc⟩ := hr.at_ (by omega)
  have t0 := hc at_ ha
  have i1 : (at_ : Int) < (n : Int) := by omega
  have t1 : ((((w.alloc (.cells #[.int .i64 0, .int .u8 0, .int .u64 0, .int .u64 0, .int .u64 0, .int .u64 0, .bool false, .int .i64 0, .int .i64 0, .bool false, .int .i64 0] 42)).alloc (.cells #[.int .i64 0, .int .i64 0] 96)).alloc (.cells #[.int .i64 7, .int .u8 0, .int .u64 0, .int .u64 0, .int .u64 0, .int .u64 0, .bool false, .int .i64 0, .int .i64 0, .bool false, .int .i64 (at_ : Nat)] 42)).alloc (.cells #[.int .i64 ((at_ : Int) + 1), .int .i64 0] 96)).cell? ⟨bb, off + at_, none⟩ = some (.int .u8 (z at_ : Nat)) := by rw [(bel4 w _ _ _ _).cell (p := ⟨bb, off + at_, none⟩) hbb]; exact t0
  rw [hq] at t1
  clear hc t0 hr hq he
  go_enter Try.func87, Try.ntmps87
  go_wp2_with fail
  refine (HC.out _ (bel4 _ _ _ _ _)).mono ?_
  rintro e w1 ⟨rfl, hb1⟩
  have rp := (rp_start w at_ 0 0 false ((at_ : Int) + 1) 0).next hb1
  clear hb1 t1
  obtain ⟨⟨b0, b1, b2, b3, b4, b5, b6, b7, b8, b9, b10⟩, g0, g1, g2, g3, g4, g5, g6, g7, g8, g9, g10⟩ := rp.k2.eleven
  obtain ⟨⟨r0, r1⟩, s0, s1⟩ := rp.k3.two
  have rq := rp.count l m en er
  simp only [markV]
  go_wp2_with fail
  clear b0 b1 b2 b3 b4 b5 b6 b7 b8 b9 b10 g0 g1 g2 g3 g4 g5 g6 g7 g8 g9 g10 r0 r1 s0 s1 rp
  generalize ((((w1.setCell ⟨w.heap.size + 1 + 1, 7, none⟩ (.int .i64 l)).setCell ⟨w.heap.size + 1 + 1, 8, none⟩ (.int .i64 m)).setCell ⟨w.heap.size + 1 + 1 + 1, 0, none⟩ (.int .i64 (en : Nat))).setCell ⟨w.heap.size + 1 + 1 + 1, 1, none⟩ (.int .i64 er)) = W at *
  obtain ⟨⟨r0, r1⟩, s0, s1⟩ := rq.k3.two
  obtain ⟨⟨c0, c1, c2, c3, c4, c5, c6, c7, c8, c9, c10⟩, h0, h1, h2, h3, h4, h5, h6, h7, h8, h9, h10⟩ := rq.k0.eleven
  obtain ⟨⟨d0, d1⟩, e0, e1⟩ := rq.k1.two
  have F := ((rq.k0.put11 (.int .i64 0) (.int .u8 0) (.int .u64 0) (.int .u64 0) (.int .u64 0) (.int .u64 0) (.bool false) (.int .i64 0) (.int .i64 0) (.bool false) (.int .i64 0)).others2 (k := w.heap.size + 1) (by omega) (.int .i64 (en : Nat)) (.int .i64 er)).drew.eleven.1
  have G := ((rq.k1.others11 (k := w.heap.size) (by omega) (.int .i64 0) (.int .u8 0) (.int .u64 0) (.int .u64 0) (.int .u64 0) (.int .u64 0) (.bool false) (.int .i64 0) (.int .i64 0) (.bool false) (.int .i64 0)).put2 (.int .i64 (en : Nat)) (.int .i64 er)).drew.two.1
  have hB4 := (below_put2 (b := w.heap.size + 1) (below_put11 (b := w.heap.size) rq.bel (Nat.le_refl _) (.int .i64 0) (.int .u8 0) (.int .u64 0) (.int .u64 0) (.int .u64 0) (.int .u64 0) (.bool false) (.int .i64 0) (.int .i64 0) (.bool false) (.int .i64 0)) (by omega) (.int .i64 (en : Nat)) (.int .i64 er)).drew
  simp only [put2, put11] at F G
  obtain ⟨F0, F1, F2, F3, F4, F5, F6, F7, F8, F9, F10⟩ := F
  obtain ⟨G0, G1⟩ := G
  have HF : Hid (Below w.heap.size w _) := hB4
  clear hB4 rq
  go_region_with (fail)
  all_goals go_wp2
  all_goals exact bodyPost_ret (v := .tuple #[tokV 0 0 0 0 0 0 false 0 0 false 0, markV en er]) (by simp [results, Try.results87, go_sem, tokV, markV, F0, F1, F2, F3, F4, F5, F6, F7, F8, F9, F10, G0, G1]) rfl ⟨rfl, HF.out⟩
/-- repeat, at any place where one of its four signs stands. -/
theorem rep_any (ao : Option Addr) (n cap at_ : Nat) (z : Nat → Nat) (w : World) (hr : Rd w ao n z) (hn : (n : Int) ≤ 1024) (ha : at_ < n) (hq : z at_ = 42 ∨ z at_ = 43 ∨ z at_ = 63 ∨ z at_ = 123) : Calls Try.prog 87 #[.slice ao n cap, .int .i64 (at_ : Nat)] w (RetRp w z n at_ (repS z n at_)) := by
  rcases hq with hq | hq | hq | hq
  · have e1 : repS z n at_ = (0, -1, at_ + 1, 0) := by unfold repS; rw [if_neg (by omega), if_pos hq]
    rw [e1]; unfold RetRp
    rw [if_neg (by simp)]
    cases hb : hasP z n (at_ + 1) 63 with
    | true => rw [if_pos rfl]; exact rep_starL ao n cap at_ z w hr hn ha hq hb
    | false => rw [if_neg (by simp)]; exact rep_star ao n cap at_ z w hr hn ha hq hb
  · have e1 : repS z n at_ = (1, -1, at_ + 1, 0) := by unfold repS; rw [if_pos hq]
    rw [e1]; unfold RetRp
    rw [if_neg (by simp)]
    cases hb : hasP z n (at_ + 1) 63 with
    | true => rw [if_pos rfl]; exact rep_plusL ao n cap at_ z w hr hn ha hq hb
    | false => rw [if_neg (by simp)]; exact rep_plus ao n cap at_ z w hr hn ha hq hb
  · have e1 : repS z n at_ = (0, 1, at_ + 1, 0) := by unfold repS; rw [if_neg (by omega), if_neg (by omega), if_pos hq]
    rw [e1]; unfold RetRp
    rw [if_neg (by simp)]
    cases hb : hasP z n (at_ + 1) 63 with
    | true => rw [if_pos rfl]; exact rep_optL ao n cap at_ z w hr hn ha hq hb
    | false => rw [if_neg (by simp)]; exact rep_opt ao n cap at_ z w hr hn ha hq hb
  · have e1 : repS z n at_ = cntV z n at_ := by unfold repS; rw [if_neg (by omega), if_neg (by omega), if_neg (by omega)]
    have hle := cntV_le z n at_ ha
    rw [e1]
    rcases hv : cntV z n at_ with ⟨l, m, en, er⟩
    rw [hv] at hle
    unfold RetRp
    by_cases h0 : er = 0
    · subst h0
      rw [if_neg (by simp)]
      cases hb : hasP z n en 63 with
      | true => rw [if_pos rfl]; exact rep_cntL ao n cap at_ z w hr hn ha hq l m en hv hle hb
      | false => rw [if_neg (by simp)]; exact rep_cnt ao n cap at_ z w hr hn ha hq l m en hv hb
    · rw [if_pos (by exact h0)]; exact rep_bad ao n cap at_ z w hr hn ha hq l m er en hv h0
end Go.Proofs.Ytlmmiicibjfcdaa
