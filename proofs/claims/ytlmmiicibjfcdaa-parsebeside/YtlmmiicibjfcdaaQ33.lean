/- The reference of token: repeat: the walks. -/
import Derived.Test.YtlmmiicibjfcdaaQ32
namespace Go.Proofs.Ytlmmiicibjfcdaa.X
open Go.RowKit
theorem cell2 {bb off n : Nat} {z : Nat → Nat} {w : World} (hr : Rd w (some ⟨bb, off, none⟩) n z) (k : Nat) (hk : k < n) (o p : Obj) : ((w.alloc o).alloc p).cell? ⟨bb, off + k, none⟩ = some (.int .u8 (z k : Nat)) := by
  obtain ⟨b', o', e, hlt, hc⟩ := hr.at_ (by omega)
  cases e
  rw [(bel2 w o p).cell (p := ⟨bb, off + k, none⟩) hlt]; exact hc k hk
set_option maxRecDepth 10000 in
set_option maxHeartbeats 1000000 in
theorem rr_plus_yes (bb off n cap at_ : Nat) (z : Nat → Nat) (w : World) (hr : Rd w (some ⟨bb, off, none⟩) n z) (hn : (n : Int) ≤ 1024) (ha : at_ < n) (hq : z at_ = 43) (h2 : at_ + 1 < n) (h3 : z (at_ + 1) = 63) : Calls Try.prog 91 #[.slice (some ⟨bb, off, none⟩) n cap, .int .i64 (at_ : Nat)] w (RetP w (tokV 7 0 0 0 0 0 false 1 (-1) true 0) ((at_ : Int) + 1 + 1)) := by
  have t0 := cell2 hr at_ ha
  rw [hq] at t0
  have i1 : (at_ : Int) < (n : Int) := by omega
  have i0 : (at_ : Int) + 1 > 0 := by omega
  have i2 : (at_ : Int) + 1 < (n : Int) := by omega
  have t1 := cell2 hr (at_ + 1) h2
  have e63 : (((z (at_ + 1) : Nat) : Int) == 63) = true := by simp; omega
  clear hr hq h3 ha h2
  generalize z (at_ + 1) = q2 at *
  go_enter Try.func91, Try.ntmps91
  go_wp2
  exact bodyPost_ret (v := .tuple #[tokV 7 0 0 0 0 0 false 1 (-1) true 0, .int .i64 ((at_ : Int) + 1 + 1)]) (by simp [results, Try.results91, go_sem, tokV]) rfl ⟨rfl, bel2 _ _ _⟩
set_option maxRecDepth 10000 in
set_option maxHeartbeats 1000000 in
theorem rr_plus_no (bb off n cap at_ : Nat) (z : Nat → Nat) (w : World) (hr : Rd w (some ⟨bb, off, none⟩) n z) (hn : (n : Int) ≤ 1024) (ha : at_ < n) (hq : z at_ = 43) (h2 : at_ + 1 < n) (h3 : z (at_ + 1) ≠ 63) : Calls Try.prog 91 #[.slice (some ⟨bb, off, none⟩) n cap, .int .i64 (at_ : Nat)] w (RetP w (tokV 7 0 0 0 0 0 false 1 (-1) false 0) ((at_ : Int) + 1)) := by
  have t0 := cell2 hr at_ ha
  rw [hq] at t0
  have i1 : (at_ : Int) < (n : Int) := by omega
  have i0 : (at_ : Int) + 1 > 0 := by omega
  have i2 : (at_ : Int) + 1 < (n : Int) := by omega
  have t1 := cell2 hr (at_ + 1) h2
  have e63 : (((z (at_ + 1) : Nat) : Int) == 63) = false := by rw [beq_eq_false_iff_ne]; omega
  clear hr hq h3 ha h2
  generalize z (at_ + 1) = q2 at *
  go_enter Try.func91, Try.ntmps91
  go_wp2
  exact bodyPost_ret (v := .tuple #[tokV 7 0 0 0 0 0 false 1 (-1) false 0, .int .i64 ((at_ : Int) + 1)]) (by simp [results, Try.results91, go_sem, tokV]) rfl ⟨rfl, bel2 _ _ _⟩
set_option maxRecDepth 10000 in
set_option maxHeartbeats 1000000 in
theorem rr_plus_end (bb off n cap at_ : Nat) (z : Nat → Nat) (w : World) (hr : Rd w (some ⟨bb, off, none⟩) n z) (hn : (n : Int) ≤ 1024) (ha : at_ < n) (hq : z at_ = 43) (h2 : ¬ at_ + 1 < n) : Calls Try.prog 91 #[.slice (some ⟨bb, off, none⟩) n cap, .int .i64 (at_ : Nat)] w (RetP w (tokV 7 0 0 0 0 0 false 1 (-1) false 0) ((at_ : Int) + 1)) := by
  have t0 := cell2 hr at_ ha
  rw [hq] at t0
  have i1 : (at_ : Int) < (n : Int) := by omega
  have i0 : (at_ : Int) + 1 > 0 := by omega
  have i2 : ¬ ((at_ : Int) + 1 < (n : Int)) := by omega
  clear hr hq ha h2
  go_enter Try.func91, Try.ntmps91
  go_wp2
  exact bodyPost_ret (v := .tuple #[tokV 7 0 0 0 0 0 false 1 (-1) false 0, .int .i64 ((at_ : Int) + 1)]) (by simp [results, Try.results91, go_sem, tokV]) rfl ⟨rfl, bel2 _ _ _⟩
set_option maxRecDepth 10000 in
set_option maxHeartbeats 1000000 in
theorem rr_star_yes (bb off n cap at_ : Nat) (z : Nat → Nat) (w : World) (hr : Rd w (some ⟨bb, off, none⟩) n z) (hn : (n : Int) ≤ 1024) (ha : at_ < n) (hq : z at_ = 42) (h2 : at_ + 1 < n) (h3 : z (at_ + 1) = 63) : Calls Try.prog 91 #[.slice (some ⟨bb, off, none⟩) n cap, .int .i64 (at_ : Nat)] w (RetP w (tokV 7 0 0 0 0 0 false 0 (-1) true 0) ((at_ : Int) + 1 + 1)) := by
  have t0 := cell2 hr at_ ha
  rw [hq] at t0
  have i1 : (at_ : Int) < (n : Int) := by omega
  have i0 : (at_ : Int) + 1 > 0 := by omega
  have i2 : (at_ : Int) + 1 < (n : Int) := by omega
  have t1 := cell2 hr (at_ + 1) h2
  have e63 : (((z (at_ + 1) : Nat) : Int) == 63) = true := by simp; omega
  clear hr hq h3 ha h2
  generalize z (at_ + 1) = q2 at *
  go_enter Try.func91, Try.ntmps91
  go_wp2
  exact bodyPost_ret (v := .tuple #[tokV 7 0 0 0 0 0 false 0 (-1) true 0, .int .i64 ((at_ : Int) + 1 + 1)]) (by simp [results, Try.results91, go_sem, tokV]) rfl ⟨rfl, bel2 _ _ _⟩
set_option maxRecDepth 10000 in
set_option maxHeartbeats 1000000 in
theorem rr_star_no (bb off n cap at_ : Nat) (z : Nat → Nat) (w : World) (hr : Rd w (some ⟨bb, off, none⟩) n z) (hn : (n : Int) ≤ 1024) (ha : at_ < n) (hq : z at_ = 42) (h2 : at_ + 1 < n) (h3 : z (at_ + 1) ≠ 63) : Calls Try.prog 91 #[.slice (some ⟨bb, off, none⟩) n cap, .int .i64 (at_ : Nat)] w (RetP w (tokV 7 0 0 0 0 0 false 0 (-1) false 0) ((at_ : Int) + 1)) := by
  have t0 := cell2 hr at_ ha
  rw [hq] at t0
  have i1 : (at_ : Int) < (n : Int) := by omega
  have i0 : (at_ : Int) + 1 > 0 := by omega
  have i2 : (at_ : Int) + 1 < (n : Int) := by omega
  have t1 := cell2 hr (at_ + 1) h2
  have e63 : (((z (at_ + 1) : Nat) : Int) == 63) = false := by rw [beq_eq_false_iff_ne]; omega
  clear hr hq h3 ha h2
  generalize z (at_ + 1) = q2 at *
  go_enter Try.func91, Try.ntmps91
  go_wp2
  exact bodyPost_ret (v := .tuple #[tokV 7 0 0 0 0 0 false 0 (-1) false 0, .int .i64 ((at_ : Int) + 1)]) (by simp [results, Try.results91, go_sem, tokV]) rfl ⟨rfl, bel2 _ _ _⟩
set_option maxRecDepth 10000 in
set_option maxHeartbeats 1000000 in
theorem rr_star_end (bb off n cap at_ : Nat) (z : Nat → Nat) (w : World) (hr : Rd w (some ⟨bb, off, none⟩) n z) (hn : (n : Int) ≤ 1024) (ha : at_ < n) (hq : z at_ = 42) (h2 : ¬ at_ + 1 < n) : Calls Try.prog 91 #[.slice (some ⟨bb, off, none⟩) n cap, .int .i64 (at_ : Nat)] w (RetP w (tokV 7 0 0 0 0 0 false 0 (-1) false 0) ((at_ : Int) + 1)) := by
  have t0 := cell2 hr at_ ha
  rw [hq] at t0
  have i1 : (at_ : Int) < (n : Int) := by omega
  have i0 : (at_ : Int) + 1 > 0 := by omega
  have i2 : ¬ ((at_ : Int) + 1 < (n : Int)) := by omega
  clear hr hq ha h2
  go_enter Try.func91, Try.ntmps91
  go_wp2
  exact bodyPost_ret (v := .tuple #[tokV 7 0 0 0 0 0 false 0 (-1) false 0, .int .i64 ((at_ : Int) + 1)]) (by simp [results, Try.results91, go_sem, tokV]) rfl ⟨rfl, bel2 _ _ _⟩
set_option maxRecDepth 10000 in
set_option maxHeartbeats 1000000 in
theorem rr_quest_yes (bb off n cap at_ : Nat) (z : Nat → Nat) (w : World) (hr : Rd w (some ⟨bb, off, none⟩) n z) (hn : (n : Int) ≤ 1024) (ha : at_ < n) (hq : z at_ = 63) (h2 : at_ + 1 < n) (h3 : z (at_ + 1) = 63) : Calls Try.prog 91 #[.slice (some ⟨bb, off, none⟩) n cap, .int .i64 (at_ : Nat)] w (RetP w (tokV 7 0 0 0 0 0 false 0 1 true 0) ((at_ : Int) + 1 + 1)) := by
  have t0 := cell2 hr at_ ha
  rw [hq] at t0
  have i1 : (at_ : Int) < (n : Int) := by omega
  have i0 : (at_ : Int) + 1 > 0 := by omega
  have i2 : (at_ : Int) + 1 < (n : Int) := by omega
  have t1 := cell2 hr (at_ + 1) h2
  have e63 : (((z (at_ + 1) : Nat) : Int) == 63) = true := by simp; omega
  clear hr hq h3 ha h2
  generalize z (at_ + 1) = q2 at *
  go_enter Try.func91, Try.ntmps91
  go_wp2
  exact bodyPost_ret (v := .tuple #[tokV 7 0 0 0 0 0 false 0 1 true 0, .int .i64 ((at_ : Int) + 1 + 1)]) (by simp [results, Try.results91, go_sem, tokV]) rfl ⟨rfl, bel2 _ _ _⟩
set_option maxRecDepth 10000 in
set_option maxHeartbeats 1000000 in
theorem rr_quest_no (bb off n cap at_ : Nat) (z : Nat → Nat) (w : World) (hr : Rd w (some ⟨bb, off, none⟩) n z) (hn : (n : Int) ≤ 1024) (ha : at_ < n) (hq : z at_ = 63) (h2 : at_ + 1 < n) (h3 : z (at_ + 1) ≠ 63) : Calls Try.prog 91 #[.slice (some ⟨bb, off, none⟩) n cap, .int .i64 (at_ : Nat)] w (RetP w (tokV 7 0 0 0 0 0 false 0 1 false 0) ((at_ : Int) + 1)) := by
  have t0 := cell2 hr at_ ha
  rw [hq] at t0
  have i1 : (at_ : Int) < (n : Int) := by omega
  have i0 : (at_ : Int) + 1 > 0 := by omega
  have i2 : (at_ : Int) + 1 < (n : Int) := by omega
  have t1 := cell2 hr (at_ + 1) h2
  have e63 : (((z (at_ + 1) : Nat) : Int) == 63) = false := by rw [beq_eq_false_iff_ne]; omega
  clear hr hq h3 ha h2
  generalize z (at_ + 1) = q2 at *
  go_enter Try.func91, Try.ntmps91
  go_wp2
  exact bodyPost_ret (v := .tuple #[tokV 7 0 0 0 0 0 false 0 1 false 0, .int .i64 ((at_ : Int) + 1)]) (by simp [results, Try.results91, go_sem, tokV]) rfl ⟨rfl, bel2 _ _ _⟩
set_option maxRecDepth 10000 in
set_option maxHeartbeats 1000000 in
theorem rr_quest_end (bb off n cap at_ : Nat) (z : Nat → Nat) (w : World) (hr : Rd w (some ⟨bb, off, none⟩) n z) (hn : (n : Int) ≤ 1024) (ha : at_ < n) (hq : z at_ = 63) (h2 : ¬ at_ + 1 < n) : Calls Try.prog 91 #[.slice (some ⟨bb, off, none⟩) n cap, .int .i64 (at_ : Nat)] w (RetP w (tokV 7 0 0 0 0 0 false 0 1 false 0) ((at_ : Int) + 1)) := by
  have t0 := cell2 hr at_ ha
  rw [hq] at t0
  have i1 : (at_ : Int) < (n : Int) := by omega
  have i0 : (at_ : Int) + 1 > 0 := by omega
  have i2 : ¬ ((at_ : Int) + 1 < (n : Int)) := by omega
  clear hr hq ha h2
  go_enter Try.func91, Try.ntmps91
  go_wp2
  exact bodyPost_ret (v := .tuple #[tokV 7 0 0 0 0 0 false 0 1 false 0, .int .i64 ((at_ : Int) + 1)]) (by simp [results, Try.results91, go_sem, tokV]) rfl ⟨rfl, bel2 _ _ _⟩
set_option maxRecDepth 20000 in
set_option maxHeartbeats 2000000 in
theorem rr_count_bad (bb off n cap at_ : Nat) (z : Nat → Nat) (w : World) (hr : Rd w (some ⟨bb, off, none⟩) n z) (hn : (n : Int) ≤ 1024) (ha : at_ < n) (hq : z at_ = 123) (HC : Hid (∀ W, Below w.heap.size w W → Calls Try.prog 113 #[.slice (some ⟨bb, off, none⟩) n cap, .int .i64 (at_ : Nat)] W fun e w' => e = .returned (.tuple #[.agg #[.int .i64 0, .int .u8 0, .int .u64 0, .int .u64 0, .int .u64 0, .int .u64 0, .bool false, .int .i64 0, .int .i64 0, .bool false, .int .i64 0], .int .i64 0]) ∧ Below W.heap.size W w')) : Calls Try.prog 91 #[.slice (some ⟨bb, off, none⟩) n cap, .int .i64 (at_ : Nat)] w (RetP w (tokV 0 0 0 0 0 0 false 0 0 false 0) 0) := by
  have t0 := cell2 hr at_ ha
  rw [hq] at t0
  have i1 : (at_ : Int) < (n : Int) := by omega
  clear hr hq ha
  go_enter Try.func91, Try.ntmps91
  go_wp2_with fail
  refine (HC.out _ (bel2 _ _ _)).mono ?_
  rintro e w1 ⟨rfl, hb⟩
  have k0 := (dl0 w (.cells #[.int .i64 7, .int .u8 0, .int .u64 0, .int .u64 0, .int .u64 0, .int .u64 0, .bool false, .int .i64 0, .int .i64 (-1), .bool false, .int .i64 0] 42)).below hb
  have k1 := (Cl.new (w.alloc (.cells #[.int .i64 0, .int .u8 0, .int .u64 0, .int .u64 0, .int .u64 0, .int .u64 0, .bool false, .int .i64 0, .int .i64 0, .bool false, .int .i64 0] 42)) 42 [.int .i64 7, .int .u8 0, .int .u64 0, .int .u64 0, .int .u64 0, .int .u64 0, .bool false, .int .i64 0, .int .i64 (-1), .bool false, .int .i64 0])
  rw [World.size_alloc] at k1
  replace k1 := k1.below hb
  have hB1 : Below w.heap.size w w1 := (bel2 w _ _).trans (hb.mono (by simp; omega))
  obtain ⟨⟨b0, b1, b2, b3, b4, b5, b6, b7, b8, b9, b10⟩, g0, g1, g2, g3, g4, g5, g6, g7, g8, g9, g10⟩ := k1.eleven
  have vb := below_put11 (b := w.heap.size + 1) hB1 (by omega) (.int .i64 0) (.int .u8 0) (.int .u64 0) (.int .u64 0) (.int .u64 0) (.int .u64 0) (.bool false) (.int .i64 0) (.int .i64 0) (.bool false) (.int .i64 0)
  have v1 := k1.put11 (.int .i64 0) (.int .u8 0) (.int .u64 0) (.int .u64 0) (.int .u64 0) (.int .u64 0) (.bool false) (.int .i64 0) (.int .i64 0) (.bool false) (.int .i64 0)
  have v0 := k0.others11 (k := w.heap.size + 1) (by omega) (.int .i64 0) (.int .u8 0) (.int .u64 0) (.int .u64 0) (.int .u64 0) (.int .u64 0) (.bool false) (.int .i64 0) (.int .i64 0) (.bool false) (.int .i64 0)
  obtain ⟨y0, y1, y2, y3, y4, y5, y6, y7, y8, y9, y10⟩ := v1.eleven.1
  obtain ⟨⟨m0, m1, m2, m3, m4, m5, m6, m7, m8, m9, m10⟩, n0, n1, n2, n3, n4, n5, n6, n7, n8, n9, n10⟩ := v0.eleven
  have F := (v0.put11 (.int .i64 0) (.int .u8 0) (.int .u64 0) (.int .u64 0) (.int .u64 0) (.int .u64 0) (.bool false) (.int .i64 0) (.int .i64 0) (.bool false) (.int .i64 0)).eleven.1
  have hB4 := below_put11 (b := w.heap.size) vb (Nat.le_refl _) (.int .i64 0) (.int .u8 0) (.int .u64 0) (.int .u64 0) (.int .u64 0) (.int .u64 0) (.bool false) (.int .i64 0) (.int .i64 0) (.bool false) (.int .i64 0)
  simp only [put11] at F hB4 y0 y1 y2 y3 y4 y5 y6 y7 y8 y9 y10 m0 m1 m2 m3 m4 m5 m6 m7 m8 m9 m10 n0 n1 n2 n3 n4 n5 n6 n7 n8 n9 n10
  obtain ⟨F0, F1, F2, F3, F4, F5, F6, F7, F8, F9, F10⟩ := F
  have HF : Hid (Below w.heap.size w _) := hB4
  clear hB4 v0 v1 vb k0 k1 hb t0 hB1 HC
  go_wp2
  exact bodyPost_ret (v := .tuple #[tokV 0 0 0 0 0 0 false 0 0 false 0, .int .i64 0]) (by simp [results, Try.results91, go_sem, tokV, F0, F1, F2, F3, F4, F5, F6, F7, F8, F9, F10]) rfl ⟨rfl, HF.out⟩
set_option maxRecDepth 20000 in
set_option maxHeartbeats 2000000 in
theorem rr_count_yes (bb off n cap at_ : Nat) (z : Nat → Nat) (w : World) (hr : Rd w (some ⟨bb, off, none⟩) n z) (hn : (n : Int) ≤ 1024) (ha : at_ < n) (hq : z at_ = 123) (l m : Int) (en : Nat) (h0 : 0 < en) (h2 : en < n) (h3 : z en = 63) (HC : Hid (∀ W, Below w.heap.size w W → Calls Try.prog 113 #[.slice (some ⟨bb, off, none⟩) n cap, .int .i64 (at_ : Nat)] W fun e w' => e = .returned (.tuple #[.agg #[.int .i64 7, .int .u8 0, .int .u64 0, .int .u64 0, .int .u64 0, .int .u64 0, .bool false, .int .i64 l, .int .i64 m, .bool false, .int .i64 0], .int .i64 (en : Nat)]) ∧ Below W.heap.size W w')) : Calls Try.prog 91 #[.slice (some ⟨bb, off, none⟩) n cap, .int .i64 (at_ : Nat)] w (RetP w (tokV 7 0 0 0 0 0 false l m true 0) ((en : Int) + 1)) := by
  have t0 := cell2 hr at_ ha
  rw [hq] at t0
  have i1 : (at_ : Int) < (n : Int) := by omega
  have i3 : (en : Int) ≤ 1024 := by omega
  have i2 : (en : Int) < (n : Int) := by omega
  have e63 : (((z en : Nat) : Int) == 63) = true := by simp; omega
  have HCB : Hid (∀ W, Below w.heap.size w W → W.cell? ⟨bb, off + en, none⟩ = some (.int .u8 (z en : Nat))) := fun W hb => by
    obtain ⟨b', o', e, hlt, hc⟩ := hr.at_ (by omega)
    cases e
    rw [hb.cell (p := ⟨bb, off + en, none⟩) hlt]; exact hc en h2
  clear hr hq ha h2 h3
  generalize z en = q2 at *
  go_enter Try.func91, Try.ntmps91
  go_wp2_with fail
  refine (HC.out _ (bel2 _ _ _)).mono ?_
  rintro e w1 ⟨rfl, hb⟩
  have k0 := (dl0 w (.cells #[.int .i64 7, .int .u8 0, .int .u64 0, .int .u64 0, .int .u64 0, .int .u64 0, .bool false, .int .i64 0, .int .i64 (-1), .bool false, .int .i64 0] 42)).below hb
  have k1 := (Cl.new (w.alloc (.cells #[.int .i64 0, .int .u8 0, .int .u64 0, .int .u64 0, .int .u64 0, .int .u64 0, .bool false, .int .i64 0, .int .i64 0, .bool false, .int .i64 0] 42)) 42 [.int .i64 7, .int .u8 0, .int .u64 0, .int .u64 0, .int .u64 0, .int .u64 0, .bool false, .int .i64 0, .int .i64 (-1), .bool false, .int .i64 0])
  rw [World.size_alloc] at k1
  replace k1 := k1.below hb
  have hB1 : Below w.heap.size w w1 := (bel2 w _ _).trans (hb.mono (by simp; omega))
  obtain ⟨⟨b0, b1, b2, b3, b4, b5, b6, b7, b8, b9, b10⟩, g0, g1, g2, g3, g4, g5, g6, g7, g8, g9, g10⟩ := k1.eleven
  have vb := below_put11 (b := w.heap.size + 1) hB1 (by omega) (.int .i64 7) (.int .u8 0) (.int .u64 0) (.int .u64 0) (.int .u64 0) (.int .u64 0) (.bool false) (.int .i64 l) (.int .i64 m) (.bool false) (.int .i64 0)
  have v1 := k1.put11 (.int .i64 7) (.int .u8 0) (.int .u64 0) (.int .u64 0) (.int .u64 0) (.int .u64 0) (.bool false) (.int .i64 l) (.int .i64 m) (.bool false) (.int .i64 0)
  have v0 := k0.others11 (k := w.heap.size + 1) (by omega) (.int .i64 7) (.int .u8 0) (.int .u64 0) (.int .u64 0) (.int .u64 0) (.int .u64 0) (.bool false) (.int .i64 l) (.int .i64 m) (.bool false) (.int .i64 0)
  have u0 := HCB.out _ vb
  obtain ⟨⟨-, -, -, -, -, -, -, -, -, p9, -⟩, -, -, -, -, -, -, -, -, -, q9, -⟩ := v1.eleven
  replace v1 := v1.set 9 (.bool true)
  replace v0 := v0.other (k := w.heap.size + 1) (by omega) 9 (.bool true)
  replace vb := vb.setCell (p := ⟨w.heap.size + 1, 9, none⟩) (by show w.heap.size ≤ w.heap.size + 1; omega) (.bool true)
  obtain ⟨y0, y1, y2, y3, y4, y5, y6, y7, y8, y9, y10⟩ := v1.eleven.1
  obtain ⟨⟨m0, m1, m2, m3, m4, m5, m6, m7, m8, m9, m10⟩, n0, n1, n2, n3, n4, n5, n6, n7, n8, n9, n10⟩ := v0.eleven
  have F := (v0.put11 (.int .i64 7) (.int .u8 0) (.int .u64 0) (.int .u64 0) (.int .u64 0) (.int .u64 0) (.bool false) (.int .i64 l) (.int .i64 m) (.bool true) (.int .i64 0)).eleven.1
  have hB4 := below_put11 (b := w.heap.size) vb (Nat.le_refl _) (.int .i64 7) (.int .u8 0) (.int .u64 0) (.int .u64 0) (.int .u64 0) (.int .u64 0) (.bool false) (.int .i64 l) (.int .i64 m) (.bool true) (.int .i64 0)
  simp only [put11] at F hB4 y0 y1 y2 y3 y4 y5 y6 y7 y8 y9 y10 m0 m1 m2 m3 m4 m5 m6 m7 m8 m9 m10 n0 n1 n2 n3 n4 n5 n6 n7 n8 n9 n10 u0 p9 q9
  obtain ⟨F0, F1, F2, F3, F4, F5, F6, F7, F8, F9, F10⟩ := F
  have HF : Hid (Below w.heap.size w _) := hB4
  clear hB4 v0 v1 vb k0 k1 hb t0 hB1 HC HCB
  go_wp2
  exact bodyPost_ret (v := .tuple #[tokV 7 0 0 0 0 0 false l m true 0, .int .i64 ((en : Int) + 1)]) (by simp [results, Try.results91, go_sem, tokV, F0, F1, F2, F3, F4, F5, F6, F7, F8, F9, F10]) rfl ⟨rfl, HF.out⟩
set_option maxRecDepth 20000 in
set_option maxHeartbeats 2000000 in
theorem rr_count_no (bb off n cap at_ : Nat) (z : Nat → Nat) (w : World) (hr : Rd w (some ⟨bb, off, none⟩) n z) (hn : (n : Int) ≤ 1024) (ha : at_ < n) (hq : z at_ = 123) (l m : Int) (en : Nat) (h0 : 0 < en) (h2 : en < n) (h3 : z en ≠ 63) (HC : Hid (∀ W, Below w.heap.size w W → Calls Try.prog 113 #[.slice (some ⟨bb, off, none⟩) n cap, .int .i64 (at_ : Nat)] W fun e w' => e = .returned (.tuple #[.agg #[.int .i64 7, .int .u8 0, .int .u64 0, .int .u64 0, .int .u64 0, .int .u64 0, .bool false, .int .i64 l, .int .i64 m, .bool false, .int .i64 0], .int .i64 (en : Nat)]) ∧ Below W.heap.size W w')) : Calls Try.prog 91 #[.slice (some ⟨bb, off, none⟩) n cap, .int .i64 (at_ : Nat)] w (RetP w (tokV 7 0 0 0 0 0 false l m false 0) (en : Int)) := by
  have t0 := cell2 hr at_ ha
  rw [hq] at t0
  have i1 : (at_ : Int) < (n : Int) := by omega
  have i3 : (en : Int) ≤ 1024 := by omega
  have i2 : (en : Int) < (n : Int) := by omega
  have e63 : (((z en : Nat) : Int) == 63) = false := by rw [beq_eq_false_iff_ne]; omega
  have HCB : Hid (∀ W, Below w.heap.size w W → W.cell? ⟨bb, off + en, none⟩ = some (.int .u8 (z en : Nat))) := fun W hb => by
    obtain ⟨b', o', e, hlt, hc⟩ := hr.at_ (by omega)
    cases e
    rw [hb.cell (p := ⟨bb, off + en, none⟩) hlt]; exact hc en h2
  clear hr hq ha h2 h3
  generalize z en = q2 at *
  go_enter Try.func91, Try.ntmps91
  go_wp2_with fail
  refine (HC.out _ (bel2 _ _ _)).mono ?_
  rintro e w1 ⟨rfl, hb⟩
  have k0 := (dl0 w (.cells #[.int .i64 7, .int .u8 0, .int .u64 0, .int .u64 0, .int .u64 0, .int .u64 0, .bool false, .int .i64 0, .int .i64 (-1), .bool false, .int .i64 0] 42)).below hb
  have k1 := (Cl.new (w.alloc (.cells #[.int .i64 0, .int .u8 0, .int .u64 0, .int .u64 0, .int .u64 0, .int .u64 0, .bool false, .int .i64 0, .int .i64 0, .bool false, .int .i64 0] 42)) 42 [.int .i64 7, .int .u8 0, .int .u64 0, .int .u64 0, .int .u64 0, .int .u64 0, .bool false, .int .i64 0, .int .i64 (-1), .bool false, .int .i64 0])
  rw [World.size_alloc] at k1
  replace k1 := k1.below hb
  have hB1 : Below w.heap.size w w1 := (bel2 w _ _).trans (hb.mono (by simp; omega))
  obtain ⟨⟨b0, b1, b2, b3, b4, b5, b6, b7, b8, b9, b10⟩, g0, g1, g2, g3, g4, g5, g6, g7, g8, g9, g10⟩ := k1.eleven
  have vb := below_put11 (b := w.heap.size + 1) hB1 (by omega) (.int .i64 7) (.int .u8 0) (.int .u64 0) (.int .u64 0) (.int .u64 0) (.int .u64 0) (.bool false) (.int .i64 l) (.int .i64 m) (.bool false) (.int .i64 0)
  have v1 := k1.put11 (.int .i64 7) (.int .u8 0) (.int .u64 0) (.int .u64 0) (.int .u64 0) (.int .u64 0) (.bool false) (.int .i64 l) (.int .i64 m) (.bool false) (.int .i64 0)
  have v0 := k0.others11 (k := w.heap.size + 1) (by omega) (.int .i64 7) (.int .u8 0) (.int .u64 0) (.int .u64 0) (.int .u64 0) (.int .u64 0) (.bool false) (.int .i64 l) (.int .i64 m) (.bool false) (.int .i64 0)
  have u0 := HCB.out _ vb
  obtain ⟨y0, y1, y2, y3, y4, y5, y6, y7, y8, y9, y10⟩ := v1.eleven.1
  obtain ⟨⟨m0, m1, m2, m3, m4, m5, m6, m7, m8, m9, m10⟩, n0, n1, n2, n3, n4, n5, n6, n7, n8, n9, n10⟩ := v0.eleven
  have F := (v0.put11 (.int .i64 7) (.int .u8 0) (.int .u64 0) (.int .u64 0) (.int .u64 0) (.int .u64 0) (.bool false) (.int .i64 l) (.int .i64 m) (.bool false) (.int .i64 0)).eleven.1
  have hB4 := below_put11 (b := w.heap.size) vb (Nat.le_refl _) (.int .i64 7) (.int .u8 0) (.int .u64 0) (.int .u64 0) (.int .u64 0) (.int .u64 0) (.bool false) (.int .i64 l) (.int .i64 m) (.bool false) (.int .i64 0)
  simp only [put11] at F hB4 y0 y1 y2 y3 y4 y5 y6 y7 y8 y9 y10 m0 m1 m2 m3 m4 m5 m6 m7 m8 m9 m10 n0 n1 n2 n3 n4 n5 n6 n7 n8 n9 n10 u0
  obtain ⟨F0, F1, F2, F3, F4, F5, F6, F7, F8, F9, F10⟩ := F
  have HF : Hid (Below w.heap.size w _) := hB4
  clear hB4 v0 v1 vb k0 k1 hb t0 hB1 HC HCB
  go_wp2
  exact bodyPost_ret (v := .tuple #[tokV 7 0 0 0 0 0 false l m false 0, .int .i64 (en : Int)]) (by simp [results, Try.results91, go_sem, tokV, F0, F1, F2, F3, F4, F5, F6, F7, F8, F9, F10]) rfl ⟨rfl, HF.out⟩
set_option maxRecDepth 20000 in
set_option maxHeartbeats 2000000 in
theorem rr_count_end (bb off n cap at_ : Nat) (z : Nat → Nat) (w : World) (hr : Rd w (some ⟨bb, off, none⟩) n z) (hn : (n : Int) ≤ 1024) (ha : at_ < n) (hq : z at_ = 123) (l m : Int) (en : Nat) (h0 : 0 < en) (h2 : ¬ en < n) (h4 : en ≤ n) (HC : Hid (∀ W, Below w.heap.size w W → Calls Try.prog 113 #[.slice (some ⟨bb, off, none⟩) n cap, .int .i64 (at_ : Nat)] W fun e w' => e = .returned (.tuple #[.agg #[.int .i64 7, .int .u8 0, .int .u64 0, .int .u64 0, .int .u64 0, .int .u64 0, .bool false, .int .i64 l, .int .i64 m, .bool false, .int .i64 0], .int .i64 (en : Nat)]) ∧ Below W.heap.size W w')) : Calls Try.prog 91 #[.slice (some ⟨bb, off, none⟩) n cap, .int .i64 (at_ : Nat)] w (RetP w (tokV 7 0 0 0 0 0 false l m false 0) (en : Int)) := by
  have t0 := cell2 hr at_ ha
  rw [hq] at t0
  have i1 : (at_ : Int) < (n : Int) := by omega
  have i3 : (en : Int) ≤ 1024 := by omega
  have i2 : ¬ ((en : Int) < (n : Int)) := by omega
  clear hr hq ha h4
  go_enter Try.func91, Try.ntmps91
  go_wp2_with fail
  refine (HC.out _ (bel2 _ _ _)).mono ?_
  rintro e w1 ⟨rfl, hb⟩
  have k0 := (dl0 w (.cells #[.int .i64 7, .int .u8 0, .int .u64 0, .int .u64 0, .int .u64 0, .int .u64 0, .bool false, .int .i64 0, .int .i64 (-1), .bool false, .int .i64 0] 42)).below hb
  have k1 := (Cl.new (w.alloc (.cells #[.int .i64 0, .int .u8 0, .int .u64 0, .int .u64 0, .int .u64 0, .int .u64 0, .bool false, .int .i64 0, .int .i64 0, .bool false, .int .i64 0] 42)) 42 [.int .i64 7, .int .u8 0, .int .u64 0, .int .u64 0, .int .u64 0, .int .u64 0, .bool false, .int .i64 0, .int .i64 (-1), .bool false, .int .i64 0])
  rw [World.size_alloc] at k1
  replace k1 := k1.below hb
  have hB1 : Below w.heap.size w w1 := (bel2 w _ _).trans (hb.mono (by simp; omega))
  obtain ⟨⟨b0, b1, b2, b3, b4, b5, b6, b7, b8, b9, b10⟩, g0, g1, g2, g3, g4, g5, g6, g7, g8, g9, g10⟩ := k1.eleven
  have vb := below_put11 (b := w.heap.size + 1) hB1 (by omega) (.int .i64 7) (.int .u8 0) (.int .u64 0) (.int .u64 0) (.int .u64 0) (.int .u64 0) (.bool false) (.int .i64 l) (.int .i64 m) (.bool false) (.int .i64 0)
  have v1 := k1.put11 (.int .i64 7) (.int .u8 0) (.int .u64 0) (.int .u64 0) (.int .u64 0) (.int .u64 0) (.bool false) (.int .i64 l) (.int .i64 m) (.bool false) (.int .i64 0)
  have v0 := k0.others11 (k := w.heap.size + 1) (by omega) (.int .i64 7) (.int .u8 0) (.int .u64 0) (.int .u64 0) (.int .u64 0) (.int .u64 0) (.bool false) (.int .i64 l) (.int .i64 m) (.bool false) (.int .i64 0)
  obtain ⟨y0, y1, y2, y3, y4, y5, y6, y7, y8, y9, y10⟩ := v1.eleven.1
  obtain ⟨⟨m0, m1, m2, m3, m4, m5, m6, m7, m8, m9, m10⟩, n0, n1, n2, n3, n4, n5, n6, n7, n8, n9, n10⟩ := v0.eleven
  have F := (v0.put11 (.int .i64 7) (.int .u8 0) (.int .u64 0) (.int .u64 0) (.int .u64 0) (.int .u64 0) (.bool false) (.int .i64 l) (.int .i64 m) (.bool false) (.int .i64 0)).eleven.1
  have hB4 := below_put11 (b := w.heap.size) vb (Nat.le_refl _) (.int .i64 7) (.int .u8 0) (.int .u64 0) (.int .u64 0) (.int .u64 0) (.int .u64 0) (.bool false) (.int .i64 l) (.int .i64 m) (.bool false) (.int .i64 0)
  simp only [put11] at F hB4 y0 y1 y2 y3 y4 y5 y6 y7 y8 y9 y10 m0 m1 m2 m3 m4 m5 m6 m7 m8 m9 m10 n0 n1 n2 n3 n4 n5 n6 n7 n8 n9 n10
  obtain ⟨F0, F1, F2, F3, F4, F5, F6, F7, F8, F9, F10⟩ := F
  have HF : Hid (Below w.heap.size w _) := hB4
  clear hB4 v0 v1 vb k0 k1 hb t0 hB1 HC
  go_wp2
  exact bodyPost_ret (v := .tuple #[tokV 7 0 0 0 0 0 false l m false 0, .int .i64 (en : Int)]) (by simp [results, Try.results91, go_sem, tokV, F0, F1, F2, F3, F4, F5, F6, F7, F8, F9, F10]) rfl ⟨rfl, HF.out⟩
end Go.Proofs.Ytlmmiicibjfcdaa.X
