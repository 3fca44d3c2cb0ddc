/- The reference of token: escape: the walks. -/
import Derived.Test.YtlmmiicibjfcdaaQ32
import Derived.Test.YtlmmiicibjfcdaaQ34
namespace Go.Proofs.Ytlmmiicibjfcdaa.X
open Go.RowKit
theorem cell1 {bb off n : Nat} {z : Nat → Nat} {w : World} (hr : Rd w (some ⟨bb, off, none⟩) n z) (k : Nat) (hk : k < n) (o : Obj) : (w.alloc o).cell? ⟨bb, off + k, none⟩ = some (.int .u8 (z k : Nat)) := by
  obtain ⟨b', o', e, hlt, hc⟩ := hr.at_ (by omega)
  cases e
  rw [(bel1 w o).cell (p := ⟨bb, off + k, none⟩) hlt]; exact hc k hk
theorem aByte_v (b : Nat) (W : World) : Calls Try.prog 92 #[.int .u8 (b : Nat)] W fun e w' => e = .returned (tokV 1 b 0 0 0 0 false 0 0 false 0) ∧ Below W.heap.size W w' := by
  have := aByte_any b W
  unfold RetA at this
  rw [tokOf_none _ rfl] at this
  exact this
theorem fl0 (w : World) : Cl (w.alloc (.cells #[.int .i64 0, .int .u8 0, .int .u64 0, .int .u64 0, .int .u64 0, .int .u64 0, .bool false, .int .i64 0, .int .i64 0, .bool false, .int .i64 0] 42)) w.heap.size 42 [.int .i64 0, .int .u8 0, .int .u64 0, .int .u64 0, .int .u64 0, .int .u64 0, .bool false, .int .i64 0, .int .i64 0, .bool false, .int .i64 0] := Cl.new w 42 _
set_option maxRecDepth 20000 in
set_option maxHeartbeats 2000000 in
theorem re_short (bb off n cap at_ : Nat) (w : World) (hn : (n : Int) ≤ 1024) (ha : at_ < n) (h1 : ¬ at_ + 1 < n) : Calls Try.prog 89 #[.slice (some ⟨bb, off, none⟩) n cap, .int .i64 (at_ : Nat)] w (RetP w (tokV 0 0 0 0 0 0 false 0 0 false 0) 0) := by
  have i2 : (at_ : Int) + 1 ≥ (n : Int) := by omega
  go_enter Try.func89, Try.ntmps89
  go_wp2
  exact bodyPost_ret (v := .tuple #[tokV 0 0 0 0 0 0 false 0 0 false 0, .int .i64 0]) (by simp [results, Try.results89, go_sem, tokV]) rfl ⟨rfl, bel1 _ _⟩
set_option maxRecDepth 20000 in
set_option maxHeartbeats 2000000 in
theorem re_c100 (bb off n cap at_ : Nat) (z : Nat → Nat) (w : World) (hr : Rd w (some ⟨bb, off, none⟩) n z) (hn : (n : Int) ≤ 1024) (h1 : at_ + 1 < n) (hq : z (at_ + 1) = 100) : Calls Try.prog 89 #[.slice (some ⟨bb, off, none⟩) n cap, .int .i64 (at_ : Nat)] w (RetP w (tokV 2 0 (wds (rg 48 10) 0) (wds (rg 48 10) 1) (wds (rg 48 10) 2) (wds (rg 48 10) 3) false 0 0 false 0) ((at_ : Int) + 2)) := by
  have t0 := cell1 hr (at_ + 1) h1
  have i1 : (at_ : Int) + 1 < (n : Int) := by omega
  have i2 : ¬ ((at_ : Int) + 1 ≥ (n : Int)) := by omega
  rw [hq] at t0
  clear hr hq h1
  obtain ⟨a0, p0⟩ : ∃ a, wds (rg 48 10) 0 = a := ⟨_, rfl⟩
  obtain ⟨a1, p1⟩ : ∃ a, wds (rg 48 10) 1 = a := ⟨_, rfl⟩
  obtain ⟨a2, p2⟩ : ∃ a, wds (rg 48 10) 2 = a := ⟨_, rfl⟩
  obtain ⟨a3, p3⟩ : ∃ a, wds (rg 48 10) 3 = a := ⟨_, rfl⟩
  rw [p0, p1, p2, p3]
  have HT : Hid (tokOf (.cls (rg 48 10) false 0 0) = tokV 2 0 a0 a1 a2 a3 false 0 0 false 0) := by
    show tokOf (.cls (rg 48 10) false 0 0) = _
    rw [← p0, ← p1, ← p2, ← p3]; rfl
  clear p0 p1 p2 p3
  have k0 := fl0 w
  have hB0 : Below w.heap.size w (w.alloc (.cells #[.int .i64 0, .int .u8 0, .int .u64 0, .int .u64 0, .int .u64 0, .int .u64 0, .bool false, .int .i64 0, .int .i64 0, .bool false, .int .i64 0] 42)) := bel1 w _
  go_enter Try.func89, Try.ntmps89
  go_wp2_with fail
  refine (rdigit_any _).mono ?_
  rintro e w1 ⟨⟨x0, x1, x2, x3, rfl, h4⟩, hb⟩
  replace k0 := k0.below hb
  replace hB0 := hB0.trans (hb.mono hB0.size)
  clear hb t0
  go_wp2_with fail
  refine (aClass_any h4 _).mono ?_
  rintro e w1 ⟨rfl, hb⟩
  clear h4
  rw [HT.out]
  clear HT
  have k1 := k0.below hb
  obtain ⟨⟨b0, b1, b2, b3, b4, b5, b6, b7, b8, b9, b10⟩, g0, g1, g2, g3, g4, g5, g6, g7, g8, g9, g10⟩ := k1.eleven
  have F := (k1.put11 (.int .i64 2) (.int .u8 0) (.int .u64 (a0 : Nat)) (.int .u64 (a1 : Nat)) (.int .u64 (a2 : Nat)) (.int .u64 (a3 : Nat)) (.bool false) (.int .i64 0) (.int .i64 0) (.bool false) (.int .i64 0)).eleven.1
  have hB4 := below_put11 (b := w.heap.size) (hB0.trans (hb.mono hB0.size)) (Nat.le_refl _) (.int .i64 2) (.int .u8 0) (.int .u64 (a0 : Nat)) (.int .u64 (a1 : Nat)) (.int .u64 (a2 : Nat)) (.int .u64 (a3 : Nat)) (.bool false) (.int .i64 0) (.int .i64 0) (.bool false) (.int .i64 0)
  simp only [put11] at F hB4
  obtain ⟨F0, F1, F2, F3, F4, F5, F6, F7, F8, F9, F10⟩ := F
  have HF : Hid (Below w.heap.size w _) := hB4
  clear hB4 k0 k1 hb hB0
  simp only [tokV]
  go_wp2
  exact bodyPost_ret (v := .tuple #[tokV 2 0 a0 a1 a2 a3 false 0 0 false 0, .int .i64 ((at_ : Int) + 2)]) (by simp [results, Try.results89, go_sem, tokV, F0, F1, F2, F3, F4, F5, F6, F7, F8, F9, F10]) rfl ⟨rfl, HF.out⟩
set_option maxRecDepth 20000 in
set_option maxHeartbeats 2000000 in
theorem re_c119 (bb off n cap at_ : Nat) (z : Nat → Nat) (w : World) (hr : Rd w (some ⟨bb, off, none⟩) n z) (hn : (n : Int) ≤ 1024) (h1 : at_ + 1 < n) (hq : z (at_ + 1) = 119) : Calls Try.prog 89 #[.slice (some ⟨bb, off, none⟩) n cap, .int .i64 (at_ : Nat)] w (RetP w (tokV 2 0 (wds (wordP) 0) (wds (wordP) 1) (wds (wordP) 2) (wds (wordP) 3) false 0 0 false 0) ((at_ : Int) + 2)) := by
  have t0 := cell1 hr (at_ + 1) h1
  have i1 : (at_ : Int) + 1 < (n : Int) := by omega
  have i2 : ¬ ((at_ : Int) + 1 ≥ (n : Int)) := by omega
  rw [hq] at t0
  clear hr hq h1
  obtain ⟨a0, p0⟩ : ∃ a, wds (wordP) 0 = a := ⟨_, rfl⟩
  obtain ⟨a1, p1⟩ : ∃ a, wds (wordP) 1 = a := ⟨_, rfl⟩
  obtain ⟨a2, p2⟩ : ∃ a, wds (wordP) 2 = a := ⟨_, rfl⟩
  obtain ⟨a3, p3⟩ : ∃ a, wds (wordP) 3 = a := ⟨_, rfl⟩
  rw [p0, p1, p2, p3]
  have HT : Hid (tokOf (.cls (wordP) false 0 0) = tokV 2 0 a0 a1 a2 a3 false 0 0 false 0) := by
    show tokOf (.cls (wordP) false 0 0) = _
    rw [← p0, ← p1, ← p2, ← p3]; rfl
  clear p0 p1 p2 p3
  have k0 := fl0 w
  have hB0 : Below w.heap.size w (w.alloc (.cells #[.int .i64 0, .int .u8 0, .int .u64 0, .int .u64 0, .int .u64 0, .int .u64 0, .bool false, .int .i64 0, .int .i64 0, .bool false, .int .i64 0] 42)) := bel1 w _
  go_enter Try.func89, Try.ntmps89
  go_wp2_with fail
  refine (rword_any _).mono ?_
  rintro e w1 ⟨⟨x0, x1, x2, x3, rfl, h4⟩, hb⟩
  replace k0 := k0.below hb
  replace hB0 := hB0.trans (hb.mono hB0.size)
  clear hb t0
  go_wp2_with fail
  refine (aClass_any h4 _).mono ?_
  rintro e w1 ⟨rfl, hb⟩
  clear h4
  rw [HT.out]
  clear HT
  have k1 := k0.below hb
  obtain ⟨⟨b0, b1, b2, b3, b4, b5, b6, b7, b8, b9, b10⟩, g0, g1, g2, g3, g4, g5, g6, g7, g8, g9, g10⟩ := k1.eleven
  have F := (k1.put11 (.int .i64 2) (.int .u8 0) (.int .u64 (a0 : Nat)) (.int .u64 (a1 : Nat)) (.int .u64 (a2 : Nat)) (.int .u64 (a3 : Nat)) (.bool false) (.int .i64 0) (.int .i64 0) (.bool false) (.int .i64 0)).eleven.1
  have hB4 := below_put11 (b := w.heap.size) (hB0.trans (hb.mono hB0.size)) (Nat.le_refl _) (.int .i64 2) (.int .u8 0) (.int .u64 (a0 : Nat)) (.int .u64 (a1 : Nat)) (.int .u64 (a2 : Nat)) (.int .u64 (a3 : Nat)) (.bool false) (.int .i64 0) (.int .i64 0) (.bool false) (.int .i64 0)
  simp only [put11] at F hB4
  obtain ⟨F0, F1, F2, F3, F4, F5, F6, F7, F8, F9, F10⟩ := F
  have HF : Hid (Below w.heap.size w _) := hB4
  clear hB4 k0 k1 hb hB0
  simp only [tokV]
  go_wp2
  exact bodyPost_ret (v := .tuple #[tokV 2 0 a0 a1 a2 a3 false 0 0 false 0, .int .i64 ((at_ : Int) + 2)]) (by simp [results, Try.results89, go_sem, tokV, F0, F1, F2, F3, F4, F5, F6, F7, F8, F9, F10]) rfl ⟨rfl, HF.out⟩
set_option maxRecDepth 20000 in
set_option maxHeartbeats 2000000 in
theorem re_c115 (bb off n cap at_ : Nat) (z : Nat → Nat) (w : World) (hr : Rd w (some ⟨bb, off, none⟩) n z) (hn : (n : Int) ≤ 1024) (h1 : at_ + 1 < n) (hq : z (at_ + 1) = 115) : Calls Try.prog 89 #[.slice (some ⟨bb, off, none⟩) n cap, .int .i64 (at_ : Nat)] w (RetP w (tokV 2 0 (wds (spaceP) 0) (wds (spaceP) 1) (wds (spaceP) 2) (wds (spaceP) 3) false 0 0 false 0) ((at_ : Int) + 2)) := by
  have t0 := cell1 hr (at_ + 1) h1
  have i1 : (at_ : Int) + 1 < (n : Int) := by omega
  have i2 : ¬ ((at_ : Int) + 1 ≥ (n : Int)) := by omega
  rw [hq] at t0
  clear hr hq h1
  obtain ⟨a0, p0⟩ : ∃ a, wds (spaceP) 0 = a := ⟨_, rfl⟩
  obtain ⟨a1, p1⟩ : ∃ a, wds (spaceP) 1 = a := ⟨_, rfl⟩
  obtain ⟨a2, p2⟩ : ∃ a, wds (spaceP) 2 = a := ⟨_, rfl⟩
  obtain ⟨a3, p3⟩ : ∃ a, wds (spaceP) 3 = a := ⟨_, rfl⟩
  rw [p0, p1, p2, p3]
  have HT : Hid (tokOf (.cls (spaceP) false 0 0) = tokV 2 0 a0 a1 a2 a3 false 0 0 false 0) := by
    show tokOf (.cls (spaceP) false 0 0) = _
    rw [← p0, ← p1, ← p2, ← p3]; rfl
  clear p0 p1 p2 p3
  have k0 := fl0 w
  have hB0 : Below w.heap.size w (w.alloc (.cells #[.int .i64 0, .int .u8 0, .int .u64 0, .int .u64 0, .int .u64 0, .int .u64 0, .bool false, .int .i64 0, .int .i64 0, .bool false, .int .i64 0] 42)) := bel1 w _
  go_enter Try.func89, Try.ntmps89
  go_wp2_with fail
  refine (rspace_any _).mono ?_
  rintro e w1 ⟨⟨x0, x1, x2, x3, rfl, h4⟩, hb⟩
  replace k0 := k0.below hb
  replace hB0 := hB0.trans (hb.mono hB0.size)
  clear hb t0
  go_wp2_with fail
  refine (aClass_any h4 _).mono ?_
  rintro e w1 ⟨rfl, hb⟩
  clear h4
  rw [HT.out]
  clear HT
  have k1 := k0.below hb
  obtain ⟨⟨b0, b1, b2, b3, b4, b5, b6, b7, b8, b9, b10⟩, g0, g1, g2, g3, g4, g5, g6, g7, g8, g9, g10⟩ := k1.eleven
  have F := (k1.put11 (.int .i64 2) (.int .u8 0) (.int .u64 (a0 : Nat)) (.int .u64 (a1 : Nat)) (.int .u64 (a2 : Nat)) (.int .u64 (a3 : Nat)) (.bool false) (.int .i64 0) (.int .i64 0) (.bool false) (.int .i64 0)).eleven.1
  have hB4 := below_put11 (b := w.heap.size) (hB0.trans (hb.mono hB0.size)) (Nat.le_refl _) (.int .i64 2) (.int .u8 0) (.int .u64 (a0 : Nat)) (.int .u64 (a1 : Nat)) (.int .u64 (a2 : Nat)) (.int .u64 (a3 : Nat)) (.bool false) (.int .i64 0) (.int .i64 0) (.bool false) (.int .i64 0)
  simp only [put11] at F hB4
  obtain ⟨F0, F1, F2, F3, F4, F5, F6, F7, F8, F9, F10⟩ := F
  have HF : Hid (Below w.heap.size w _) := hB4
  clear hB4 k0 k1 hb hB0
  simp only [tokV]
  go_wp2
  exact bodyPost_ret (v := .tuple #[tokV 2 0 a0 a1 a2 a3 false 0 0 false 0, .int .i64 ((at_ : Int) + 2)]) (by simp [results, Try.results89, go_sem, tokV, F0, F1, F2, F3, F4, F5, F6, F7, F8, F9, F10]) rfl ⟨rfl, HF.out⟩
set_option maxRecDepth 20000 in
set_option maxHeartbeats 2000000 in
theorem re_c68 (bb off n cap at_ : Nat) (z : Nat → Nat) (w : World) (hr : Rd w (some ⟨bb, off, none⟩) n z) (hn : (n : Int) ≤ 1024) (h1 : at_ + 1 < n) (hq : z (at_ + 1) = 68) : Calls Try.prog 89 #[.slice (some ⟨bb, off, none⟩) n cap, .int .i64 (at_ : Nat)] w (RetP w (tokV 2 0 (wds (fun x => !rg 48 10 x) 0) (wds (fun x => !rg 48 10 x) 1) (wds (fun x => !rg 48 10 x) 2) (wds (fun x => !rg 48 10 x) 3) false 0 0 false 0) ((at_ : Int) + 2)) := by
  have t0 := cell1 hr (at_ + 1) h1
  have i1 : (at_ : Int) + 1 < (n : Int) := by omega
  have i2 : ¬ ((at_ : Int) + 1 ≥ (n : Int)) := by omega
  rw [hq] at t0
  clear hr hq h1
  obtain ⟨a0, p0⟩ : ∃ a, wds (fun x => !rg 48 10 x) 0 = a := ⟨_, rfl⟩
  obtain ⟨a1, p1⟩ : ∃ a, wds (fun x => !rg 48 10 x) 1 = a := ⟨_, rfl⟩
  obtain ⟨a2, p2⟩ : ∃ a, wds (fun x => !rg 48 10 x) 2 = a := ⟨_, rfl⟩
  obtain ⟨a3, p3⟩ : ∃ a, wds (fun x => !rg 48 10 x) 3 = a := ⟨_, rfl⟩
  rw [p0, p1, p2, p3]
  have HT : Hid (tokOf (.cls (fun x => !rg 48 10 x) false 0 0) = tokV 2 0 a0 a1 a2 a3 false 0 0 false 0) := by
    show tokOf (.cls (fun x => !rg 48 10 x) false 0 0) = _
    rw [← p0, ← p1, ← p2, ← p3]; rfl
  clear p0 p1 p2 p3
  have k0 := fl0 w
  have hB0 : Below w.heap.size w (w.alloc (.cells #[.int .i64 0, .int .u8 0, .int .u64 0, .int .u64 0, .int .u64 0, .int .u64 0, .bool false, .int .i64 0, .int .i64 0, .bool false, .int .i64 0] 42)) := bel1 w _
  go_enter Try.func89, Try.ntmps89
  go_wp2_with fail
  refine (rdigit_any _).mono ?_
  rintro e w1 ⟨⟨x0, x1, x2, x3, rfl, h4⟩, hb⟩
  replace k0 := k0.below hb
  replace hB0 := hB0.trans (hb.mono hB0.size)
  clear hb t0
  go_wp2_with fail
  refine (rnot_c h4 _).mono ?_
  rintro e w1 ⟨⟨y0, y1, y2, y3, rfl, h4'⟩, hb⟩
  replace k0 := k0.below hb
  replace hB0 := hB0.trans (hb.mono hB0.size)
  clear hb h4
  have h4 := h4'
  clear h4'
  go_wp2_with fail
  refine (aClass_any h4 _).mono ?_
  rintro e w1 ⟨rfl, hb⟩
  clear h4
  rw [HT.out]
  clear HT
  have k1 := k0.below hb
  obtain ⟨⟨b0, b1, b2, b3, b4, b5, b6, b7, b8, b9, b10⟩, g0, g1, g2, g3, g4, g5, g6, g7, g8, g9, g10⟩ := k1.eleven
  have F := (k1.put11 (.int .i64 2) (.int .u8 0) (.int .u64 (a0 : Nat)) (.int .u64 (a1 : Nat)) (.int .u64 (a2 : Nat)) (.int .u64 (a3 : Nat)) (.bool false) (.int .i64 0) (.int .i64 0) (.bool false) (.int .i64 0)).eleven.1
  have hB4 := below_put11 (b := w.heap.size) (hB0.trans (hb.mono hB0.size)) (Nat.le_refl _) (.int .i64 2) (.int .u8 0) (.int .u64 (a0 : Nat)) (.int .u64 (a1 : Nat)) (.int .u64 (a2 : Nat)) (.int .u64 (a3 : Nat)) (.bool false) (.int .i64 0) (.int .i64 0) (.bool false) (.int .i64 0)
  simp only [put11] at F hB4
  obtain ⟨F0, F1, F2, F3, F4, F5, F6, F7, F8, F9, F10⟩ := F
  have HF : Hid (Below w.heap.size w _) := hB4
  clear hB4 k0 k1 hb hB0
  simp only [tokV]
  go_wp2
  exact bodyPost_ret (v := .tuple #[tokV 2 0 a0 a1 a2 a3 false 0 0 false 0, .int .i64 ((at_ : Int) + 2)]) (by simp [results, Try.results89, go_sem, tokV, F0, F1, F2, F3, F4, F5, F6, F7, F8, F9, F10]) rfl ⟨rfl, HF.out⟩
set_option maxRecDepth 20000 in
set_option maxHeartbeats 2000000 in
theorem re_c87 (bb off n cap at_ : Nat) (z : Nat → Nat) (w : World) (hr : Rd w (some ⟨bb, off, none⟩) n z) (hn : (n : Int) ≤ 1024) (h1 : at_ + 1 < n) (hq : z (at_ + 1) = 87) : Calls Try.prog 89 #[.slice (some ⟨bb, off, none⟩) n cap, .int .i64 (at_ : Nat)] w (RetP w (tokV 2 0 (wds (fun x => !wordP x) 0) (wds (fun x => !wordP x) 1) (wds (fun x => !wordP x) 2) (wds (fun x => !wordP x) 3) false 0 0 false 0) ((at_ : Int) + 2)) := by
  have t0 := cell1 hr (at_ + 1) h1
  have i1 : (at_ : Int) + 1 < (n : Int) := by omega
  have i2 : ¬ ((at_ : Int) + 1 ≥ (n : Int)) := by omega
  rw [hq] at t0
  clear hr hq h1
  obtain ⟨a0, p0⟩ : ∃ a, wds (fun x => !wordP x) 0 = a := ⟨_, rfl⟩
  obtain ⟨a1, p1⟩ : ∃ a, wds (fun x => !wordP x) 1 = a := ⟨_, rfl⟩
  obtain ⟨a2, p2⟩ : ∃ a, wds (fun x => !wordP x) 2 = a := ⟨_, rfl⟩
  obtain ⟨a3, p3⟩ : ∃ a, wds (fun x => !wordP x) 3 = a := ⟨_, rfl⟩
  rw [p0, p1, p2, p3]
  have HT : Hid (tokOf (.cls (fun x => !wordP x) false 0 0) = tokV 2 0 a0 a1 a2 a3 false 0 0 false 0) := by
    show tokOf (.cls (fun x => !wordP x) false 0 0) = _
    rw [← p0, ← p1, ← p2, ← p3]; rfl
  clear p0 p1 p2 p3
  have k0 := fl0 w
  have hB0 : Below w.heap.size w (w.alloc (.cells #[.int .i64 0, .int .u8 0, .int .u64 0, .int .u64 0, .int .u64 0, .int .u64 0, .bool false, .int .i64 0, .int .i64 0, .bool false, .int .i64 0] 42)) := bel1 w _
  go_enter Try.func89, Try.ntmps89
  go_wp2_with fail
  refine (rword_any _).mono ?_
  rintro e w1 ⟨⟨x0, x1, x2, x3, rfl, h4⟩, hb⟩
  replace k0 := k0.below hb
  replace hB0 := hB0.trans (hb.mono hB0.size)
  clear hb t0
  go_wp2_with fail
  refine (rnot_c h4 _).mono ?_
  rintro e w1 ⟨⟨y0, y1, y2, y3, rfl, h4'⟩, hb⟩
  replace k0 := k0.below hb
  replace hB0 := hB0.trans (hb.mono hB0.size)
  clear hb h4
  have h4 := h4'
  clear h4'
  go_wp2_with fail
  refine (aClass_any h4 _).mono ?_
  rintro e w1 ⟨rfl, hb⟩
  clear h4
  rw [HT.out]
  clear HT
  have k1 := k0.below hb
  obtain ⟨⟨b0, b1, b2, b3, b4, b5, b6, b7, b8, b9, b10⟩, g0, g1, g2, g3, g4, g5, g6, g7, g8, g9, g10⟩ := k1.eleven
  have F := (k1.put11 (.int .i64 2) (.int .u8 0) (.int .u64 (a0 : Nat)) (.int .u64 (a1 : Nat)) (.int .u64 (a2 : Nat)) (.int .u64 (a3 : Nat)) (.bool false) (.int .i64 0) (.int .i64 0) (.bool false) (.int .i64 0)).eleven.1
  have hB4 := below_put11 (b := w.heap.size) (hB0.trans (hb.mono hB0.size)) (Nat.le_refl _) (.int .i64 2) (.int .u8 0) (.int .u64 (a0 : Nat)) (.int .u64 (a1 : Nat)) (.int .u64 (a2 : Nat)) (.int .u64 (a3 : Nat)) (.bool false) (.int .i64 0) (.int .i64 0) (.bool false) (.int .i64 0)
  simp only [put11] at F hB4
  obtain ⟨F0, F1, F2, F3, F4, F5, F6, F7, F8, F9, F10⟩ := F
  have HF : Hid (Below w.heap.size w _) := hB4
  clear hB4 k0 k1 hb hB0
  simp only [tokV]
  go_wp2
  exact bodyPost_ret (v := .tuple #[tokV 2 0 a0 a1 a2 a3 false 0 0 false 0, .int .i64 ((at_ : Int) + 2)]) (by simp [results, Try.results89, go_sem, tokV, F0, F1, F2, F3, F4, F5, F6, F7, F8, F9, F10]) rfl ⟨rfl, HF.out⟩
set_option maxRecDepth 20000 in
set_option maxHeartbeats 2000000 in
theorem re_c83 (bb off n cap at_ : Nat) (z : Nat → Nat) (w : World) (hr : Rd w (some ⟨bb, off, none⟩) n z) (hn : (n : Int) ≤ 1024) (h1 : at_ + 1 < n) (hq : z (at_ + 1) = 83) : Calls Try.prog 89 #[.slice (some ⟨bb, off, none⟩) n cap, .int .i64 (at_ : Nat)] w (RetP w (tokV 2 0 (wds (fun x => !spaceP x) 0) (wds (fun x => !spaceP x) 1) (wds (fun x => !spaceP x) 2) (wds (fun x => !spaceP x) 3) false 0 0 false 0) ((at_ : Int) + 2)) := by
  have t0 := cell1 hr (at_ + 1) h1
  have i1 : (at_ : Int) + 1 < (n : Int) := by omega
  have i2 : ¬ ((at_ : Int) + 1 ≥ (n : Int)) := by omega
  rw [hq] at t0
  clear hr hq h1
  obtain ⟨a0, p0⟩ : ∃ a, wds (fun x => !spaceP x) 0 = a := ⟨_, rfl⟩
  obtain ⟨a1, p1⟩ : ∃ a, wds (fun x => !spaceP x) 1 = a := ⟨_, rfl⟩
  obtain ⟨a2, p2⟩ : ∃ a, wds (fun x => !spaceP x) 2 = a := ⟨_, rfl⟩
  obtain ⟨a3, p3⟩ : ∃ a, wds (fun x => !spaceP x) 3 = a := ⟨_, rfl⟩
  rw [p0, p1, p2, p3]
  have HT : Hid (tokOf (.cls (fun x => !spaceP x) false 0 0) = tokV 2 0 a0 a1 a2 a3 false 0 0 false 0) := by
    show tokOf (.cls (fun x => !spaceP x) false 0 0) = _
    rw [← p0, ← p1, ← p2, ← p3]; rfl
  clear p0 p1 p2 p3
  have k0 := fl0 w
  have hB0 : Below w.heap.size w (w.alloc (.cells #[.int .i64 0, .int .u8 0, .int .u64 0, .int .u64 0, .int .u64 0, .int .u64 0, .bool false, .int .i64 0, .int .i64 0, .bool false, .int .i64 0] 42)) := bel1 w _
  go_enter Try.func89, Try.ntmps89
  go_wp2_with fail
  refine (rspace_any _).mono ?_
  rintro e w1 ⟨⟨x0, x1, x2, x3, rfl, h4⟩, hb⟩
  replace k0 := k0.below hb
  replace hB0 := hB0.trans (hb.mono hB0.size)
  clear hb t0
  go_wp2_with fail
  refine (rnot_c h4 _).mono ?_
  rintro e w1 ⟨⟨y0, y1, y2, y3, rfl, h4'⟩, hb⟩
  replace k0 := k0.below hb
  replace hB0 := hB0.trans (hb.mono hB0.size)
  clear hb h4
  have h4 := h4'
  clear h4'
  go_wp2_with fail
  refine (aClass_any h4 _).mono ?_
  rintro e w1 ⟨rfl, hb⟩
  clear h4
  rw [HT.out]
  clear HT
  have k1 := k0.below hb
  obtain ⟨⟨b0, b1, b2, b3, b4, b5, b6, b7, b8, b9, b10⟩, g0, g1, g2, g3, g4, g5, g6, g7, g8, g9, g10⟩ := k1.eleven
  have F := (k1.put11 (.int .i64 2) (.int .u8 0) (.int .u64 (a0 : Nat)) (.int .u64 (a1 : Nat)) (.int .u64 (a2 : Nat)) (.int .u64 (a3 : Nat)) (.bool false) (.int .i64 0) (.int .i64 0) (.bool false) (.int .i64 0)).eleven.1
  have hB4 := below_put11 (b := w.heap.size) (hB0.trans (hb.mono hB0.size)) (Nat.le_refl _) (.int .i64 2) (.int .u8 0) (.int .u64 (a0 : Nat)) (.int .u64 (a1 : Nat)) (.int .u64 (a2 : Nat)) (.int .u64 (a3 : Nat)) (.bool false) (.int .i64 0) (.int .i64 0) (.bool false) (.int .i64 0)
  simp only [put11] at F hB4
  obtain ⟨F0, F1, F2, F3, F4, F5, F6, F7, F8, F9, F10⟩ := F
  have HF : Hid (Below w.heap.size w _) := hB4
  clear hB4 k0 k1 hb hB0
  simp only [tokV]
  go_wp2
  exact bodyPost_ret (v := .tuple #[tokV 2 0 a0 a1 a2 a3 false 0 0 false 0, .int .i64 ((at_ : Int) + 2)]) (by simp [results, Try.results89, go_sem, tokV, F0, F1, F2, F3, F4, F5, F6, F7, F8, F9, F10]) rfl ⟨rfl, HF.out⟩
set_option maxRecDepth 20000 in
set_option maxHeartbeats 2000000 in
theorem re_b110 (bb off n cap at_ : Nat) (z : Nat → Nat) (w : World) (hr : Rd w (some ⟨bb, off, none⟩) n z) (hn : (n : Int) ≤ 1024) (h1 : at_ + 1 < n) (hq : z (at_ + 1) = 110) : Calls Try.prog 89 #[.slice (some ⟨bb, off, none⟩) n cap, .int .i64 (at_ : Nat)] w (RetP w (tokV 1 10 0 0 0 0 false 0 0 false 0) ((at_ : Int) + 2)) := by
  have t0 := cell1 hr (at_ + 1) h1
  have i1 : (at_ : Int) + 1 < (n : Int) := by omega
  have i2 : ¬ ((at_ : Int) + 1 ≥ (n : Int)) := by omega
  rw [hq] at t0
  clear hr hq h1
  have HB : Hid (∀ W, Calls Try.prog 92 #[.int .u8 10] W fun e w' => e = .returned (.agg #[.int .i64 1, .int .u8 10, .int .u64 0, .int .u64 0, .int .u64 0, .int .u64 0, .bool false, .int .i64 0, .int .i64 0, .bool false, .int .i64 0]) ∧ Below W.heap.size W w') := fun W => aByte_v 10 W
  have k0 := fl0 w
  have hB0 : Below w.heap.size w (w.alloc (.cells #[.int .i64 0, .int .u8 0, .int .u64 0, .int .u64 0, .int .u64 0, .int .u64 0, .bool false, .int .i64 0, .int .i64 0, .bool false, .int .i64 0] 42)) := bel1 w _
  go_enter Try.func89, Try.ntmps89
  go_wp2_with fail
  refine (HB.out _).mono ?_
  rintro e w1 ⟨rfl, hb⟩
  clear t0 HB
  have k1 := k0.below hb
  obtain ⟨⟨b0, b1, b2, b3, b4, b5, b6, b7, b8, b9, b10⟩, g0, g1, g2, g3, g4, g5, g6, g7, g8, g9, g10⟩ := k1.eleven
  have F := (k1.put11 (.int .i64 1) (.int .u8 10) (.int .u64 0) (.int .u64 0) (.int .u64 0) (.int .u64 0) (.bool false) (.int .i64 0) (.int .i64 0) (.bool false) (.int .i64 0)).eleven.1
  have hB4 := below_put11 (b := w.heap.size) (hB0.trans (hb.mono hB0.size)) (Nat.le_refl _) (.int .i64 1) (.int .u8 10) (.int .u64 0) (.int .u64 0) (.int .u64 0) (.int .u64 0) (.bool false) (.int .i64 0) (.int .i64 0) (.bool false) (.int .i64 0)
  simp only [put11] at F hB4
  obtain ⟨F0, F1, F2, F3, F4, F5, F6, F7, F8, F9, F10⟩ := F
  have HF : Hid (Below w.heap.size w _) := hB4
  clear hB4 k0 k1 hb hB0
  go_wp2
  exact bodyPost_ret (v := .tuple #[tokV 1 10 0 0 0 0 false 0 0 false 0, .int .i64 ((at_ : Int) + 2)]) (by simp [results, Try.results89, go_sem, tokV, F0, F1, F2, F3, F4, F5, F6, F7, F8, F9, F10]) rfl ⟨rfl, HF.out⟩
set_option maxRecDepth 20000 in
set_option maxHeartbeats 2000000 in
theorem re_b114 (bb off n cap at_ : Nat) (z : Nat → Nat) (w : World) (hr : Rd w (some ⟨bb, off, none⟩) n z) (hn : (n : Int) ≤ 1024) (h1 : at_ + 1 < n) (hq : z (at_ + 1) = 114) : Calls Try.prog 89 #[.slice (some ⟨bb, off, none⟩) n cap, .int .i64 (at_ : Nat)] w (RetP w (tokV 1 13 0 0 0 0 false 0 0 false 0) ((at_ : Int) + 2)) := by
  have t0 := cell1 hr (at_ + 1) h1
  have i1 : (at_ : Int) + 1 < (n : Int) := by omega
  have i2 : ¬ ((at_ : Int) + 1 ≥ (n : Int)) := by omega
  rw [hq] at t0
  clear hr hq h1
  have HB : Hid (∀ W, Calls Try.prog 92 #[.int .u8 13] W fun e w' => e = .returned (.agg #[.int .i64 1, .int .u8 13, .int .u64 0, .int .u64 0, .int .u64 0, .int .u64 0, .bool false, .int .i64 0, .int .i64 0, .bool false, .int .i64 0]) ∧ Below W.heap.size W w') := fun W => aByte_v 13 W
  have k0 := fl0 w
  have hB0 : Below w.heap.size w (w.alloc (.cells #[.int .i64 0, .int .u8 0, .int .u64 0, .int .u64 0, .int .u64 0, .int .u64 0, .bool false, .int .i64 0, .int .i64 0, .bool false, .int .i64 0] 42)) := bel1 w _
  go_enter Try.func89, Try.ntmps89
  go_wp2_with fail
  refine (HB.out _).mono ?_
  rintro e w1 ⟨rfl, hb⟩
  clear t0 HB
  have k1 := k0.below hb
  obtain ⟨⟨b0, b1, b2, b3, b4, b5, b6, b7, b8, b9, b10⟩, g0, g1, g2, g3, g4, g5, g6, g7, g8, g9, g10⟩ := k1.eleven
  have F := (k1.put11 (.int .i64 1) (.int .u8 13) (.int .u64 0) (.int .u64 0) (.int .u64 0) (.int .u64 0) (.bool false) (.int .i64 0) (.int .i64 0) (.bool false) (.int .i64 0)).eleven.1
  have hB4 := below_put11 (b := w.heap.size) (hB0.trans (hb.mono hB0.size)) (Nat.le_refl _) (.int .i64 1) (.int .u8 13) (.int .u64 0) (.int .u64 0) (.int .u64 0) (.int .u64 0) (.bool false) (.int .i64 0) (.int .i64 0) (.bool false) (.int .i64 0)
  simp only [put11] at F hB4
  obtain ⟨F0, F1, F2, F3, F4, F5, F6, F7, F8, F9, F10⟩ := F
  have HF : Hid (Below w.heap.size w _) := hB4
  clear hB4 k0 k1 hb hB0
  go_wp2
  exact bodyPost_ret (v := .tuple #[tokV 1 13 0 0 0 0 false 0 0 false 0, .int .i64 ((at_ : Int) + 2)]) (by simp [results, Try.results89, go_sem, tokV, F0, F1, F2, F3, F4, F5, F6, F7, F8, F9, F10]) rfl ⟨rfl, HF.out⟩
set_option maxRecDepth 20000 in
set_option maxHeartbeats 2000000 in
theorem re_b116 (bb off n cap at_ : Nat) (z : Nat → Nat) (w : World) (hr : Rd w (some ⟨bb, off, none⟩) n z) (hn : (n : Int) ≤ 1024) (h1 : at_ + 1 < n) (hq : z (at_ + 1) = 116) : Calls Try.prog 89 #[.slice (some ⟨bb, off, none⟩) n cap, .int .i64 (at_ : Nat)] w (RetP w (tokV 1 9 0 0 0 0 false 0 0 false 0) ((at_ : Int) + 2)) := by
  have t0 := cell1 hr (at_ + 1) h1
  have i1 : (at_ : Int) + 1 < (n : Int) := by omega
  have i2 : ¬ ((at_ : Int) + 1 ≥ (n : Int)) := by omega
  rw [hq] at t0
  clear hr hq h1
  have HB : Hid (∀ W, Calls Try.prog 92 #[.int .u8 9] W fun e w' => e = .returned (.agg #[.int .i64 1, .int .u8 9, .int .u64 0, .int .u64 0, .int .u64 0, .int .u64 0, .bool false, .int .i64 0, .int .i64 0, .bool false, .int .i64 0]) ∧ Below W.heap.size W w') := fun W => aByte_v 9 W
  have k0 := fl0 w
  have hB0 : Below w.heap.size w (w.alloc (.cells #[.int .i64 0, .int .u8 0, .int .u64 0, .int .u64 0, .int .u64 0, .int .u64 0, .bool false, .int .i64 0, .int .i64 0, .bool false, .int .i64 0] 42)) := bel1 w _
  go_enter Try.func89, Try.ntmps89
  go_wp2_with fail
  refine (HB.out _).mono ?_
  rintro e w1 ⟨rfl, hb⟩
  clear t0 HB
  have k1 := k0.below hb
  obtain ⟨⟨b0, b1, b2, b3, b4, b5, b6, b7, b8, b9, b10⟩, g0, g1, g2, g3, g4, g5, g6, g7, g8, g9, g10⟩ := k1.eleven
  have F := (k1.put11 (.int .i64 1) (.int .u8 9) (.int .u64 0) (.int .u64 0) (.int .u64 0) (.int .u64 0) (.bool false) (.int .i64 0) (.int .i64 0) (.bool false) (.int .i64 0)).eleven.1
  have hB4 := below_put11 (b := w.heap.size) (hB0.trans (hb.mono hB0.size)) (Nat.le_refl _) (.int .i64 1) (.int .u8 9) (.int .u64 0) (.int .u64 0) (.int .u64 0) (.int .u64 0) (.bool false) (.int .i64 0) (.int .i64 0) (.bool false) (.int .i64 0)
  simp only [put11] at F hB4
  obtain ⟨F0, F1, F2, F3, F4, F5, F6, F7, F8, F9, F10⟩ := F
  have HF : Hid (Below w.heap.size w _) := hB4
  clear hB4 k0 k1 hb hB0
  go_wp2
  exact bodyPost_ret (v := .tuple #[tokV 1 9 0 0 0 0 false 0 0 false 0, .int .i64 ((at_ : Int) + 2)]) (by simp [results, Try.results89, go_sem, tokV, F0, F1, F2, F3, F4, F5, F6, F7, F8, F9, F10]) rfl ⟨rfl, HF.out⟩
end Go.Proofs.Ytlmmiicibjfcdaa.X
