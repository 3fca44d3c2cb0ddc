/- token: units: the walks where two units make no range. token: units as a whole. -/
import Derived.Test.YtlmmiicibjfcdaaQ07
namespace Go.Proofs.Ytlmmiicibjfcdaa
open Go.RowKit
set_option maxRecDepth 60000 in
set_option maxHeartbeats 8000000 in
theorem un_wrong1 (ao : Option Addr) (n cap at_ : Nat) (w : World) (s : TokS) (he : s.er = 0)
    (HU : Hid (∀ W, Below w.heap.size w W → Calls Try.prog 118 #[.slice ao n cap, .int .i64 (at_ : Nat)] W (RetT W s)))
    (HD : Hid (∀ W, Below w.heap.size w W → Calls Try.prog 119 #[.slice ao n cap, .int .i64 (s.en : Nat)] W fun e w' => e = .returned (.bool true) ∧ w' = W))
    (t : TokS) (HV : Hid (∀ W, Below w.heap.size w W → Calls Try.prog 118 #[.slice ao n cap, .int .i64 ((s.en : Int) + 1)] W (RetT W t))) (hse : (s.en : Int) ≤ 2048) (ht : t.er = 0) (hk : s.k ≠ 1) : Calls Try.prog 100 #[.slice ao n cap, .int .i64 (at_ : Nat)] w (RetU w (fun _ => false) at_ 42) := by
  go_enter Try.func100, Try.ntmps100
  go_wp2_with fail
  refine (HU.out _ (bel2 _ _ _)).mono ?_
  rintro e w1 ⟨_, _, a0, a1, a2, a3, nt, l, m, lz, at', en, er, rfl, hs, hb⟩
  obtain ⟨rfl, rfl, -, -, -, -, -, -, rfl, rfl⟩ := hs
  rw [he]
  clear HU
  have uq := uq_start w w1 s.k s.b a0 a1 a2 a3 nt l m lz at' s.en 0 hb
  simp only [tokV, markV]
  go_wp2_with fail
  refine (HD.out _ uq.bel).mono ?_
  rintro e w2 ⟨rfl, rfl⟩
  generalize ((w1.alloc (.cells #[.int .i64 s.k, .int .u8 (s.b : Nat), .int .u64 (a0 : Nat), .int .u64 (a1 : Nat), .int .u64 (a2 : Nat), .int .u64 (a3 : Nat), .bool nt, .int .i64 l, .int .i64 m, .bool lz, .int .i64 (at' : Nat)] 42)).alloc (.cells #[.int .i64 (s.en : Nat), .int .i64 0] 96)) = W at *
  have hS := uq.lt
  generalize w1.heap.size = S at *
  clear hb HD
  obtain ⟨⟨b0, b1, b2, b3, b4, b5, b6, b7, b8, b9, b10⟩, g0, g1, g2, g3, g4, g5, g6, g7, g8, g9, g10⟩ := uq.k2.eleven
  obtain ⟨⟨r0, r1⟩, s0, s1⟩ := uq.k3.two
  have n1 : S + 1 ≠ w.heap.size := by omega
  have n2 : S + 1 ≠ w.heap.size + 1 := by omega
  have n3 : S ≠ w.heap.size := by omega
  have n4 : S ≠ w.heap.size + 1 := by omega
  have HQ : Hid (Uq w S s.k s.b a0 a1 a2 a3 nt l m lz at' s.en 0 W) := uq
  clear uq
  have i5 : (s.en : Int) + 1 < 9223372036854775808 := by omega
  go_wp2_with fail
  refine (HV.out _ HQ.out.bel).mono ?_
  rintro e w2 ⟨_, _, a0', a1', a2', a3', nt', l', m', lz', at'', en', er', rfl, hs', hb2⟩
  obtain ⟨rfl, rfl, -, -, -, -, -, -, rfl, rfl⟩ := hs'
  rw [ht]
  have u2 := HQ.out.next hb2
  obtain ⟨⟨t0, t1⟩, v0, v1⟩ := u2.k3.two
  have l2 : S + 1 < w2.heap.size := u2.k3.lt
  have n5 : w2.heap.size ≠ S + 1 := by omega
  have n6 : S + 1 ≠ w2.heap.size := by omega
  have u3 := (u2.k3.alloc (.cells #[.int .i64 t.k, .int .u8 (t.b : Nat), .int .u64 (a0' : Nat), .int .u64 (a1' : Nat), .int .u64 (a2' : Nat), .int .u64 (a3' : Nat), .bool nt', .int .i64 l', .int .i64 m', .bool lz', .int .i64 (at'' : Nat)] 42))
  have v3 := u3.put2 (.int .i64 (t.en : Nat)) (.int .i64 0)
  have vk0 := (u2.k0.alloc (.cells #[.int .i64 t.k, .int .u8 (t.b : Nat), .int .u64 (a0' : Nat), .int .u64 (a1' : Nat), .int .u64 (a2' : Nat), .int .u64 (a3' : Nat), .bool nt', .int .i64 l', .int .i64 m', .bool lz', .int .i64 (at'' : Nat)] 42)).others2 (k := S + 1) (by omega) (.int .i64 (t.en : Nat)) (.int .i64 0)
  have vk1 := (u2.k1.alloc (.cells #[.int .i64 t.k, .int .u8 (t.b : Nat), .int .u64 (a0' : Nat), .int .u64 (a1' : Nat), .int .u64 (a2' : Nat), .int .u64 (a3' : Nat), .bool nt', .int .i64 l', .int .i64 m', .bool lz', .int .i64 (at'' : Nat)] 42)).others2 (k := S + 1) (by omega) (.int .i64 (t.en : Nat)) (.int .i64 0)
  have v2 := (u2.k2.alloc (.cells #[.int .i64 t.k, .int .u8 (t.b : Nat), .int .u64 (a0' : Nat), .int .u64 (a1' : Nat), .int .u64 (a2' : Nat), .int .u64 (a3' : Nat), .bool nt', .int .i64 l', .int .i64 m', .bool lz', .int .i64 (at'' : Nat)] 42)).others2 (k := S + 1) (by omega) (.int .i64 (t.en : Nat)) (.int .i64 0)
  have v4 := (Cl.new w2 42 [.int .i64 t.k, .int .u8 (t.b : Nat), .int .u64 (a0' : Nat), .int .u64 (a1' : Nat), .int .u64 (a2' : Nat), .int .u64 (a3' : Nat), .bool nt', .int .i64 l', .int .i64 m', .bool lz', .int .i64 (at'' : Nat)]).others2 (k := S + 1) (by omega) (.int .i64 (t.en : Nat)) (.int .i64 0)
  have vb := below_put2 (b := S + 1) (u2.bel.alloc u2.bel.size (.cells #[.int .i64 t.k, .int .u8 (t.b : Nat), .int .u64 (a0' : Nat), .int .u64 (a1' : Nat), .int .u64 (a2' : Nat), .int .u64 (a3' : Nat), .bool nt', .int .i64 l', .int .i64 m', .bool lz', .int .i64 (at'' : Nat)] 42)) (by omega) (.int .i64 (t.en : Nat)) (.int .i64 0)
  obtain ⟨⟨p0, p1⟩, q0, q1⟩ := u3.two
  simp only [put2] at v3 vk0 vk1 vb v2 v4
  clear u3 t0 t1 v0 v1 u2 l2 hb2 HV he ht n1 n2 n3 n4 i5 hse b0 b1 b2 b3 b4 b5 b6 b7 b8 b9 b10 g0 g1 g2 g3 g4 g5 g6 g7 g8 g9 g10 r0 r1 s0 s1
  obtain ⟨⟨y0, y1, -, -, -, -, -, -, -, -, -⟩, -⟩ := v2.eleven
  obtain ⟨⟨y2, y3, -, -, -, -, -, -, -, -, -⟩, -⟩ := v4.eleven
  clear v2 v4
  have HV3 : Hid (Cl _ _ _ _) := v3
  have HV0 : Hid (Cl _ _ _ _) := vk0
  have HV1 : Hid (Cl _ _ _ _) := vk1
  have HVb : Hid (Below _ _ _) := vb
  have HS : Hid (w.heap.size + 2 ≤ S) := hS
  clear v3 vk0 vk1 vb hS
  have hS := HS.out
  obtain ⟨⟨c0, c1, c2, c3⟩, h0, h1, h2, h3⟩ := HV0.out.four
  obtain ⟨⟨d0, d1⟩, e0, e1⟩ := (HV1.out.others4 (k := w.heap.size) (by omega) (.int .u64 0) (.int .u64 0) (.int .u64 0) (.int .u64 0)).two
  have F := ((HV0.out.putc (.int .u64 0) (.int .u64 0) (.int .u64 0) (.int .u64 0)).others2 (k := w.heap.size + 1) (by omega) (.int .i64 (at_ : Nat)) (.int .i64 42)).four.1
  have G := ((HV1.out.others4 (k := w.heap.size) (by omega) (.int .u64 0) (.int .u64 0) (.int .u64 0) (.int .u64 0)).put2 (.int .i64 (at_ : Nat)) (.int .i64 42)).two.1
  have hB4 := (below_put2 (b := w.heap.size + 1) (below_putc (b := w.heap.size) HVb.out (Nat.le_refl _) (.int .u64 0) (.int .u64 0) (.int .u64 0) (.int .u64 0)) (by omega) (.int .i64 (at_ : Nat)) (.int .i64 42))
  simp only [put2, putc] at F G d0 d1 e0 e1
  obtain ⟨F0, F1, F2, F3⟩ := F
  obtain ⟨G0, G1⟩ := G
  have HF : Hid (Below w.heap.size w _) := hB4
  clear hB4 hS
  simp only [tokV, markV]
  go_wp2
  exact bodyPost_ret (v := .tuple #[.agg #[.int .u64 0, .int .u64 0, .int .u64 0, .int .u64 0], markV at_ 42]) (by simp [results, Try.results100, go_sem, markV, F0, F1, F2, F3, G0, G1]) rfl ⟨0, 0, 0, 0, rfl, c4_none, HF.out⟩
set_option maxRecDepth 60000 in
set_option maxHeartbeats 8000000 in
theorem un_wrong2 (ao : Option Addr) (n cap at_ : Nat) (w : World) (s : TokS) (he : s.er = 0)
    (HU : Hid (∀ W, Below w.heap.size w W → Calls Try.prog 118 #[.slice ao n cap, .int .i64 (at_ : Nat)] W (RetT W s)))
    (HD : Hid (∀ W, Below w.heap.size w W → Calls Try.prog 119 #[.slice ao n cap, .int .i64 (s.en : Nat)] W fun e w' => e = .returned (.bool true) ∧ w' = W))
    (t : TokS) (HV : Hid (∀ W, Below w.heap.size w W → Calls Try.prog 118 #[.slice ao n cap, .int .i64 ((s.en : Int) + 1)] W (RetT W t))) (hse : (s.en : Int) ≤ 2048) (ht : t.er = 0) (hk : s.k = 1) (hk2 : t.k ≠ 1) : Calls Try.prog 100 #[.slice ao n cap, .int .i64 (at_ : Nat)] w (RetU w (fun _ => false) at_ 42) := by
  go_enter Try.func100, Try.ntmps100
  go_wp2_with fail
  refine (HU.out _ (bel2 _ _ _)).mono ?_
  rintro e w1 ⟨_, _, a0, a1, a2, a3, nt, l, m, lz, at', en, er, rfl, hs, hb⟩
  obtain ⟨rfl, rfl, -, -, -, -, -, -, rfl, rfl⟩ := hs
  rw [he, hk]
  clear HU
  have uq := uq_start w w1 1 s.b a0 a1 a2 a3 nt l m lz at' s.en 0 hb
  simp only [tokV, markV]
  go_wp2_with fail
  refine (HD.out _ uq.bel).mono ?_
  rintro e w2 ⟨rfl, rfl⟩
  generalize ((w1.alloc (.cells #[.int .i64 1, .int .u8 (s.b : Nat), .int .u64 (a0 : Nat), .int .u64 (a1 : Nat), .int .u64 (a2 : Nat), .int .u64 (a3 : Nat), .bool nt, .int .i64 l, .int .i64 m, .bool lz, .int .i64 (at' : Nat)] 42)).alloc (.cells #[.int .i64 (s.en : Nat), .int .i64 0] 96)) = W at *
  have hS := uq.lt
  generalize w1.heap.size = S at *
  clear hb HD
  obtain ⟨⟨b0, b1, b2, b3, b4, b5, b6, b7, b8, b9, b10⟩, g0, g1, g2, g3, g4, g5, g6, g7, g8, g9, g10⟩ := uq.k2.eleven
  obtain ⟨⟨r0, r1⟩, s0, s1⟩ := uq.k3.two
  have n1 : S + 1 ≠ w.heap.size := by omega
  have n2 : S + 1 ≠ w.heap.size + 1 := by omega
  have n3 : S ≠ w.heap.size := by omega
  have n4 : S ≠ w.heap.size + 1 := by omega
  have HQ : Hid (Uq w S 1 s.b a0 a1 a2 a3 nt l m lz at' s.en 0 W) := uq
  clear uq
  have i5 : (s.en : Int) + 1 < 9223372036854775808 := by omega
  go_wp2_with fail
  refine (HV.out _ HQ.out.bel).mono ?_
  rintro e w2 ⟨_, _, a0', a1', a2', a3', nt', l', m', lz', at'', en', er', rfl, hs', hb2⟩
  obtain ⟨rfl, rfl, -, -, -, -, -, -, rfl, rfl⟩ := hs'
  rw [ht]
  have u2 := HQ.out.next hb2
  obtain ⟨⟨t0, t1⟩, v0, v1⟩ := u2.k3.two
  have l2 : S + 1 < w2.heap.size := u2.k3.lt
  have n5 : w2.heap.size ≠ S + 1 := by omega
  have n6 : S + 1 ≠ w2.heap.size := by omega
  have u3 := (u2.k3.alloc (.cells #[.int .i64 t.k, .int .u8 (t.b : Nat), .int .u64 (a0' : Nat), .int .u64 (a1' : Nat), .int .u64 (a2' : Nat), .int .u64 (a3' : Nat), .bool nt', .int .i64 l', .int .i64 m', .bool lz', .int .i64 (at'' : Nat)] 42))
  have v3 := u3.put2 (.int .i64 (t.en : Nat)) (.int .i64 0)
  have vk0 := (u2.k0.alloc (.cells #[.int .i64 t.k, .int .u8 (t.b : Nat), .int .u64 (a0' : Nat), .int .u64 (a1' : Nat), .int .u64 (a2' : Nat), .int .u64 (a3' : Nat), .bool nt', .int .i64 l', .int .i64 m', .bool lz', .int .i64 (at'' : Nat)] 42)).others2 (k := S + 1) (by omega) (.int .i64 (t.en : Nat)) (.int .i64 0)
  have vk1 := (u2.k1.alloc (.cells #[.int .i64 t.k, .int .u8 (t.b : Nat), .int .u64 (a0' : Nat), .int .u64 (a1' : Nat), .int .u64 (a2' : Nat), .int .u64 (a3' : Nat), .bool nt', .int .i64 l', .int .i64 m', .bool lz', .int .i64 (at'' : Nat)] 42)).others2 (k := S + 1) (by omega) (.int .i64 (t.en : Nat)) (.int .i64 0)
  have v2 := (u2.k2.alloc (.cells #[.int .i64 t.k, .int .u8 (t.b : Nat), .int .u64 (a0' : Nat), .int .u64 (a1' : Nat), .int .u64 (a2' : Nat), .int .u64 (a3' : Nat), .bool nt', .int .i64 l', .int .i64 m', .bool lz', .int .i64 (at'' : Nat)] 42)).others2 (k := S + 1) (by omega) (.int .i64 (t.en : Nat)) (.int .i64 0)
  have v4 := (Cl.new w2 42 [.int .i64 t.k, .int .u8 (t.b : Nat), .int .u64 (a0' : Nat), .int .u64 (a1' : Nat), .int .u64 (a2' : Nat), .int .u64 (a3' : Nat), .bool nt', .int .i64 l', .int .i64 m', .bool lz', .int .i64 (at'' : Nat)]).others2 (k := S + 1) (by omega) (.int .i64 (t.en : Nat)) (.int .i64 0)
  have vb := below_put2 (b := S + 1) (u2.bel.alloc u2.bel.size (.cells #[.int .i64 t.k, .int .u8 (t.b : Nat), .int .u64 (a0' : Nat), .int .u64 (a1' : Nat), .int .u64 (a2' : Nat), .int .u64 (a3' : Nat), .bool nt', .int .i64 l', .int .i64 m', .bool lz', .int .i64 (at'' : Nat)] 42)) (by omega) (.int .i64 (t.en : Nat)) (.int .i64 0)
  obtain ⟨⟨p0, p1⟩, q0, q1⟩ := u3.two
  simp only [put2] at v3 vk0 vk1 vb v2 v4
  clear u3 t0 t1 v0 v1 u2 l2 hb2 HV he ht hk n1 n2 n3 n4 i5 hse b0 b1 b2 b3 b4 b5 b6 b7 b8 b9 b10 g0 g1 g2 g3 g4 g5 g6 g7 g8 g9 g10 r0 r1 s0 s1
  obtain ⟨⟨y0, y1, -, -, -, -, -, -, -, -, -⟩, -⟩ := v2.eleven
  obtain ⟨⟨y2, y3, -, -, -, -, -, -, -, -, -⟩, -⟩ := v4.eleven
  clear v2 v4
  have HV3 : Hid (Cl _ _ _ _) := v3
  have HV0 : Hid (Cl _ _ _ _) := vk0
  have HV1 : Hid (Cl _ _ _ _) := vk1
  have HVb : Hid (Below _ _ _) := vb
  have HS : Hid (w.heap.size + 2 ≤ S) := hS
  clear v3 vk0 vk1 vb hS
  have hS := HS.out
  obtain ⟨⟨c0, c1, c2, c3⟩, h0, h1, h2, h3⟩ := HV0.out.four
  obtain ⟨⟨d0, d1⟩, e0, e1⟩ := (HV1.out.others4 (k := w.heap.size) (by omega) (.int .u64 0) (.int .u64 0) (.int .u64 0) (.int .u64 0)).two
  have F := ((HV0.out.putc (.int .u64 0) (.int .u64 0) (.int .u64 0) (.int .u64 0)).others2 (k := w.heap.size + 1) (by omega) (.int .i64 (at_ : Nat)) (.int .i64 42)).four.1
  have G := ((HV1.out.others4 (k := w.heap.size) (by omega) (.int .u64 0) (.int .u64 0) (.int .u64 0) (.int .u64 0)).put2 (.int .i64 (at_ : Nat)) (.int .i64 42)).two.1
  have hB4 := (below_put2 (b := w.heap.size + 1) (below_putc (b := w.heap.size) HVb.out (Nat.le_refl _) (.int .u64 0) (.int .u64 0) (.int .u64 0) (.int .u64 0)) (by omega) (.int .i64 (at_ : Nat)) (.int .i64 42))
  simp only [put2, putc] at F G d0 d1 e0 e1
  obtain ⟨F0, F1, F2, F3⟩ := F
  obtain ⟨G0, G1⟩ := G
  have HF : Hid (Below w.heap.size w _) := hB4
  clear hB4 hS
  simp only [tokV, markV]
  go_wp2
  exact bodyPost_ret (v := .tuple #[.agg #[.int .u64 0, .int .u64 0, .int .u64 0, .int .u64 0], markV at_ 42]) (by simp [results, Try.results100, go_sem, markV, F0, F1, F2, F3, G0, G1]) rfl ⟨0, 0, 0, 0, rfl, c4_none, HF.out⟩
set_option maxRecDepth 60000 in
set_option maxHeartbeats 8000000 in
theorem un_wrong3 (ao : Option Addr) (n cap at_ : Nat) (w : World) (s : TokS) (he : s.er = 0)
    (HU : Hid (∀ W, Below w.heap.size w W → Calls Try.prog 118 #[.slice ao n cap, .int .i64 (at_ : Nat)] W (RetT W s)))
    (HD : Hid (∀ W, Below w.heap.size w W → Calls Try.prog 119 #[.slice ao n cap, .int .i64 (s.en : Nat)] W fun e w' => e = .returned (.bool true) ∧ w' = W))
    (t : TokS) (HV : Hid (∀ W, Below w.heap.size w W → Calls Try.prog 118 #[.slice ao n cap, .int .i64 ((s.en : Int) + 1)] W (RetT W t))) (hse : (s.en : Int) ≤ 2048) (ht : t.er = 0) (hk : s.k = 1) (hk2 : t.k = 1) (hgt : (t.b : Int) < (s.b : Int)) : Calls Try.prog 100 #[.slice ao n cap, .int .i64 (at_ : Nat)] w (RetU w (fun _ => false) at_ 42) := by
  go_enter Try.func100, Try.ntmps100
  go_wp2_with fail
  refine (HU.out _ (bel2 _ _ _)).mono ?_
  rintro e w1 ⟨_, _, a0, a1, a2, a3, nt, l, m, lz, at', en, er, rfl, hs, hb⟩
  obtain ⟨rfl, rfl, -, -, -, -, -, -, rfl, rfl⟩ := hs
  rw [he, hk]
  clear HU
  have uq := uq_start w w1 1 s.b a0 a1 a2 a3 nt l m lz at' s.en 0 hb
  simp only [tokV, markV]
  go_wp2_with fail
  refine (HD.out _ uq.bel).mono ?_
  rintro e w2 ⟨rfl, rfl⟩
  generalize ((w1.alloc (.cells #[.int .i64 1, .int .u8 (s.b : Nat), .int .u64 (a0 : Nat), .int .u64 (a1 : Nat), .int .u64 (a2 : Nat), .int .u64 (a3 : Nat), .bool nt, .int .i64 l, .int .i64 m, .bool lz, .int .i64 (at' : Nat)] 42)).alloc (.cells #[.int .i64 (s.en : Nat), .int .i64 0] 96)) = W at *
  have hS := uq.lt
  generalize w1.heap.size = S at *
  clear hb HD
  obtain ⟨⟨b0, b1, b2, b3, b4, b5, b6, b7, b8, b9, b10⟩, g0, g1, g2, g3, g4, g5, g6, g7, g8, g9, g10⟩ := uq.k2.eleven
  obtain ⟨⟨r0, r1⟩, s0, s1⟩ := uq.k3.two
  have n1 : S + 1 ≠ w.heap.size := by omega
  have n2 : S + 1 ≠ w.heap.size + 1 := by omega
  have n3 : S ≠ w.heap.size := by omega
  have n4 : S ≠ w.heap.size + 1 := by omega
  have HQ : Hid (Uq w S 1 s.b a0 a1 a2 a3 nt l m lz at' s.en 0 W) := uq
  clear uq
  have i5 : (s.en : Int) + 1 < 9223372036854775808 := by omega
  go_wp2_with fail
  refine (HV.out _ HQ.out.bel).mono ?_
  rintro e w2 ⟨_, _, a0', a1', a2', a3', nt', l', m', lz', at'', en', er', rfl, hs', hb2⟩
  obtain ⟨rfl, rfl, -, -, -, -, -, -, rfl, rfl⟩ := hs'
  rw [ht, hk2]
  have u2 := HQ.out.next hb2
  obtain ⟨⟨t0, t1⟩, v0, v1⟩ := u2.k3.two
  have l2 : S + 1 < w2.heap.size := u2.k3.lt
  have n5 : w2.heap.size ≠ S + 1 := by omega
  have n6 : S + 1 ≠ w2.heap.size := by omega
  have u3 := (u2.k3.alloc (.cells #[.int .i64 1, .int .u8 (t.b : Nat), .int .u64 (a0' : Nat), .int .u64 (a1' : Nat), .int .u64 (a2' : Nat), .int .u64 (a3' : Nat), .bool nt', .int .i64 l', .int .i64 m', .bool lz', .int .i64 (at'' : Nat)] 42))
  have v3 := u3.put2 (.int .i64 (t.en : Nat)) (.int .i64 0)
  have vk0 := (u2.k0.alloc (.cells #[.int .i64 1, .int .u8 (t.b : Nat), .int .u64 (a0' : Nat), .int .u64 (a1' : Nat), .int .u64 (a2' : Nat), .int .u64 (a3' : Nat), .bool nt', .int .i64 l', .int .i64 m', .bool lz', .int .i64 (at'' : Nat)] 42)).others2 (k := S + 1) (by omega) (.int .i64 (t.en : Nat)) (.int .i64 0)
  have vk1 := (u2.k1.alloc (.cells #[.int .i64 1, .int .u8 (t.b : Nat), .int .u64 (a0' : Nat), .int .u64 (a1' : Nat), .int .u64 (a2' : Nat), .int .u64 (a3' : Nat), .bool nt', .int .i64 l', .int .i64 m', .bool lz', .int .i64 (at'' : Nat)] 42)).others2 (k := S + 1) (by omega) (.int .i64 (t.en : Nat)) (.int .i64 0)
  have v2 := (u2.k2.alloc (.cells #[.int .i64 1, .int .u8 (t.b : Nat), .int .u64 (a0' : Nat), .int .u64 (a1' : Nat), .int .u64 (a2' : Nat), .int .u64 (a3' : Nat), .bool nt', .int .i64 l', .int .i64 m', .bool lz', .int .i64 (at'' : Nat)] 42)).others2 (k := S + 1) (by omega) (.int .i64 (t.en : Nat)) (.int .i64 0)
  have v4 := (Cl.new w2 42 [.int .i64 1, .int .u8 (t.b : Nat), .int .u64 (a0' : Nat), .int .u64 (a1' : Nat), .int .u64 (a2' : Nat), .int .u64 (a3' : Nat), .bool nt', .int .i64 l', .int .i64 m', .bool lz', .int .i64 (at'' : Nat)]).others2 (k := S + 1) (by omega) (.int .i64 (t.en : Nat)) (.int .i64 0)
  have vb := below_put2 (b := S + 1) (u2.bel.alloc u2.bel.size (.cells #[.int .i64 1, .int .u8 (t.b : Nat), .int .u64 (a0' : Nat), .int .u64 (a1' : Nat), .int .u64 (a2' : Nat), .int .u64 (a3' : Nat), .bool nt', .int .i64 l', .int .i64 m', .bool lz', .int .i64 (at'' : Nat)] 42)) (by omega) (.int .i64 (t.en : Nat)) (.int .i64 0)
  obtain ⟨⟨p0, p1⟩, q0, q1⟩ := u3.two
  simp only [put2] at v3 vk0 vk1 vb v2 v4
  clear u3 t0 t1 v0 v1 u2 l2 hb2 HV he ht hk hk2 n1 n2 n3 n4 i5 hse b0 b1 b2 b3 b4 b5 b6 b7 b8 b9 b10 g0 g1 g2 g3 g4 g5 g6 g7 g8 g9 g10 r0 r1 s0 s1
  obtain ⟨⟨y0, y1, -, -, -, -, -, -, -, -, -⟩, -⟩ := v2.eleven
  obtain ⟨⟨y2, y3, -, -, -, -, -, -, -, -, -⟩, -⟩ := v4.eleven
  clear v2 v4
  have HV3 : Hid (Cl _ _ _ _) := v3
  have HV0 : Hid (Cl _ _ _ _) := vk0
  have HV1 : Hid (Cl _ _ _ _) := vk1
  have HVb : Hid (Below _ _ _) := vb
  have HS : Hid (w.heap.size + 2 ≤ S) := hS
  clear v3 vk0 vk1 vb hS
  have hS := HS.out
  obtain ⟨⟨c0, c1, c2, c3⟩, h0, h1, h2, h3⟩ := HV0.out.four
  obtain ⟨⟨d0, d1⟩, e0, e1⟩ := (HV1.out.others4 (k := w.heap.size) (by omega) (.int .u64 0) (.int .u64 0) (.int .u64 0) (.int .u64 0)).two
  have F := ((HV0.out.putc (.int .u64 0) (.int .u64 0) (.int .u64 0) (.int .u64 0)).others2 (k := w.heap.size + 1) (by omega) (.int .i64 (at_ : Nat)) (.int .i64 42)).four.1
  have G := ((HV1.out.others4 (k := w.heap.size) (by omega) (.int .u64 0) (.int .u64 0) (.int .u64 0) (.int .u64 0)).put2 (.int .i64 (at_ : Nat)) (.int .i64 42)).two.1
  have hB4 := (below_put2 (b := w.heap.size + 1) (below_putc (b := w.heap.size) HVb.out (Nat.le_refl _) (.int .u64 0) (.int .u64 0) (.int .u64 0) (.int .u64 0)) (by omega) (.int .i64 (at_ : Nat)) (.int .i64 42))
  simp only [put2, putc] at F G d0 d1 e0 e1
  obtain ⟨F0, F1, F2, F3⟩ := F
  obtain ⟨G0, G1⟩ := G
  have HF : Hid (Below w.heap.size w _) := hB4
  clear hB4 hS
  simp only [tokV, markV]
  go_wp2
  exact bodyPost_ret (v := .tuple #[.agg #[.int .u64 0, .int .u64 0, .int .u64 0, .int .u64 0], markV at_ 42]) (by simp [results, Try.results100, go_sem, markV, F0, F1, F2, F3, G0, G1]) rfl ⟨0, 0, 0, 0, rfl, c4_none, HF.out⟩
end Go.Proofs.Ytlmmiicibjfcdaa
namespace Go.Proofs.Ytlmmiicibjfcdaa
open Go.RowKit
/-- A good token of unit: a byte's, or a class's. -/
def TokS.Unit (s : TokS) (at_ n : Nat) : Prop := at_ < s.en ∧ s.en ≤ n ∧ ((∃ b, b < 256 ∧ s = .sgn 1 b at_ s.en) ∨ ∃ P, s = .cls P false at_ s.en)
theorem hexV_lt (z : Nat → Nat) (n at_ : Nat) : (hexV z n at_).1 < 256 := by
  unfold hexV
  split
  · have h1 := hexP_lt (z at_)
    have h2 := hexP_lt (z (at_ + 1))
    exact Nat.or_lt_two_pow (n := 8) (by omega) (by omega)
  · show 0 < 256; omega
theorem hexV_le (z : Nat → Nat) (n at_ : Nat) (h : (hexV z n at_).2 = true) : at_ + 2 ≤ n := by
  unfold hexV at h
  split at h
  · assumption
  · simp at h
theorem escS_unit (z : Nat → Nat) (n at_ : Nat) (hz : ∀ i, i < n → z i < 256) (h : (escS z n at_).er = 0) : (escS z n at_).Unit at_ n := by
  unfold escS at h ⊢
  split
  · rename_i h1; rw [if_pos h1] at h; exact absurd h (by simp [TokS.bad])
  rename_i h1
  rw [if_neg h1] at h
  split
  · exact ⟨by show at_ < at_ + 2; omega, by show at_ + 2 ≤ n; omega, .inr ⟨_, rfl⟩⟩
  rename_i h2
  rw [if_neg h2] at h
  split
  · exact ⟨by show at_ < at_ + 2; omega, by show at_ + 2 ≤ n; omega, .inl ⟨10, by omega, rfl⟩⟩
  rename_i h3
  rw [if_neg h3] at h
  split
  · exact ⟨by show at_ < at_ + 2; omega, by show at_ + 2 ≤ n; omega, .inl ⟨13, by omega, rfl⟩⟩
  rename_i h4
  rw [if_neg h4] at h
  split
  · exact ⟨by show at_ < at_ + 2; omega, by show at_ + 2 ≤ n; omega, .inl ⟨9, by omega, rfl⟩⟩
  rename_i h5
  rw [if_neg h5] at h
  split
  · rename_i h6
    rw [if_pos h6] at h
    split
    · rename_i h7
      have := hexV_le z n (at_ + 2) h7
      exact ⟨by show at_ < at_ + 4; omega, by show at_ + 4 ≤ n; omega, .inl ⟨_, hexV_lt z n (at_ + 2), rfl⟩⟩
    · rename_i h7; rw [if_neg h7] at h; exact absurd h (by simp [TokS.bad])
  rename_i h6
  rw [if_neg h6] at h
  split
  · rename_i h7; rw [if_pos h7] at h; exact absurd h (by simp [TokS.bad])
  rename_i h7
  rw [if_neg h7] at h
  split
  · rename_i h8; rw [if_pos h8] at h; exact absurd h (by simp [TokS.bad])
  · exact ⟨by show at_ < at_ + 2; omega, by show at_ + 2 ≤ n; omega, .inl ⟨_, hz _ (by omega), rfl⟩⟩
theorem uniS_unit (z : Nat → Nat) (n at_ : Nat) (hz : ∀ i, i < n → z i < 256) (ha : at_ < n) (h : (uniS z n at_).er = 0) : (uniS z n at_).Unit at_ n := by
  unfold uniS at h ⊢
  split
  · rename_i h1; rw [if_pos h1] at h; exact escS_unit z n at_ hz h
  · exact ⟨by show at_ < at_ + 1; omega, by show at_ + 1 ≤ n; omega, .inl ⟨_, hz _ ha, rfl⟩⟩
/-- The bytes of one unit. -/
def oneS (s : TokS) : Nat → Bool := if s.k = 1 then ofN (fun _ => s.b) 1 else s.P
/-- What units says: the class, the place behind, the error. -/
def untS (z : Nat → Nat) (n at_ : Nat) : (Nat → Bool) × Nat × Int :=
  if (uniS z n at_).er ≠ 0 then (fun _ => false, (uniS z n at_).en, (uniS z n at_).er)
  else if dashP z n (uniS z n at_).en = false then (oneS (uniS z n at_), (uniS z n at_).en, 0)
  else if (uniS z n ((uniS z n at_).en + 1)).er ≠ 0 then (fun _ => false, (uniS z n ((uniS z n at_).en + 1)).en, (uniS z n ((uniS z n at_).en + 1)).er)
  else if (uniS z n at_).k ≠ 1 ∨ (uniS z n ((uniS z n at_).en + 1)).k ≠ 1 ∨ (uniS z n ((uniS z n at_).en + 1)).b < (uniS z n at_).b then (fun _ => false, at_, 42)
  else (rg (uniS z n at_).b ((uniS z n ((uniS z n at_).en + 1)).b + 1 - (uniS z n at_).b), (uniS z n ((uniS z n at_).en + 1)).en, 0)
theorem one_calls (s : TokS) (at_ n : Nat) (h : s.Unit at_ n) : Hid (∀ k b a0 a1 a2 a3 nt l m lz at' en er, s.is k b a0 a1 a2 a3 nt l m lz at' en er → ∀ W, Calls Try.prog 120 #[tokV k b a0 a1 a2 a3 nt l m lz at'] W (RetC W (oneS s))) := by
  intro k b a0 a1 a2 a3 nt l m lz at' en er hs W
  obtain ⟨h1, h2, h4, h5, h6, h7, h8, h9, -, -⟩ := hs
  obtain ⟨-, -, ⟨x, hx, e⟩ | ⟨P, e⟩⟩ := h
  · rw [e] at h1 h2 h4 h5 h6 h7 h8 h9
    obtain ⟨rfl, rfl, rfl, rfl⟩ := h4.uniq c4_none
    have e2 : oneS s = ofN (fun _ => x) 1 := by rw [e]; rfl
    rw [e2, h1, h2, h5, h6, h7, h8, h9]
    exact bytesOf_byte x hx at_ W
  · have e2 : oneS s = P := by rw [e]; rfl
    rw [e2]
    rw [e] at h1 h2 h4 h5 h6 h7 h8 h9
    rw [h1, h2]
    exact bytesOf_class h4 _ _ _ _ _ W
theorem units_any (ao : Option Addr) (n cap at_ : Nat) (z : Nat → Nat) (w : World) (hr : Rd w ao n z) (hn : (n : Int) ≤ 1024) (ha : at_ < n) : Calls Try.prog 100 #[.slice ao n cap, .int .i64 (at_ : Nat)] w (RetU w (untS z n at_).1 (untS z n at_).2.1 (untS z n at_).2.2) := by
  have HU : Hid (∀ W, Below w.heap.size w W → Calls Try.prog 118 #[.slice ao n cap, .int .i64 (at_ : Nat)] W (RetT W (uniS z n at_))) := fun W hb => unit_any ao n cap at_ z W (hr.below hb) hn ha
  have hs := uniS_unit z n at_ hr.small ha
  unfold untS
  split
  · rename_i h; exact un_bad ao n cap at_ z w hr hn ha h
  rename_i h
  have he : (uniS z n at_).er = 0 := Decidable.not_not.1 h
  have hS := hs he
  have hen := hS.2.1
  have hD : ∀ v, dashP z n (uniS z n at_).en = v → Hid (∀ W, Below w.heap.size w W → Calls Try.prog 119 #[.slice ao n cap, .int .i64 ((uniS z n at_).en : Nat)] W fun e w' => e = .returned (.bool v) ∧ w' = W) := fun v hv W hb => by
    have := isDash_any ao n cap (uniS z n at_).en z W (hr.below hb) hn (by omega)
    rw [hv] at this; exact this
  split
  · rename_i hd; exact un_one ao n cap at_ w _ _ he HU (hD false hd) (one_calls _ at_ n hS)
  rename_i hd
  have hd' : dashP z n (uniS z n at_).en = true := by simpa using hd
  have hlt : (uniS z n at_).en + 1 < n := by unfold dashP at hd'; simp at hd'; omega
  have HV : Hid (∀ W, Below w.heap.size w W → Calls Try.prog 118 #[.slice ao n cap, .int .i64 (((uniS z n at_).en : Int) + 1)] W (RetT W (uniS z n ((uniS z n at_).en + 1)))) := fun W hb => unit_any ao n cap ((uniS z n at_).en + 1) z W (hr.below hb) hn hlt
  have ht := uniS_unit z n ((uniS z n at_).en + 1) hr.small hlt
  split
  · rename_i h2; exact un_bad2 ao n cap at_ w _ he HU (hD true hd') _ HV (by omega) h2
  rename_i h2
  have he2 : (uniS z n ((uniS z n at_).en + 1)).er = 0 := Decidable.not_not.1 h2
  have hT := ht he2
  split
  · rename_i hw
    by_cases k1 : (uniS z n at_).k = 1
    · by_cases k2 : (uniS z n ((uniS z n at_).en + 1)).k = 1
      · exact un_wrong3 ao n cap at_ w _ he HU (hD true hd') _ HV (by omega) he2 k1 k2 (by omega)
      · exact un_wrong2 ao n cap at_ w _ he HU (hD true hd') _ HV (by omega) he2 k1 k2
    · exact un_wrong1 ao n cap at_ w _ he HU (hD true hd') _ HV (by omega) he2 k1
  · rename_i hw
    have k1 : (uniS z n at_).k = 1 := by omega
    have k2 : (uniS z n ((uniS z n at_).en + 1)).k = 1 := by omega
    have hb : (uniS z n ((uniS z n at_).en + 1)).b < 256 := by
      obtain ⟨-, -, ⟨x, hx, e⟩ | ⟨P, e⟩⟩ := hT
      · rw [e]; exact hx
      · rw [e] at k2; exact absurd k2 (by simp [TokS.cls])
    exact un_rng ao n cap at_ w _ he HU (hD true hd') _ HV (by omega) he2 k1 k2 (by omega) hb
end Go.Proofs.Ytlmmiicibjfcdaa
