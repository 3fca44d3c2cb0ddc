/- token: units: the walks where two units make no range. -/
import Derived.Test.YtlmmiicibjfcdaaKn
namespace Go.Proofs.Ytlmmiicibjfcdaa
open Go.RowKit
set_option maxRecDepth 60000 in
set_option maxHeartbeats 8000000 in
theorem un_wrong1 (ao : Option Addr) (n cap at_ : Nat) (w : World) (s : TokS) (he : s.er = 0)
    (HU : Hid (∀ W, Below w.heap.size w W → Calls Try.prog 118 #[.slice ao n cap, .int .i64 (at_ : Nat)] W (RetT W s)))
    (HD : Hid (∀ W, Below w.heap.size w W → Calls Try.prog 119 #[.slice ao n cap, .int .i64 (s.en : Nat)] W fun e w' => e = .returned (.bool true) ∧ w' = W))
    (t : TokS) (HV : Hid (∀ W, Below w.heap.size w W → Calls Try.prog 118 #[.slice ao n cap, .int .i64 ((s.en : Int) + 1)] W (RetT W t))) (hse : (s.en : Int) ≤ 2048) (ht : t.er = 0) (hk : s.k ≠ 1) : Calls Try.prog 100 #[.slice ao n cap, .int .i64 (at_ : Nat)] w (RetU w (fun _ => false) at_ 42) := by
  go_enter Try.func100, Try.ntmps100
  go_wp2_with fail
  refine (HU.out _ (bel2 _ _ _)).mono ?_
  rintro e w1 ⟨_, _, a0, a1, a2, a3, nt, l, m, lz, at', en, er, rfl, hs, hb⟩
  obtain ⟨rfl, rfl, -, -, -, -, -, -, rfl, rfl⟩ := hs
  rw [he]
  clear HU
  have uq := uq_start w w1 s.k s.b a0 a1 a2 a3 nt l m lz at' s.en 0 hb
  simp only [tokV, markV]
  go_wp2_with fail
  refine (HD.out _ uq.bel).mono ?_
  rintro e w2 ⟨rfl, rfl⟩
  generalize ((w1.alloc (.cells #[.int .i64 s.k, .int .u8 (s.b : Nat), .int .u64 (a0 : Nat), .int .u64 (a1 : Nat), .int .u64 (a2 : Nat), .int .u64 (a3 : Nat), .bool nt, .int .i64 l, .int .i64 m, .bool lz, .int .i64 (at' : Nat)] 42)).alloc (.cells #[.int .i64 (s.en : Nat), .int .i64 0] 96)) = W at *
  have hS := uq.lt
  generalize w1.heap.size = S at *
  clear hb HD
  obtain ⟨⟨b0, b1, b2, b3, b4, b5, b6, b7, b8, b9, b10⟩, g0, g1, g2, g3, g4, g5, g6, g7, g8, g9, g10⟩ := uq.k2.eleven
  obtain ⟨⟨r0, r1⟩, s0, s1⟩ := uq.k3.two
  have n1 : S + 1 ≠ w.heap.size := by omega
  have n2 : S + 1 ≠ w.heap.size + 1 := by omega
  have n3 : S ≠ w.heap.size := by omega
  have n4 : S ≠ w.heap.size + 1 := by omega
  have HQ : Hid (Uq w S s.k s.b a0 a1 a2 a3 nt l m lz at' s.en 0 W) := uq
  clear uq
  have i5 : (s.en : Int) + 1 < 9223372036854775808 := by omega
  go_wp2_with fail
  refine (HV.out _ HQ.out.bel).mono ?_
  rintro e w2 ⟨_, _, a0', a1', a2', a3', nt', l', m', lz', at'', en', er', rfl, hs', hb2⟩
  obtain ⟨rfl, rfl, -, -, -, -, -, -, rfl, rfl⟩ := hs'
  rw [ht]
  have u2 := HQ.out.next hb2
  obtain ⟨⟨t0, t1⟩, v0, v1⟩ := u2.k3.two
  have l2 : S + 1 < w2.heap.size := u2.k3.lt
  have n5 : w2.heap.size ≠ S + 1 := by omega
  have n6 : S + 1 ≠ w2.heap.size := by omega
  have u3 := (u2.k3.alloc (.cells #[.int .i64 t.k, .int .u8 (t.b : Nat), .int .u64 (a0' : Nat), .int .u64 (a1' : Nat), .int .u64 (a2' : Nat), .int .u64 (a3' : Nat), .bool nt', .int .i64 l', .int .i64 m', .bool lz', .int .i64 (at'' : Nat)] 42))
  have v3 := u3.put2 (.int .i64 (t.en : Nat)) (.int .i64 0)
  have vk0 := (u2.k0.alloc (.cells #[.int .i64 t.k, .int .u8 (t.b : Nat), .int .u64 (a0' : Nat), .int .u64 (a1' : Nat), .int .u64 (a2' : Nat), .int .u64 (a3' : Nat), .bool nt', .int .i64 l', .int .i64 m', .bool lz', .int .i64 (at'' : Nat)] 42)).others2 (k := S + 1) (by omega) (.int .i64 (t.en : Nat)) (.int .i64 0)
  have vk1 := (u2.k1.alloc (.cells #[.int .i64 t.k, .int .u8 (t.b : Nat), .int .u64 (a0' : Nat), .int .u64 (a1' : Nat), .int .u64 (a2' : Nat), .int .u64 (a3' : Nat), .bool nt', .int .i64 l', .int .i64 m', .bool lz', .int .i64 (at'' : Nat)] 42)).others2 (k := S + 1) (by omega) (.int .i64 (t.en : Nat)) (.int .i64 0)
  have v2 := (u2.k2.alloc (.cells #[.int .i64 t.k, .int .u8 (t.b : Nat), .int .u64 (a0' : Nat), .int .u64 (a1' : Nat), .int .u64 (a2' : Nat), .int .u64 (a3' : Nat), .bool nt', .int .i64 l', .int .i64 m', .bool lz', .int .i64 (at'' : Nat)] 42)).others2 (k := S + 1) (by omega) (.int .i64 (t.en : Nat)) (.int .i64 0)
  have v4 := (Cl.new w2 42 [.int .i64 t.k, .int .u8 (t.b : Nat), .int .u64 (a0' : Nat), .int .u64 (a1' : Nat), .int .u64 (a2' : Nat), .int .u64 (a3' : Nat), .bool nt', .int .i64 l', .int .i64 m', .bool lz', .int .i64 (at'' : Nat)]).others2 (k := S + 1) (by omega) (.int .i64 (t.en : Nat)) (.int .i64 0)
  have vb := below_put2 (b := S + 1) (u2.bel.alloc u2.bel.size (.cells #[.int .i64 t.k, .int .u8 (t.b : Nat), .int .u64 (a0' : Nat), .int .u64 (a1' : Nat), .int .u64 (a2' : Nat), .int .u64 (a3' : Nat), .bool nt', .int .i64 l', .int .i64 m', .bool lz', .int .i64 (at'' : Nat)] 42)) (by omega) (.int .i64 (t.en : Nat)) (.int .i64 0)
  obtain ⟨⟨p0, p1⟩, q0, q1⟩ := u3.two
  simp only [put2] at v3 vk0 vk1 vb v2 v4
  clear u3 t0 t1 v0 v1 u2 l2 hb2 HV he ht n1 n2 n3 n4 i5 hse b0 b1 b2 b3 b4 b5 b6 b7 b8 b9 b10 g0 g1 g2 g3 g4 g5 g6 g7 g8 g9 g10 r0 r1 s0 s1
  obtain ⟨⟨y0, y1, -, -, -, -, -, -, -, -, -⟩, -⟩ := v2.eleven
  obtain ⟨⟨y2, y3, -, -, -, -, -, -, -, -, -⟩, -⟩ := v4.eleven
  clear v2 v4
  have HV3 : Hid (Cl _ _ _ _) := v3
  have HV0 : Hid (Cl _ _ _ _) := vk0
  have HV1 : Hid (Cl _ _ _ _) := vk1
  have HVb : Hid (Below _ _ _) := vb
  have HS : Hid (w.heap.size + 2 ≤ S) := hS
  clear v3 vk0 vk1 vb hS
  have hS := HS.out
  obtain ⟨⟨c0, c1, c2, c3⟩, h0, h1, h2, h3⟩ := HV0.out.four
  obtain ⟨⟨d0, d1⟩, e0, e1⟩ := (HV1.out.others4 (k := w.heap.size) (by omega) (.int .u64 0) (.int .u64 0) (.int .u64 0) (.int .u64 0)).two
  have F := ((HV0.out.putc (.int .u64 0) (.int .u64 0) (.int .u64 0) (.int .u64 0)).others2 (k := w.heap.size + 1) (by omega) (.int .i64 (at_ : Nat)) (.int .i64 42)).four.1
  have G := ((HV1.out.others4 (k := w.heap.size) (by omega) (.int .u64 0) (.int .u64 0) (.int .u64 0) (.int .u64 0)).put2 (.int .i64 (at_ : Nat)) (.int .i64 42)).two.1
  have hB4 := (below_put2 (b := w.heap.size + 1) (below_putc (b := w.heap.size) HVb.out (Nat.le_refl _) (.int .u64 0) (.int .u64 0) (.int .u64 0) (.int .u64 0)) (by omega) (.int .i64 (at_ : Nat)) (.int .i64 42))
  simp only [put2, putc] at F G d0 d1 e0 e1
  obtain ⟨F0, F1, F2, F3⟩ := F
  obtain ⟨G0, G1⟩ := G
  have HF : Hid (Below w.heap.size w _) := hB4
  clear hB4 hS
  simp only [tokV, markV]
  go_wp2
  exact bodyPost_ret (v := .tuple #[.agg #[.int .u64 0, .int .u64 0, .int .u64 0, .int .u64 0], markV at_ 42]) (by simp [results, Try.results100, go_sem, markV, F0, F1, F2, F3, G0, G1]) rfl ⟨0, 0, 0, 0, rfl, c4_none, HF.out⟩
set_option maxRecDepth 60000 in
set_option maxHeartbeats 8000000 in
theorem un_wrong2 (ao : Option Addr) (n cap at_ : Nat) (w : World) (s : TokS) (he : s.er = 0)
    (HU : Hid (∀ W, Below w.heap.size w W → Calls Try.prog 118 #[.slice ao n cap, .int .i64 (at_ : Nat)] W (RetT W s)))
    (HD : Hid (∀ W, Below w.heap.size w W → Calls Try.prog 119 #[.slice ao n cap, .int .i64 (s.en : Nat)] W fun e w' => e = .returned (.bool true) ∧ w' = W))
    (t : TokS) (HV : Hid (∀ W, Below w.heap.size w W → Calls Try.prog 118 #[.slice ao n cap, .int .i64 ((s.en : Int) + 1)] W (RetT W t))) (hse : (s.en : Int) ≤ 2048) (ht : t.er = 0) (hk : s.k = 1) (hk2 : t.k ≠ 1) : Calls Try.prog 100 #[.slice ao n cap, .int .i64 (at_ : Nat)] w (RetU w (fun _ => false) at_ 42) := by
  go_enter Try.func100, Try.ntmps100
  go_wp2_with fail
  refine (HU.out _ (bel2 _ _ _)).mono ?_
  rintro e w1 ⟨_, _, a0, a1, a2, a3, nt, l, m, lz, at', en, er, rfl, hs, hb⟩
  obtain ⟨rfl, rfl, -, -, -, -, -, -, rfl, rfl⟩ := hs
  rw [he, hk]
  clear HU
  have uq := uq_start w w1 1 s.b a0 a1 a2 a3 nt l m lz at' s.en 0 hb
  simp only [tokV, markV]
  go_wp2_with fail
  refine (HD.out _ uq.bel).mono ?_
  rintro e w2 ⟨rfl, rfl⟩
  generalize ((w1.alloc (.cells #[.int .i64 1, .int .u8 (s.b : Nat), .int .u64 (a0 : Nat), .int .u64 (a1 : Nat), .int .u64 (a2 : Nat), .int .u64 (a3 : Nat), .bool nt, .int .i64 l, .int .i64 m, .bool lz, .int .i64 (at' : Nat)] 42)).alloc (.cells #[.int .i64 (s.en : Nat), .int .i64 0] 96)) = W at *
  have hS := uq.lt
  generalize w1.heap.size = S at *
  clear hb HD
  obtain ⟨⟨b0, b1, b2, b3, b4, b5, b6, b7, b8, b9, b10⟩, g0, g1, g2, g3, g4, g5, g6, g7, g8, g9, g10⟩ := uq.k2.eleven
  obtain ⟨⟨r0, r1⟩, s0, s1⟩ := uq.k3.two
  have n1 : S + 1 ≠ w.heap.size := by omega
  have n2 : S + 1 ≠ w.heap.size + 1 := by omega
  have n3 : S ≠ w.heap.size := by omega
  have n4 : S ≠ w.heap.size + 1 := by omega
  have HQ : Hid (Uq w S 1 s.b a0 a1 a2 a3 nt l m lz at' s.en 0 W) := uq
  clear uq
  have i5 : (s.en : Int) + 1 < 9223372036854775808 := by omega
  go_wp2_with fail
  refine (HV.out _ HQ.out.bel).mono ?_
  rintro e w2 ⟨_, _, a0', a1', a2', a3', nt', l', m', lz', at'', en', er', rfl, hs', hb2⟩
  obtain ⟨rfl, rfl, -, -, -, -, -, -, rfl, rfl⟩ := hs'
  rw [ht]
  have u2 := HQ.out.next hb2
  obtain ⟨⟨t0, t1⟩, v0, v1⟩ := u2.k3.two
  have l2 : S + 1 < w2.heap.size := u2.k3.lt
  have n5 : w2.heap.size ≠ S + 1 := by omega
  have n6 : S + 1 ≠ w2.heap.size := by omega
  have u3 := (u2.k3.alloc (.cells #[.int .i64 t.k, .int .u8 (t.b : Nat), .int .u64 (a0' : Nat), .int .u64 (a1' : Nat), .int .u64 (a2' : Nat), .int .u64 (a3' : Nat), .bool nt', .int .i64 l', .int .i64 m', .bool lz', .int .i64 (at'' : Nat)] 42))
  have v3 := u3.put2 (.int .i64 (t.en : Nat)) (.int .i64 0)
  have vk0 := (u2.k0.alloc (.cells #[.int .i64 t.k, .int .u8 (t.b : Nat), .int .u64 (a0' : Nat), .int .u64 (a1' : Nat), .int .u64 (a2' : Nat), .int .u64 (a3' : Nat), .bool nt', .int .i64 l', .int .i64 m', .bool lz', .int .i64 (at'' : Nat)] 42)).others2 (k := S + 1) (by omega) (.int .i64 (t.en : Nat)) (.int .i64 0)
  have vk1 := (u2.k1.alloc (.cells #[.int .i64 t.k, .int .u8 (t.b : Nat), .int .u64 (a0' : Nat), .int .u64 (a1' : Nat), .int .u64 (a2' : Nat), .int .u64 (a3' : Nat), .bool nt', .int .i64 l', .int .i64 m', .bool lz', .int .i64 (at'' : Nat)] 42)).others2 (k := S + 1) (by omega) (.int .i64 (t.en : Nat)) (.int .i64 0)
  have v2 := (u2.k2.alloc (.cells #[.int .i64 t.k, .int .u8 (t.b : Nat), .int .u64 (a0' : Nat), .int .u64 (a1' : Nat), .int .u64 (a2' : Nat), .int .u64 (a3' : Nat), .bool nt', .int .i64 l', .int .i64 m', .bool lz', .int .i64 (at'' : Nat)] 42)).others2 (k := S + 1) (by omega) (.int .i64 (t.en : Nat)) (.int .i64 0)
  have v4 := (Cl.new w2 42 [.int .i64 t.k, .int .u8 (t.b : Nat), .int .u64 (a0' : Nat), .int .u64 (a1' : Nat), .int .u64 (a2' : Nat), .int .u64 (a3' : Nat), .bool nt', .int .i64 l', .int .i64 m', .bool lz', .int .i64 (at'' : Nat)]).others2 (k := S + 1) (by omega) (.int .i64 (t.en : Nat)) (.int .i64 0)
  have vb := below_put2 (b := S + 1) (u2.bel.alloc u2.bel.size (.cells #[.int .i64 t.k, .int .u8 (t.b : Nat), .int .u64 (a0' : Nat), .int .u64 (a1' : Nat), .int .u64 (a2' : Nat), .int .u64 (a3' : Nat), .bool nt', .int .i64 l', .int .i64 m', .bool lz', .int .i64 (at'' : Nat)] 42)) (by omega) (.int .i64 (t.en : Nat)) (.int .i64 0)
  obtain ⟨⟨p0, p1⟩, q0, q1⟩ := u3.two
  simp only [put2] at v3 vk0 vk1 vb v2 v4
  clear u3 t0 t1 v0 v1 u2 l2 hb2 HV he ht hk n1 n2 n3 n4 i5 hse b0 b1 b2 b3 b4 b5 b6 b7 b8 b9 b10 g0 g1 g2 g3 g4 g5 g6 g7 g8 g9 g10 r0 r1 s0 s1
  obtain ⟨⟨y0, y1, -, -, -, -, -, -, -, -, -⟩, -⟩ := v2.eleven
  obtain ⟨⟨y2, y3, -, -, -, -, -, -, -, -, -⟩, -⟩ := v4.eleven
  clear v2 v4
  have HV3 : Hid (Cl _ _ _ _) := v3
  have HV0 : Hid (Cl _ _ _ _) := vk0
  have HV1 : Hid (Cl _ _ _ _) := vk1
  have HVb : Hid (Below _ _ _) := vb
  have HS : Hid (w.heap.size + 2 ≤ S) := hS
  clear v3 vk0 vk1 vb hS
  have hS := HS.out
  obtain ⟨⟨c0, c1, c2, c3⟩, h0, h1, h2, h3⟩ := HV0.out.four
  obtain ⟨⟨d0, d1⟩, e0, e1⟩ := (HV1.out.others4 (k := w.heap.size) (by omega) (.int .u64 0) (.int .u64 0) (.int .u64 0) (.int .u64 0)).two
  have F := ((HV0.out.putc (.int .u64 0) (.int .u64 0) (.int .u64 0) (.int .u64 0)).others2 (k := w.heap.size + 1) (by omega) (.int .i64 (at_ : Nat)) (.int .i64 42)).four.1
  have G := ((HV1.out.others4 (k := w.heap.size) (by omega) (.int .u64 0) (.int .u64 0) (.int .u64 0) (.int .u64 0)).put2 (.int .i64 (at_ : Nat)) (.int .i64 42)).two.1
  have hB4 := (below_put2 (b := w.heap.size + 1) (below_putc (b := w.heap.size) HVb.out (Nat.le_refl _) (.int .u64 0) (.int .u64 0) (.int .u64 0) (.int .u64 0)) (by omega) (.int .i64 (at_ : Nat)) (.int .i64 42))
  simp only [put2, putc] at F G d0 d1 e0 e1
  obtain ⟨F0, F1, F2, F3⟩ := F
  obtain ⟨G0, G1⟩ := G
  have HF : Hid (Below w.heap.size w _) := hB4
  clear hB4 hS
  simp only [tokV, markV]
  go_wp2
  exact bodyPost_ret (v := .tuple #[.agg #[.int .u64 0, .int .u64 0, .int .u64 0, .int .u64 0], markV at_ 42]) (by simp [results, Try.results100, go_sem, markV, F0, F1, F2, F3, G0, G1]) rfl ⟨0, 0, 0, 0, rfl, c4_none, HF.out⟩
set_option maxRecDepth 60000 in
set_option maxHeartbeats 8000000 in
theorem un_wrong3 (ao : Option Addr) (n cap at_ : Nat) (w : World) (s : TokS) (he : s.er = 0)
    (HU : Hid (∀ W, Below w.heap.size w W → Calls Try.prog 118 #[.slice ao n cap, .int .i64 (at_ : Nat)] W (RetT W s)))
    (HD : Hid (∀ W, Below w.heap.size w W → Calls Try.prog 119 #[.slice ao n cap, .int .i64 (s.en : Nat)] W fun e w' => e = .returned (.bool true) ∧ w' = W))
    (t : TokS) (HV : Hid (∀ W, Below w.heap.size w W → Calls Try.prog 118 #[.slice ao n cap, .int .i64 ((s.en : Int) + 1)] W (RetT W t))) (hse : (s.en : Int) ≤ 2048) (ht : t.er = 0) (hk : s.k = 1) (hk2 : t.k = 1) (hgt : (t.b : Int) < (s.b : Int)) : Calls Try.prog 100 #[.slice ao n cap, .int .i64 (at_ : Nat)] w (RetU w (fun _ => false) at_ 42) := by
  go_enter Try.func100, Try.ntmps100
  go_wp2_with fail
  refine (HU.out _ (bel2 _ _ _)).mono ?_
  rintro e w1 ⟨_, _, a0, a1, a2, a3, nt, l, m, lz, at', en, er, rfl, hs, hb⟩
  obtain ⟨rfl, rfl, -, -, -, -, -, -, rfl, rfl⟩ := hs
  rw [he, hk]
  clear HU
  have uq := uq_start w w1 1 s.b a0 a1 a2 a3 nt l m lz at' s.en 0 hb
  simp only [tokV, markV]
  go_wp2_with fail
  refine (HD.out _ uq.bel).mono ?_
  rintro e w2 ⟨rfl, rfl⟩
  generalize ((w1.alloc (.cells #[.int .i64 1, .int .u8 (s.b : Nat), .int .u64 (a0 : Nat), .int .u64 (a1 : Nat), .int .u64 (a2 : Nat), .int .u64 (a3 : Nat), .bool nt, .int .i64 l, .int .i64 m, .bool lz, .int .i64 (at' : Nat)] 42)).alloc (.cells #[.int .i64 (s.en : Nat), .int .i64 0] 96)) = W at *
  have hS := uq.lt
  generalize w1.heap.size = S at *
  clear hb HD
  obtain ⟨⟨b0, b1, b2, b3, b4, b5, b6, b7, b8, b9, b10⟩, g0, g1, g2, g3, g4, g5, g6, g7, g8, g9, g10⟩ := uq.k2.eleven
  obtain ⟨⟨r0, r1⟩, s0, s1⟩ := uq.k3.two
  have n1 : S + 1 ≠ w.heap.size := by omega
  have n2 : S + 1 ≠ w.heap.size + 1 := by omega
  have n3 : S ≠ w.heap.size := by omega
  have n4 : S ≠ w.heap.size + 1 := by omega
  have HQ : Hid (Uq w S 1 s.b a0 a1 a2 a3 nt l m lz at' s.en 0 W) := uq
  clear uq
  have i5 : (s.en : Int) + 1 < 9223372036854775808 := by omega
  go_wp2_with fail
  refine (HV.out _ HQ.out.bel).mono ?_
  rintro e w2 ⟨_, _, a0', a1', a2', a3', nt', l', m', lz', at'', en', er', rfl, hs', hb2⟩
  obtain ⟨rfl, rfl, -, -, -, -, -, -, rfl, rfl⟩ := hs'
  rw [ht, hk2]
  have u2 := HQ.out.next hb2
  obtain ⟨⟨t0, t1⟩, v0, v1⟩ := u2.k3.two
  have l2 : S + 1 < w2.heap.size := u2.k3.lt
  have n5 : w2.heap.size ≠ S + 1 := by omega
  have n6 : S + 1 ≠ w2.heap.size := by omega
  have u3 := (u2.k3.alloc (.cells #[.int .i64 1, .int .u8 (t.b : Nat), .int .u64 (a0' : Nat), .int .u64 (a1' : Nat), .int .u64 (a2' : Nat), .int .u64 (a3' : Nat), .bool nt', .int .i64 l', .int .i64 m', .bool lz', .int .i64 (at'' : Nat)] 42))
  have v3 := u3.put2 (.int .i64 (t.en : Nat)) (.int .i64 0)
  have vk0 := (u2.k0.alloc (.cells #[.int .i64 1, .int .u8 (t.b : Nat), .int .u64 (a0' : Nat), .int .u64 (a1' : Nat), .int .u64 (a2' : Nat), .int .u64 (a3' : Nat), .bool nt', .int .i64 l', .int .i64 m', .bool lz', .int .i64 (at'' : Nat)] 42)).others2 (k := S + 1) (by omega) (.int .i64 (t.en : Nat)) (.int .i64 0)
  have vk1 := (u2.k1.alloc (.cells #[.int .i64 1, .int .u8 (t.b : Nat), .int .u64 (a0' : Nat), .int .u64 (a1' : Nat), .int .u64 (a2' : Nat), .int .u64 (a3' : Nat), .bool nt', .int .i64 l', .int .i64 m', .bool lz', .int .i64 (at'' : Nat)] 42)).others2 (k := S + 1) (by omega) (.int .i64 (t.en : Nat)) (.int .i64 0)
  have v2 := (u2.k2.alloc (.cells #[.int .i64 1, .int .u8 (t.b : Nat), .int .u64 (a0' : Nat), .int .u64 (a1' : Nat), .int .u64 (a2' : Nat), .int .u64 (a3' : Nat), .bool nt', .int .i64 l', .int .i64 m', .bool lz', .int .i64 (at'' : Nat)] 42)).others2 (k := S + 1) (by omega) (.int .i64 (t.en : Nat)) (.int .i64 0)
  have v4 := (Cl.new w2 42 [.int .i64 1, .int .u8 (t.b : Nat), .int .u64 (a0' : Nat), .int .u64 (a1' : Nat), .int .u64 (a2' : Nat), .int .u64 (a3' : Nat), .bool nt', .int .i64 l', .int .i64 m', .bool lz', .int .i64 (at'' : Nat)]).others2 (k := S + 1) (by omega) (.int .i64 (t.en : Nat)) (.int .i64 0)
  have vb := below_put2 (b := S + 1) (u2.bel.alloc u2.bel.size (.cells #[.int .i64 1, .int .u8 (t.b : Nat), .int .u64 (a0' : Nat), .int .u64 (a1' : Nat), .int .u64 (a2' : Nat), .int .u64 (a3' : Nat), .bool nt', .int .i64 l', .int .i64 m', .bool lz', .int .i64 (at'' : Nat)] 42)) (by omega) (.int .i64 (t.en : Nat)) (.int .i64 0)
  obtain ⟨⟨p0, p1⟩, q0, q1⟩ := u3.two
  simp only [put2] at v3 vk0 vk1 vb v2 v4
  clear u3 t0 t1 v0 v1 u2 l2 hb2 HV he ht hk hk2 n1 n2 n3 n4 i5 hse b0 b1 b2 b3 b4 b5 b6 b7 b8 b9 b10 g0 g1 g2 g3 g4 g5 g6 g7 g8 g9 g10 r0 r1 s0 s1
  obtain ⟨⟨y0, y1, -, -, -, -, -, -, -, -, -⟩, -⟩ := v2.eleven
  obtain ⟨⟨y2, y3, -, -, -, -, -, -, -, -, -⟩, -⟩ := v4.eleven
  clear v2 v4
  have HV3 : Hid (Cl _ _ _ _) := v3
  have HV0 : Hid (Cl _ _ _ _) := vk0
  have HV1 : Hid (Cl _ _ _ _) := vk1
  have HVb : Hid (Below _ _ _) := vb
  have HS : Hid (w.heap.size + 2 ≤ S) := hS
  clear v3 vk0 vk1 vb hS
  have hS := HS.out
  obtain ⟨⟨c0, c1, c2, c3⟩, h0, h1, h2, h3⟩ := HV0.out.four
  obtain ⟨⟨d0, d1⟩, e0, e1⟩ := (HV1.out.others4 (k := w.heap.size) (by omega) (.int .u64 0) (.int .u64 0) (.int .u64 0) (.int .u64 0)).two
  have F := ((HV0.out.putc (.int .u64 0) (.int .u64 0) (.int .u64 0) (.int .u64 0)).others2 (k := w.heap.size + 1) (by omega) (.int .i64 (at_ : Nat)) (.int .i64 42)).four.1
  have G := ((HV1.out.others4 (k := w.heap.size) (by omega) (.int .u64 0) (.int .u64 0) (.int .u64 0) (.int .u64 0)).put2 (.int .i64 (at_ : Nat)) (.int .i64 42)).two.1
  have hB4 := (below_put2 (b := w.heap.size + 1) (below_putc (b := w.heap.size) HVb.out (Nat.le_refl _) (.int .u64 0) (.int .u64 0) (.int .u64 0) (.int .u64 0)) (by omega) (.int .i64 (at_ : Nat)) (.int .i64 42))
  simp only [put2, putc] at F G d0 d1 e0 e1
  obtain ⟨F0, F1, F2, F3⟩ := F
  obtain ⟨G0, G1⟩ := G
  have HF : Hid (Below w.heap.size w _) := hB4
  clear hB4 hS
  simp only [tokV, markV]
  go_wp2
  exact bodyPost_ret (v := .tuple #[.agg #[.int .u64 0, .int .u64 0, .int .u64 0, .int .u64 0], markV at_ 42]) (by simp [results, Try.results100, go_sem, markV, F0, F1, F2, F3, G0, G1]) rfl ⟨0, 0, 0, 0, rfl, c4_none, HF.out⟩
end Go.Proofs.Ytlmmiicibjfcdaa
