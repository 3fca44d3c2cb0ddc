/- token: units: the walks with two units: the second is bad; a range. -/
import Derived.Test.YtlmmiicibjfcdaaKn
namespace Go.Proofs.Ytlmmiicibjfcdaa
open Go.RowKit
set_option maxRecDepth 60000 in
set_option maxHeartbeats 8000000 in
theorem un_bad2 (ao : Option Addr) (n cap at_ : Nat) (w : World) (s : TokS) (he : s.er = 0)
    (HU : Hid (∀ W, Below w.heap.size w W → Calls Try.prog 118 #[.slice ao n cap, .int .i64 (at_ : Nat)] W (RetT W s)))
    (HD : Hid (∀ W, Below w.heap.size w W → Calls Try.prog 119 #[.slice ao n cap, .int .i64 (s.en : Nat)] W fun e w' => e = .returned (.bool true) ∧ w' = W))
    (t : TokS) (HV : Hid (∀ W, Below w.heap.size w W → Calls Try.prog 118 #[.slice ao n cap, .int .i64 ((s.en : Int) + 1)] W (RetT W t))) (hse : (s.en : Int) ≤ 2048) (ht : t.er ≠ 0) : Calls Try.prog 100 #[.slice ao n cap, .int .i64 (at_ : Nat)] w (RetU w (fun _ => false) t.en t.er) := by
  go_enter Try.func100, Try.ntmps100
  go_wp2_with fail
  refine (HU.out _ (bel2 _ _ _)).mono ?_
  rintro e w1 ⟨k, b, a0, a1, a2, a3, nt, l, m, lz, at', en, er, rfl, hs, hb⟩
  obtain ⟨-, -, -, -, -, -, -, -, rfl, rfl⟩ := hs
  rw [he]
  clear HU
  have uq := uq_start w w1 k b a0 a1 a2 a3 nt l m lz at' s.en 0 hb
  simp only [tokV, markV]
  go_wp2_with fail
  refine (HD.out _ uq.bel).mono ?_
  rintro e w2 ⟨rfl, rfl⟩
  generalize ((w1.alloc (.cells #[.int .i64 k, .int .u8 (b : Nat), .int .u64 (a0 : Nat), .int .u64 (a1 : Nat), .int .u64 (a2 : Nat), .int .u64 (a3 : Nat), .bool nt, .int .i64 l, .int .i64 m, .bool lz, .int .i64 (at' : Nat)] 42)).alloc (.cells #[.int .i64 (s.en : Nat), .int .i64 0] 96)) = W at *
  have hS := uq.lt
  generalize w1.heap.size = S at *
  clear hb HD
  obtain ⟨⟨b0, b1, b2, b3, b4, b5, b6, b7, b8, b9, b10⟩, g0, g1, g2, g3, g4, g5, g6, g7, g8, g9, g10⟩ := uq.k2.eleven
  obtain ⟨⟨r0, r1⟩, s0, s1⟩ := uq.k3.two
  have n1 : S + 1 ≠ w.heap.size := by omega
  have n2 : S + 1 ≠ w.heap.size + 1 := by omega
  have n3 : S ≠ w.heap.size := by omega
  have n4 : S ≠ w.heap.size + 1 := by omega
  have HQ : Hid (Uq w S k b a0 a1 a2 a3 nt l m lz at' s.en 0 W) := uq
  clear uq
  have i5 : (s.en : Int) + 1 < 9223372036854775808 := by omega
  go_wp2_with fail
  refine (HV.out _ HQ.out.bel).mono ?_
  rintro e w2 ⟨k', b', a0', a1', a2', a3', nt', l', m', lz', at'', en', er', rfl, hs', hb2⟩
  obtain ⟨-, -, -, -, -, -, -, -, rfl, rfl⟩ := hs'
  have u2 := HQ.out.next hb2
  obtain ⟨⟨t0, t1⟩, v0, v1⟩ := u2.k3.two
  have l2 : S + 1 < w2.heap.size := u2.k3.lt
  have n5 : w2.heap.size ≠ S + 1 := by omega
  have n6 : S + 1 ≠ w2.heap.size := by omega
  have u3 := (u2.k3.alloc (.cells #[.int .i64 k', .int .u8 (b' : Nat), .int .u64 (a0' : Nat), .int .u64 (a1' : Nat), .int .u64 (a2' : Nat), .int .u64 (a3' : Nat), .bool nt', .int .i64 l', .int .i64 m', .bool lz', .int .i64 (at'' : Nat)] 42))
  have v3 := u3.put2 (.int .i64 (t.en : Nat)) (.int .i64 t.er)
  have vk0 := (u2.k0.alloc (.cells #[.int .i64 k', .int .u8 (b' : Nat), .int .u64 (a0' : Nat), .int .u64 (a1' : Nat), .int .u64 (a2' : Nat), .int .u64 (a3' : Nat), .bool nt', .int .i64 l', .int .i64 m', .bool lz', .int .i64 (at'' : Nat)] 42)).others2 (k := S + 1) (by omega) (.int .i64 (t.en : Nat)) (.int .i64 t.er)
  have vk1 := (u2.k1.alloc (.cells #[.int .i64 k', .int .u8 (b' : Nat), .int .u64 (a0' : Nat), .int .u64 (a1' : Nat), .int .u64 (a2' : Nat), .int .u64 (a3' : Nat), .bool nt', .int .i64 l', .int .i64 m', .bool lz', .int .i64 (at'' : Nat)] 42)).others2 (k := S + 1) (by omega) (.int .i64 (t.en : Nat)) (.int .i64 t.er)
  have vb := below_put2 (b := S + 1) (u2.bel.alloc u2.bel.size (.cells #[.int .i64 k', .int .u8 (b' : Nat), .int .u64 (a0' : Nat), .int .u64 (a1' : Nat), .int .u64 (a2' : Nat), .int .u64 (a3' : Nat), .bool nt', .int .i64 l', .int .i64 m', .bool lz', .int .i64 (at'' : Nat)] 42)) (by omega) (.int .i64 (t.en : Nat)) (.int .i64 t.er)
  obtain ⟨⟨p0, p1⟩, q0, q1⟩ := u3.two
  simp only [put2] at v3 vk0 vk1 vb
  clear u3 t0 t1 v0 v1 u2 l2 hb2 HV he n1 n2 n3 n4 i5 hse b0 b1 b2 b3 b4 b5 b6 b7 b8 b9 b10 g0 g1 g2 g3 g4 g5 g6 g7 g8 g9 g10 r0 r1 s0 s1
  have HV3 : Hid (Cl _ _ _ _) := v3
  have HV0 : Hid (Cl _ _ _ _) := vk0
  have HV1 : Hid (Cl _ _ _ _) := vk1
  have HVb : Hid (Below _ _ _) := vb
  have HS : Hid (w.heap.size + 2 ≤ S) := hS
  clear v3 vk0 vk1 vb hS
  simp only [tokV, markV]
  go_wp2_with fail
  generalize (((w2.alloc (.cells #[.int .i64 k', .int .u8 (b' : Nat), .int .u64 (a0' : Nat), .int .u64 (a1' : Nat), .int .u64 (a2' : Nat), .int .u64 (a3' : Nat), .bool nt', .int .i64 l', .int .i64 m', .bool lz', .int .i64 (at'' : Nat)] 42)).setCell ⟨S + 1, 0, none⟩ (.int .i64 (t.en : Nat))).setCell ⟨S + 1, 1, none⟩ (.int .i64 t.er)) = W3 at *
  have hS := HS.out
  obtain ⟨⟨r0, r1⟩, s0, s1⟩ := HV3.out.two
  obtain ⟨⟨c0, c1, c2, c3⟩, h0, h1, h2, h3⟩ := HV0.out.four
  obtain ⟨⟨d0, d1⟩, e0, e1⟩ := HV1.out.two
  have F := ((HV0.out.putc (.int .u64 0) (.int .u64 0) (.int .u64 0) (.int .u64 0)).others2 (k := w.heap.size + 1) (by omega) (.int .i64 (t.en : Nat)) (.int .i64 t.er)).drew.four.1
  have G := ((HV1.out.others4 (k := w.heap.size) (by omega) (.int .u64 0) (.int .u64 0) (.int .u64 0) (.int .u64 0)).put2 (.int .i64 (t.en : Nat)) (.int .i64 t.er)).drew.two.1
  have hB4 := (below_put2 (b := w.heap.size + 1) (below_putc (b := w.heap.size) HVb.out (Nat.le_refl _) (.int .u64 0) (.int .u64 0) (.int .u64 0) (.int .u64 0)) (by omega) (.int .i64 (t.en : Nat)) (.int .i64 t.er)).drew
  simp only [put2, putc] at F G
  obtain ⟨F0, F1, F2, F3⟩ := F
  obtain ⟨G0, G1⟩ := G
  have HF : Hid (Below w.heap.size w _) := hB4
  have n1 : S + 1 ≠ w.heap.size := by omega
  have n2 : S + 1 ≠ w.heap.size + 1 := by omega
  clear hB4 hS
  go_region_with (fail)
  all_goals go_wp2
  all_goals exact bodyPost_ret (v := .tuple #[.agg #[.int .u64 0, .int .u64 0, .int .u64 0, .int .u64 0], markV t.en t.er]) (by simp [results, Try.results100, go_sem, markV, F0, F1, F2, F3, G0, G1]) rfl ⟨0, 0, 0, 0, rfl, c4_none, HF.out⟩
set_option maxRecDepth 60000 in
set_option maxHeartbeats 8000000 in
theorem un_rng (ao : Option Addr) (n cap at_ : Nat) (w : World) (s : TokS) (he : s.er = 0)
    (HU : Hid (∀ W, Below w.heap.size w W → Calls Try.prog 118 #[.slice ao n cap, .int .i64 (at_ : Nat)] W (RetT W s)))
    (HD : Hid (∀ W, Below w.heap.size w W → Calls Try.prog 119 #[.slice ao n cap, .int .i64 (s.en : Nat)] W fun e w' => e = .returned (.bool true) ∧ w' = W))
    (t : TokS) (HV : Hid (∀ W, Below w.heap.size w W → Calls Try.prog 118 #[.slice ao n cap, .int .i64 ((s.en : Int) + 1)] W (RetT W t))) (hse : (s.en : Int) ≤ 2048) (ht : t.er = 0) (hk : s.k = 1) (hk2 : t.k = 1) (hle : s.b ≤ t.b) (hlt : t.b < 256) : Calls Try.prog 100 #[.slice ao n cap, .int .i64 (at_ : Nat)] w (RetU w (rg s.b (t.b + 1 - s.b)) t.en 0) := by
  go_enter Try.func100, Try.ntmps100
  go_wp2_with fail
  refine (HU.out _ (bel2 _ _ _)).mono ?_
  rintro e w1 ⟨_, _, a0, a1, a2, a3, nt, l, m, lz, at', en, er, rfl, hs, hb⟩
  obtain ⟨rfl, rfl, -, -, -, -, -, -, rfl, rfl⟩ := hs
  rw [he, hk]
  clear HU
  have uq := uq_start w w1 1 s.b a0 a1 a2 a3 nt l m lz at' s.en 0 hb
  simp only [tokV, markV]
  go_wp2_with fail
  refine (HD.out _ uq.bel).mono ?_
  rintro e w2 ⟨rfl, rfl⟩
  generalize ((w1.alloc (.cells #[.int .i64 1, .int .u8 (s.b : Nat), .int .u64 (a0 : Nat), .int .u64 (a1 : Nat), .int .u64 (a2 : Nat), .int .u64 (a3 : Nat), .bool nt, .int .i64 l, .int .i64 m, .bool lz, .int .i64 (at' : Nat)] 42)).alloc (.cells #[.int .i64 (s.en : Nat), .int .i64 0] 96)) = W at *
  have hS := uq.lt
  generalize w1.heap.size = S at *
  clear hb HD
  obtain ⟨⟨b0, b1, b2, b3, b4, b5, b6, b7, b8, b9, b10⟩, g0, g1, g2, g3, g4, g5, g6, g7, g8, g9, g10⟩ := uq.k2.eleven
  obtain ⟨⟨r0, r1⟩, s0, s1⟩ := uq.k3.two
  have n1 : S + 1 ≠ w.heap.size := by omega
  have n2 : S + 1 ≠ w.heap.size + 1 := by omega
  have n3 : S ≠ w.heap.size := by omega
  have n4 : S ≠ w.heap.size + 1 := by omega
  have HQ : Hid (Uq w S 1 s.b a0 a1 a2 a3 nt l m lz at' s.en 0 W) := uq
  clear uq
  have i5 : (s.en : Int) + 1 < 9223372036854775808 := by omega
  go_wp2_with fail
  refine (HV.out _ HQ.out.bel).mono ?_
  rintro e w2 ⟨_, _, a0', a1', a2', a3', nt', l', m', lz', at'', en', er', rfl, hs', hb2⟩
  obtain ⟨rfl, rfl, -, -, -, -, -, -, rfl, rfl⟩ := hs'
  rw [ht, hk2]
  have u2 := HQ.out.next hb2
  obtain ⟨⟨t0, t1⟩, v0, v1⟩ := u2.k3.two
  have l2 : S + 1 < w2.heap.size := u2.k3.lt
  have n5 : w2.heap.size ≠ S + 1 := by omega
  have n6 : S + 1 ≠ w2.heap.size := by omega
  have u3 := (u2.k3.alloc (.cells #[.int .i64 1, .int .u8 (t.b : Nat), .int .u64 (a0' : Nat), .int .u64 (a1' : Nat), .int .u64 (a2' : Nat), .int .u64 (a3' : Nat), .bool nt', .int .i64 l', .int .i64 m', .bool lz', .int .i64 (at'' : Nat)] 42))
  have v3 := u3.put2 (.int .i64 (t.en : Nat)) (.int .i64 0)
  have vk0 := (u2.k0.alloc (.cells #[.int .i64 1, .int .u8 (t.b : Nat), .int .u64 (a0' : Nat), .int .u64 (a1' : Nat), .int .u64 (a2' : Nat), .int .u64 (a3' : Nat), .bool nt', .int .i64 l', .int .i64 m', .bool lz', .int .i64 (at'' : Nat)] 42)).others2 (k := S + 1) (by omega) (.int .i64 (t.en : Nat)) (.int .i64 0)
  have vk1 := (u2.k1.alloc (.cells #[.int .i64 1, .int .u8 (t.b : Nat), .int .u64 (a0' : Nat), .int .u64 (a1' : Nat), .int .u64 (a2' : Nat), .int .u64 (a3' : Nat), .bool nt', .int .i64 l', .int .i64 m', .bool lz', .int .i64 (at'' : Nat)] 42)).others2 (k := S + 1) (by omega) (.int .i64 (t.en : Nat)) (.int .i64 0)
  have v2 := (u2.k2.alloc (.cells #[.int .i64 1, .int .u8 (t.b : Nat), .int .u64 (a0' : Nat), .int .u64 (a1' : Nat), .int .u64 (a2' : Nat), .int .u64 (a3' : Nat), .bool nt', .int .i64 l', .int .i64 m', .bool lz', .int .i64 (at'' : Nat)] 42)).others2 (k := S + 1) (by omega) (.int .i64 (t.en : Nat)) (.int .i64 0)
  have v4 := (Cl.new w2 42 [.int .i64 1, .int .u8 (t.b : Nat), .int .u64 (a0' : Nat), .int .u64 (a1' : Nat), .int .u64 (a2' : Nat), .int .u64 (a3' : Nat), .bool nt', .int .i64 l', .int .i64 m', .bool lz', .int .i64 (at'' : Nat)]).others2 (k := S + 1) (by omega) (.int .i64 (t.en : Nat)) (.int .i64 0)
  have vb := below_put2 (b := S + 1) (u2.bel.alloc u2.bel.size (.cells #[.int .i64 1, .int .u8 (t.b : Nat), .int .u64 (a0' : Nat), .int .u64 (a1' : Nat), .int .u64 (a2' : Nat), .int .u64 (a3' : Nat), .bool nt', .int .i64 l', .int .i64 m', .bool lz', .int .i64 (at'' : Nat)] 42)) (by omega) (.int .i64 (t.en : Nat)) (.int .i64 0)
  obtain ⟨⟨p0, p1⟩, q0, q1⟩ := u3.two
  simp only [put2] at v3 vk0 vk1 vb v2 v4
  clear u3 t0 t1 v0 v1 u2 l2 hb2 HV he ht hk hk2 n1 n2 n3 n4 i5 hse b0 b1 b2 b3 b4 b5 b6 b7 b8 b9 b10 g0 g1 g2 g3 g4 g5 g6 g7 g8 g9 g10 r0 r1 s0 s1
  obtain ⟨⟨y0, y1, -, -, -, -, -, -, -, -, -⟩, -⟩ := v2.eleven
  obtain ⟨⟨y2, y3, -, -, -, -, -, -, -, -, -⟩, -⟩ := v4.eleven
  clear v2 v4
  have HV3 : Hid (Cl _ _ _ _) := v3
  have HV0 : Hid (Cl _ _ _ _) := vk0
  have HV1 : Hid (Cl _ _ _ _) := vk1
  have HVb : Hid (Below _ _ _) := vb
  have HS : Hid (w.heap.size + 2 ≤ S) := hS
  clear v3 vk0 vk1 vb hS
  simp only [tokV, markV]
  go_wp2_with fail
  have HG : Hid (∀ W, Calls Try.prog 121 #[.int .u8 (s.b : Nat), .int .u8 (t.b : Nat)] W (RetC W (rg s.b (t.b + 1 - s.b)))) := fun W => range_any s.b t.b W (by omega) hlt
  generalize (((w2.alloc (.cells #[.int .i64 1, .int .u8 (t.b : Nat), .int .u64 (a0' : Nat), .int .u64 (a1' : Nat), .int .u64 (a2' : Nat), .int .u64 (a3' : Nat), .bool nt', .int .i64 l', .int .i64 m', .bool lz', .int .i64 (at'' : Nat)] 42)).setCell ⟨S + 1, 0, none⟩ (.int .i64 (t.en : Nat))).setCell ⟨S + 1, 1, none⟩ (.int .i64 0)) = W3 at *
  generalize rg s.b (t.b + 1 - s.b) = P at *
  obtain ⟨⟨r0, r1⟩, s0, s1⟩ := HV3.out.two
  go_region_with (first | (
    go_at_call 121
    refine (HG.out _).mono ?_
    rintro e w4 ⟨⟨x0, x1, x2, x3, rfl, h4⟩, hb4⟩
    have hS := HS.out
    have n1 : S + 1 ≠ w.heap.size := by omega
    have n2 : S + 1 ≠ w.heap.size + 1 := by omega
    have z3 := HV3.out.drew.below hb4
    have z0 := HV0.out.drew.below hb4
    have z1 := HV1.out.drew.below hb4
    have zb : Below w.heap.size w w4 := HVb.out.drew.trans (hb4.mono HVb.out.drew.size)
    have H4 : Hid (C4 P x0 x1 x2 x3) := h4
    obtain ⟨⟨t0, t1⟩, v0, v1⟩ := z3.two
    obtain ⟨⟨c0, c1, c2, c3⟩, h0, h1, h2, h3⟩ := z0.four
    obtain ⟨⟨d0, d1⟩, e0, e1⟩ := z1.two
    have F := ((z0.putc (.int .u64 (x0 : Nat)) (.int .u64 (x1 : Nat)) (.int .u64 (x2 : Nat)) (.int .u64 (x3 : Nat))).others2 (k := w.heap.size + 1) (by omega) (.int .i64 (t.en : Nat)) (.int .i64 0)).four.1
    have G := ((z1.others4 (k := w.heap.size) (by omega) (.int .u64 (x0 : Nat)) (.int .u64 (x1 : Nat)) (.int .u64 (x2 : Nat)) (.int .u64 (x3 : Nat))).put2 (.int .i64 (t.en : Nat)) (.int .i64 0)).two.1
    have hB4 := below_put2 (b := w.heap.size + 1) (below_putc (b := w.heap.size) zb (Nat.le_refl _) (.int .u64 (x0 : Nat)) (.int .u64 (x1 : Nat)) (.int .u64 (x2 : Nat)) (.int .u64 (x3 : Nat))) (by omega) (.int .i64 (t.en : Nat)) (.int .i64 0)
    simp only [put2, putc] at F G
    obtain ⟨F0, F1, F2, F3⟩ := F
    obtain ⟨G0, G1⟩ := G
    have HF : Hid (Below w.heap.size w _) := hB4
    clear hB4 z0 z1 z3 zb h4 hb4 hS))
  all_goals go_wp2
  all_goals exact bodyPost_ret (v := .tuple #[.agg #[.int .u64 (x0 : Nat), .int .u64 (x1 : Nat), .int .u64 (x2 : Nat), .int .u64 (x3 : Nat)], markV t.en 0]) (by simp [results, Try.results100, go_sem, markV, F0, F1, F2, F3, G0, G1]) rfl ⟨x0, x1, x2, x3, rfl, H4.out, HF.out⟩
end Go.Proofs.Ytlmmiicibjfcdaa
