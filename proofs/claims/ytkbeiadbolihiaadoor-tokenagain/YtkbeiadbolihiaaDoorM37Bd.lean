/- TokenBack: the walk of the law. -/
import Derived.Test.YtkbeiadbolihiaaDoorM36Bc
namespace Go.Proofs.YtkbeiadbolihiaaDoor
open Go.RowKit Go.Shelf
theorem erV_true : erV true = 0 := rfl
theorem erV_false : erV false = 45 := rfl
set_option maxRecDepth 20000 in
set_option maxHeartbeats 4000000 in
theorem back_walk (ao : Option Addr) (n cap : Nat) (F : Nat → TkR) (w : World) (hr : RdK w ao n F) (hn : (n : Int) ≤ 1048576) (hT : Tab w) (hW : Pow w) : Calls Tryd.prog 5 #[.slice ao n cap] w (RetB w true) := by
  go_enter Tryd.func5, Tryd.ntmps5
  go_wp2_with fail
  refine (begun_any _).mono ?_
  rintro e w1 ⟨rfl, hb1⟩
  go_wp2_with fail
  go_loopw [13] (fun i wr => ∃ k : Nat, k ≤ n ∧ i = .int .i64 (k : Nat) ∧ Below w.heap.size w wr ∧ Hid (BkI F k)) (fun i _ => n - (intOf i).toNat)
  case atStart => exact ⟨0, Nat.zero_le _, rfl, hb1, ⟨fun i hi => by omega, fun i hi => by omega⟩⟩
  case round =>
    obtain ⟨k, hk, rfl, hI, hK⟩ := hrel
    by_cases hlt : k < n
    · obtain ⟨bb, off, rfl, hbb, hc⟩ := hr.at_ (by omega)
      have hok := hr.ok k hlt
      have hki : (k : Int) < (n : Int) := by omega
      have hkn : ∃ kp : Nat, (0 < k → kp + 1 = k) ∧ kp < n := ⟨k - 1, by omega, by omega⟩
      obtain ⟨kp, hkp, hkq⟩ := hkn
      obtain ⟨c0, c1, c2, c3, c4, c5, c6, c7, c8, c9, c10⟩ := hc k hlt
      obtain ⟨p0, -⟩ := hc kp hkq
      rw [← hI.cell (p := ⟨bb, off + k * 11, none⟩) hbb] at c0
      rw [← hI.cell (p := ⟨bb, off + k * 11 + 1, none⟩) hbb] at c1
      rw [← hI.cell (p := ⟨bb, off + k * 11 + 2, none⟩) hbb] at c2
      rw [← hI.cell (p := ⟨bb, off + k * 11 + 3, none⟩) hbb] at c3
      rw [← hI.cell (p := ⟨bb, off + k * 11 + 4, none⟩) hbb] at c4
      rw [← hI.cell (p := ⟨bb, off + k * 11 + 5, none⟩) hbb] at c5
      rw [← hI.cell (p := ⟨bb, off + k * 11 + 6, none⟩) hbb] at c6
      rw [← hI.cell (p := ⟨bb, off + k * 11 + 7, none⟩) hbb] at c7
      rw [← hI.cell (p := ⟨bb, off + k * 11 + 8, none⟩) hbb] at c8
      rw [← hI.cell (p := ⟨bb, off + k * 11 + 9, none⟩) hbb] at c9
      rw [← hI.cell (p := ⟨bb, off + k * 11 + 10, none⟩) hbb] at c10
      rw [← hI.cell (p := ⟨bb, off + kp * 11, none⟩) hbb] at p0
      have hbr := Nat.lt_of_lt_of_le hbb hI.size
      have hA : Below wr.heap.size wr (wr.alloc (.cells #[.int .i64 (F k).k, .int .u8 ((F k).b : Nat), .int .u64 ((F k).a0 : Nat), .int .u64 ((F k).a1 : Nat), .int .u64 ((F k).a2 : Nat), .int .u64 ((F k).a3 : Nat), .bool (F k).nt, .int .i64 (F k).l, .int .i64 (F k).m, .bool (F k).lz, .int .i64 (F k).t] 26)) := (Below.refl _ _).alloc (Nat.le_refl _) _
      have q0 := Cl.new wr 26 [.int .i64 (F k).k, .int .u8 ((F k).b : Nat), .int .u64 ((F k).a0 : Nat), .int .u64 ((F k).a1 : Nat), .int .u64 ((F k).a2 : Nat), .int .u64 ((F k).a3 : Nat), .bool (F k).nt, .int .i64 (F k).l, .int .i64 (F k).m, .bool (F k).lz, .int .i64 (F k).t]
      have hC := check_all (F k).k (F k).b (F k).a0 (F k).a1 (F k).a2 (F k).a3 (F k).nt (F k).l (F k).m (F k).lz (F k).t (wr.alloc (.cells #[.int .i64 (F k).k, .int .u8 ((F k).b : Nat), .int .u64 ((F k).a0 : Nat), .int .u64 ((F k).a1 : Nat), .int .u64 ((F k).a2 : Nat), .int .u64 ((F k).a3 : Nat), .bool (F k).nt, .int .i64 (F k).l, .int .i64 (F k).m, .bool (F k).lz, .int .i64 (F k).t] 26)) hok.h4
      unfold RetN tokI at hC
      have HX : (F k).chk = true → (0 < k → ¬ ((F k).k = 7 ∧ (F kp).k = 7)) → Hid (BkI F (k + 1)) := fun h1 h2 => hK.out.next h1 (fun h => by rw [show k - 1 = kp by have := hkp h; omega]; exact h2 h)
      rw [show chk (F k).k (F k).b (F k).P (F k).nt (F k).l (F k).m (F k).lz (F k).t = (F k).chk from rfl] at hC
      have HIA : ∀ w2, Below (wr.alloc (.cells #[.int .i64 (F k).k, .int .u8 ((F k).b : Nat), .int .u64 ((F k).a0 : Nat), .int .u64 ((F k).a1 : Nat), .int .u64 ((F k).a2 : Nat), .int .u64 ((F k).a3 : Nat), .bool (F k).nt, .int .i64 (F k).l, .int .i64 (F k).m, .bool (F k).lz, .int .i64 (F k).t] 26)).heap.size (wr.alloc (.cells #[.int .i64 (F k).k, .int .u8 ((F k).b : Nat), .int .u64 ((F k).a0 : Nat), .int .u64 ((F k).a1 : Nat), .int .u64 ((F k).a2 : Nat), .int .u64 ((F k).a3 : Nat), .bool (F k).nt, .int .i64 (F k).l, .int .i64 (F k).m, .bool (F k).lz, .int .i64 (F k).t] 26)) w2 → Below w.heap.size w w2 := fun w2 h => hI.trans ((hA.trans (h.mono hA.size)).mono hI.size)
      have HP : ∀ w2, Below (wr.alloc (.cells #[.int .i64 (F k).k, .int .u8 ((F k).b : Nat), .int .u64 ((F k).a0 : Nat), .int .u64 ((F k).a1 : Nat), .int .u64 ((F k).a2 : Nat), .int .u64 ((F k).a3 : Nat), .bool (F k).nt, .int .i64 (F k).l, .int .i64 (F k).m, .bool (F k).lz, .int .i64 (F k).t] 26)).heap.size (wr.alloc (.cells #[.int .i64 (F k).k, .int .u8 ((F k).b : Nat), .int .u64 ((F k).a0 : Nat), .int .u64 ((F k).a1 : Nat), .int .u64 ((F k).a2 : Nat), .int .u64 ((F k).a3 : Nat), .bool (F k).nt, .int .i64 (F k).l, .int .i64 (F k).m, .bool (F k).lz, .int .i64 (F k).t] 26)) w2 → w2.cell? ⟨bb, off + kp * 11, none⟩ = some (.int .i64 (F kp).k) ∧ w2.cell? ⟨wr.heap.size, 0, none⟩ = some (.int .i64 (F k).k) := fun w2 h => ⟨by rw [(hA.trans (h.mono hA.size)).cell (p := ⟨bb, off + kp * 11, none⟩) hbr]; exact p0, (q0.below h).cell 0 rfl⟩
      clear hK hok hc hA q0 p0
      generalize (F k).chk = ck at *
      generalize F k = q at *
      generalize (F kp).k = qk at *
      have wk : 0 < k → IntKind.i64.wrap ((k : Int) - 1) = ((kp : Nat) : Int) := fun h => by have := hkp h; rw [IntKind.wrap_i64]; omega
      have lk : ((kp : Nat) : Int) < (n : Int) := by omega
      cases ck with
      | false =>
        rw [erV_false] at hC
        clear HX
        go_wp2_with fail
        refine hC.mono ?_
        rintro e w2 ⟨rfl, b2⟩
        have bw2 := HIA w2 b2
        clear hC b2 HIA HP c0 c1 c2 c3 c4 c5 c6 c7 c8 c9 c10
        go_wp2_with fail
        go_ret
        exact ⟨rfl, bw2⟩
      | true =>
        rw [erV_true] at hC
        by_cases hk0 : 0 < k
        · have hk0i : (0 : Int) < (k : Int) := by omega
          have wk1 := wk hk0
          have HX1 := fun h => HX rfl (fun _ => h)
          clear HX wk hkp
          cases h7 : (q.k == 7) with
          | false =>
            have HY := HX1 (fun h => by rw [h.1] at h7; cases h7)
            clear HX1
            go_wp2_with fail
            refine hC.mono ?_
            rintro e w2 ⟨rfl, b2⟩
            have bw2 := HIA w2 b2
            have p2 := (HP w2 b2).2
            clear hC b2 HIA HP c0 c1 c2 c3 c4 c5 c6 c7 c8 c9 c10
            go_wp2_with fail
            go_roundw
            case rel => exact ⟨k + 1, by omega, by go_num, bw2, HY⟩
            case measure => simp [intOf]; omega
          | true =>
            cases h8 : (qk == 7) with
            | false =>
              have HY := HX1 (fun h => by rw [h.2] at h8; cases h8)
              clear HX1
              go_wp2_with fail
              refine hC.mono ?_
              rintro e w2 ⟨rfl, b2⟩
              have bw2 := HIA w2 b2
              obtain ⟨p1, p2⟩ := HP w2 b2
              clear hC b2 HIA HP c0 c1 c2 c3 c4 c5 c6 c7 c8 c9 c10
              go_wp2_with fail
              go_roundw
              case rel => exact ⟨k + 1, by omega, by go_num, bw2, HY⟩
              case measure => simp [intOf]; omega
            | true =>
              clear HX1
              go_wp2_with fail
              refine hC.mono ?_
              rintro e w2 ⟨rfl, b2⟩
              have bw2 := HIA w2 b2
              obtain ⟨p1, p2⟩ := HP w2 b2
              clear hC b2 HIA HP c0 c1 c2 c3 c4 c5 c6 c7 c8 c9 c10
              go_wp2_with fail
              go_ret
              exact ⟨rfl, bw2⟩
        · have hk0i : ¬ (0 : Int) < (k : Int) := by omega
          have HY := HX rfl (fun h => absurd h hk0)
          clear HX wk hkp
          go_wp2_with fail
          refine hC.mono ?_
          rintro e w2 ⟨rfl, b2⟩
          have bw2 := HIA w2 b2
          have p2 := (HP w2 b2).2
          clear hC b2 HIA HP c0 c1 c2 c3 c4 c5 c6 c7 c8 c9 c10
          go_wp2_with fail
          go_roundw
          case rel => exact ⟨k + 1, by omega, by go_num, bw2, HY⟩
          case measure => simp [intOf]; omega
    · obtain rfl : k = n := by omega
      have hki : ¬ (k : Int) < (k : Int) := by omega
      have H15 := print_any ao k cap F wr (hr.below hI) hn (hT.below hI) (hW.below hI)
      unfold RetPr at H15
      obtain ⟨N, hN⟩ : ∃ N, (prB F k).length = N := ⟨_, rfl⟩
      rw [hN] at H15
      go_wp2_with fail
      refine H15.mono ?_
      rintro e w2 ⟨ao1, cap1, rfl, ho1, hb2⟩
      have bw2 := hI.trans (hb2.mono hI.size)
      clear H15
      by_cases h24 : (1024 : Int) < (N : Int)
      · clear ho1 hb2 hK hN
        go_wp2_with fail
        go_ret
        exact ⟨rfl, bw2⟩
      · have hrd := rd_row ho1 hN
        have HL := lex_short ao1 N cap1 _ w2 hrd (by omega)
        obtain ⟨T, hT1, hT2⟩ := back_lex hK.out hr.ok (by rw [hN]; omega)
        rw [hN] at hT1
        unfold RetLx at HL
        rw [hT1] at HL
        have hlen : ((List.range k).map T).length = k := by simp
        rw [hlen] at HL
        have her : ∀ s, s ∈ (List.range k).map T → s.er = 0 := fun s hs => by
          obtain ⟨i, hi, rfl⟩ := List.mem_map.1 hs
          exact (hT2 i (List.mem_range.1 hi)).1
        clear hT1 hN hK ho1 hb2 hlen
        go_wp2_with fail
        refine HL.mono ?_
        rintro e w3 (⟨ao3, cap3, -, rfl, ho3, hb3⟩ | ⟨s, hs, hse, -⟩)
        · have bw3 := bw2.trans (hb3.mono bw2.size)
          have hk3 := rdk_row ho3 fun i hi => (hT2 i hi).2.1
          have HS := sameAll_any ao3 ao k cap3 cap _ F w3 hk3 (hr.below bw3) (by omega) fun i hi => (hT2 i hi).2.2.1
          clear HL her ho3 hb3 hT2
          go_wp2_with fail
          refine HS.mono ?_
          rintro e w4 ⟨rfl, hb4⟩
          have bw4 := bw3.trans (hb4.mono bw3.size)
          clear HS
          go_wp2_with fail
          go_ret
          exact ⟨rfl, bw4⟩
        · exact absurd (her s hs) hse
end Go.Proofs.YtkbeiadbolihiaaDoor
