/- TokenWhole: the walk. -/
import Derived.Test.YtkbeiadbolihiabTv
namespace Go.Proofs.Ytkbeiadbolihiab
open Go.RowKit
/-- A word by itself is lexed to that word alone. -/
theorem lex_part (bb off n : Nat) (z : Nat → Nat) (w : World) (hr : Rd w (some ⟨bb, off, none⟩) n z) (hn : (n : Int) ≤ 1024) (s : TokS) (e1 : s = wrd z n s.at_) (e2 : s.at_ < n) (e3 : s.at_ < s.en) (e4 : s.en ≤ n) (e5 : s.er = 0) (c : Nat) (en : Nat) (hen : s.en = en) :
    Calls Try.prog 4 #[.slice (some ⟨bb, off + s.at_, none⟩) (en - s.at_) c] w fun e w' => ∃ g cap', e = .returned (.tuple #[.slice (some ⟨g, 0, none⟩) 1 cap', .int .i64 ((en - s.at_ : Nat) : Int), .int .i64 0]) ∧ g < w'.heap.size ∧
      (w'.cell? ⟨g, 0, none⟩ = some (.int .i64 s.k) ∧ w'.cell? ⟨g, 1, none⟩ = some (.int .u8 (s.b : Nat)) ∧ w'.cell? ⟨g, 2, none⟩ = some (.int .u64 (wds s.P 0 : Nat)) ∧ w'.cell? ⟨g, 3, none⟩ = some (.int .u64 (wds s.P 1 : Nat)) ∧ w'.cell? ⟨g, 4, none⟩ = some (.int .u64 (wds s.P 2 : Nat)) ∧ w'.cell? ⟨g, 5, none⟩ = some (.int .u64 (wds s.P 3 : Nat)) ∧ w'.cell? ⟨g, 6, none⟩ = some (.bool s.nt) ∧ w'.cell? ⟨g, 7, none⟩ = some (.int .i64 s.l) ∧ w'.cell? ⟨g, 8, none⟩ = some (.int .i64 s.m) ∧ w'.cell? ⟨g, 9, none⟩ = some (.bool s.lz) ∧ w'.cell? ⟨g, 10, none⟩ = some (.int .i64 0)) ∧ Below w.heap.size w w' := by
  subst hen
  have hs : wl (fun i => z (s.at_ + i)) (s.en - s.at_) 1100 0 = [{ s with at_ := 0, en := s.en - s.at_ }] := by
    have := wl_self (z := z) (n := n) (k := s.at_) e2 (by rw [← e1]; exact e5)
    rw [← e1] at this
    exact this
  refine (lex_short (some ⟨bb, off + s.at_, none⟩) (s.en - s.at_) c (fun i => z (s.at_ + i)) w (hr.part _ _ (by omega)) (by omega)).mono ?_
  rintro e w' (⟨ao, cap', hg, rfl, hrow, hb⟩ | ⟨t, ht, he, _⟩)
  · rw [hs] at hrow ⊢
    obtain ⟨g, rfl, hgl, _, hc⟩ := row_cell hrow (by simp)
    have h := row_tok hc 0 (by simp)
    simp only [Nat.zero_mul, Nat.zero_add, List.getElem_cons_zero] at h
    exact ⟨g, cap', rfl, hgl, h, hb⟩
  · exfalso
    rw [hs] at ht
    rw [List.mem_singleton.1 ht] at he
    exact he e5
set_option maxRecDepth 20000 in
set_option maxHeartbeats 2000000 in
theorem whole_good (bb off : Nat) (n cap : Nat) (z : Nat → Nat) (w : World) (hr : Rd w (some ⟨bb, off, none⟩) n z) (hn : (n : Int) ≤ 1024) (hcap : (n : Int) ≤ (cap : Int)) (ts : List TokS) (htk : Tk z n ts) (h0 : 0 < n)
    (HL : Hid (Calls Try.prog 4 #[.slice (some ⟨bb, off, none⟩) n cap] w fun e w' => ∃ ao cap', e = .returned (.tuple #[.slice ao ts.length cap', .int .i64 (n : Nat), .int .i64 0]) ∧ w'.ownsRow w.heap.size 32 11 (.slice ao ts.length cap') ts.length (tokL ts) ∧ Below w.heap.size w w')) : Calls Try.prog 3 #[.slice (some ⟨bb, off, none⟩) n cap] w (RetB w true) := by
  have hlen : 0 < ts.length := by have := htk.zero; omega
  have hlen2 : (ts.length : Int) ≤ 1024 := by have := htk.len; omega
  have h01 : ((n : Int) == 0) = false := by simp; omega
  have h02 : ((ts.length : Int) == 0) = false := by rw [beq_eq_false_iff_ne]; omega
  have h03 : (ts.length : Int) > 0 := by omega
  have h04 : 0 < (ts.length : Int) := by omega
  go_enter Try.func3, Try.ntmps3
  go_wp2_with fail
  refine HL.out.mono ?_
  rintro e w1 ⟨ao, cap', rfl, hrow, hb1⟩
  obtain ⟨g, rfl, hgl, _, hc⟩ := row_cell hrow hlen
  go_wp2_with fail
  refine (begun_any _).mono ?_
  rintro e w2 ⟨rfl, hb2⟩
  have hc2 : ∀ j u, (tokL ts)[j]? = some u → w2.cell? ⟨g, j, none⟩ = some u := fun j u hu => by rw [hb2.cell (p := ⟨g, j, none⟩) hgl]; exact hc j u hu
  have t10 := (row_tok hc2 0 hlen).2.2.2.2.2.2.2.2.2.2
  rw [htk.first hlen] at t10
  simp only [Nat.zero_mul, Nat.zero_add] at t10
  have hB2 : Below w.heap.size w w2 := hb1.trans (hb2.mono hb1.size)
  have HC : Hid (∀ j u, (tokL ts)[j]? = some u → w2.cell? ⟨g, j, none⟩ = some u) := hc2
  have hg2 : g < w2.heap.size := Nat.lt_of_lt_of_le hgl hb2.size
  clear hc hc2 hrow HL hb1 hb2 hgl
  have HT : Hid (Tk z n ts) := htk
  have HR : Hid (Rd w (some ⟨bb, off, none⟩) n z) := hr
  clear htk hr
  generalize hL : ts.length = L at *
  have HLn : Hid (ts.length = L) := hL
  clear hL hlen
  go_wp2_with fail
  go_loopw [52] (fun i wr => ∃ k : Nat, k ≤ L ∧ i = .int .i64 (k : Nat) ∧ Below w2.heap.size w2 wr) (fun i _ => L - (intOf i).toNat)
  case atStart => exact ⟨0, by omega, rfl, Below.refl _ _⟩
  case round =>
    obtain ⟨k, hk, rfl, hB⟩ := hrel
    by_cases hlt : k < L
    · have hkl : k < ts.length := by rw [HLn.out]; exact hlt
      have hcw : ∀ j u, (tokL ts)[j]? = some u → wr.cell? ⟨g, j, none⟩ = some u := fun j u hu => by rw [hB.cell (p := ⟨g, j, none⟩) hg2]; exact HC.out j u hu
      obtain ⟨c0, c1, c2, c3, c4, c5, c6, c7, c8, c9, c10⟩ := row_tok hcw k hkl
      obtain ⟨e1, e2, e3, e4, e5⟩ := HT.out.wd k hkl
      have hki : (k : Int) < (L : Int) := by omega
      by_cases hk1 : k + 1 < L
      · have hk1l : k + 1 < ts.length := by rw [HLn.out]; exact hk1
        have d10 := (row_tok hcw (k + 1) hk1l).2.2.2.2.2.2.2.2.2.2
        rw [← HT.out.next k hk1l] at d10
        have hgr : g < wr.heap.size := Nat.lt_of_lt_of_le hg2 hB.size
        have d11 : ∀ o, (wr.alloc o).cell? ⟨g, (k + 1) * 11 + 10, none⟩ = some (.int .i64 (ts[k].en : Nat)) := fun o => by rw [((Below.refl _ wr).alloc (Nat.le_refl _) o).cell (p := ⟨g, (k + 1) * 11 + 10, none⟩) hgr]; exact d10
        clear d10 hgr
        have hkj : (k : Int) < (L : Int) - 1 := by omega
        have hkj2 : (k : Int) + 1 < (L : Int) := by omega
        have i1 : (ts[k].at_ : Int) < (ts[k].en : Int) := by omega
        have i2 : (ts[k].en : Int) ≤ (n : Int) := by omega
        have i3 : (ts[k].en : Int) ≤ (cap : Int) := by omega
        have i4 : ¬ ((ts[k].at_ : Int) ≥ (ts[k].en : Int)) := by omega
        have i5 : ¬ ((ts[k].en : Int) > (n : Int)) := by omega
        have HX : Hid (∀ W, Below w.heap.size w W → _) := fun W hb => lex_part bb off n z W (HR.out.below hb) hn ts[k] e1 e2 e3 e4 e5 (cap - ts[k].at_) ts[k].en rfl
        have HBr : Hid (Below w2.heap.size w2 wr) := hB
        clear hcw e1 e2 e3 e4 e5 hB
        generalize ts[k].k = sk at *
        generalize ts[k].b = sb at *
        generalize ts[k].P = sP at *
        generalize ts[k].nt = snt at *
        generalize ts[k].l = sl at *
        generalize ts[k].m = sm at *
        generalize ts[k].lz = slz at *
        generalize ts[k].at_ = sa at *
        generalize ts[k].en = se at *
        generalize wds sP 0 = a0 at *
        generalize wds sP 1 = a1 at *
        generalize wds sP 2 = a2 at *
        generalize wds sP 3 = a3 at *
        clear hk hlt hkl hk1 hk1l h0
        go_wp2_with fail
        have hB3 : Below w2.heap.size w2 (wr.alloc (.cells #[.int .i64 sk, .int .u8 (sb : Nat), .int .u64 (a0 : Nat), .int .u64 (a1 : Nat), .int .u64 (a2 : Nat), .int .u64 (a3 : Nat), .bool snt, .int .i64 sl, .int .i64 sm, .bool slz, .int .i64 (sa : Nat)] 32)) := HBr.out.alloc HBr.out.size _
        refine (HX.out _ (hB2.trans (hB3.mono hB2.size))).mono ?_
        rintro e w4 ⟨g4, cap4, rfl, hg4, ⟨x0, x1, x2, x3, x4, x5, x6, x7, x8, x9, x10⟩, hb4⟩
        have hcl := (Cl.new wr 32 [.int .i64 sk, .int .u8 (sb : Nat), .int .u64 (a0 : Nat), .int .u64 (a1 : Nat), .int .u64 (a2 : Nat), .int .u64 (a3 : Nat), .bool snt, .int .i64 sl, .int .i64 sm, .bool slz, .int .i64 (sa : Nat)]).below hb4
        have hwl := hcl.lt
        obtain ⟨y0, y1, y2, y3, y4, y5, y6, y7, y8, y9, y10⟩ := hcl.eleven.1
        replace x0 := Near.cell x0 hg4
        replace y0 := Near.cell y0 hwl
        replace x1 := Near.cell x1 hg4
        replace y1 := Near.cell y1 hwl
        replace x2 := Near.cell x2 hg4
        replace y2 := Near.cell y2 hwl
        replace x3 := Near.cell x3 hg4
        replace y3 := Near.cell y3 hwl
        replace x4 := Near.cell x4 hg4
        replace y4 := Near.cell y4 hwl
        replace x5 := Near.cell x5 hg4
        replace y5 := Near.cell y5 hwl
        replace x6 := Near.cell x6 hg4
        replace y6 := Near.cell y6 hwl
        replace x7 := Near.cell x7 hg4
        replace y7 := Near.cell y7 hwl
        replace x8 := Near.cell x8 hg4
        replace y8 := Near.cell y8 hwl
        replace x9 := Near.cell x9 hg4
        replace y9 := Near.cell y9 hwl
        replace x10 := Near.cell x10 hg4
        replace y10 := Near.cell y10 hwl
        have HB4 : Hid (Below w2.heap.size w2 w4) := hB3.trans (hb4.mono hB3.size)
        clear hcl hwl hg4 hB3 hb4 HX d11 c0 c1 c2 c3 c4 c5 c6 c7 c8 c9 c10 t10
        have HS : Hid (∀ W, Calls Try.prog 6 #[.agg #[.int .i64 sk, .int .u8 (sb : Nat), .int .u64 (a0 : Nat), .int .u64 (a1 : Nat), .int .u64 (a2 : Nat), .int .u64 (a3 : Nat), .bool snt, .int .i64 sl, .int .i64 sm, .bool slz, .int .i64 0], .agg #[.int .i64 sk, .int .u8 (sb : Nat), .int .u64 (a0 : Nat), .int .u64 (a1 : Nat), .int .u64 (a2 : Nat), .int .u64 (a3 : Nat), .bool snt, .int .i64 sl, .int .i64 sm, .bool slz, .int .i64 (sa : Nat)]] W (RetB W true)) := fun W => same_any sk sb a0 a1 a2 a3 snt sl sm slz 0 sa W
        clear hkj hkj2 i1 i2 i3 i4 i5 hn hcap h01 h02 h03 h04 hg2
        go_wp2_with fail
        refine wp_region_quiet_tail 14 (fun w' => ∃ u : World, w' = near w4 u) (by kernel_rfl) (by kernel_rfl) (Near.start _) ?_
        simp only [List.take_succ_cons, List.take_zero, List.drop_succ_cons, List.drop_zero]
        repeat (go_big_quiet_step ((go_at_call 6; exact Near.call (HS.out _))))
        refine wpQuiet_nil ?_
        rintro _ ⟨u, rfl⟩
        have HB5 : Hid (Below w2.heap.size w2 (near w4 u)) := HB4.out.trans ((near_below w4 u).mono HB4.out.size)
        clear x0 x1 x2 x3 x4 x5 x6 x7 x8 x9 x10 y0 y1 y2 y3 y4 y5 y6 y7 y8 y9 y10
        generalize near w4 u = w5 at *
        go_wp2_with fail
        go_roundw
        case rel => exact ⟨k + 1, by omega, by go_num, HB5.out⟩
        case measure => simp [intOf]; omega
      · have hlast : ts[k].en = n := HT.out.last k hkl (by rw [HLn.out]; omega)
        have hkj : ¬ ((k : Int) < (L : Int) - 1) := by omega
        have i1 : (ts[k].at_ : Int) < (n : Int) := by omega
        have i3 : (n : Int) ≤ (cap : Int) := by omega
        have i4 : ¬ ((ts[k].at_ : Int) ≥ (n : Int)) := by omega
        have HX : Hid (∀ W, Below w.heap.size w W → _) := fun W hb => lex_part bb off n z W (HR.out.below hb) hn ts[k] e1 e2 e3 e4 e5 (cap - ts[k].at_) n hlast
        have HBr : Hid (Below w2.heap.size w2 wr) := hB
        clear hcw e1 e2 e3 e4 e5 hB hlast
        generalize ts[k].k = sk at *
        generalize ts[k].b = sb at *
        generalize ts[k].P = sP at *
        generalize ts[k].nt = snt at *
        generalize ts[k].l = sl at *
        generalize ts[k].m = sm at *
        generalize ts[k].lz = slz at *
        generalize ts[k].at_ = sa at *
        generalize wds sP 0 = a0 at *
        generalize wds sP 1 = a1 at *
        generalize wds sP 2 = a2 at *
        generalize wds sP 3 = a3 at *
        clear hk hlt hkl hk1 h0
        go_wp2_with fail
        have hB3 : Below w2.heap.size w2 (wr.alloc (.cells #[.int .i64 sk, .int .u8 (sb : Nat), .int .u64 (a0 : Nat), .int .u64 (a1 : Nat), .int .u64 (a2 : Nat), .int .u64 (a3 : Nat), .bool snt, .int .i64 sl, .int .i64 sm, .bool slz, .int .i64 (sa : Nat)] 32)) := HBr.out.alloc HBr.out.size _
        refine (HX.out _ (hB2.trans (hB3.mono hB2.size))).mono ?_
        rintro e w4 ⟨g4, cap4, rfl, hg4, ⟨x0, x1, x2, x3, x4, x5, x6, x7, x8, x9, x10⟩, hb4⟩
        have hcl := (Cl.new wr 32 [.int .i64 sk, .int .u8 (sb : Nat), .int .u64 (a0 : Nat), .int .u64 (a1 : Nat), .int .u64 (a2 : Nat), .int .u64 (a3 : Nat), .bool snt, .int .i64 sl, .int .i64 sm, .bool slz, .int .i64 (sa : Nat)]).below hb4
        have hwl := hcl.lt
        obtain ⟨y0, y1, y2, y3, y4, y5, y6, y7, y8, y9, y10⟩ := hcl.eleven.1
        replace x0 := Near.cell x0 hg4
        replace y0 := Near.cell y0 hwl
        replace x1 := Near.cell x1 hg4
        replace y1 := Near.cell y1 hwl
        replace x2 := Near.cell x2 hg4
        replace y2 := Near.cell y2 hwl
        replace x3 := Near.cell x3 hg4
        replace y3 := Near.cell y3 hwl
        replace x4 := Near.cell x4 hg4
        replace y4 := Near.cell y4 hwl
        replace x5 := Near.cell x5 hg4
        replace y5 := Near.cell y5 hwl
        replace x6 := Near.cell x6 hg4
        replace y6 := Near.cell y6 hwl
        replace x7 := Near.cell x7 hg4
        replace y7 := Near.cell y7 hwl
        replace x8 := Near.cell x8 hg4
        replace y8 := Near.cell y8 hwl
        replace x9 := Near.cell x9 hg4
        replace y9 := Near.cell y9 hwl
        replace x10 := Near.cell x10 hg4
        replace y10 := Near.cell y10 hwl
        have HB4 : Hid (Below w2.heap.size w2 w4) := hB3.trans (hb4.mono hB3.size)
        clear hcl hwl hg4 hB3 hb4 HX c0 c1 c2 c3 c4 c5 c6 c7 c8 c9 c10 t10
        have HS : Hid (∀ W, Calls Try.prog 6 #[.agg #[.int .i64 sk, .int .u8 (sb : Nat), .int .u64 (a0 : Nat), .int .u64 (a1 : Nat), .int .u64 (a2 : Nat), .int .u64 (a3 : Nat), .bool snt, .int .i64 sl, .int .i64 sm, .bool slz, .int .i64 0], .agg #[.int .i64 sk, .int .u8 (sb : Nat), .int .u64 (a0 : Nat), .int .u64 (a1 : Nat), .int .u64 (a2 : Nat), .int .u64 (a3 : Nat), .bool snt, .int .i64 sl, .int .i64 sm, .bool slz, .int .i64 (sa : Nat)]] W (RetB W true)) := fun W => same_any sk sb a0 a1 a2 a3 snt sl sm slz 0 sa W
        clear hkj i1 i3 i4 hn hcap h01 h02 h03 h04 hg2
        go_wp2_with fail
        refine wp_region_quiet_tail 14 (fun w' => ∃ u : World, w' = near w4 u) (by kernel_rfl) (by kernel_rfl) (Near.start _) ?_
        simp only [List.take_succ_cons, List.take_zero, List.drop_succ_cons, List.drop_zero]
        repeat (go_big_quiet_step ((go_at_call 6; exact Near.call (HS.out _))))
        refine wpQuiet_nil ?_
        rintro _ ⟨u, rfl⟩
        have HB5 : Hid (Below w2.heap.size w2 (near w4 u)) := HB4.out.trans ((near_below w4 u).mono HB4.out.size)
        clear x0 x1 x2 x3 x4 x5 x6 x7 x8 x9 x10 y0 y1 y2 y3 y4 y5 y6 y7 y8 y9 y10
        generalize near w4 u = w5 at *
        go_wp2_with fail
        go_roundw
        case rel => exact ⟨k + 1, by omega, by go_num, HB5.out⟩
        case measure => simp [intOf]; omega
    · obtain rfl : k = L := by omega
      have HB5 : Hid (Below w.heap.size w wr) := hB2.trans (hB.mono hB2.size)
      clear h01 h02 h03 h04 hn hcap hlen2
      have hno : ¬ ((k : Int) < (k : Int)) := by omega
      go_wp2
      go_ret
      exact ⟨rfl, HB5.out⟩
set_option maxRecDepth 20000 in
set_option maxHeartbeats 1000000 in
theorem whole_zero (ao : Option Addr) (cap : Nat) (w : World) (HL : Hid (Calls Try.prog 4 #[.slice ao 0 cap] w fun e w' => ∃ ao' cap', e = .returned (.tuple #[.slice ao' 0 cap', .int .i64 0, .int .i64 0]) ∧ Below w.heap.size w w')) : Calls Try.prog 3 #[.slice ao 0 cap] w (RetB w true) := by
  go_enter Try.func3, Try.ntmps3
  go_wp2_with fail
  refine HL.out.mono ?_
  rintro e w1 ⟨ao', cap', rfl, hb1⟩
  go_wp2_with fail
  refine (begun_any _).mono ?_
  rintro e w2 ⟨rfl, hb2⟩
  have HB : Hid (Below w.heap.size w w2) := hb1.trans (hb2.mono hb1.size)
  clear hb1 hb2 HL
  go_wp2_with fail
  go_loopw [52] (fun i wr => i = .int .i64 0 ∧ wr = w2) (fun _ _ => 0)
  case atStart => exact ⟨rfl, rfl⟩
  case round =>
    obtain ⟨rfl, rfl⟩ := hrel
    go_wp2
    go_ret
    exact ⟨rfl, HB.out⟩
theorem whole_any (ao : Option Addr) (n cap : Nat) (z : Nat → Nat) (w : World) (hr : Rd w ao n z) (hcap : n ≤ cap) : Calls Try.prog 3 #[.slice ao n cap] w (RetB w true) := by
  by_cases hn : n ≤ 1024
  · have hL := lex_short ao n cap z w hr (by omega)
    by_cases hg : ∀ s, s ∈ wl z n 1100 0 → s.er = 0
    · have htk := tk_of hn hg
      by_cases h0 : n = 0
      · subst h0
        have e0 : wl z 0 1100 0 = [] := wl_end (Nat.le_refl _)
        refine whole_zero ao cap w (hL.mono ?_)
        rintro e w' (⟨ao', cap', _, rfl, _, hb⟩ | ⟨s, hs, he, _⟩)
        · rw [e0]; exact ⟨ao', cap', rfl, hb⟩
        · exact absurd (hg s hs) he
      · obtain ⟨bb, off, rfl, _, _⟩ := hr.at_ (by omega)
        refine whole_good bb off n cap z w hr (by omega) (by omega) _ htk (by omega) (hL.mono ?_)
        rintro e w' (⟨ao', cap', _, rfl, hrow, hb⟩ | ⟨s, hs, he, _⟩)
        · exact ⟨ao', cap', rfl, hrow, hb⟩
        · exact absurd (hg s hs) he
    · refine whole_bad ao n cap w (hL.mono ?_)
      rintro e w' (⟨ao', cap', h, _⟩ | ⟨s, hs, he, rfl, hb⟩)
      · exact absurd h hg
      · exact ⟨s, he, rfl, hb⟩
  · exact whole_long ao n cap w (by omega)
end Go.Proofs.Ytkbeiadbolihiab
