/- parse: build: the walk. -/
import Derived.Test.YtlmmiicibjfcdaaGCxCyCcEzTq
import Derived.Test.YtlmmiicibjfcdaaPh
import Derived.Test.YtlmmiicibjfcdaaPi
namespace Go.Proofs.Ytlmmiicibjfcdaa
open Go.RowKit
theorem endSeq_ne (s : Bs) : s.endSeq.lv ≠ [] := setTop_ne _ _
theorem take_many (s : Bs) (x : Tp) : (s.take x).many ≤ s.many + 4 := by
  have h1 := endItem_many s
  have h2 := endSeq_many s
  unfold Bs.take
  split
  · show s.endItem.many ≤ _; omega
  split
  · omega
  split
  · show s.endSeq.many ≤ _; omega
  split
  · show s.many + 1 ≤ _; omega
  · show s.endItem.many + 1 ≤ _; omega
theorem bld_many (X : Nat → Tp) : ∀ n, (bld X n).many ≤ 4 * n
  | 0 => Nat.zero_le _
  | n + 1 => by
    have := bld_many X n
    have := take_many (bld X n) (X n)
    show ((bld X n).take (X n)).many ≤ _
    omega
theorem bld_deep {X : Nat → Tp} {i : Nat} {q : Ps} (h : runP X (i + 1) = .ok q) (hk : (X i).k = 5) : 2 ≤ (bld X i).lv.length := by
  obtain ⟨p, hp, hs⟩ := runP_prev h
  rw [bld_lv hp]
  unfold stepP at hs
  split at hs
  · cases hs
  rw [if_neg (by omega), if_neg (by omega)] at hs
  split at hs
  · cases hs
  · rename_i o r ho
    rw [ho]
    simp
theorem take_any {Y w W : World} {bp : Nat} {fl : Fg} {s : Bs} {no : Option Addr} {nc g lc : Nat} (x : TkR) (hx : x.ok) (h : BM Y w bp fl s no nc g lc W) (hl : s.lv ≠ []) (hmx : s.many < 99990) (hlx : s.lv.length < 100000) (h5 : x.k = 5 → 2 ≤ s.lv.length) :
    Calls Try.prog 44 #[bP bp, tokI x.k x.b x.a0 x.a1 x.a2 x.a3 x.nt x.l x.m x.lz x.t] W (RetBM Y w bp fl (s.take (x.tp fl))) := by
  obtain ⟨k, b, a0, a1, a2, a3, P, nt, l, m, lz, t⟩ := x
  unfold Bs.take TkR.tp
  dsimp only at *
  split
  · rename_i e; subst e; exact take_4 b a0 a1 a2 a3 nt l m lz t h hl hmx hlx
  rename_i e4
  split
  · rename_i e; subst e; exact take_6 b a0 a1 a2 a3 nt l m lz t h hl hmx
  rename_i e6
  split
  · rename_i e; subst e; exact take_5 b a0 a1 a2 a3 nt l m lz t h (h5 rfl) hmx
  rename_i e5
  split
  · rename_i e; subst e; exact take_7 b a0 a1 a2 a3 nt l m lz t h hl hmx
  rename_i e7
  exact take_d b a0 a1 a2 a3 nt l m lz t k _ _ (by simpa using e4) (by simpa using e6) (by simpa using e5) (by simpa using e7) (fun U => leaf_any fl b a0 a1 a2 a3 nt l m lz t U k hx.hb hx.h4) h hl hmx
/-- What build answers. -/
def RetBd (w : World) (s : Bs) (e : Ending) (w' : World) : Prop := ∃ no nc, e = .returned (.tuple #[.agg #[.slice no s.ns.length nc], .bool (decide (s.many ≤ 2048))]) ∧ w'.ownsRow w.heap.size 44 10 (.slice no s.ns.length nc) s.ns.length (ndsL s.ns) ∧ Below w.heap.size w w'
theorem Bs.zero_lv : lvC Bs.zero.lv = [] := rfl
set_option maxRecDepth 10000 in
set_option maxHeartbeats 4000000 in
theorem build_any (ao : Option Addr) (n cap : Nat) (F : Nat → TkR) (fl : Fg) (w : World) (hr : RdK w ao n F) (hn : n ≤ 3000) (hp : ∃ q, runP (fun i => (F i).tp fl) n = .ok q) : Calls Try.prog 22 #[fgV fl, .slice ao n cap] w (RetBd w (bld (fun i => (F i).tp fl) n).endSeq) := by
  have hB := below3 w (.cells #[.bool fl.c, .bool fl.d, .bool fl.m, .bool fl.o, .bool fl.l] 23) (.cells #[.slice none 0 0] 28) (.cells #[.bool fl.c, .bool fl.d, .bool fl.m, .bool fl.o, .bool fl.l, .slice none 0 0, .int .i64 0, .slice none 0 0] 80)
  have kR : Cl (((w.alloc (.cells #[.bool fl.c, .bool fl.d, .bool fl.m, .bool fl.o, .bool fl.l] 23)).alloc (.cells #[.slice none 0 0] 28)).alloc (.cells #[.bool fl.c, .bool fl.d, .bool fl.m, .bool fl.o, .bool fl.l, .slice none 0 0, .int .i64 0, .slice none 0 0] 80)) (w.heap.size + 1) 28 [.slice none 0 0] := by
    have := (Cl.new (w.alloc (.cells #[.bool fl.c, .bool fl.d, .bool fl.m, .bool fl.o, .bool fl.l] 23)) 28 [.slice none 0 0]).alloc (.cells #[.bool fl.c, .bool fl.d, .bool fl.m, .bool fl.o, .bool fl.l, .slice none 0 0, .int .i64 0, .slice none 0 0] 80)
    simpa using this
  have kB : Cl (((w.alloc (.cells #[.bool fl.c, .bool fl.d, .bool fl.m, .bool fl.o, .bool fl.l] 23)).alloc (.cells #[.slice none 0 0] 28)).alloc (.cells #[.bool fl.c, .bool fl.d, .bool fl.m, .bool fl.o, .bool fl.l, .slice none 0 0, .int .i64 0, .slice none 0 0] 80)) (w.heap.size + 1 + 1) 80 (bC fl Bs.zero (.slice none 0 0) (.slice none 0 0)) := by
    have := Cl.new ((w.alloc (.cells #[.bool fl.c, .bool fl.d, .bool fl.m, .bool fl.o, .bool fl.l] 23)).alloc (.cells #[.slice none 0 0] 28)) 80 (bC fl Bs.zero (.slice none 0 0) (.slice none 0 0))
    rw [World.size_alloc, World.size_alloc] at this
    exact this
  have HO := open_gen (X := ((w.alloc (.cells #[.bool fl.c, .bool fl.d, .bool fl.m, .bool fl.o, .bool fl.l] 23)).alloc (.cells #[.slice none 0 0] 28)).alloc (.cells #[.bool fl.c, .bool fl.d, .bool fl.m, .bool fl.o, .bool fl.l, .slice none 0 0, .int .i64 0, .slice none 0 0] 80)) (w := w) (fl := fl) (s := Bs.zero) (no := none) (lo := none) (nc := 0) (lc := 0) (Kp.refl _) hB (by omega) kB (World.ownsRow_nil _ _ _ _) (World.ownsRow_nil _ _ _ _) rfl (by decide) (by decide)
  unfold fgV
  go_enter Try.func22, Try.ntmps22
  go_wp2_with fail
  refine HO.mono ?_
  rintro e W1 ⟨rfl, g1, lc1, h1⟩
  clear HO hB kB
  generalize hY : ((w.alloc (.cells #[.bool fl.c, .bool fl.d, .bool fl.m, .bool fl.o, .bool fl.l] 23)).alloc (.cells #[.slice none 0 0] 28)).alloc (.cells #[.bool fl.c, .bool fl.d, .bool fl.m, .bool fl.o, .bool fl.l, .slice none 0 0, .int .i64 0, .slice none 0 0] 80) = Y at *
  clear hY
  go_wp2_with fail
  go_loopw [14] (fun i wr => ∃ k : Nat, k ≤ n ∧ i = .int .i64 (k : Nat) ∧ ∃ no nc g lc, Hid (BM Y w (w.heap.size + 1 + 1) fl (bld (fun i => (F i).tp fl) k) no nc g lc wr)) (fun i _ => n - (intOf i).toNat)
  case atStart => exact ⟨0, Nat.zero_le _, rfl, _, _, _, _, h1⟩
  case round =>
    obtain ⟨k, hk, rfl, no, nc, g, lc, hI⟩ := hrel
    by_cases hlt : k < n
    · obtain ⟨bb, off, rfl, hbb, hc⟩ := hr.at_ (by omega)
      have hok := hr.ok k hlt
      have hki : (k : Int) < (n : Int) := by omega
      obtain ⟨c0, c1, c2, c3, c4, c5, c6, c7, c8, c9, c10⟩ := hc k hlt
      rw [← hI.out.bel.cell (p := ⟨bb, off + k * 11, none⟩) hbb] at c0
      rw [← hI.out.bel.cell (p := ⟨bb, off + k * 11 + 1, none⟩) hbb] at c1
      rw [← hI.out.bel.cell (p := ⟨bb, off + k * 11 + 2, none⟩) hbb] at c2
      rw [← hI.out.bel.cell (p := ⟨bb, off + k * 11 + 3, none⟩) hbb] at c3
      rw [← hI.out.bel.cell (p := ⟨bb, off + k * 11 + 4, none⟩) hbb] at c4
      rw [← hI.out.bel.cell (p := ⟨bb, off + k * 11 + 5, none⟩) hbb] at c5
      rw [← hI.out.bel.cell (p := ⟨bb, off + k * 11 + 6, none⟩) hbb] at c6
      rw [← hI.out.bel.cell (p := ⟨bb, off + k * 11 + 7, none⟩) hbb] at c7
      rw [← hI.out.bel.cell (p := ⟨bb, off + k * 11 + 8, none⟩) hbb] at c8
      rw [← hI.out.bel.cell (p := ⟨bb, off + k * 11 + 9, none⟩) hbb] at c9
      rw [← hI.out.bel.cell (p := ⟨bb, off + k * 11 + 10, none⟩) hbb] at c10
      obtain ⟨q, hq⟩ := hp
      obtain ⟨q1, hq1⟩ := runP_le hq (k + 1) (by omega)
      obtain ⟨q0, hq0⟩ := runP_le hq k (by omega)
      have hlv := bld_lv hq0
      have hop := (runP_op hq0).1
      have hmm := bld_many (fun i => (F i).tp fl) k
      have HT := take_any (F k) hok (hI.out.below (bel1 wr (.cells #[.int .i64 (F k).k, .int .u8 ((F k).b : Nat), .int .u64 ((F k).a0 : Nat), .int .u64 ((F k).a1 : Nat), .int .u64 ((F k).a2 : Nat), .int .u64 ((F k).a3 : Nat), .bool (F k).nt, .int .i64 (F k).l, .int .i64 (F k).m, .bool (F k).lz, .int .i64 (F k).t] 42))) (by rw [ne_len]; omega) (by omega) (by omega) (fun h5 => bld_deep hq1 h5)
      have hnext : (bld (fun i => (F i).tp fl) k).take ((F k).tp fl) = bld (fun i => (F i).tp fl) (k + 1) := rfl
      rw [hnext] at HT
      unfold RetBM tokI at HT
      clear hok hc hr hI hq hq1 hq0 hlv hop hmm hnext h1 kR
      generalize F k = x at *
      go_wp2_with fail
      refine HT.mono ?_
      rintro e W2 ⟨rfl, no2, nc2, g2, lc2, h2⟩
      have HB : Hid (BM Y w (w.heap.size + 1 + 1) fl (bld (fun i => (F i).tp fl) (k + 1)) no2 nc2 g2 lc2 W2) := h2
      clear HT h2 c0 c1 c2 c3 c4 c5 c6 c7 c8 c9 c10
      go_wp2_with fail
      go_roundw
      case rel => exact ⟨k + 1, by omega, by go_num, _, _, _, _, HB⟩
      case measure => simp [intOf]; omega
    · obtain rfl : k = n := by omega
      have hki : ¬ (k : Int) < (k : Int) := by omega
      obtain ⟨q, hq⟩ := hp
      have hlv := bld_lv hq
      have hmm := bld_many (fun i => (F i).tp fl) k
      have hop := (runP_op hq).1
      have HE := endSeq_any hI.out (by rw [ne_len]; omega) (by omega)
      go_wp2_with fail
      refine HE.mono ?_
      rintro e W2 ⟨rfl, no2, nc2, h2⟩
      have kR2 := h2.kp.cl kR (by decide) (by decide) (by decide)
      obtain ⟨_, c5, c6, _⟩ := h2.cells
      have d5 : W2.drew.cell? ⟨w.heap.size + 1 + 1, 5, none⟩ = _ := c5
      have d6 : W2.drew.cell? ⟨w.heap.size + 1 + 1, 6, none⟩ = _ := c6
      have d0 := kR2.drew.cell 0 rfl
      have e0 := kR2.drew.frozen 0
      have kS := kR2.drew.set 0 (.slice no2 (bld (fun i => (F i).tp fl) k).endSeq.ns.length nc2)
      have z0 := kS.cell 0 rfl
      have kB2 := h2.cl.drew.other (k := w.heap.size + 1) (by omega) 0 (.slice no2 (bld (fun i => (F i).tp fl) k).endSeq.ns.length nc2)
      have d6' := kB2.cell 6 rfl
      have d6'' : (W2.setCell ⟨w.heap.size + 1, 0, none⟩ (.slice no2 (bld (fun i => (F i).tp fl) k).endSeq.ns.length nc2)).cell? ⟨w.heap.size + 1 + 1, 6, none⟩ = some (.int .i64 ((bld (fun i => (F i).tp fl) k).endSeq.many : Nat)) := (h2.cl.other (k := w.heap.size + 1) (by omega) 0 (.slice no2 (bld (fun i => (F i).tp fl) k).endSeq.ns.length nc2)).cell 6 rfl
      have z0' : (W2.setCell ⟨w.heap.size + 1, 0, none⟩ (.slice no2 (bld (fun i => (F i).tp fl) k).endSeq.ns.length nc2)).cell? ⟨w.heap.size + 1, 0, none⟩ = some (.slice no2 (bld (fun i => (F i).tp fl) k).endSeq.ns.length nc2) := (kR2.set 0 _).cell 0 rfl
      have hbd : Below w.heap.size w (W2.drew.setCell ⟨w.heap.size + 1, 0, none⟩ (.slice no2 (bld (fun i => (F i).tp fl) k).endSeq.ns.length nc2)) := h2.bel.drew.setCell (p := ⟨w.heap.size + 1, 0, none⟩) (by simp) _
      have hrow := own_at h2.nrow (W' := W2.drew.setCell ⟨w.heap.size + 1, 0, none⟩ (.slice no2 (bld (fun i => (F i).tp fl) k).endSeq.ns.length nc2)) fun b hb => by
        refine Below.heap_setCell _ _ _ _ ?_
        rintro rfl
        obtain ⟨_, _, cur, hc⟩ := own_block h2.nrow hb
        unfold Cl at kR2
        rw [hc] at kR2
        cases kR2
      have HR : Hid (RetBd w (bld (fun i => (F i).tp fl) k).endSeq (.returned (.tuple #[.agg #[.slice no2 (bld (fun i => (F i).tp fl) k).endSeq.ns.length nc2], .bool (decide ((bld (fun i => (F i).tp fl) k).endSeq.many ≤ 2048))])) (W2.drew.setCell ⟨w.heap.size + 1, 0, none⟩ (.slice no2 (bld (fun i => (F i).tp fl) k).endSeq.ns.length nc2))) := ⟨no2, nc2, rfl, hrow, hbd⟩
      have hdec : decide (((bld (fun i => (F i).tp fl) k).endSeq.many : Int) ≤ 2048) = decide ((bld (fun i => (F i).tp fl) k).endSeq.many ≤ 2048) := by
        rw [decide_eq_decide]; omega
      clear HE h2 kR2 kS kB2 hbd hrow c5 c6 hI kR h1 hr hlv hmm hop hq
      generalize decide ((bld (fun i => (F i).tp fl) k).endSeq.many ≤ 2048) = dm at *
      generalize (bld (fun i => (F i).tp fl) k).endSeq.many = mn at *
      generalize (bld (fun i => (F i).tp fl) k).endSeq.ns.length = nn at *
      go_wp2_with fail
      go_region_law (fail)
      all_goals
        go_wp2_with fail
        exact bodyPost_ret (v := .tuple #[.agg #[.slice no2 nn nc2], .bool dm]) (by simp [results, Try.results22, go_sem, z0']) rfl HR.out
end Go.Proofs.Ytlmmiicibjfcdaa
