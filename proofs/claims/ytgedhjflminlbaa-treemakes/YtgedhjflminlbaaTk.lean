/- TreeMakes: the walk. -/
import Derived.Test.YtgedhjflminlbaaRm
import Derived.Test.YtgedhjflminlbaaOq
import Derived.Test.YtgedhjflminlbaaSm
import Derived.Deep.DeepCutAuto
import Derived.Deep.RegionHeld3
namespace Go.Proofs.Ytgedhjflminlbaa
open Go.RowKit
theorem eqN_refl (F : Nat → Nd) : ∀ n, eqN F F n = true
  | 0 => rfl
  | n + 1 => by
    rw [eqN, eqN_refl F n]
    simp [Nd.eq_iff]
set_option maxRecDepth 10000 in
set_option maxHeartbeats 16000000 in
theorem makes_any (a : Option Addr) (n c : Nat) (b : Option Addr) (m d : Nat) (q : Nd) (k l t : Int) (z : Bool) (F G : Nat → Nd) (w : World) (ha : RdN w a n F) (hb : RdN w b m G) (hn : (n : Int) ≤ 9223372036854775807) (hm : (m : Int) ≤ 9223372036854775807) (hca : n ≤ c) (hcb : m ≤ d) (hs : (n : Int) * 80 ≤ 140737488355328) (hsh : Shp a n c) : Calls Try.prog 3 #[pairV a n c b m d q k l t z] w (RetBo w true) := by
  have kP := Cl.new w 31 (pairL a n c b m d q k l t z)
  have hW0 := below1 w (.cells (pairL a n c b m d q k l t z).toArray 31)
  have HL : Hid (∀ W, Calls Try.prog 9 #[] W (RetBo W true)) := fun W => live_any W
  unfold pairV
  unfold pairL at kP hW0 ⊢
  go_enter Try.func3, Try.ntmps3
  go_upto_region 3 with (go_at_call 9; refine (HL.out _).mono ?_; rintro e w1 ⟨rfl, hb1⟩)
  have hB1 := hW0.trans (hb1.mono (by simp))
  have kP1 := kP.below hb1
  have rA := ha.below hB1
  have rB := hb.below hB1
  clear kP hW0 ha hb hb1 HL
  have px := (snd F n).size_pos
  obtain ⟨ox, sx⟩ := snd_ok F n
  have HSame : Hid (∀ W ao bo s ca cb f, RdN W ao s f → RdN W bo s f → (s : Int) ≤ 9223372036854775807 → Calls Try.prog 10 #[.agg #[.slice ao s ca], .agg #[.slice bo s cb]] W (RetBo W true)) := fun W ao bo s ca cb f h1 h2 h3 => by
    have := rsame_any ao bo s s ca cb f f W h1 h2 h3
    rwa [eqN_refl f s, show (decide (s = s) && true) = true by simp] at this
  have HLf : Hid (∀ W, Calls Try.prog 11 #[ndV q] W (RetT W 1 (fun _ => leafN q))) := fun W => leaf_any q W
  have HRl : Hid (∀ W, Calls Try.prog 12 #[ndV q] W (RetT W 1 (fun _ => leafN q))) := fun W => rleaf_any q W
  unfold ndV at HLf HRl
  obtain ⟨nj, fj, hnj, HJ, HRj⟩ : ∃ (nj : Nat) (fj : Nat → Nd), (nj : Int) ≤ 9223372036854775807 ∧ Hid (∀ W, RdN W a n F → RdN W b m G → Calls Try.prog 13 #[.int .i64 k, .agg #[.slice a n c], .agg #[.slice b m d]] W (RetT W nj fj)) ∧ Hid (∀ W, RdN W a n F → RdN W b m G → Calls Try.prog 14 #[.int .i64 k, .agg #[.slice a n c], .agg #[.slice b m d]] W (RetT W nj fj)) := by
    obtain ⟨_, sy⟩ := snd_ok G m
    by_cases hk : k = 3 ∨ k = 4
    · exact ⟨_, _, by omega, fun W h1 h2 => join_yes k a b n m c d F G W hk h1 h2 hn hm hca hcb, fun W h1 h2 => rjoin_yes k a b n m c d F G W hk h1 h2 hn hm hca hcb⟩
    · exact ⟨_, _, by decide, fun W _ _ => join_no k _ _ a b n m c d W rfl rfl hk, fun W _ _ => rjoin_no k a b n m c d W hk⟩
  have HRp : Hid (∀ W, RdN W a n F → Calls Try.prog 15 #[.agg #[.slice a n c], .int .i64 l, .int .i64 t, .bool z] W (RetT W ((snd F n).size + 1) (nodes (.rep (snd F n) l t z)))) := fun W h => repeat_any a n c F l t z W h hn hca
  have HRr : Hid (∀ W, RdN W a n F → Calls Try.prog 16 #[.agg #[.slice a n c], .int .i64 l, .int .i64 t, .bool z] W (RetT W ((snd F n).size + 1) (nodes (.rep (snd F n) l t z)))) := fun W h => rrepeat_any a n c F l t z W h hn hca
  have HMi : Hid (∀ W, RdN W a n F → Calls Try.prog 17 #[.agg #[.slice a n c]] W (RetT W (snd F n).size (nodes (mir (snd F n))))) := fun W h => mirror_any a n c F W h hn hca
  have HRm : Hid (∀ W, RdN W a n F → Calls Try.prog 18 #[.agg #[.slice a n c]] W (RetRd W (snd F n).size (nodes (mir (snd F n))))) := fun W h => rmirror_any a n c F W h hn hca
  have HCl : Hid (∀ W, RdN W a n F → Calls Try.prog 19 #[.agg #[.slice a n c]] W (RetT W n F)) := fun W h => tclone_any a n c F W h hs hsh
  have HTs : Hid (∀ W, RdN W a n F → RdN W b m G → Calls Try.prog 20 #[.agg #[.slice a n c], .agg #[.slice b m d]] W (RetBo W (decide (n = m) && eqN F G n))) := fun W h1 h2 => tsame_any a b n m c d F G W h1 h2 hn
  have HRs : Hid (∀ W, RdN W a n F → RdN W b m G → Calls Try.prog 10 #[.agg #[.slice a n c], .agg #[.slice b m d]] W (RetBo W (decide (n = m) && eqN F G n))) := fun W h1 h2 => rsame_any a b n m c d F G W h1 h2 hn
  have hb1 : (((snd F n).size + 1 : Nat) : Int) ≤ 9223372036854775807 := by omega
  have hb2 : (((snd F n).size : Nat) : Int) ≤ 9223372036854775807 := by omega
  generalize (decide (n = m) && eqN F G n) = E at *
  generalize (snd F n).size + 1 = nr at *
  generalize nodes (.rep (snd F n) l t z) = fr at *
  generalize (snd F n).size = nm at *
  generalize nodes (mir (snd F n)) = fm at *
  generalize leafN q = lq at *
  have HX : Hid (∀ W, Below w1.heap.size w1 W → (W.cell? ⟨w.heap.size, 0, none⟩ = some (.slice a n c) ∧ W.cell? ⟨w.heap.size, 1, none⟩ = some (.slice b m d) ∧ W.cell? ⟨w.heap.size, 2, none⟩ = some (.int .i64 q.k) ∧ W.cell? ⟨w.heap.size, 3, none⟩ = some (.int .u64 q.c0) ∧ W.cell? ⟨w.heap.size, 4, none⟩ = some (.int .u64 q.c1) ∧ W.cell? ⟨w.heap.size, 5, none⟩ = some (.int .u64 q.c2) ∧ W.cell? ⟨w.heap.size, 6, none⟩ = some (.int .u64 q.c3) ∧ W.cell? ⟨w.heap.size, 7, none⟩ = some (.int .i64 q.a) ∧ W.cell? ⟨w.heap.size, 8, none⟩ = some (.int .i64 q.b) ∧ W.cell? ⟨w.heap.size, 9, none⟩ = some (.int .i64 q.l) ∧ W.cell? ⟨w.heap.size, 10, none⟩ = some (.int .i64 q.m) ∧ W.cell? ⟨w.heap.size, 11, none⟩ = some (.bool q.z) ∧ W.cell? ⟨w.heap.size, 12, none⟩ = some (.int .i64 k) ∧ W.cell? ⟨w.heap.size, 13, none⟩ = some (.int .i64 l) ∧ W.cell? ⟨w.heap.size, 14, none⟩ = some (.int .i64 t) ∧ W.cell? ⟨w.heap.size, 15, none⟩ = some (.bool z)) ∧ RdN W a n F ∧ RdN W b m G) := fun W h => by
    have kZ := kP1.below h
    exact ⟨⟨kZ.cell 0 rfl, kZ.cell 1 rfl, kZ.cell 2 rfl, kZ.cell 3 rfl, kZ.cell 4 rfl, kZ.cell 5 rfl, kZ.cell 6 rfl, kZ.cell 7 rfl, kZ.cell 8 rfl, kZ.cell 9 rfl, kZ.cell 10 rfl, kZ.cell 11 rfl, kZ.cell 12 rfl, kZ.cell 13 rfl, kZ.cell 14 rfl, kZ.cell 15 rfl⟩, rA.below h, rB.below h⟩
  have HE : Hid (∀ W, Below w1.heap.size w1 W → Below w.heap.size w W) := fun W h => hB1.trans (h.mono hB1.size)
  have tB : Below w1.heap.size w1 w1.drew := (Below.refl _ _).drew
  obtain ⟨hc, ra, rb⟩ := HX.out _ tB
  have TB : Hid _ := tB
  have m1 : Hid True := trivial
  have m2 : Hid True := trivial
  have m3 : Hid True := trivial
  have m4 : Hid True := trivial
  have m5 : Hid True := trivial
  clear tB kP1 rA rB hB1 ox sx px
  have hEE : (E == E) = true := by simp
  simp only [List.append]
  go_region_held3 (fun w' => w'.cell? ⟨w.heap.size, 0, none⟩ = some (.slice a n c) ∧ w'.cell? ⟨w.heap.size, 1, none⟩ = some (.slice b m d) ∧ w'.cell? ⟨w.heap.size, 2, none⟩ = some (.int .i64 q.k) ∧ w'.cell? ⟨w.heap.size, 3, none⟩ = some (.int .u64 q.c0) ∧ w'.cell? ⟨w.heap.size, 4, none⟩ = some (.int .u64 q.c1) ∧ w'.cell? ⟨w.heap.size, 5, none⟩ = some (.int .u64 q.c2) ∧ w'.cell? ⟨w.heap.size, 6, none⟩ = some (.int .u64 q.c3) ∧ w'.cell? ⟨w.heap.size, 7, none⟩ = some (.int .i64 q.a) ∧ w'.cell? ⟨w.heap.size, 8, none⟩ = some (.int .i64 q.b) ∧ w'.cell? ⟨w.heap.size, 9, none⟩ = some (.int .i64 q.l) ∧ w'.cell? ⟨w.heap.size, 10, none⟩ = some (.int .i64 q.m) ∧ w'.cell? ⟨w.heap.size, 11, none⟩ = some (.bool q.z) ∧ w'.cell? ⟨w.heap.size, 12, none⟩ = some (.int .i64 k) ∧ w'.cell? ⟨w.heap.size, 13, none⟩ = some (.int .i64 l) ∧ w'.cell? ⟨w.heap.size, 14, none⟩ = some (.int .i64 t) ∧ w'.cell? ⟨w.heap.size, 15, none⟩ = some (.bool z)) (exact hc)
    (first
      | (go_at_call 11; refine (HLf.out _).mono ?_; rintro e x1 ⟨a1, c1, rfl, o1, qq⟩; have r1 := o1.rd; clear o1; have tB := TB.out.trans (qq.mono TB.out.size); clear TB qq hc ra rb; obtain ⟨hc, ra, rb⟩ := HX.out _ tB; have TB : Hid _ := tB; clear tB)
      | (go_at_call 12; refine (HRl.out _).mono ?_; rintro e x2 ⟨a2, c2, rfl, o2, qq⟩; have r2 := o2.rd; clear o2; have r1' := r1.below qq; clear r1; have tB := TB.out.trans (qq.mono TB.out.size); clear TB qq hc ra rb; obtain ⟨hc, ra, rb⟩ := HX.out _ tB; have TB : Hid _ := tB; clear tB)
      | (go_at_call 13; refine (HJ.out _ ra rb).mono ?_; rintro e x3 ⟨a3, c3, rfl, o3, qq⟩; have r3 := o3.rd; clear o3; have tB := TB.out.trans (qq.mono TB.out.size); clear TB qq hc ra rb; obtain ⟨hc, ra, rb⟩ := HX.out _ tB; have TB : Hid _ := tB; clear tB)
      | (go_at_call 14; refine (HRj.out _ ra rb).mono ?_; rintro e x4 ⟨a4, c4, rfl, o4, qq⟩; have r4 := o4.rd; clear o4; have r3' := r3.below qq; clear r3; have tB := TB.out.trans (qq.mono TB.out.size); clear TB qq hc ra rb; obtain ⟨hc, ra, rb⟩ := HX.out _ tB; have TB : Hid _ := tB; clear tB)
      | (go_at_call 15; refine (HRp.out _ ra).mono ?_; rintro e x5 ⟨a5, c5, rfl, o5, qq⟩; have r5 := o5.rd; clear o5; have tB := TB.out.trans (qq.mono TB.out.size); clear TB qq hc ra rb; obtain ⟨hc, ra, rb⟩ := HX.out _ tB; have TB : Hid _ := tB; clear tB)
      | (go_at_call 16; refine (HRr.out _ ra).mono ?_; rintro e x6 ⟨a6, c6, rfl, o6, qq⟩; have r6 := o6.rd; clear o6; have r5' := r5.below qq; clear r5; have tB := TB.out.trans (qq.mono TB.out.size); clear TB qq hc ra rb; obtain ⟨hc, ra, rb⟩ := HX.out _ tB; have TB : Hid _ := tB; clear tB)
      | (go_at_call 17; refine (HMi.out _ ra).mono ?_; rintro e x7 ⟨a7, c7, rfl, o7, qq⟩; have r7 := o7.rd; clear o7; have tB := TB.out.trans (qq.mono TB.out.size); clear TB qq hc ra rb; obtain ⟨hc, ra, rb⟩ := HX.out _ tB; have TB : Hid _ := tB; clear tB)
      | (go_at_call 18; refine (HRm.out _ ra).mono ?_; rintro e x8 ⟨a8, c8, rfl, r8, qq⟩; have r7' := r7.below qq; clear r7; have tB := TB.out.trans (qq.mono TB.out.size); clear TB qq hc ra rb; obtain ⟨hc, ra, rb⟩ := HX.out _ tB; have TB : Hid _ := tB; clear tB)
      | (go_at_call 19; refine (HCl.out _ ra).mono ?_; rintro e x9 ⟨a9, c9, rfl, o9, qq⟩; have r9 := o9.rd; clear o9; have tB := TB.out.trans (qq.mono TB.out.size); clear TB qq hc ra rb; obtain ⟨hc, ra, rb⟩ := HX.out _ tB; have TB : Hid _ := tB; clear tB)
      | (go_at_call 20; refine (HTs.out _ ra rb).mono ?_; rintro e x10 ⟨rfl, qq⟩; have tB := TB.out.trans (qq.mono TB.out.size); clear TB qq hc ra rb; obtain ⟨hc, ra, rb⟩ := HX.out _ tB; have TB : Hid _ := tB; clear tB)
      | (go_at_call 10; first
          | (clear m1; refine (HSame.out _ _ _ _ _ _ _ r1' r2 (by decide)).mono ?_; rintro e y1 ⟨rfl, qq⟩; clear r1' r2; have tB := TB.out.trans (qq.mono TB.out.size); clear TB qq hc ra rb; obtain ⟨hc, ra, rb⟩ := HX.out _ tB; have TB : Hid _ := tB; clear tB)
          | (clear m2; refine (HSame.out _ _ _ _ _ _ _ r3' r4 hnj).mono ?_; rintro e y2 ⟨rfl, qq⟩; clear r3' r4; have tB := TB.out.trans (qq.mono TB.out.size); clear TB qq hc ra rb; obtain ⟨hc, ra, rb⟩ := HX.out _ tB; have TB : Hid _ := tB; clear tB)
          | (clear m3; refine (HSame.out _ _ _ _ _ _ _ r5' r6 hb1).mono ?_; rintro e y3 ⟨rfl, qq⟩; clear r5' r6; have tB := TB.out.trans (qq.mono TB.out.size); clear TB qq hc ra rb; obtain ⟨hc, ra, rb⟩ := HX.out _ tB; have TB : Hid _ := tB; clear tB)
          | (clear m4; refine (HSame.out _ _ _ _ _ _ _ r7' r8 hb2).mono ?_; rintro e y4 ⟨rfl, qq⟩; clear r7' r8; have tB := TB.out.trans (qq.mono TB.out.size); clear TB qq hc ra rb; obtain ⟨hc, ra, rb⟩ := HX.out _ tB; have TB : Hid _ := tB; clear tB)
          | (clear m5; refine (HSame.out _ _ _ _ _ _ _ r9 ra hn).mono ?_; rintro e y5 ⟨rfl, qq⟩; clear r9; have tB := TB.out.trans (qq.mono TB.out.size); clear TB qq hc ra rb; obtain ⟨hc, ra, rb⟩ := HX.out _ tB; have TB : Hid _ := tB; clear tB)
          | (refine (HRs.out _ ra rb).mono ?_; rintro e y6 ⟨rfl, qq⟩; have tB := TB.out.trans (qq.mono TB.out.size); clear TB qq hc ra rb; obtain ⟨hc, ra, rb⟩ := HX.out _ tB; have TB : Hid _ := tB; clear tB)))
  all_goals
    go_wp2
    go_ret
    exact ⟨rfl, HE.out _ TB.out⟩
end Go.Proofs.Ytgedhjflminlbaa
