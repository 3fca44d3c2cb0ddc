/- The reference's Run: the walk. -/
import Derived.Test.YtobgmgpclcfkcaaKf
import Derived.Deep.DeepCutAuto
namespace Go.Proofs.Ytobgmgpclcfkcaa
open Go.RowKit Go.Shelf
/-- What the reference's Run holds on to. -/
structure RunJ (w : World) (a b c d lo : Nat) (g : Int) (l : List Int) (v : Value) (W : World) : Prop where
  t : TdAt W w.heap.size a b c d lo
  s : StAt W (w.heap.size + 1) g
  r : StAt W (w.heap.size + 1 + 1) 0
  own : RowL (w.heap.size + 1 + 1 + 1) W v l
  bel : Below w.heap.size w W
theorem RunJ.next {w : World} {a b c d lo : Nat} {g : Int} {l : List Int} {v : Value} {W W' : World} (h : RunJ w a b c d lo g l v W) (hb : Below W.heap.size W W') : RunJ w a b c d lo g l v W' :=
  ⟨h.t.below hb, h.s.below hb, h.r.below hb, ownsRow_below h.own hb, h.bel.trans (hb.mono h.bel.size)⟩
theorem RunJ.setS {w : World} {a b c d lo : Nat} {g : Int} {l : List Int} {v : Value} {W : World} (h : RunJ w a b c d lo g l v W) (g' : Int) : RunJ w a b c d lo g' l v (W.setCell ⟨w.heap.size + 1, 0, none⟩ (.int .i64 g')) :=
  ⟨h.t.other (by omega) _ _, h.s.set g', h.r.other (by omega) _ _, ownsRow_at h.own fun k hk _ => Below.heap_setCell _ _ _ _ (by simp; omega), h.bel.setCell (by simp) _⟩
theorem RunJ.app {w : World} {a b c d lo : Nat} {g : Int} {l : List Int} {v v' : Value} {W w3 : World} {x : Int} (h : RunJ w a b c d lo g l v W) {o : Obj} (hown' : w3.ownsRow (w.heap.size + 1 + 1 + 1) 3 1 v' (l.length + 1) (intsL l ++ [.int .i64 x])) (hgrow : (W.alloc o).grownBy w3 v.ownBlock) :
    RunJ w a b c d lo g (l ++ [x]) v' w3 := by
  have hmk := h.r.lt
  have hbw : Below (w.heap.size + 1 + 1 + 1) (W.alloc o) w3 := (Below.refl _ _).grown hgrow (by simp; omega) (fun j e => (h.own.lt j e).1)
  have hb0 : Below W.heap.size W (W.alloc o) := (Below.refl _ _).alloc (Nat.le_refl _) o
  refine ⟨Cl.belowB (h.t.below hb0) hbw (by omega), Cl.belowB (h.s.below hb0) hbw (by omega), Cl.belowB (h.r.below hb0) hbw (by omega), ?_, (h.bel.trans (hb0.mono h.bel.size)).trans (hbw.mono (by omega))⟩
  unfold RowL
  simpa [intsL] using hown'
theorem trg_trg (g : Int) : trg (trg g) = trg g := by
  by_cases h : g = -1
  · subst h; rfl
  · have : trg g = g := by unfold trg; rw [if_neg h]
    rw [this, this]
/-- The age ahead of a round of the reference. -/
def ageR (P : Nat → Bool) (lo : Nat) (T : Nat → Bool) (t : Nat → Nat) (g : Int) (n k : Nat) : Int := if k ≤ n then agePre P lo T t g k else ageF P lo T t g n
set_option maxRecDepth 100000 in
set_option maxHeartbeats 4000000 in
theorem rrun_t {a b c d a' b' c' d' lo' : Nat} {lo : Int} {P : Nat → Bool} (g : Int) (w : World) (ao : Option Addr) (n cap : Nat) (t : Nat → Nat) (zo : Option Addr) (l lc : Nat) (z : Nat → Int)
    (HS : Eff 35 a b c d lo a' b' c' d' lo') (HS' : Eff 35 a' b' c' d' lo' a' b' c' d' lo') (hP : C4 P a' b' c' d') (hlo : lo' ≤ 1000) (ht : RdB w ao n t) (hn : n ≤ 1000) (hz : RdI w zo l z) (hl : (l : Int) ≤ 1000000) :
    Calls Try.prog 22 #[tdV a b c d lo, stV g, .slice ao n cap, .slice zo l lc] w (RetRun w (ageF P lo' (among z l) t (clS lo' g) n) (plc (fun j => ageF P lo' (among z l) t (clS lo' g) j == lo') (n + 1))) := by
  obtain ⟨i0, hi, hz0, hz1, hz2⟩ := info_parts Try.info3'
  have hT := B3.start w a b c d lo g
  have HC := HS g (w3 w a b c d lo g)
  have hge := clS_ge lo' g
  have hle := clS_le (lo := lo') g (by omega)
  generalize clS lo' g = G at *
  obtain ⟨F, hF⟩ : ∃ F : Nat → Bool, (fun j => ageF P lo' (among z l) t G j == lo') = F := ⟨_, rfl⟩
  rw [hF]
  have HF : Hid (∀ j, F j = (ageF P lo' (among z l) t G j == lo')) := fun j => by rw [← hF]
  clear hF
  unfold w3 tdO stO at hT HC
  unfold tdV at *
  go_enter Try.func22, Try.ntmps22
  go_upto_region 3 with (go_at_call 35; refine HC.mono ?_; rintro e w1 ⟨rfl, hb1⟩; replace hT := hT.next hb1; clear hb1 HC; obtain ⟨c0, c1⟩ := hT.s.cells; obtain ⟨⟨g0, g1, g2, g3, g4⟩, f0, f1, f2, f3, f4⟩ := hT.t.cells; replace hT := hT.putT a' b' c' d' lo'; obtain ⟨p0, p1⟩ := hT.s.cells; replace hT := hT.setS G; unfold putT at p0 p1 hT)
  change Code.wp Try.prog _ _ _ ((putT w1 w.heap.size a' b' c' d' lo').setCell ⟨w.heap.size + 1, 0, none⟩ (.int .i64 G))
  change B3 w a' b' c' d' lo' G ((putT w1 w.heap.size a' b' c' d' lo').setCell ⟨w.heap.size + 1, 0, none⟩ (.int .i64 G)) at hT
  generalize (putT w1 w.heap.size a' b' c' d' lo').setCell ⟨w.heap.size + 1, 0, none⟩ (.int .i64 G) = w2 at *
  clear c0 c1 g0 g1 g2 g3 g4 f0 f1 f2 f3 f4 p0 p1
  have hR : RunJ w a' b' c' d' lo' G [] (.slice none 0 0) w2 := ⟨hT.t, hT.s, hT.v, World.ownsRow_nil _ _ _ _, hT.bel⟩
  clear hT HS
  go_wp2_with fail
  go_loopw [10, 11] (fun v i wr => ∃ k : Nat, k ≤ n + 1 ∧ i = .int .i64 k ∧ RunJ w a' b' c' d' lo' (ageR P lo' (among z l) t G n k) (plc F k) v wr) (fun _ i _ => n + 1 - (intOf i).toNat)
  case atStart => exact ⟨0, Nat.zero_le _, rfl, hR⟩
  case round =>
    clear hR
    obtain ⟨k, hk, rfl, hR⟩ := hrel
    by_cases hlt : k < n + 1
    · have hki : (k : Int) ≤ (n : Int) := by omega
      have hage : ageR P lo' (among z l) t G n k = agePre P lo' (among z l) t G k := by unfold ageR; rw [if_pos (by omega)]
      rw [hage] at hR
      clear hage
      have hpre := ageF_pre P lo' (among z l) t G k
      have hrng := agePre_rng (P := P) (T := among z l) (t := t) hge hle k
      obtain ⟨A0, hA0⟩ : ∃ A0, agePre P lo' (among z l) t G k = A0 := ⟨_, rfl⟩
      rw [hA0] at hR hpre hrng
      have hst : ∀ m, m < l → z m = (k : Int) → among z (m + 1) k = true := fun m _ hm => by simp [among, hm]
      have hsf : ∀ m, z m ≠ (k : Int) → among z (m + 1) k = among z m k := fun m hm => by simp [among, Ne.symm hm]
      have HTr : ∀ (m : Nat) (W : World), Calls Try.prog 16 #[.agg #[.int .u64 (a' : Nat), .int .u64 (b' : Nat), .int .u64 (c' : Nat), .int .u64 (d' : Nat), .int .i64 (lo' : Nat)], .agg #[.int .i64 (if among z m k = true then trg A0 else A0)]] W fun e w' => e = .returned (stV (trg A0)) ∧ Below W.heap.size W w' := by
        intro m W
        cases h : among z m k with
        | true =>
          rw [if_pos rfl]
          have := rtrigger_t (trg A0) W HS'
          rwa [clS_self (trg_rng hrng.1 hrng.2).1 (trg_rng hrng.1 hrng.2).2, trg_trg] at this
        | false =>
          rw [if_neg (by decide)]
          have := rtrigger_t A0 W HS'
          rwa [clS_self hrng.1 hrng.2] at this
      have HST := Hid.mk' hst
      have HSF := Hid.mk' hsf
      have HTR := Hid.mk' HTr
      have HPRE := Hid.mk' hpre
      clear hst hsf HTr hpre
      go_wp2_with fail
      go_loopw [12] (fun j wr' => ∃ m : Nat, m ≤ l ∧ j = .int .i64 m ∧ RunJ w a' b' c' d' lo' (if among z m k = true then trg A0 else A0) (plc F k) u10 wr') (fun j _ => l - (intOf j).toNat)
      case atStart => exact ⟨0, Nat.zero_le _, rfl, hR⟩
      case round =>
        obtain ⟨m, hm, rfl, hR1⟩ := hrel
        by_cases hml : m < l
        · have hmi : (m : Int) < (l : Int) := by omega
          obtain ⟨bb, off, hzo, hbl, hcz⟩ := (hz.below hR1.bel) (by omega)
          have t1 := hcz m hml
          clear hcz
          subst hzo
          by_cases he : z m = (k : Int)
          · have h1 := HST.out m hml he
            have heq : (z m == (k : Int)) = true := by simp [he]
            have HTm := HTR.out m
            generalize (if among z m k = true then trg A0 else A0) = A1 at *
            have HR := Hid.mk' hR1
            obtain ⟨c0, -⟩ := hR1.s.cells
            obtain ⟨⟨g0, g1, g2, g3, g4⟩, -⟩ := hR1.t.cells
            have H1 := Hid.mk' h1
            clear he h1 hR1
            go_wp2_with (go_at_call 16; refine (HTm _).mono ?_; rintro e w5 ⟨rfl, hb5⟩; have hR5 := HR.out.next hb5; clear hb5 c0 t1; obtain ⟨c0, c1⟩ := hR5.s.cells)
            go_roundw
            case rel => exact ⟨m + 1, by omega, by go_num, by rw [H1.out, if_pos rfl]; exact hR5.setS _⟩
            case measure => simp [intOf]; omega
          · have h1 := HSF.out m he
            have heq : (z m == (k : Int)) = false := by simp [he]
            have H1 := Hid.mk' h1
            clear he h1
            go_wp2_with fail
            go_roundw
            case rel => exact ⟨m + 1, by omega, by go_num, by rw [H1.out]; exact hR1⟩
            case measure => simp [intOf]; omega
        · obtain rfl : m = l := by omega
          rw [← HPRE.out] at hR1
          clear HST HSF HTR HPRE hR
          have HRd : ∀ W, Calls Try.prog 20 #[.agg #[.int .u64 (a' : Nat), .int .u64 (b' : Nat), .int .u64 (c' : Nat), .int .u64 (d' : Nat), .int .i64 (lo' : Nat)], .agg #[.int .i64 (ageF P lo' (among z m) t G k)]] W fun e w' => e = .returned (.bool (F k)) ∧ Below W.heap.size W w' := by
            intro W
            have := rready_t (ageF P lo' (among z m) t G k) W HS'
            obtain ⟨r1, r2⟩ := ageF_rng (P := P) (T := among z m) (t := t) hge hle k
            rwa [clS_self r1 r2, ← HF.out] at this
          have HSt : ∀ x W, x < 256 → Calls Try.prog 18 #[.agg #[.int .u64 (a' : Nat), .int .u64 (b' : Nat), .int .u64 (c' : Nat), .int .u64 (d' : Nat), .int .i64 (lo' : Nat)], .agg #[.int .i64 (ageF P lo' (among z m) t G k)], .int .u8 (x : Nat)] W fun e w' => e = .returned (stV (stp P lo' (ageF P lo' (among z m) t G k) x)) ∧ Below W.heap.size W w' := by
            intro x W hx
            have := rstep_t (ageF P lo' (among z m) t G k) x W HS' hP hlo hx
            obtain ⟨r1, r2⟩ := ageF_rng (P := P) (T := among z m) (t := t) hge hle k
            rwa [clS_self r1 r2] at this
          have HNX : Hid (k < n → stp P lo' (ageF P lo' (among z m) t G k) (t k) = ageR P lo' (among z m) t G n (k + 1)) := by
            intro h
            unfold ageR
            rw [if_pos (by omega)]
            rfl
          have HNL : Hid (k = n → ageF P lo' (among z m) t G k = ageR P lo' (among z m) t G n (k + 1)) := by
            intro h
            unfold ageR
            rw [if_neg (by omega), h]
          generalize ageF P lo' (among z m) t G k = A1 at *
          obtain ⟨A2, hA2⟩ : ∃ A2, ageR P lo' (among z m) t G n (k + 1) = A2 := ⟨_, rfl⟩
          rw [hA2] at HNX HNL
          have HA2 := Hid.mk' hA2
          clear hA2
          obtain ⟨B, hB⟩ : ∃ B, F k = B := ⟨_, rfl⟩
          rw [hB] at HRd
          have HP : Hid (plc F (k + 1) = if B = true then plc F k ++ [(k : Int)] else plc F k) := by
            cases B with
            | true => exact plc_yes hB
            | false => exact plc_no hB
          have hlen := plc_len F k
          clear hB HF
          generalize plc F k = L at *
          have HR := Hid.mk' hR1
          obtain ⟨c0, -⟩ := hR1.s.cells
          obtain ⟨⟨g0, g1, g2, g3, g4⟩, -⟩ := hR1.t.cells
          clear hR1
          go_upto_if 42 with (go_at_call 20; refine (HRd _).mono ?_; rintro e w5 ⟨rfl, hb5⟩; have hR5 := HR.out.next hb5; clear hb5 c0 g0 g1 g2 g3 g4 HRd HR)
          go_cut [10] (fun v wx => RunJ w a' b' c' d' lo' A1 (plc F (k + 1)) v wx)
          case first =>
            cases B with
            | false =>
              have HP2 : Hid (plc F (k + 1) = L) := HP.out
              clear HP
              go_wp2_with fail
              go_meet
              rw [HP2.out]
              exact hR5
            | true =>
              have HP2 : Hid (plc F (k + 1) = L ++ [(k : Int)]) := HP.out
              clear HP
              go_wp2_with (at_builtin; have hmm := hR5.r.lt; refine wpList_append_own _ rfl _ _ 39 rfl (w.heap.size + 1 + 1 + 1) 3 i0 (.int .i64 0) 1 8 Try.underlying39 hi hz0 hz1 hz2 rfl (by decide) _ _ _ rfl (World.ownsRow.alloc hR5.own _) ⟨w5.heap.size, 0, none⟩ 1 1 [.int .i64 (k : Nat)] rfl rfl (cell_one_new _ _ _) (by simp [Value.oneCell']) (by unfold maxLen; omega) (by omega) (by simp; omega) ?_; intro v' w6 hown' hgrow _; have hR6 := hR5.app hown' hgrow; clear hown' hgrow)
              go_meet
              rw [HP2.out]
              exact hR6
          case rest =>
            clear hR5
            by_cases hkn : k < n
            · have hkni : (k : Int) < (n : Int) := by omega
              obtain ⟨bb, off, hao, hbl, hct⟩ := (ht.below hcut.bel).at_ (by omega)
              have t1 := hct k hkn
              have hxs := ht.small k hkn
              subst hao
              have HStep := fun W => HSt (t k) W hxs
              rw [HNX.out hkn] at HStep
              have HR := Hid.mk' hcut
              obtain ⟨c0, -⟩ := hcut.s.cells
              obtain ⟨⟨g0, g1, g2, g3, g4⟩, -⟩ := hcut.t.cells
              replace c0 := Near.cell c0 hcut.s.lt
              replace g0 := Near.cell g0 hcut.t.lt
              replace g1 := Near.cell g1 hcut.t.lt
              replace g2 := Near.cell g2 hcut.t.lt
              replace g3 := Near.cell g3 hcut.t.lt
              replace g4 := Near.cell g4 hcut.t.lt
              replace t1 := Near.cell t1 (by have := hcut.bel.size; omega)
              clear hcut hct HNX HNL HSt HP hkn
              go_wp2_with fail
              refine wp_region_quiet_tail 7 (fun w' => ∃ u : World, w' = near wc u) (by kernel_rfl) (by kernel_rfl) (Near.start _) ?_
              simp only [List.take_succ_cons, List.take_zero, List.drop_succ_cons, List.drop_zero]
              repeat (go_big_quiet_step ((go_at_call 18; exact Near.call (HStep _))))
              refine wpQuiet_nil ?_
              rintro _ ⟨u, rfl⟩
              have hR4 := HR.out.next (near_below _ u)
              generalize near wc u = w4 at *
              clear c0 g0 g1 g2 g3 g4 t1 HR
              obtain ⟨c0, c1⟩ := hR4.s.cells
              go_wp2_with fail
              go_roundw
              case rel => exact ⟨k + 1, by omega, by go_num, by rw [HA2.out]; exact hR4.setS _⟩
              case measure => simp [intOf]; omega
            · have hkn2 : k = n := by omega
              have hA := HNL.out hkn2
              have hkni : ¬ (k : Int) < (n : Int) := by omega
              clear HNX HNL HSt HP hkn hkn2
              rw [hA] at hcut
              clear hA
              go_wp2_with fail
              go_roundw
              case rel => exact ⟨k + 1, by omega, by go_num, by rw [HA2.out]; exact hcut⟩
              case measure => simp [intOf]; omega
    · obtain rfl : k = n + 1 := by omega
      have hfin : ageR P lo' (among z l) t G n (n + 1) = ageF P lo' (among z l) t G n := by unfold ageR; rw [if_neg (by omega)]
      rw [hfin] at hR
      clear hfin
      obtain ⟨c0, -⟩ := hR.s.cells
      obtain ⟨v0, v1⟩ := hR.r.cells
      have hni : ¬ ((n + 1 : Nat) : Int) ≤ (n : Int) := by omega
      generalize ageF P lo' (among z l) t G n = A0 at *
      go_wp2_with fail
      have k0 := (StAt.set hR.r A0).cells.1
      exact bodyPost_ret (v := .tuple #[stV A0, u10]) (by simp [results, Try.results22, go_sem, k0]) rfl ⟨_, rfl, RowL.mono (B := w.heap.size + 1 + 1 + 1) (by unfold RowL; exact ownsRow_at hR.own fun k hk _ => Below.heap_setCell _ _ _ _ (by simp; omega)) (by omega), hR.bel.setCell (by simp; omega) _⟩
end Go.Proofs.Ytobgmgpclcfkcaa
