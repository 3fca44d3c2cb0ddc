/- Run: the walk. -/
import Derived.Test.YtobgmgpclcfkcaaKe
import Derived.Deep.CutRange
import Derived.Deep.CutBlock
import Derived.Deep.DeepCutAuto
namespace Go.Proofs.Ytobgmgpclcfkcaa
open Go.RowKit Go.Shelf
/-- The places, as numbers. -/
def plc (F : Nat → Bool) (k : Nat) : List Int := ((List.range k).filter F).map fun j => ((j : Nat) : Int)
theorem plc_yes {F : Nat → Bool} {k : Nat} (h : F k = true) : plc F (k + 1) = plc F k ++ [(k : Int)] := by
  unfold plc; rw [List.range_succ, List.filter_append]; simp [h]
theorem plc_no {F : Nat → Bool} {k : Nat} (h : F k = false) : plc F (k + 1) = plc F k := by
  unfold plc; rw [List.range_succ, List.filter_append]; simp [h]
theorem plc_len (F : Nat → Bool) (k : Nat) : (plc F k).length ≤ k := by
  unfold plc; rw [List.length_map]
  exact Nat.le_trans (List.length_filter_le _ _) (by simp)
def intsL (l : List Int) : List Value := l.map fun x => Value.int .i64 x
/-- A slice of these numbers, in memory from B on. -/
def RowL (B : Nat) (W : World) (v : Value) (l : List Int) : Prop := W.ownsRow B 3 1 v l.length (intsL l)
theorem RowL.slice {B : Nat} {W : World} {v : Value} {l : List Int} (h : RowL B W v l) : ∃ ao cap, v = .slice ao l.length cap := by
  rcases h.2 with ⟨e, h0⟩ | ⟨g, cap, cur, e, _⟩
  · exact ⟨none, 0, by rw [e, h0]⟩
  · exact ⟨_, cap, e⟩
theorem RowL.rd {B cap : Nat} {W : World} {ao : Option Addr} {l : List Int} (h : RowL B W (.slice ao l.length cap) l) : RdI W ao l.length (fun i => l.getD i 0) := by
  rcases h.2 with ⟨e, h0⟩ | ⟨g, cap', cur, e, _, hg, hle, _, hsz, htake⟩
  · exact fun hl => by omega
  · simp only [Value.slice.injEq] at e
    obtain ⟨rfl, _, rfl⟩ := e
    refine fun _ => ⟨g, 0, rfl, (Array.getElem?_eq_some_iff.1 hg).1, fun i hi => ?_⟩
    rw [cell_of_row W g (0 + i) cur 3 (0, 0) hg, Nat.zero_add]
    have e2 : cur.toList[i]? = (intsL l)[i]? := by
      rw [← htake, List.getElem?_take, if_pos (by omega)]
    rw [← Array.getElem?_toList, e2]
    simp [intsL, List.getD, hi]
theorem ownsRow_at {W W' : World} {base e size k : Nat} {v : Value} {xs : List Value} (h : W.ownsRow base e size v k xs) (hs : ∀ g, base ≤ g → g < W.heap.size → W'.heap[g]? = W.heap[g]?) : W'.ownsRow base e size v k xs :=
  ⟨h.1, h.2.imp id fun ⟨g, cap, cur, hv, hg, hc, r⟩ => ⟨g, cap, cur, hv, hg, (hs g hg (Array.getElem?_eq_some_iff.1 hc).1).trans hc, r⟩⟩
theorem ownsRow_below {W W' : World} {base e size k : Nat} {v : Value} {xs : List Value} (h : W.ownsRow base e size v k xs) (hb : Below W.heap.size W W') : W'.ownsRow base e size v k xs := ownsRow_at h fun g _ hg => hb.block g hg
theorem RowL.mono {B B' : Nat} {W : World} {v : Value} {l : List Int} (h : RowL B W v l) (hB : B' ≤ B) : RowL B' W v l := ownsRow_mono h hB
/-- Whether a place is a trigger, and the age there. -/
def ageF (P : Nat → Bool) (lo : Nat) (T : Nat → Bool) (t : Nat → Nat) (g : Int) : Nat → Int
  | 0 => if T 0 = true then trg g else g
  | j + 1 => if T (j + 1) = true then trg (stp P lo (ageF P lo T t g j) (t j)) else stp P lo (ageF P lo T t g j) (t j)
/-- The age ahead of a place's trigger. -/
def agePre (P : Nat → Bool) (lo : Nat) (T : Nat → Bool) (t : Nat → Nat) (g : Int) : Nat → Int
  | 0 => g
  | j + 1 => stp P lo (ageF P lo T t g j) (t j)
theorem ageF_pre (P : Nat → Bool) (lo : Nat) (T : Nat → Bool) (t : Nat → Nat) (g : Int) (j : Nat) : ageF P lo T t g j = if T j = true then trg (agePre P lo T t g j) else agePre P lo T t g j := by
  cases j <;> rfl
/-- The age ahead of a round. -/
def ageB (P : Nat → Bool) (lo : Nat) (T : Nat → Bool) (t : Nat → Nat) (g : Int) : Nat → Int
  | 0 => g
  | j + 1 => ageF P lo T t g j
theorem stp_rng {P : Nat → Bool} {lo : Nat} {g : Int} {x : Nat} (h : -1 ≤ g) (_h2 : g ≤ lo) : -1 ≤ stp P lo g x ∧ stp P lo g x ≤ lo := by
  unfold stp
  split
  · omega
  · split
    · split <;> omega
    · omega
theorem trg_rng {lo : Nat} {g : Int} (h : -1 ≤ g) (h2 : g ≤ (lo : Int)) : -1 ≤ trg g ∧ trg g ≤ lo := by
  unfold trg
  split <;> omega
theorem ageF_rng {P : Nat → Bool} {lo : Nat} {T : Nat → Bool} {t : Nat → Nat} {g : Int} (h : -1 ≤ g) (h2 : g ≤ lo) : ∀ j, -1 ≤ ageF P lo T t g j ∧ ageF P lo T t g j ≤ lo
  | 0 => by
    unfold ageF
    split
    · exact trg_rng h h2
    · exact ⟨h, h2⟩
  | j + 1 => by
    obtain ⟨a, b⟩ := ageF_rng (P := P) (T := T) (t := t) h h2 j
    obtain ⟨c, d⟩ := stp_rng (P := P) (x := t j) a b
    unfold ageF
    split
    · exact trg_rng c d
    · exact ⟨c, d⟩
theorem agePre_rng {P : Nat → Bool} {lo : Nat} {T : Nat → Bool} {t : Nat → Nat} {g : Int} (h : -1 ≤ g) (h2 : g ≤ lo) : ∀ j, -1 ≤ agePre P lo T t g j ∧ agePre P lo T t g j ≤ lo
  | 0 => ⟨h, h2⟩
  | j + 1 => by
    obtain ⟨a, b⟩ := ageF_rng (P := P) (T := T) (t := t) h h2 j
    exact stp_rng (P := P) (x := t j) a b
/-- What Run holds on to. -/
structure RunI (w : World) (mb n : Nat) (T : Nat → Bool) (a b c d lo : Nat) (g : Int) (l : List Int) (v : Value) (W : World) : Prop where
  t : TdAt W w.heap.size a b c d lo
  s : StAt W (w.heap.size + 1) g
  r : StAt W (w.heap.size + 1 + 1) 0
  mks : Cl W mb 4 (bls T (n + 1))
  own : RowL (mb + 1) W v l
  bel : Below w.heap.size w W
  mbl : w.heap.size + 3 ≤ mb
theorem RunI.next {w : World} {mb n : Nat} {T : Nat → Bool} {a b c d lo : Nat} {g : Int} {l : List Int} {v : Value} {W W' : World} (h : RunI w mb n T a b c d lo g l v W) (hb : Below W.heap.size W W') : RunI w mb n T a b c d lo g l v W' :=
  ⟨h.t.below hb, h.s.below hb, h.r.below hb, h.mks.below hb, ownsRow_below h.own hb, h.bel.trans (hb.mono h.bel.size), h.mbl⟩
theorem RunI.setS {w : World} {mb n : Nat} {T : Nat → Bool} {a b c d lo : Nat} {g : Int} {l : List Int} {v : Value} {W : World} (h : RunI w mb n T a b c d lo g l v W) (g' : Int) : RunI w mb n T a b c d lo g' l v (W.setCell ⟨w.heap.size + 1, 0, none⟩ (.int .i64 g')) :=
  ⟨h.t.other (by omega) _ _, h.s.set g', h.r.other (by omega) _ _, h.mks.other (by have := h.mbl; omega) _ _, ownsRow_at h.own fun k hk _ => Below.heap_setCell _ _ _ _ (by have := h.mbl; simp; omega), h.bel.setCell (by simp) _, h.mbl⟩
/-- What Run answers. -/
def RetRun (w : World) (G : Int) (l : List Int) (e : Ending) (w' : World) : Prop := ∃ v, e = .returned (.tuple #[stV G, v]) ∧ RowL w.heap.size w' v l ∧ Below w.heap.size w w'
theorem RunI.app {w : World} {mb n : Nat} {T : Nat → Bool} {a b c d lo : Nat} {g : Int} {l : List Int} {v v' : Value} {W w3 : World} {x : Int} (h : RunI w mb n T a b c d lo g l v W) {o : Obj} (hown' : w3.ownsRow (mb + 1) 3 1 v' (l.length + 1) (intsL l ++ [.int .i64 x])) (hgrow : (W.alloc o).grownBy w3 v.ownBlock) :
    RunI w mb n T a b c d lo g (l ++ [x]) v' w3 := by
  have hmk := h.mks.lt
  have hbw : Below (mb + 1) (W.alloc o) w3 := (Below.refl _ _).grown hgrow (by simp; omega) (fun j e => (h.own.lt j e).1)
  have hb0 : Below W.heap.size W (W.alloc o) := (Below.refl _ _).alloc (Nat.le_refl _) o
  have hm := h.mbl
  refine ⟨Cl.belowB (h.t.below hb0) hbw (by omega), Cl.belowB (h.s.below hb0) hbw (by omega), Cl.belowB (h.r.below hb0) hbw (by omega), (h.mks.below hb0).belowB hbw (by omega), ?_, (h.bel.trans (hb0.mono h.bel.size)).trans (hbw.mono (by omega)), hm⟩
  unfold RowL
  simpa [intsL] using hown'
set_option maxRecDepth 100000 in
set_option maxHeartbeats 4000000 in
theorem run_t {a b c d a' b' c' d' lo' : Nat} {lo : Int} {P : Nat → Bool} (g : Int) (w : World) (ao : Option Addr) (n cap : Nat) (t : Nat → Nat) (zo : Option Addr) (l lc : Nat) (z : Nat → Int)
    (HS : Eff 34 a b c d lo a' b' c' d' lo') (HS' : Eff 34 a' b' c' d' lo' a' b' c' d' lo') (hP : C4 P a' b' c' d') (hlo : lo' ≤ 1000) (ht : RdB w ao n t) (hn : n ≤ 1000) (hz : RdI w zo l z) (hl : (l : Int) ≤ 9223372036854775807) :
    Calls Try.prog 21 #[tdV a b c d lo, stV g, .slice ao n cap, .slice zo l lc] w (RetRun w (ageF P lo' (among z l) t (clS lo' g) n) (plc (fun j => ageF P lo' (among z l) t (clS lo' g) j == lo') (n + 1))) := by
  obtain ⟨i0, hi, hz0, hz1, hz2⟩ := info_parts Try.info3'
  have hT := B3.start w a b c d lo g
  have HC := HS g (w3 w a b c d lo g)
  have hge := clS_ge lo' g
  have hle := clS_le (lo := lo') g (by omega)
  generalize clS lo' g = G at *
  have HM : ∀ W, Below w.heap.size w W → Calls Try.prog 38 #[.slice zo l lc, .int .i64 (n : Nat)] W (RetMk W (n + 1) (among z l)) := fun W hb => marked_any zo l lc n z W (hz.below hb) hl (by omega)
  obtain ⟨F, hF⟩ : ∃ F : Nat → Bool, (fun j => ageF P lo' (among z l) t G j == lo') = F := ⟨_, rfl⟩
  rw [hF]
  have HF : Hid (∀ j, F j = (ageF P lo' (among z l) t G j == lo')) := fun j => by rw [← hF]
  clear hF
  unfold w3 tdO stO at hT HC
  unfold tdV at *
  go_enter Try.func21, Try.ntmps21
  go_upto_region 3 with (go_at_call 34; refine HC.mono ?_; rintro e w1 ⟨rfl, hb1⟩; replace hT := hT.next hb1; clear hb1 HC; obtain ⟨c0, c1⟩ := hT.s.cells; obtain ⟨⟨g0, g1, g2, g3, g4⟩, f0, f1, f2, f3, f4⟩ := hT.t.cells; replace hT := hT.putT a' b' c' d' lo'; obtain ⟨p0, p1⟩ := hT.s.cells; replace hT := hT.setS G; unfold putT at p0 p1 hT)
  change Code.wp Try.prog _ _ _ ((putT w1 w.heap.size a' b' c' d' lo').setCell ⟨w.heap.size + 1, 0, none⟩ (.int .i64 G))
  change B3 w a' b' c' d' lo' G ((putT w1 w.heap.size a' b' c' d' lo').setCell ⟨w.heap.size + 1, 0, none⟩ (.int .i64 G)) at hT
  generalize (putT w1 w.heap.size a' b' c' d' lo').setCell ⟨w.heap.size + 1, 0, none⟩ (.int .i64 G) = w2 at *
  clear c0 c1 g0 g1 g2 g3 g4 f0 f1 f2 f3 f4 p0 p1
  have hcast : ((n + 1 : Nat) : Int) = (n : Int) + 1 := by omega
  go_wp2_with (go_at_call 38; refine (HM _ hT.bel).mono ?_; rintro e w3 ⟨mb, rfl, hcl, hmb, hb3⟩; have hR : RunI w mb n (among z l) a' b' c' d' lo' G [] (.slice none 0 0) w3 := ⟨hT.t.below hb3, hT.s.below hb3, hT.v.below hb3, hcl, World.ownsRow_nil _ _ _ _, hT.bel.trans (hb3.mono hT.bel.size), by have := hT.v.lt; omega⟩; clear HM hcl hmb hb3 hT)
  have hw0 : Below w.heap.size w w3 := hR.bel
  clear HS
  go_loopw [10, 24] (fun v i wr => ∃ k : Nat, k ≤ n + 1 ∧ i = .int .i64 k ∧ RunI w mb n (among z l) a' b' c' d' lo' (ageB P lo' (among z l) t G k) (plc F k) v wr) (fun _ i _ => n + 1 - (intOf i).toNat)
  case atStart => exact ⟨0, Nat.zero_le _, rfl, hR⟩
  case round =>
    obtain ⟨k, hk, rfl, hR⟩ := hrel
    by_cases hlt : k < n + 1
    · have hki : (k : Int) < (n : Int) + 1 := by omega
      have m0 := hR.mks.cell k (bls_get _ hlt)
      have hpre := ageF_pre P lo' (among z l) t G k
      obtain ⟨B, hB⟩ : ∃ B, among z l k = B := ⟨_, rfl⟩
      rw [hB] at m0 hpre
      have HPRE := Hid.mk' hpre
      clear hpre hB
      go_upto_if 30 with fail
      go_cut [] (fun wx => RunI w mb n (among z l) a' b' c' d' lo' (agePre P lo' (among z l) t G k) (plc F k) u10 wx)
      case first =>
        cases k with
        | zero =>
          go_wp2_with fail
          go_meet
          exact hR
        | succ j =>
          obtain ⟨bb, off, hao, hbl, hct⟩ := (ht.below hR.bel).at_ (by omega)
          have t1 := hct j (by omega)
          have hxs := ht.small j (by omega)
          subst hao
          have hji : (j : Int) < (n : Int) := by omega
          have hwj : IntKind.i64.wrap (((j + 1 : Nat) : Int) - 1) = j := by rw [wrapi64_in _ (by omega) (by omega)]; omega
          have HStep : ∀ W, Calls Try.prog 17 #[.agg #[.int .u64 (a' : Nat), .int .u64 (b' : Nat), .int .u64 (c' : Nat), .int .u64 (d' : Nat), .int .i64 (lo' : Nat)], .agg #[.int .i64 (ageB P lo' (among z l) t G (j + 1))], .int .u8 (t j : Nat)] W fun e w' => e = .returned (stV (agePre P lo' (among z l) t G (j + 1))) ∧ Below W.heap.size W w' := by
            intro W
            have := step_t (ageF P lo' (among z l) t G j) (t j) W HS' hP hlo hxs
            obtain ⟨r1, r2⟩ := ageF_rng (P := P) (T := among z l) (t := t) hge hle j
            rw [clS_self r1 r2] at this
            exact this
          clear hct
          have HR := Hid.mk' hR
          obtain ⟨c0, -⟩ := hR.s.cells
          obtain ⟨⟨g0, g1, g2, g3, g4⟩, -⟩ := hR.t.cells
          replace c0 := Near.cell c0 hR.s.lt
          replace g0 := Near.cell g0 hR.t.lt
          replace g1 := Near.cell g1 hR.t.lt
          replace g2 := Near.cell g2 hR.t.lt
          replace g3 := Near.cell g3 hR.t.lt
          replace g4 := Near.cell g4 hR.t.lt
          replace t1 := Near.cell t1 (by have := hR.bel.size; omega)
          generalize ageB P lo' (among z l) t G (j + 1) = A0 at *
          generalize agePre P lo' (among z l) t G (j + 1) = A1 at *
          clear hR m0
          go_wp2_with fail
          refine wp_region_quiet_tail 8 (fun w' => ∃ u : World, w' = near wr u) (by kernel_rfl) (by kernel_rfl) (Near.start _) ?_
          simp only [List.take_succ_cons, List.take_zero, List.drop_succ_cons, List.drop_zero]
          repeat (go_big_quiet_step ((go_at_call 17; exact Near.call (HStep _))))
          refine wpQuiet_nil ?_
          rintro _ ⟨u, rfl⟩
          have hR4 := HR.out.next (near_below _ u)
          generalize near wr u = w4 at *
          clear c0 g0 g1 g2 g3 g4 t1 HR
          obtain ⟨c0, c1⟩ := hR4.s.cells
          go_wp2_with fail
          go_meet
          exact hR4.setS _
      case rest =>
        clear hR m0
        go_upto_if 39 with fail
        go_cut [] (fun wx => RunI w mb n (among z l) a' b' c' d' lo' (ageF P lo' (among z l) t G k) (plc F k) u10 wx)
        case first =>
          have hpre := HPRE.out
          clear HPRE
          cases B with
          | false =>
            rw [if_neg (by decide)] at hpre
            have HA := Hid.mk' hpre
            clear hpre
            go_wp2_with fail
            go_meet
            rw [HA.out]
            exact hcut
          | true =>
            have HTr : ∀ W, Calls Try.prog 15 #[.agg #[.int .u64 (a' : Nat), .int .u64 (b' : Nat), .int .u64 (c' : Nat), .int .u64 (d' : Nat), .int .i64 (lo' : Nat)], .agg #[.int .i64 (agePre P lo' (among z l) t G k)]] W fun e w' => e = .returned (stV (trg (agePre P lo' (among z l) t G k))) ∧ Below W.heap.size W w' := by
              intro W
              have := trigger_t (agePre P lo' (among z l) t G k) W HS'
              rwa [clS_self (agePre_rng hge hle k).1 (agePre_rng hge hle k).2] at this
            have HR := Hid.mk' hcut
            obtain ⟨c0, -⟩ := hcut.s.cells
            obtain ⟨⟨g0, g1, g2, g3, g4⟩, -⟩ := hcut.t.cells
            rw [if_pos rfl] at hpre
            generalize agePre P lo' (among z l) t G k = A0 at *
            generalize trg A0 = A1 at *
            have HA : Hid (ageF P lo' (among z l) t G k = A1) := hpre
            clear hcut hpre
            go_wp2_with (go_at_call 15; refine (HTr _).mono ?_; rintro e w5 ⟨rfl, hb5⟩; have hR5 := HR.out.next hb5; clear hb5 c0; obtain ⟨c0, c1⟩ := hR5.s.cells)
            go_meet
            rw [HA.out]
            exact hR5.setS _
        case rest =>
          have hR := hcut
          clear hcut
          have HRd : ∀ W, Calls Try.prog 19 #[.agg #[.int .u64 (a' : Nat), .int .u64 (b' : Nat), .int .u64 (c' : Nat), .int .u64 (d' : Nat), .int .i64 (lo' : Nat)], .agg #[.int .i64 (ageF P lo' (among z l) t G k)]] W fun e w' => e = .returned (.bool (F k)) ∧ Below W.heap.size W w' := by
            intro W
            have := ready_t (ageF P lo' (among z l) t G k) W HS'
            obtain ⟨r1, r2⟩ := ageF_rng (P := P) (T := among z l) (t := t) hge hle k
            rwa [clS_self r1 r2, ← HF.out] at this
          obtain ⟨c0, -⟩ := hR.s.cells
          obtain ⟨⟨g0, g1, g2, g3, g4⟩, -⟩ := hR.t.cells
          cases hfk : F k with
          | false =>
            rw [hfk] at HRd
            have HP : Hid (plc F (k + 1) = plc F k) := plc_no hfk
            clear hfk
            have HR := Hid.mk' hR
            clear hR
            go_wp2_with (go_at_call 19; refine (HRd _).mono ?_; rintro e w5 ⟨rfl, hb5⟩; have hR5 := HR.out.next hb5; clear hb5 c0 g0 g1 g2 g3 g4)
            go_roundw
            case rel => exact ⟨k + 1, by omega, by go_num, by rw [HP.out]; exact hR5⟩
            case measure => simp [intOf]; omega
          | true =>
            rw [hfk] at HRd
            have HP : Hid (plc F (k + 1) = plc F k ++ [(k : Int)]) := plc_yes hfk
            clear hfk
            have hlen := plc_len F k
            have HR := Hid.mk' hR
            clear hR
            go_wp2_with (first
              | (go_at_call 19; refine (HRd _).mono ?_; rintro e w5 ⟨rfl, hb5⟩; have hR5 := HR.out.next hb5; clear hb5 c0 g0 g1 g2 g3 g4)
              | (at_builtin; have hmm := hR5.mks.lt; refine wpList_append_own _ rfl _ _ 39 rfl (mb + 1) 3 i0 (.int .i64 0) 1 8 Try.underlying39 hi hz0 hz1 hz2 rfl (by decide) _ _ _ rfl (World.ownsRow.alloc hR5.own _) ⟨w5.heap.size, 0, none⟩ 1 1 [.int .i64 (k : Nat)] rfl rfl (cell_one_new _ _ _) (by simp [Value.oneCell']) (by unfold maxLen; omega) (by omega) (by simp; omega) ?_; intro v' w6 hown' hgrow _; have hR6 := hR5.app hown' hgrow; clear hown' hgrow))
            go_roundw
            case rel => exact ⟨k + 1, by omega, by go_num, by rw [HP.out]; exact hR6⟩
            case measure => simp [intOf]; omega
    · obtain rfl : k = n + 1 := by omega
      obtain ⟨c0, -⟩ := hR.s.cells
      obtain ⟨v0, v1⟩ := hR.r.cells
      have hfin : ageB P lo' (among z l) t G (n + 1) = ageF P lo' (among z l) t G n := rfl
      rw [hfin] at hR c0
      clear hfin
      generalize ageF P lo' (among z l) t G n = A0 at *
      go_wp2_with fail
      have k0 := (StAt.set hR.r A0).cells.1
      exact bodyPost_ret (v := .tuple #[stV A0, u10]) (by simp [results, Try.results21, go_sem, k0]) rfl ⟨_, rfl, RowL.mono (B := mb + 1) (by unfold RowL; exact ownsRow_at hR.own fun k hk _ => Below.heap_setCell _ _ _ _ (by have := hR.mbl; simp; omega)) (by have := hR.mbl; omega), hR.bel.setCell (by simp; omega) _⟩
end Go.Proofs.Ytobgmgpclcfkcaa
