/- The reference's Zero and its reader's Set; Set of a number that is no size: the walks. -/
import Derived.Test.YtnjnaihogbnmaaaFe
import Derived.Deep.RegionHeld3
namespace Go.Proofs.Ytnjnaihogbnmaaa
open Go.RowKit
set_option maxHeartbeats 400000 in
theorem zero_pos (n : Nat) (w : World) (h1 : (n : Int) ≤ 8192) :
    Calls Try.prog 51 #[.int .i64 (n : Nat)] w fun e w' => ∃ ao len cap, e = .returned (.agg #[.int .i64 (n : Nat), .slice ao len cap]) ∧ OwnU w.heap.size w' ao len (fun _ => 0) ∧ len = (n + 63) / 64 ∧ Below w.heap.size w w' := by
  obtain ⟨i0, hi, hz0, hz1, hz2⟩ := info_parts Try.info37
  go_enter Try.func51, Try.ntmps51
  go_wp2_with (at_make; refine wpList_make_full _ rfl _ _ 23 rfl w.heap.size 37 i0 (.int .u64 0) 1 Try.underlying23 hi hz0 hz1 .i64 .i64 _ _ ((n + 63) / 64) rfl rfl (by omega) (by omega) (by rw [hz2]; omega) (by unfold maxLen; omega) (by simp) ?_)
  intro w2 hown hgr
  have hb : Below _ _ w2 := (Below.refl _ _).grown hgr (Nat.le_refl _) (by simp)
  obtain ⟨hc, hf⟩ := bcell hb
  have hz : w.heap.size + 1 ≤ w2.heap.size := by have := hb.size; simpa using this
  have hlt : w.heap.size + 1 < w2.heap.size := by have := (hown.lt (w.heap.size + 1) (by simp [Value.ownBlock])).2; exact this
  have ho : OwnU w.heap.size w2 (some ⟨w.heap.size + 1, 0, none⟩) ((n + 63) / 64) (fun _ => 0) := by
    refine ownU_made ?_ hlt (by omega)
    simpa using hown
  clear hown hgr
  have HO : Hid (OwnU w.heap.size w2 (some ⟨w.heap.size + 1, 0, none⟩) ((n + 63) / 64) (fun _ => 0)) := ho
  clear ho
  go_wp2
  refine bodyPost_ret (v := .agg #[.int .i64 n, .slice (some ⟨w.heap.size + 1, 0, none⟩) ((n + 63) / 64) ((n + 63) / 64)]) (by simp [results, Try.results51, go_sem, hc]) rfl ⟨_, _, _, rfl, ?_, rfl, ?_⟩
  · refine HO.out.but (ax := some ⟨w.heap.size, 0, none⟩) ?_ ?_
    · exact ((But.refl _ _).setCell (p := ⟨w.heap.size, 0, none⟩) (.inl ⟨_, rfl, rfl⟩) _).setCell (p := ⟨w.heap.size, 1, none⟩) (.inl ⟨_, rfl, rfl⟩) _
    · intro a c ea ec
      simp at ea ec
      subst ea ec
      simp
  · have hb' : Below w.heap.size w w2 := ((Below.refl _ _).alloc (Nat.le_refl _) _).trans (hb.mono (by simp))
    exact (hb'.setCell (by simp) _).setCell (by simp) _

theorem zero_any (n L : Nat) (w : World) (hn : n ≤ 8192) (hL : (n + 63) / 64 = L) : Calls Try.prog 51 #[.int .i64 (n : Nat)] w fun e w' => ∃ ao cap, e = .returned (.agg #[.int .i64 (n : Nat), .slice ao L cap]) ∧ OwnU w.heap.size w' ao L (fun _ => 0) ∧ Below w.heap.size w w' := by
  refine (zero_pos n w (by omega)).mono ?_
  rintro e w' ⟨ao, len, cap, rfl, ho, rfl, hb⟩
  subst hL
  exact ⟨ao, cap, rfl, ho, hb⟩
/-- The loop of Set: the reader, the set on its way, the result's box. -/
structure FSetI (w : World) (b bs n L : Nat) (ao : Option Addr) (cap : Nat) (h : Nat → Nat) (N : Nat) (f : Nat → Nat) (e : Int) (wr : World) : Prop where
  rdr : ∃ ao' cap', FRdr wr b ao' N cap' f e
  box : Box wr bs (.int .i64 (n : Nat)) (.slice ao L cap)
  own : OwnU (w.heap.size + 1) wr ao L h
  res : Box wr w.heap.size (.int .i64 0) (.slice none 0 0)
  but : But (some ⟨b, 0, none⟩) w wr
/-- A word is read. -/
theorem FSetI.num {w : World} {b bs n L : Nat} {ao : Option Addr} {cap : Nat} {h : Nat → Nat} {N : Nat} {f : Nat → Nat} {e : Int} {wr : World} (t : FSetI w b bs n L ao cap h N f e wr) {N' : Nat} {f' : Nat → Nat} {e' : Int} {w' : World} (hr : RetF wr b N' f' e' w') (hb : b < w.heap.size) (hbs : w.heap.size < bs) :
    FSetI w b bs n L ao cap h N' f' e' w' := by
  obtain ⟨hr, hB⟩ := hr
  refine ⟨hr, t.box.but hB (fun a ea => ?_), t.own.but hB (fun a c ea ec => ?_), t.res.but hB (fun a ea => ?_), t.but.trans hB⟩
  · obtain rfl := Option.some.inj ea; show b ≠ bs; omega
  · obtain rfl := Option.some.inj ec; have := (t.own.lt a ea).2; show b ≠ a.block; omega
  · obtain rfl := Option.some.inj ea; show b ≠ w.heap.size; omega
/-- And stored. -/
theorem FSetI.store {w : World} {b bs n L : Nat} {g : Nat} {cap : Nat} {h : Nat → Nat} {N : Nat} {f : Nat → Nat} {e : Int} {wr : World} (t : FSetI w b bs n L (some ⟨g, 0, none⟩) cap h N f e wr) {k x : Nat} (hb : b < w.heap.size) (hg : w.heap.size < g) (hgb : g ≠ bs) (hk : k < L) (hx : x < 18446744073709551616) :
    FSetI w b bs n L (some ⟨g, 0, none⟩) cap (upd h k x) N f e (wr.setCell ⟨g, k, none⟩ (.int .u64 (x : Nat))) := by
  have hB : But (some ⟨g, 0, none⟩) wr (wr.setCell ⟨g, k, none⟩ (.int .u64 (x : Nat))) := (But.refl _ _).setCell (p := ⟨g, k, none⟩) (.inl ⟨⟨g, 0, none⟩, rfl, rfl⟩) _
  refine ⟨?_, t.box.other (p := ⟨g, k, none⟩) hgb _, t.own.set rfl hk hx, t.res.other (p := ⟨g, k, none⟩) (by show g ≠ _; omega) _, t.but.setCell (p := ⟨g, k, none⟩) (.inr (by show w.heap.size ≤ g; omega)) _⟩
  obtain ⟨ao', cap', hr⟩ := t.rdr
  refine ⟨ao', cap', ?_, hr.rd.but hB (fun hl a c ea ec => ?_), hr.room, hr.nil, hr.inv⟩
  · rw [Below.heap_setCell _ _ _ _ (by show b ≠ g; omega)]; exact hr.blk
  · obtain rfl := Option.some.inj ec; exact t.own.apart (by omega) rfl hr.rd hl a ea
/-- The result's box is written. -/
theorem RetF.box {w : World} {b N : Nat} {f : Nat → Nat} {e : Int} {w' : World} (h : RetF w b N f e w') (hx : Box w' w.heap.size (.int .i64 0) (.slice none 0 0)) (hb : b < w.heap.size) (u v : Value) :
    RetF w b N f e ((w'.setCell ⟨w.heap.size, 0, none⟩ u).setCell ⟨w.heap.size, 1, none⟩ v) := by
  obtain ⟨⟨ao, cap, hr⟩, hB⟩ := h
  have hB2 : But (some ⟨w.heap.size, 0, none⟩) w' ((w'.setCell ⟨w.heap.size, 0, none⟩ u).setCell ⟨w.heap.size, 1, none⟩ v) := ((But.refl _ _).setCell (p := ⟨w.heap.size, 0, none⟩) (.inl ⟨_, rfl, rfl⟩) _).setCell (p := ⟨w.heap.size, 1, none⟩) (.inl ⟨⟨w.heap.size, 0, none⟩, rfl, rfl⟩) _
  refine ⟨⟨ao, cap, ?_, hr.rd.but hB2 (fun hl a c ea ec => ?_), hr.room, hr.nil, hr.inv⟩, (hB.setCell (.inr (Nat.le_refl _)) _).setCell (.inr (Nat.le_refl _)) _⟩
  · rw [Below.heap_setCell _ _ _ _ (by show b ≠ w.heap.size; omega), Below.heap_setCell _ _ _ _ (by show b ≠ w.heap.size; omega)]; exact hr.blk
  · obtain rfl := Option.some.inj ec
    obtain ⟨b', off, e', _, hc⟩ := hr.rd.at_ hl
    rw [e'] at ea
    obtain rfl := Option.some.inj ea
    rintro rfl
    have h0 := hc 0 hl
    rw [cell_of_row w' _ (off + 0) _ 25 (0, 0) hx] at h0
    have : off = 0 ∨ off = 1 ∨ 2 ≤ off := by omega
    rcases this with rfl | rfl | h3
    · simp at h0
    · simp at h0
    · rw [Array.getElem?_eq_none (by simp; omega)] at h0
      simp at h0
def RetSF (w : World) (b n L N : Nat) (f : Nat → Nat) (e : Int) (en : Ending) (w' : World) : Prop :=
  ∃ N' f' e', RetF w b N' f' e' w' ∧ ((en = .returned (.agg #[.int .i64 0, .slice none 0 0]) ∧ SetNo n L N f e N' f' e') ∨
    (∃ ao cap, en = .returned (.agg #[.int .i64 (n : Nat), .slice ao L cap]) ∧ RdU w' ao L (wdB f) ∧ SetYes n L N f e N' f' e'))
set_option maxHeartbeats 3000000 in
theorem fset_loop {w : World} {b : Nat} {ao : Option Addr} {N cap : Nat} {f : Nat → Nat} {e : Int} (h : FRdr w b ao N cap f e) (n L : Nat) (hn : n ≤ 8192) (hLL : (n + 63) / 64 = L) :
    Calls Try.prog 45 #[.pointer (some ⟨b, 0, none⟩), .int .i64 (n : Nat)] w (RetSF w b n L N f e) := by
  have hlt := h.lt
  have hd : decide ((n : Int) < 0) = false := by simp
  have hd2 : decide (8192 < (n : Int)) = false := by simp; omega
  have hnew := zero_any n L (w.alloc (.cells #[.int .i64 0, .slice none 0 0] 25)) hn hLL
  have hL : (L : Int) ≤ 128 := by omega
  clear hLL
  go_enter Try.func45, Try.ntmps45
  go_wp2_with fail
  refine hnew.mono ?_
  rintro en w1 ⟨ao1, cap1, rfl, ho1, hb1⟩
  have res1 := (Box.new w (.int .i64 0) (.slice none 0 0)).below hb1
  have hb : Below w.heap.size w w1 := ((Below.refl _ _).alloc (Nat.le_refl _) _).trans (hb1.mono (by simp))
  have h1 := h.below hb
  have ho1' : OwnU (w.heap.size + 1) w1 ao1 L (fun _ => 0) := by simpa using ho1
  have hlt1 : w.heap.size < w1.heap.size := res1.lt
  have hI : FSetI w b w1.heap.size n L ao1 cap1 (fun _ => 0) N f e (w1.alloc (.cells #[.int .i64 (n : Nat), .slice ao1 L cap1] 25)) :=
    ⟨⟨_, _, h1.below ((Below.refl _ _).alloc (Nat.le_refl _) _)⟩, Box.new _ _ _, ho1'.alloc _, res1.alloc _, (But.of_below hb).alloc _⟩
  have hao : ∀ a, ao1 = some a → w.heap.size + 1 ≤ a.block ∧ a.block < w1.heap.size := fun a e => ⟨(ho1'.lt a e).2, (ho1'.lt a e).1⟩
  clear ho1 res1 hb1 ho1' hnew
  have hne : w.heap.size ≠ w1.heap.size := by omega
  go_wp2_with fail
  go_loopw [6] (fun i wr => ∃ (k : Nat) (hh : Nat → Nat) (N' : Nat) (f' : Nat → Nat) (e' : Int), k ≤ L ∧ i = .int .i64 k ∧ FSetI w b w1.heap.size n L ao1 cap1 hh N' f' e' wr ∧ LoopSt k N f e hh N' f' e') (fun i _ => L - (intOf i).toNat)
  case atStart => exact ⟨0, _, N, f, e, Nat.zero_le _, rfl, hI, LoopSt.start _ _ _ _⟩
  case round =>
    obtain ⟨k, hh, N', f', e', hk, rfl, t, hst⟩ := hrel
    have HST : Hid (LoopSt k N f e hh N' f' e') := hst
    clear hst hI
    obtain ⟨p0, p1, p2, p3⟩ := t.box.cells
    by_cases hlk : k < L
    · obtain ⟨g, rfl, _⟩ := t.own.at_ (by omega)
      have hg := hao _ rfl
      have hg1 : w.heap.size + 1 ≤ g := hg.1
      have hg2 : g < w1.heap.size := hg.2
      have hgne : g ≠ w1.heap.size := by omega
      have hki : (k : Int) < (L : Int) := by omega
      have hk0 : (0 : Int) ≤ (k : Int) := by omega
      clear hg hao
      go_wp2_with fail
      clear p0 p1 p2 p3
      have HBX : Hid (∀ {W : World} {x y : Value}, Box W w1.heap.size x y → W.cell? ⟨w1.heap.size, 0, none⟩ = some x ∧ W.cell? ⟨w1.heap.size, 1, none⟩ = some y) := fun hx => ⟨hx.cells.1, hx.cells.2.1⟩
      have t0 : FSetI w b w1.heap.size n L (some ⟨g, 0, none⟩) cap1 hh N' f' e' wr.drew := ⟨t.rdr.elim fun ao' hr => hr.elim fun cap' hr => ⟨ao', cap', hr.below (Below.refl _ _).drew⟩, t.box.drew, t.own.drew, t.res.drew, t.but.drew⟩
      clear t
      have hc := HBX.out t0.box
      obtain ⟨aor, capr, hR⟩ := t0.rdr
      have hnum := fnum_r hR 8 18446744073709551615 (by decide) (by decide)
      rw [show szB 8 = 8 from rfl] at hnum
      go_region_held3 (fun w' => w'.cell? ⟨w1.heap.size, 0, none⟩ = some (.int .i64 (n : Nat)) ∧ w'.cell? ⟨w1.heap.size, 1, none⟩ = some (.slice (some ⟨g, 0, none⟩) L cap1)) (first | exact hc | exact HBX.out (t0.box.other (p := ⟨g, k, none⟩) hgne _))
        (first | (go_at_call 43; refine hnum.mono ?_; rintro en w2 ⟨x, N2, f2, e2, rfl, hns, hret⟩; replace t0 := t0.num hret hlt (by omega); clear hc hnum; have hc := HBX.out t0.box; obtain ⟨gg, eg, hcc⟩ := t0.own.at_ (by omega); obtain ⟨rfl⟩ : g = gg := (by simpa using eg); obtain ⟨cc, cf⟩ := hcc k hlk; have hglt : g < w2.heap.size := (t0.own.lt _ rfl).1; clear hcc eg))
      go_wp2
      obtain ⟨hnx, hx⟩ := HST.out.next h.rd.small rfl hns
      exact ⟨⟨k + 1, _, N2, f2, e2, by omega, by go_num, t0.store hlt (by omega) hgne hlk hx, hnx⟩, by simp [intOf]; omega⟩
    · obtain rfl : k = L := by omega
      obtain ⟨aor, capr, hR⟩ := t.rdr
      obtain ⟨m0, m1, m2, m3⟩ := hR.cells
      have hres := t.res
      have hne2 : w.heap.size ≠ w1.heap.size := by omega
      have hrlt := hres.lt
      by_cases he : e' = 0
      · subst he
        obtain ⟨a1, a2, a3, a4, a6⟩ : e = 0 ∧ 8 * k ≤ N ∧ N' = N - 8 * k ∧ f' = (fun i => f (8 * k + i)) ∧ ∀ j, j < k → hh j = wdB f j := by
          rcases HST.out with ⟨b1, _, _, b4⟩ | ⟨_, _, _, b4⟩ | ⟨b1, b2, b3, b4, _, b6⟩
          · exact absurd b4.symm b1
          · simp at b4
          · exact ⟨b1, b2, b3, b4, b6⟩
        have HA : Hid (e = 0 ∧ 8 * k ≤ N ∧ N' = N - 8 * k ∧ f' = (fun i => f (8 * k + i)) ∧ ∀ j, j < k → hh j = wdB f j) := ⟨a1, a2, a3, a4, a6⟩
        have hch := rcheck_any n ao1 k cap1 hh wr t.own.rd
        by_cases hok : Ok n k (wdB f)
        · have hok2 := (ok_congr (n := n) a6).2 hok
          have HOK : Hid (Ok n k (wdB f)) := hok
          clear hok a1 a2 a3 a4 a6 HST
          go_wp2_with fail
          refine hch.mono ?_
          rintro en w3 ⟨hee, hb3⟩
          obtain rfl : en = .returned (.int .i64 0) := by
            rcases hee with ⟨_, h⟩ | ⟨hno, _⟩
            · exact h
            · exact absurd hok2 hno
          clear hee hch p0 p1 p2 p3 m0 m1 m2 m3
          have hres3 := hres.below hb3
          obtain ⟨q0, q1, q2, q3⟩ := hres3.cells
          obtain ⟨p0, p1, p2, p3⟩ := (t.box.below hb3).cells
          obtain ⟨m0, m1, m2, m3⟩ := (hR.below hb3).cells
          obtain ⟨r0, r1, r2, r3⟩ := (hres3.set (.int .i64 (n : Nat)) (.slice ao1 k cap1)).cells
          have hret : RetF w b N' f' 0 w3 := ⟨⟨aor, capr, hR.below hb3⟩, t.but.after hb3⟩
          have hrdu : RdU ((w3.setCell ⟨w.heap.size, 0, none⟩ (.int .i64 (n : Nat))).setCell ⟨w.heap.size, 1, none⟩ (.slice ao1 k cap1)) ao1 k hh := by
            refine (OwnU.but (ax := some ⟨w.heap.size, 0, none⟩) (t.own.below hb3) (((But.refl _ _).setCell (p := ⟨w.heap.size, 0, none⟩) (.inl ⟨_, rfl, rfl⟩) _).setCell (p := ⟨w.heap.size, 1, none⟩) (.inl ⟨⟨w.heap.size, 0, none⟩, rfl, rfl⟩) _) fun a c ea ec => ?_).rd
            obtain rfl := Option.some.inj ec
            have := hao a ea
            show w.heap.size ≠ a.block
            omega
          go_wp2
          obtain ⟨a1, a2, a3, a4, a6⟩ := HA.out
          exact bodyPost_ret (v := .agg #[.int .i64 n, .slice ao1 k cap1]) (by simp [results, Try.results45, go_sem, r0, r1]) rfl ⟨N', f', 0, hret.box hres3 hlt _ _, .inr ⟨ao1, cap1, rfl, hrdu.congr a6, a1, a2, HOK.out, a3, a4, rfl⟩⟩
        · have hok2 : ¬ Ok n k hh := fun h => hok ((ok_congr (n := n) a6).1 h)
          have HOK : Hid (¬ Ok n k (wdB f)) := hok
          clear hok a1 a2 a3 a4 a6 HST
          go_wp2_with fail
          refine hch.mono ?_
          rintro en w3 ⟨hee, hb3⟩
          obtain rfl : en = .returned (.int .i64 10) := by
            rcases hee with ⟨hyes, _⟩ | ⟨_, h⟩
            · exact absurd hyes hok2
            · exact h
          clear hee hch p0 p1 p2 p3 m0 m1 m2 m3
          have hres3 := hres.below hb3
          have hR3 := hR.below hb3
          have hB3 := t.but.after hb3
          go_wp2_with fail
          refine (ffail_any hR3 31).mono ?_
          rintro en w4 ⟨rfl, hret0⟩
          have hret1 : RetF w3 b 0 f' 31 w4 := by simpa [failN, failE] using hret0
          obtain ⟨⟨ao4, cap4, hR4⟩, hB4⟩ := hret1
          clear hret0
          have hres4 := hres3.but hB4 (fun a ea => by obtain rfl := Option.some.inj ea; show b ≠ _; omega)
          obtain ⟨q0, q1, q2, q3⟩ := hres4.cells
          obtain ⟨m0, m1, m2, m3⟩ := hR4.cells
          have hrlt4 := hres4.lt
          obtain ⟨r0, r1, r2, r3⟩ := (hres4.set (.int .i64 0) (.slice none 0 0)).cells
          have hret : RetF w b 0 f' 31 w4 := ⟨⟨_, _, hR4⟩, hB3.trans hB4⟩
          go_wp2
          obtain ⟨a1, a2, a3, a4, a6⟩ := HA.out
          exact bodyPost_ret (v := .agg #[.int .i64 0, .slice none 0 0]) (by simp [results, Try.results45, go_sem, r0, r1]) rfl ⟨0, f', 31, hret.box hres4 hlt _ _, .inl ⟨rfl, .inr (.inr ⟨a1, a2, HOK.out, rfl, rfl⟩)⟩⟩
      · have hd : (e' != 0) = true := by rw [bne_iff_ne]; exact he
        have hd3 : (e' == 0) = false := by simpa using he
        have hret : RetF w b N' f' e' wr := ⟨⟨_, _, hR⟩, t.but⟩
        obtain ⟨q0, q1, q2, q3⟩ := hres.cells
        obtain ⟨r0, r1, r2, r3⟩ := (hres.set (.int .i64 0) (.slice none 0 0)).cells
        go_wp2
        refine bodyPost_ret (v := .agg #[.int .i64 0, .slice none 0 0]) (by simp [results, Try.results45, go_sem, r0, r1]) rfl ⟨N', f', e', hret.box hres hlt _ _, .inl ⟨rfl, ?_⟩⟩
        rcases HST.out with ⟨b1, b2, b3, b4⟩ | ⟨b1, b2, b3, b4⟩ | ⟨_, _, _, _, b5, _⟩
        · exact .inl ⟨b1, b2, b3, b4⟩
        · exact .inr (.inl ⟨b1, b2, b3, b4⟩)
        · exact absurd b5 he
end Go.Proofs.Ytnjnaihogbnmaaa
