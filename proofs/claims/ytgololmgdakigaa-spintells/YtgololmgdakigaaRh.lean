/- The first look; the reference's Of: the walks. -/
import Derived.Test.YtgololmgdakigaaRg
namespace Go.Proofs.Ytgololmgdakigaa
open Go.RowKit
set_option maxRecDepth 10000 in
set_option maxHeartbeats 1000000 in
theorem begun_any (w : World) : Calls Try.prog 9 #[] w fun e w' => e = .returned (.bool true) ∧ Below w.heap.size w w' := by
  have hB := below1 w (.cells #[.int .u8 18, .int .u8 52] 5)
  have k := Cl.new w 5 [.int .u8 18, .int .u8 52]
  obtain ⟨z, hz⟩ : ∃ z : Nat → Nat, z = fun i => if i = 0 then 18 else 52 := ⟨_, rfl⟩
  have hR : Rd (w.alloc (.cells #[.int .u8 18, .int .u8 52] 5)) (some ⟨w.heap.size, 0, none⟩) 2 z := by
    subst hz
    refine ⟨fun i _ => by split <;> decide, fun _ => ⟨w.heap.size, 0, rfl, by simp, fun i hi => ?_⟩⟩
    rw [Nat.zero_add]
    match i, hi with
    | 0, _ => exact k.cell 0 rfl
    | 1, _ => exact k.cell 1 rfl
  have HO : Hid (Calls Try.prog 15 #[.slice (some ⟨w.heap.size, 0, none⟩) 2 2] (w.alloc (.cells #[.int .u8 18, .int .u8 52] 5)) fun e w' => (∃ v, e = .returned v ∧ IsC v (-3, 5)) ∧ w' = w.alloc (.cells #[.int .u8 18, .int .u8 52] 5)) := by
    have := of_any (some ⟨w.heap.size, 0, none⟩) 2 2 z _ hR (by decide)
    rwa [show ofL z 2 = (-3, 5) by subst hz; decide] at this
  have c1 : IsC (.complex .f64 13837309855095848960 4617315517961601024) (-3, 5) := ⟨_, _, rfl, ⟨true, by decide +kernel, fun _ => by decide⟩, ⟨false, by decide +kernel, fun _ => by decide⟩⟩
  have c2 : IsC (.complex .f64 13837309855095848960 4621256167635550208) (-3, 9) := ⟨_, _, rfl, ⟨true, by decide +kernel, fun _ => by decide⟩, ⟨false, by decide +kernel, fun _ => by decide⟩⟩
  have HL : Hid (∀ a b W, IsC (.complex .f64 a b) (-3, 5) → Calls Try.prog 21 #[.complex .f64 a b, .int .i64 2, .int .u8 18, .int .u8 86] W fun e w' => (∃ v, e = .returned v ∧ IsC v (-3, 9)) ∧ w' = W) := fun a b W h => by
    have := roll_any a b (-3, 5) 2 18 86 W h ⟨by decide, by decide⟩ (by decide) (by decide) (by decide)
    rwa [show rollP (-3, 5) 2 18 86 = (-3, 9) by decide] at this
  have HE1 : Hid (∀ a b (W : World), IsC (.complex .f64 a b) (-3, 5) → (Go.binOp .eql 27 (.complex .f64 a b) (.complex .f64 13837309855095848960 4617315517961601024)).run Try.prog W = .ok (.bool true) W) := fun a b W h => by
    have := eql_c h c1 ⟨by decide, by decide⟩ ⟨by decide, by decide⟩ Try.prog 27 W
    rwa [decide_eq_true rfl] at this
  have HE2 : Hid (∀ a b (W : World), IsC (.complex .f64 a b) (-3, 9) → (Go.binOp .eql 27 (.complex .f64 a b) (.complex .f64 13837309855095848960 4621256167635550208)).run Try.prog W = .ok (.bool true) W) := fun a b W h => by
    have := eql_c h c2 ⟨by decide, by decide⟩ ⟨by decide, by decide⟩ Try.prog 27 W
    rwa [decide_eq_true rfl] at this
  clear hz hR k c1 c2
  go_enter Try.func9, Try.ntmps9
  go_wp2_with (first
    | (go_at_call 21; refine (HL.out a1 b1 _ hv1).mono ?_; rintro e w2 ⟨⟨v2, rfl, hv2⟩, rfl⟩; obtain ⟨a2, b2, rfl⟩ := hv2.is; have e2 := fun W => HE2.out a2 b2 W hv2)
    | (go_at_call 15; refine HO.out.mono ?_; rintro e w1 ⟨⟨v1, rfl, hv1⟩, rfl⟩; obtain ⟨a1, b1, rfl⟩ := hv1.is; have e1 := fun W => HE1.out a1 b1 W hv1))
  go_ret
  exact ⟨rfl, hB⟩
/-- A point on its way: in block k. -/
structure PW (w : World) (p : Int × Int) (wr : World) : Prop where
  kp : Cl wr (w.heap.size + 1) 25 [.int .i64 p.1, .int .i64 p.2]
  kr : Cl wr w.heap.size 25 [.int .i64 0, .int .i64 0]
  bel : Below w.heap.size w wr
theorem PW.below {w wr W : World} {p : Int × Int} (h : PW w p wr) (hb : Below wr.heap.size wr W) : PW w p W := ⟨h.kp.below hb, h.kr.below hb, h.bel.trans (hb.mono h.bel.size)⟩
theorem PW.put {w wr : World} {p : Int × Int} (h : PW w p wr) (x y : Int) : PW w (x, y) ((wr.setCell ⟨w.heap.size + 1, 0, none⟩ (.int .i64 x)).setCell ⟨w.heap.size + 1, 1, none⟩ (.int .i64 y)) := by
  refine ⟨?_, (h.kr.other (by omega) _ _).other (by omega) _ _, (h.bel.setCell (p := ⟨w.heap.size + 1, 0, none⟩) (by simp) _).setCell (p := ⟨w.heap.size + 1, 1, none⟩) (by simp) _⟩
  have := (h.kp.set 0 (.int .i64 x)).set 1 (.int .i64 y)
  simpa using this
set_option maxRecDepth 10000 in
set_option maxHeartbeats 2000000 in
theorem rof_any (ao : Option Addr) (n cap : Nat) (z : Nat → Nat) (w : World) (hr : Rd w ao n z) (hn : n ≤ 1099511627776) : Calls Try.prog 16 #[.slice ao n cap] w fun e w' => e = .returned (ptV (ofL z n)) ∧ Below w.heap.size w w' := by
  have P0 : PW w (0, 0) ((w.alloc (.cells #[.int .i64 0, .int .i64 0] 25)).alloc (.cells #[.int .i64 0, .int .i64 0] 25)) := by
    have k := Cl.new (w.alloc (.cells #[.int .i64 0, .int .i64 0] 25)) 25 [.int .i64 0, .int .i64 0]
    simp only [World.size_alloc] at k
    exact ⟨k, (Cl.new w 25 [.int .i64 0, .int .i64 0]).alloc _, below2 _ _ _⟩
  have hz := hr.small
  go_enter Try.func16, Try.ntmps16
  go_wp2
  go_loopw [4] (fun i wr => ∃ k : Nat, k ≤ n ∧ i = .int .i64 (k : Nat) ∧ PW w (ofL z k) wr) (fun i _ => n - (intOf i).toNat)
  case atStart => exact ⟨0, Nat.zero_le _, rfl, P0⟩
  case round =>
    obtain ⟨k, hk, rfl, hP⟩ := hrel
    clear P0
    by_cases hlt : k < n
    · have hki : (k : Int) < (n : Int) := by omega
      obtain ⟨bb, off, rfl, hbb, hc⟩ := (hr.below hP.bel).at_ (by omega)
      have d0 := hc k hlt
      have hzk := hz k hlt
      have HG : Hid (∀ W, Calls Try.prog 12 #[.int .u8 (z k : Nat)] W fun e w' => e = .returned (ptV (gs (z k))) ∧ Below W.heap.size W w') := fun W => rgauss_any (z k) hzk W
      have HT : Hid (∀ W, Calls Try.prog 14 #[ptV (gs (z k)), .int .i64 (k : Nat)] W fun e w' => e = .returned (ptV (tn (gs (z k)) (k : Nat))) ∧ Below W.heap.size W w') := fun W => rturn_any _ (k : Nat) W ((gs_wd hzk).mono (by decide))
      have HP : Hid (∀ W, Calls Try.prog 26 #[.agg #[.int .i64 (ofL z k).1, .int .i64 (ofL z k).2], ptV (tn (gs (z k)) (k : Nat))] W fun e w' => e = .returned (ptV (ofL z (k + 1))) ∧ Below W.heap.size W w') := fun W => rplus_any (ofL z k) _ W (ofL_wd fun i hi => hz i (by omega)) (tn_wd (gs_wd hzk) (k : Nat)) (by omega)
      obtain ⟨x, y, hxy⟩ : ∃ x y, ofL z (k + 1) = (x, y) := ⟨_, _, rfl⟩
      have HP3 : Hid (∀ W, Calls Try.prog 26 #[.agg #[.int .i64 (ofL z k).1, .int .i64 (ofL z k).2], ptV (tn (gs (z k)) (k : Nat))] W fun e w' => e = .returned (.agg #[.int .i64 x, .int .i64 y]) ∧ Below W.heap.size W w') := by rw [hxy] at HP; exact HP
      clear hc hr hz HP
      have HK := hP.below (Below.refl wr.heap.size wr).drew
      have hD : wr.drew.cell? ⟨bb, off + k, none⟩ = some (.int .u8 (z k : Nat)) := d0
      have HW : Hid (∀ W, PW w (ofL z k) W → PW w (ofL z (k + 1)) ((W.setCell ⟨w.heap.size + 1, 0, none⟩ (.int .i64 x)).setCell ⟨w.heap.size + 1, 1, none⟩ (.int .i64 y))) := fun W h => by rw [hxy]; exact h.put x y
      clear hxy
      generalize ofL z k = pk at *
      generalize tn (gs (z k)) (k : Nat) = tk at *
      generalize gs (z k) = gk at *
      generalize z k = zk at *
      have HP2 : Hid (∀ W, Calls Try.prog 26 #[.agg #[.int .i64 pk.1, .int .i64 pk.2], ptV tk] W fun e w' => e = .returned (.agg #[.int .i64 x, .int .i64 y]) ∧ Below W.heap.size W w') := HP3
      clear hP HP3
      have hbb' : bb < wr.drew.heap.size := hbb
      go_wp2_with fail
      obtain ⟨⟨c0, c1⟩, f0, f1⟩ := HK.kp.two
      go_region_with (first
        | (go_at_call 26; refine (HP2.out _).mono ?_; rintro e w7 ⟨rfl, hb7⟩; have HK7 := HK6.below hb7; obtain ⟨⟨e0, e1⟩, g0, g1⟩ := HK7.kp.two)
        | (go_at_call 14; refine (HT.out _).mono ?_; rintro e w6 ⟨rfl, hb6⟩; have HK6 := HK5.below hb6; obtain ⟨⟨n0, n1⟩, _⟩ := HK6.kp.two)
        | (go_at_call 12; refine (HG.out _).mono ?_; rintro e w5 ⟨rfl, hb5⟩; have HK5 := HK.below hb5; obtain ⟨⟨m0, m1⟩, _⟩ := HK5.kp.two))
      all_goals
        have HY := HW.out w7 HK7
        have HZ : Hid _ := HY
        clear HY HW HK HK5 HK6 HK7 HG HT HP2 e0 e1 g0 g1 m0 m1 n0 n1 c0 c1 f0 f1 d0 hD
        go_wp2
        go_roundw
        case rel => exact ⟨k + 1, hlt, by simp, HZ.out⟩
        case measure => simp [intOf]; omega
    · obtain rfl : k = n := by omega
      have hki : ¬ (k : Int) < (k : Int) := by omega
      have HP9 : Hid (PW w (ofL z k) wr) := hP
      obtain ⟨⟨c0, c1⟩, _⟩ := hP.kp.two
      obtain ⟨⟨e0, e1⟩, g0, g1⟩ := hP.kr.two
      have kf := (hP.kr.set 0 (.int .i64 (ofL z k).1)).set 1 (.int .i64 (ofL z k).2)
      have hbf := (hP.bel.setCell (p := ⟨w.heap.size, 0, none⟩) (Nat.le_refl _) (.int .i64 (ofL z k).1)).setCell (p := ⟨w.heap.size, 1, none⟩) (Nat.le_refl _) (.int .i64 (ofL z k).2)
      obtain ⟨⟨r0, r1⟩, _⟩ := (show Cl _ w.heap.size 25 [.int .i64 (ofL z k).1, .int .i64 (ofL z k).2] by simpa using kf).two
      clear hP hr hz kf
      go_wp2
      exact bodyPost_ret (v := .agg #[.int .i64 (ofL z k).1, .int .i64 (ofL z k).2]) (by simp [results, Try.results16, go_sem, r0, r1]) rfl ⟨rfl, hbf⟩
end Go.Proofs.Ytgololmgdakigaa
