/- SpinApart: the walk. -/
import Derived.Test.YtgololmgdakigaaSj
import Derived.Test.YtgololmgdakigaaWo
import Derived.Lib.Bytes
namespace Go.Proofs.Ytgololmgdakigaa
open Go.RowKit
def numsZ (z : Nat → Nat) (n : Nat) : List Int := (List.range n).map fun i => ((z i : Nat) : Int)
theorem numsZ_len (z : Nat → Nat) (n : Nat) : (numsZ z n).length = n := by simp [numsZ]
theorem conv_any {ao : Option Addr} {n cap : Nat} {z : Nat → Nat} {w : World} (hr : Rd w ao n z) (hn : n ≤ cap) : (convert 22 9 (.slice ao n cap)).run Try.prog w = .ok (.string (strOfNums (numsZ z n))) w := by
  by_cases h0 : n = 0
  · subst h0
    cases ao with
    | none =>
      rw [run_convert_bytes_nil w 22 5 Try.underlying22 Try.underlying5 0 cap 9 Try.underlying9]
      rfl
    | some a =>
      rw [run_convert_bytes_string w 22 9 5 (some a) 0 cap Try.underlying22 Try.underlying5 Try.underlying9]
      have := run_bytesToString (P := Try.prog) w a 0 cap [] (by simp [loadCells, loadCellsFrom])
      rw [this]
      rfl
  · obtain ⟨b, off, rfl, _, hc⟩ := hr.at_ (by omega)
    refine run_convert_bytes_arg w 22 5 Try.underlying22 Try.underlying5 b off n cap _ (numsZ_len z n) (fun i hi => ?_) 9 Try.underlying9
    rw [hc i hi]
    simp [numsZ, List.getD, hi]
set_option maxRecDepth 10000 in
theorem equal_any (a0 a1 : Option Addr) (l0 l1 c0 c1 : Nat) (t0 t1 : Nat → Nat) (w : World) (h0 : Rd w a0 l0 t0) (h1 : Rd w a1 l1 t1) (n0 : l0 ≤ c0) (n1 : l1 ≤ c1) : Calls Try.prog 23 #[.slice a0 l0 c0, .slice a1 l1 c1] w fun e w' => e = .returned (.bool ((strOfNums (numsZ t0 l0)).toList == (strOfNums (numsZ t1 l1)).toList)) ∧ w' = w := by
  have e0 := conv_any h0 n0
  have e1 := conv_any h1 n1
  generalize strOfNums (numsZ t0 l0) = s0 at *
  generalize strOfNums (numsZ t1 l1) = s1 at *
  clear h0 h1
  go_enter Try.func23, Try.ntmps23
  go_wp2
  go_ret
  exact ⟨rfl, rfl⟩
theorem same_of {t0 t1 : Nat → Nat} {l0 l1 : Nat} (h0 : ∀ i, i < l0 → t0 i < 256) (h1 : ∀ i, i < l1 → t1 i < 256) (h : ((strOfNums (numsZ t0 l0)).toList == (strOfNums (numsZ t1 l1)).toList) = true) : ofL t0 l0 = ofL t1 l1 := by
  have e2 := eq_of_beq h
  simp only [Lib.strOfNums_toList] at e2
  unfold Lib.bytesOf at e2
  have hl : l0 = l1 := by
    have := congrArg List.length e2
    simpa [numsZ] using this
  subst hl
  refine ofL_congr fun i hi => ?_
  have := congrArg (fun l => l[i]?) e2
  simp only [numsZ, List.map_map, List.getElem?_map, List.getElem?_range hi, Option.map_some, Option.some.injEq, Function.comp_apply, Int.toNat_natCast] at this
  have a := h0 i hi
  have b := h1 i hi
  have := congrArg UInt8.toNat this
  simpa [UInt8.toNat_ofNat', Nat.mod_eq_of_lt a, Nat.mod_eq_of_lt b] using this
theorem gs_inj {c d : Nat} (h : gs c = gs d) : c = d := by
  unfold gs at h
  simp only [Prod.mk.injEq] at h
  omega
theorem ofL_one (c : Nat) : ofL (fun _ => c) 1 = gs c := by
  simp [ofL, pl, tn]
set_option maxRecDepth 10000 in
set_option maxHeartbeats 4000000 in
theorem apart_law (a0 a1 : Option Addr) (l0 l1 c0 c1 : Nat) (t0 t1 : Nat → Nat) (c d : Nat) (w : World) (hr0 : Rd w a0 l0 t0) (hr1 : Rd w a1 l1 t1) (n0 : l0 ≤ c0) (n1 : l1 ≤ c1) (hc : c < 256) (hd : d < 256) : Calls Try.prog 7 #[.slice a0 l0 c0, .slice a1 l1 c1, .int .u8 (c : Nat), .int .u8 (d : Nat)] w fun e w' => e = .returned (.bool true) ∧ Below w.heap.size w w' := by
  have H9 := fun W => begun_any W
  have H80 := fun W => small_any l0 W
  have H81 := fun W => small_any l1 W
  by_cases h0 : l0 ≤ 1048576
  · rw [decide_eq_true h0] at H80
    by_cases h1 : l1 ≤ 1048576
    · rw [decide_eq_true h1] at H81
      obtain ⟨X, hX⟩ : ∃ X, X = ofL t0 l0 := ⟨_, rfl⟩
      obtain ⟨Y, hY⟩ : ∃ Y, Y = ofL t1 l1 := ⟨_, rfl⟩
      have mX : Wd X 15728640 := by rw [hX]; exact (ofL_wd hr0.small).mono (by omega)
      have mY : Wd Y 15728640 := by rw [hY]; exact (ofL_wd hr1.small).mono (by omega)
      have HO0 : Hid (∀ W, Below w.heap.size w W → Calls Try.prog 15 #[.slice a0 l0 c0] W fun e w' => (∃ v, e = .returned v ∧ IsC v X) ∧ w' = W) := fun W h => by rw [hX]; exact of_any a0 l0 c0 t0 W (hr0.below h) (by omega)
      have HO1 : Hid (∀ W, Below w.heap.size w W → Calls Try.prog 15 #[.slice a1 l1 c1] W fun e w' => (∃ v, e = .returned v ∧ IsC v Y) ∧ w' = W) := fun W h => by rw [hY]; exact of_any a1 l1 c1 t1 W (hr1.below h) (by omega)
      have HV : Hid (∀ W, Below w.heap.size w W → Calls Try.prog 16 #[.slice a0 l0 c0] W fun e w' => e = .returned (ptV X) ∧ Below W.heap.size W w') := fun W h => by rw [hX]; exact rof_any a0 l0 c0 t0 W (hr0.below h) (by omega)
      have HX : Hid (∀ a b W, IsC (.complex .f64 a b) X → Calls Try.prog 24 #[.complex .f64 a b] W fun e w' => e = .returned (.int .u64 (wdP X : Nat)) ∧ w' = W) := fun a b W h => word_any a b X h (mX.mono (by decide)) W
      have HY : Hid (∀ a b W, IsC (.complex .f64 a b) Y → Calls Try.prog 24 #[.complex .f64 a b] W fun e w' => e = .returned (.int .u64 (wdP Y : Nat)) ∧ w' = W) := fun a b W h => word_any a b Y h (mY.mono (by decide)) W
      have HR : Hid (∀ W, Calls Try.prog 25 #[ptV X] W fun e w' => e = .returned (.int .u64 (wdP X : Nat)) ∧ Below W.heap.size W w') := fun W => rword_any X W
      have HN : Hid (∀ a b a' b' W, IsC (.complex .f64 a b) X → IsC (.complex .f64 a' b') Y → (Go.binOp .neq 27 (.complex .f64 a b) (.complex .f64 a' b')).run Try.prog W = .ok (.bool (!decide (X = Y))) W) := fun a b a' b' W h k => neq_c h k (mX.mono (by decide)) (mY.mono (by decide)) Try.prog 27 W
      have HE : Hid (∀ a b a' b' W, IsC (.complex .f64 a b) X → IsC (.complex .f64 a' b') Y → (Go.binOp .eql 27 (.complex .f64 a b) (.complex .f64 a' b')).run Try.prog W = .ok (.bool (decide (X = Y))) W) := fun a b a' b' W h k => eql_c h k (mX.mono (by decide)) (mY.mono (by decide)) Try.prog 27 W
      have HQ : Hid (∀ a b a' b' W, IsC (.complex .f64 a b) (gs c) → IsC (.complex .f64 a' b') (gs d) → (Go.binOp .eql 27 (.complex .f64 a b) (.complex .f64 a' b')).run Try.prog W = .ok (.bool (decide (c = d))) W) := fun a b a' b' W h k => by
        rw [eql_c h k ((gs_wd hc).mono (by decide)) ((gs_wd hd).mono (by decide)) Try.prog 27 W]
        have : decide (gs c = gs d) = decide (c = d) := by
          congr 1
          exact propext ⟨gs_inj, fun e => by rw [e]⟩
        rw [this]
      have hone : ∀ (x : Nat), x < 256 → ∀ W U, Below W.heap.size W U → True := fun _ _ _ _ _ => trivial
      have HC : Hid (∀ W, Below w.heap.size w W → Calls Try.prog 15 #[.slice (some ⟨W.heap.size, 0, none⟩) 1 1] (W.alloc (.cells #[.int .u8 (c : Nat)] 5)) fun e w' => (∃ v, e = .returned v ∧ IsC v (gs c)) ∧ w' = W.alloc (.cells #[.int .u8 (c : Nat)] 5)) := fun W h => by
        have k := Cl.new W 5 [.int .u8 (c : Nat)]
        have := of_any (some ⟨W.heap.size, 0, none⟩) 1 1 (fun _ => c) (W.alloc (.cells #[.int .u8 (c : Nat)] 5)) ⟨fun _ _ => hc, fun _ => ⟨_, 0, rfl, by simp, fun i hi => by (have e : i = 0 := (by omega); subst e; exact k.cell 0 rfl)⟩⟩ (by decide)
        rwa [ofL_one] at this
      have HD : Hid (∀ (W : World) (o : Obj), Below w.heap.size w W → Calls Try.prog 15 #[.slice (some ⟨W.heap.size + 1, 0, none⟩) 1 1] ((W.alloc o).alloc (.cells #[.int .u8 (d : Nat)] 5)) fun e w' => (∃ v, e = .returned v ∧ IsC v (gs d)) ∧ w' = (W.alloc o).alloc (.cells #[.int .u8 (d : Nat)] 5)) := fun W o h => by
        have k := Cl.new (W.alloc o) 5 [.int .u8 (d : Nat)]
        simp only [World.size_alloc] at k
        have := of_any (some ⟨W.heap.size + 1, 0, none⟩) 1 1 (fun _ => d) ((W.alloc o).alloc (.cells #[.int .u8 (d : Nat)] 5)) ⟨fun _ _ => hd, fun _ => ⟨_, 0, rfl, by simp, fun i hi => by (have e : i = 0 := (by omega); subst e; exact k.cell 0 rfl)⟩⟩ (by decide)
        rwa [ofL_one] at this
      have HS : Hid (∀ W, Below w.heap.size w W → X ≠ Y → Calls Try.prog 23 #[.slice a0 l0 c0, .slice a1 l1 c1] W fun e w' => e = .returned (.bool false) ∧ w' = W) := fun W h hne => by
        have := equal_any a0 a1 l0 l1 c0 c1 t0 t1 W (hr0.below h) (hr1.below h) n0 n1
        cases hq : ((strOfNums (numsZ t0 l0)).toList == (strOfNums (numsZ t1 l1)).toList) with
        | true => exact (hne (by rw [hX, hY]; exact same_of hr0.small hr1.small hq)).elim
        | false => rwa [hq] at this
      have hwe : X ≠ Y → wdP X ≠ wdP Y := fun h e => h (wdP_inj (mX.mono (by decide)) (mY.mono (by decide)) e)
      clear hr0 hr1 hX hY mX mY hone n0 n1
      go_enter Try.func7, Try.ntmps7
      go_upto_region 4 with (first
        | (go_at_call 15; have g := gx; refine (HO1.out _ hb1).mono ?_; rintro e wy ⟨⟨vy, rfl, gy⟩, hwy⟩; subst hwy; obtain ⟨ay, bY, rfl⟩ := gy.is)
        | (go_at_call 15; refine (HO0.out _ hb1).mono ?_; rintro e wx ⟨⟨vx, rfl, gx⟩, hwx⟩; subst hwx; obtain ⟨ax, bx, rfl⟩ := gx.is)
        | (go_at_call 8; have g := g1; refine (H81 _).mono ?_; rintro e w3 ⟨rfl, hw3⟩; subst hw3)
        | (go_at_call 8; refine (H80 _).mono ?_; rintro e w2 ⟨rfl, hw2⟩; subst hw2; have g1 : True := trivial)
        | (go_at_call 9; refine (H9 _).mono ?_; rintro e w1 ⟨rfl, hb1⟩))
      clear H80 H81 H9 HO0 HO1
      have en0 := fun W => HN.out ax bx ay bY W gx gy
      have ee0 := fun W => HE.out ax bx ay bY W gx gy
      by_cases hxy : X = Y
      · rw [decide_eq_true hxy] at en0 ee0
        have hwd : wdP Y = wdP X := by rw [hxy]
        obtain ⟨k, hk⟩ : ∃ k, k = wdP X := ⟨_, rfl⟩
        rw [hwd, ← hk] at HY
        rw [← hk] at HX HR
        have ekk : ((k : Int) == (k : Int)) = true := by simp
        have ekn : ((k : Int) != (k : Int)) = false := by simp
        clear hwe hxy hwd hk HN HE HS
        go_upto_region 6 with (first
          | (go_at_call 25; refine (HR.out _).mono ?_; rintro e w25 ⟨rfl, hb25⟩; have hbF := hb16.trans (hb25.mono hb16.size))
          | (go_at_call 16; refine (HV.out _ hb1).mono ?_; rintro e w16 ⟨rfl, hbx⟩; have hb16 := hb1.trans (hbx.mono hb1.size))
          | (go_at_call 24; have g := g3; refine (HX.out ax bx _ gx).mono ?_; rintro e w243 ⟨rfl, hw243⟩; subst hw243)
          | (go_at_call 24; have g := g2; refine (HY.out ay bY _ gy).mono ?_; rintro e w242 ⟨rfl, hw242⟩; subst hw242; have g3 : True := trivial)
          | (go_at_call 24; refine (HX.out ax bx _ gx).mono ?_; rintro e w241 ⟨rfl, hw241⟩; subst hw241; have g2 : True := trivial))
        clear HX HY HV HR en0 ee0 ekk ekn
        by_cases hcd : c = d
        · have e1 : ((c : Int) == (d : Int)) = true := by simp; omega
          have eq6 := fun a b a' b' W (h : IsC (.complex .f64 a b) (gs c)) (k : IsC (.complex .f64 a' b') (gs d)) => HQ.out a b a' b' W h k
          rw [decide_eq_true hcd] at eq6
          have HQ6 : Hid _ := eq6
          clear eq6 hcd
          go_wp2_with (first
            | (go_at_call 15; have g := gc; refine (HD.out _ _ hbF).mono ?_; rintro e wd ⟨⟨vd, rfl, gd⟩, hwd⟩; subst hwd; obtain ⟨ad, bd, rfl⟩ := gd.is; have en := fun W => HQ6.out ac bc ad bd W gc gd)
            | (go_at_call 15; refine (HC.out _ hbF).mono ?_; rintro e wc ⟨⟨vc, rfl, gc⟩, hwc⟩; subst hwc; obtain ⟨ac, bc, rfl⟩ := gc.is))
          go_ret
          exact ⟨rfl, hbF.trans ((below2 _ _ _).mono hbF.size)⟩
        · have e1 : ((c : Int) == (d : Int)) = false := by simp; omega
          have eq6 := fun a b a' b' W (h : IsC (.complex .f64 a b) (gs c)) (k : IsC (.complex .f64 a' b') (gs d)) => HQ.out a b a' b' W h k
          rw [decide_eq_false hcd] at eq6
          have HQ6 : Hid _ := eq6
          clear eq6 hcd
          go_wp2_with (first
            | (go_at_call 15; have g := gc; refine (HD.out _ _ hbF).mono ?_; rintro e wd ⟨⟨vd, rfl, gd⟩, hwd⟩; subst hwd; obtain ⟨ad, bd, rfl⟩ := gd.is; have en := fun W => HQ6.out ac bc ad bd W gc gd)
            | (go_at_call 15; refine (HC.out _ hbF).mono ?_; rintro e wc ⟨⟨vc, rfl, gc⟩, hwc⟩; subst hwc; obtain ⟨ac, bc, rfl⟩ := gc.is))
          go_ret
          exact ⟨rfl, hbF.trans ((below2 _ _ _).mono hbF.size)⟩
      · rw [decide_eq_false hxy] at en0 ee0
        have hwn := hwe hxy
        have HS2 : Hid (∀ W, Below w.heap.size w W → Calls Try.prog 23 #[.slice a0 l0 c0, .slice a1 l1 c1] W fun e w' => e = .returned (.bool false) ∧ w' = W) := fun W h => HS.out W h hxy
        obtain ⟨k, hk⟩ : ∃ k, k = wdP X := ⟨_, rfl⟩
        obtain ⟨k2, hk2⟩ : ∃ k, k = wdP Y := ⟨_, rfl⟩
        rw [← hk2] at HY hwn
        rw [← hk] at HX HR hwn
        have ekk : ((k : Int) == (k2 : Int)) = false := by simp; omega
        have ekn : ((k : Int) != (k : Int)) = false := by simp
        clear hwe hxy hwn hk hk2 HN HE HS
        go_upto_region 6 with (first
          | (go_at_call 23; refine (HS2.out _ hb1).mono ?_; rintro e w23 ⟨rfl, hw23⟩; subst hw23)
          | (go_at_call 25; refine (HR.out _).mono ?_; rintro e w25 ⟨rfl, hb25⟩; have hbF := hb16.trans (hb25.mono hb16.size))
          | (go_at_call 16; refine (HV.out _ hb1).mono ?_; rintro e w16 ⟨rfl, hbx⟩; have hb16 := hb1.trans (hbx.mono hb1.size))
          | (go_at_call 24; have g := g3; refine (HX.out ax bx _ gx).mono ?_; rintro e w243 ⟨rfl, hw243⟩; subst hw243)
          | (go_at_call 24; have g := g2; refine (HY.out ay bY _ gy).mono ?_; rintro e w242 ⟨rfl, hw242⟩; subst hw242; have g3 : True := trivial)
          | (go_at_call 24; refine (HX.out ax bx _ gx).mono ?_; rintro e w241 ⟨rfl, hw241⟩; subst hw241; have g2 : True := trivial))
        clear HX HY HV HR en0 ee0 ekk ekn
        by_cases hcd : c = d
        · have e1 : ((c : Int) == (d : Int)) = true := by simp; omega
          have eq6 := fun a b a' b' W (h : IsC (.complex .f64 a b) (gs c)) (k : IsC (.complex .f64 a' b') (gs d)) => HQ.out a b a' b' W h k
          rw [decide_eq_true hcd] at eq6
          have HQ6 : Hid _ := eq6
          clear eq6 hcd
          go_wp2_with (first
            | (go_at_call 15; have g := gc; refine (HD.out _ _ hbF).mono ?_; rintro e wd ⟨⟨vd, rfl, gd⟩, hwd⟩; subst hwd; obtain ⟨ad, bd, rfl⟩ := gd.is; have en := fun W => HQ6.out ac bc ad bd W gc gd)
            | (go_at_call 15; refine (HC.out _ hbF).mono ?_; rintro e wc ⟨⟨vc, rfl, gc⟩, hwc⟩; subst hwc; obtain ⟨ac, bc, rfl⟩ := gc.is))
          go_ret
          exact ⟨rfl, hbF.trans ((below2 _ _ _).mono hbF.size)⟩
        · have e1 : ((c : Int) == (d : Int)) = false := by simp; omega
          have eq6 := fun a b a' b' W (h : IsC (.complex .f64 a b) (gs c)) (k : IsC (.complex .f64 a' b') (gs d)) => HQ.out a b a' b' W h k
          rw [decide_eq_false hcd] at eq6
          have HQ6 : Hid _ := eq6
          clear eq6 hcd
          go_wp2_with (first
            | (go_at_call 15; have g := gc; refine (HD.out _ _ hbF).mono ?_; rintro e wd ⟨⟨vd, rfl, gd⟩, hwd⟩; subst hwd; obtain ⟨ad, bd, rfl⟩ := gd.is; have en := fun W => HQ6.out ac bc ad bd W gc gd)
            | (go_at_call 15; refine (HC.out _ hbF).mono ?_; rintro e wc ⟨⟨vc, rfl, gc⟩, hwc⟩; subst hwc; obtain ⟨ac, bc, rfl⟩ := gc.is))
          go_ret
          exact ⟨rfl, hbF.trans ((below2 _ _ _).mono hbF.size)⟩
    · rw [decide_eq_false h1] at H81
      go_enter Try.func7, Try.ntmps7
      go_wp2_with (first
        | (go_at_call 9; have g := hb1; refine (H9 _).mono ?_; rintro e w9 ⟨rfl, hb9⟩; have hb19 := hb1.trans (hb9.mono hb1.size))
        | (go_at_call 8; have g := g1; refine (H81 _).mono ?_; rintro e w81 ⟨rfl, hw81⟩; subst hw81)
        | (go_at_call 8; refine (H80 _).mono ?_; rintro e w80 ⟨rfl, hw80⟩; subst hw80; have g1 : True := trivial)
        | (go_at_call 9; refine (H9 _).mono ?_; rintro e w1 ⟨rfl, hb1⟩))
      go_ret
      exact ⟨rfl, hb19⟩
  · rw [decide_eq_false h0] at H80
    go_enter Try.func7, Try.ntmps7
    go_wp2_with (first
      | (go_at_call 9; have g := hb1; refine (H9 _).mono ?_; rintro e w9 ⟨rfl, hb9⟩; have hb19 := hb1.trans (hb9.mono hb1.size))
      | (go_at_call 8; refine (H80 _).mono ?_; rintro e w80 ⟨rfl, hw80⟩; subst hw80)
      | (go_at_call 9; refine (H9 _).mono ?_; rintro e w1 ⟨rfl, hb1⟩))
    go_ret
    exact ⟨rfl, hb19⟩
end Go.Proofs.Ytgololmgdakigaa
