/- SpinTells: the walk. -/
import Derived.Test.YtgololmgdakigaaTq
import Derived.Deep.RegionHeld3
namespace Go.Proofs.Ytgololmgdakigaa
open Go.RowKit Go.Shelf
theorem bel_drewN (w : World) (q : Nat) : Below w.heap.size w (w.drewN q) := ⟨rfl, rfl, rfl, Nat.le_refl _, fun _ _ => rfl⟩
/-- What told answers, of a length with a name. -/
def RetT2 (w : World) (P : Nat → Int × Int) (k : Nat) (e : Ending) (w' : World) : Prop := RetTl w P k e w'
/-- The list of the windows, as it was laid. -/
structure TT (w : World) (v : Value) (n : Nat) (l : List Wn) (W : World) : Prop where
  bel : Below w.heap.size w W
  own : W.ownsRow w.heap.size 38 2 v n (wnL l)
theorem TT.next {w W W' : World} {v : Value} {n : Nat} {l : List Wn} (t : TT w v n l W) (hb : Below W.heap.size W W') : TT w v n l W' :=
  ⟨t.bel.trans (hb.mono t.bel.size), ownsRow_at t.own fun g _ hg => hb.block g hg⟩
theorem told_all (b1 b2 mo : Nat) (ao : Option Addr) (n cap : Nat) (m : Int) (z : Nat → Nat) (w : World) (k1 : Cl w b1 22 [.slice ao n cap]) (k2 : Cl w b2 3 [.int .i64 m]) (hr : Rd w ao n z) (hn : n ≤ 2000) (hm1 : -9223372036854775808 ≤ m) (hm2 : m < 9223372036854775808) (hc : n ≤ cap) :
    Calls Try.prog 18 #[.func (.func 28) #[] #[.pointer (some ⟨b1, 0, none⟩), .pointer (some ⟨b2, 0, none⟩)], .int .i64 (mo : Nat)] w (RetTl w (fpP z m.toNat) (min (cntW n m) mo)) :=
  told_any b1 b2 mo (cntW n m) (fpP z m.toNat) w (all_seq (w.heap.size + 2) b1 b2 ao n cap m m.toNat z w _ k1 k2 hr rfl hn hm1 hm2 hc (by omega) fun k hk => (below2 w _ _).block k hk)
theorem cntW_le (n : Nat) (m : Int) : cntW n m ≤ n := by unfold cntW; split <;> omega
set_option maxRecDepth 100000 in
set_option maxHeartbeats 8000000 in
theorem tells_law (a0 : Option Addr) (l0 c0 : Nat) (m : Int) (x : Nat) (z : Nat → Nat) (w : World) (hr : Rd w a0 l0 z) (hs0 : (a0 = none ∧ l0 = 0 ∧ c0 = 0) ∨ ∃ a, a0 = some a) (hc0 : l0 ≤ c0) (hx : x < 256) (hm1 : -9223372036854775808 ≤ m) (hm2 : m ≤ 9223372036854775807) :
    Calls Try.prog 4 #[.slice a0 l0 c0, .int .i64 m, .int .u8 (x : Nat)] w fun e w' => e = .returned (.bool true) ∧ Below w.heap.size w w' := by
  by_cases hl : l0 ≤ 2000
  · have hgt : ¬ (l0 : Int) > 2000 := by omega
    obtain ⟨N, hN⟩ : ∃ N, N = cntW l0 m := ⟨_, rfl⟩
    obtain ⟨P, hP⟩ : ∃ P, P = fpP z m.toNat := ⟨_, rfl⟩
    have hNl : N ≤ l0 := hN ▸ cntW_le _ _
    have mP : ∀ i, i < N → Wd (P i) 9007199254740991 := fun i hi => by
      rw [hP]
      have : i + m.toNat ≤ l0 := by rw [hN] at hi; unfold cntW at hi; split at hi <;> omega
      exact (ofL_wd fun j hj => hr.small _ (by omega)).mono (by omega)
    obtain ⟨K, hK⟩ : ∃ K, K = min N x := ⟨_, rfl⟩
    have h19 : Hid (∀ W, Below w.heap.size w W → Calls Try.prog 19 #[.slice a0 l0 c0, .int .i64 m] W fun e w' => e = .returned (.func (.func 28) #[] #[.pointer (some ⟨W.heap.size, 0, none⟩), .pointer (some ⟨W.heap.size + 1, 0, none⟩)]) ∧ (∃ ao' cap', Cl w' W.heap.size 22 [.slice ao' l0 cap'] ∧ Cl w' (W.heap.size + 1) 3 [.int .i64 m] ∧ Rd w' ao' l0 z ∧ l0 ≤ cap') ∧ Below W.heap.size W w') := fun W h => all_any a0 l0 c0 m z W (hr.below h) hl hs0
    have h18 : Hid (∀ b1 b2 ao1 cap1 W, Cl W b1 22 [.slice ao1 l0 cap1] → Cl W b2 3 [.int .i64 m] → Rd W ao1 l0 z → l0 ≤ cap1 → Calls Try.prog 18 #[.func (.func 28) #[] #[.pointer (some ⟨b1, 0, none⟩), .pointer (some ⟨b2, 0, none⟩)], .int .i64 1048576] W (RetTl W P N)) := fun b1 b2 ao1 cap1 W k1 k2 k3 k4 => by
      have := told_all b1 b2 1048576 ao1 l0 cap1 m z W k1 k2 k3 hl hm1 (by omega) k4
      rwa [← hN, ← hP, Nat.min_eq_left (by omega)] at this
    have h18' : Hid (∀ b1 b2 ao1 cap1 W, Cl W b1 22 [.slice ao1 l0 cap1] → Cl W b2 3 [.int .i64 m] → Rd W ao1 l0 z → l0 ≤ cap1 → Calls Try.prog 18 #[.func (.func 28) #[] #[.pointer (some ⟨b1, 0, none⟩), .pointer (some ⟨b2, 0, none⟩)], .int .i64 (x : Nat)] W (RetTl W P K)) := fun b1 b2 ao1 cap1 W k1 k2 k3 k4 => by
      have := told_all b1 b2 x ao1 l0 cap1 m z W k1 k2 k3 hl hm1 (by omega) k4
      rwa [← hN, ← hP, ← hK] at this
    have h17 : Hid (∀ W B1 B2 ao1 ao2 c1 c2 (ys zs : List Wn), W.ownsRow B1 38 2 (.slice ao1 N c1) N (wnL ys) → W.ownsRow B2 38 2 (.slice ao2 N c2) N (wnL zs) → ys.length = N → zs.length = N → Okl P ys → Okl P zs → Calls Try.prog 17 #[.slice ao1 N c1, .slice ao2 N c2] W fun e w' => e = .returned (.bool true) ∧ Below W.heap.size W w') := fun W B1 B2 ao1 ao2 c1 c2 ys zs h1 h2 e1 e2 o1 o2 => (equalW_same ao1 ao2 N c1 c2 B1 B2 P ys zs W h1 h2 e1 e2 o1 o2 mP (by omega)).mono fun e w' ⟨he, q, hw⟩ => ⟨he, by rw [hw]; exact bel_drewN W q⟩
    have h17' : Hid (∀ W B1 B2 ao1 ao2 c1 c2 (ys zs : List Wn), W.ownsRow B1 38 2 (.slice ao1 K c1) K (wnL ys) → W.ownsRow B2 38 2 (.slice ao2 N c2) N (wnL zs) → ys.length = K → zs.length = N → Okl P ys → Okl P zs → Calls Try.prog 17 #[.slice ao1 K c1, .slice ao2 K c2] W fun e w' => e = .returned (.bool true) ∧ Below W.heap.size W w') := fun W B1 B2 ao1 ao2 c1 c2 ys zs h1 h2 e1 e2 o1 o2 => (equalW_same ao1 ao2 K c1 c2 B1 B2 P ys (zs.take K) W h1 (row_take h2 (by omega)) e1 (by rw [List.length_take]; omega) o1 (o2.take K) (fun i hi => mP i (by omega)) (by omega)).mono fun e w' ⟨he, q, hw⟩ => ⟨he, by rw [hw]; exact bel_drewN W q⟩
    have hmin := min_tells N x K hK
    have hcv := conv53n x hx
    have hKN : K ≤ N := by omega
    obtain ⟨i0, hi, hz0, hz1, hz2⟩ := info_parts b_win
    go_enter Try.func4, Try.ntmps4
    go_wp2_with fail
    go_loopw [7, 14] (fun v i wr => ∃ k : Nat, k ≤ l0 ∧ i = .int .i64 (k : Nat) ∧ ∃ zs : List Wn, zs.length = min k N ∧ Okl P zs ∧ wr.ownsRow w.heap.size 38 2 v (min k N) (wnL zs) ∧ Below w.heap.size w wr) (fun _ i _ => l0 - (intOf i).toNat)
    case atStart => exact ⟨0, Nat.zero_le _, rfl, [], by simp, Okl.nil _, by rw [Nat.zero_min]; exact World.ownsRow_nil _ _ _ _, Below.refl _ _⟩
    case round =>
      obtain ⟨k, hk, rfl, zs, hzl, hzo, hrow, hbr⟩ := hrel
      obtain ⟨ao, cap, rfl⟩ := ownsRow_slice hrow
      by_cases hlt : k < l0
      · have hki : (k : Int) < (l0 : Int) := by omega
        have hwk : IntKind.i64.wrap ((l0 : Int) - (k : Int)) = (l0 : Int) - (k : Int) := by rw [IntKind.wrap_i64]; omega
        by_cases hkN : k < N
        · have hm0 : m ≥ 1 := by rw [hN] at hkN; unfold cntW at hkN; split at hkN <;> omega
          have hm3 : m ≤ (l0 : Int) - (k : Int) := by rw [hN] at hkN; unfold cntW at hkN; rw [if_neg (by omega)] at hkN; omega
          obtain ⟨mt, rfl⟩ := Int.eq_ofNat_of_zero_le (show 0 ≤ m by omega)
          have htn : ((mt : Nat) : Int).toNat = mt := by omega
          rw [htn] at hP
          have e1 : min k N = k := by omega
          have e2 : min (k + 1) N = k + 1 := by omega
          rw [e1] at hzl hrow ⊢
          obtain ⟨bb, off, rfl, hbb, hcs⟩ := hr.at_ (by omega)
          have hwk2 := wrap_n k mt (by omega)
          have hsl := slice_run bb off l0 c0 k (k + mt) (by omega) (by omega) (by omega)
          rw [show k + mt - k = mt by omega, show ((k + mt : Nat) : Int) = (k : Int) + (mt : Int) by omega] at hsl
          have hPk : ofL (fun j => z (k + j)) mt = P k := by rw [hP]; rfl
          have HV : Hid (∀ W, Below w.heap.size w W → Calls Try.prog 16 #[.slice (some ⟨bb, off + k, none⟩) mt (c0 - k)] W fun e w' => e = .returned (ptV (P k)) ∧ Below W.heap.size W w') := fun W h => by
            rw [← hPk]
            exact rof_any _ mt _ _ W ((hr.part (k := k) (m := mt) (by omega) (by omega)).below h) (by omega)
          have HP : Hid (∀ W, Calls Try.prog 11 #[ptV (P k)] W fun e w' => (∃ v, e = .returned v ∧ IsC v (P k)) ∧ Below W.heap.size W w') := fun W => point_any _ W
          have HZ : Hid (∀ W a b v' w2, IsC (.complex .f64 a b) (P k) → Below wr.heap.size wr W → w2.ownsRow w.heap.size 38 2 v' (k + 1) (wnL zs ++ [.int .i64 (k : Nat), .complex .f64 a b]) → (W.alloc (.cells #[.int .i64 (k : Nat), .complex .f64 a b] 38)).grownBy w2 (Value.slice ao k cap).ownBlock → ∃ zs : List Wn, zs.length = min (k + 1) N ∧ Okl P zs ∧ w2.ownsRow w.heap.size 38 2 v' (min (k + 1) N) (wnL zs) ∧ Below w.heap.size w w2) := fun W a b v' w2 hi hb ho hg => by
            refine ⟨zs ++ [⟨k, a, b⟩], by rw [List.length_append, List.length_singleton, hzl, e2], hzo.snoc hzl.symm hi, by rw [e2, wnL_snoc]; exact ho, ?_⟩
            have hbW := (hbr.trans (hb.mono hbr.size)).alloc (Nat.le_trans hbr.size hb.size) (.cells #[.int .i64 (k : Nat), .complex .f64 a b] 38)
            exact hbW.grown hg (Nat.le_trans hbr.size (by have := hb.size; simp; omega)) fun q hq => (own_block hrow hq).1
          have HR : Hid (∀ W, Below wr.heap.size wr W → W.ownsRow w.heap.size 38 2 (.slice ao k cap) k (wnL zs)) := fun W h => ownsRow_at hrow fun g _ hg => h.block g hg
          have hszr := hbr.size
          have HB : Hid (Below w.heap.size w wr) := hbr
          clear hrow hbr hzl hzo mP hr hs0 hP hN hcs hPk h17 h17' h18 h18' h19 hmin hcv htn e1 e2 hKN hK
          go_wp2_with (first
            | (go_at_call 11; refine (HP.out _).mono ?_; rintro e w13 ⟨⟨v1, rfl, g1⟩, hb13⟩; obtain ⟨a1, b1, rfl⟩ := g1.is; have hbF := hb12.trans (hb13.mono hb12.size); have hrow := HR.out w13 hbF; have hsF := hbF.size)
            | (go_at_call 16; refine (HV.out _ HB.out).mono ?_; rintro e w12 ⟨rfl, hb12⟩)
            | (at_builtin; refine wpList_append_own _ rfl _ _ 36 rfl w.heap.size 38 i0 (.agg #[.int .i64 0, .complex .f64 0 0]) 2 24 Try.underlying36 hi hz0 hz1 hz2 rfl (by decide) _ _ _ rfl (hrow.alloc _) ⟨w13.heap.size, 0, none⟩ 1 1 [.int .i64 (k : Nat), .complex .f64 a1 b1] rfl rfl (two_new _ _ _ _) (by simp [Value.oneCell']) (by unfold maxLen; omega) (by omega) (by simp; omega) ?_; intro v' w2 hown' hgrow _; have HG : Hid _ := HZ.out w13 a1 b1 v' w2 g1 hbF hown' hgrow; clear hown' hgrow hrow))
          go_roundw
          case rel => exact ⟨k + 1, hlt, by simp, HG.out⟩
          case measure => simp [intOf]; omega
        · have e1 : min k N = N := by omega
          have e2 : min (k + 1) N = N := by omega
          rw [e1] at hzl hrow ⊢
          have HG : Hid (∃ zs : List Wn, zs.length = min (k + 1) N ∧ Okl P zs ∧ wr.ownsRow w.heap.size 38 2 (.slice ao N cap) (min (k + 1) N) (wnL zs) ∧ Below w.heap.size w wr) := by
            rw [e2]
            exact ⟨zs, hzl, hzo, hrow, hbr⟩
          by_cases hm0 : m ≥ 1
          · have hm3 : ¬ m ≤ (l0 : Int) - (k : Int) := by rw [hN] at hkN; unfold cntW at hkN; rw [if_neg (by omega)] at hkN; omega
            clear hrow hbr hzl hzo mP hr hs0 hP hN h17 h17' h18 h18' h19 hmin hcv e1 e2 hKN hK hkN
            go_wp2
            go_roundw
            case rel => exact ⟨k + 1, hlt, by simp, HG.out⟩
            case measure => simp [intOf]; omega
          · clear hrow hbr hzl hzo mP hr hs0 hP hN h17 h17' h18 h18' h19 hmin hcv e1 e2 hKN hK hkN
            go_wp2
            go_roundw
            case rel => exact ⟨k + 1, hlt, by simp, HG.out⟩
            case measure => simp [intOf]; omega
      · obtain rfl : k = l0 := by omega
        have hki : ¬ (k : Int) < (k : Int) := by omega
        rw [Nat.min_eq_right hNl] at hzl hrow ⊢
        have t : TT w (.slice ao N cap) N zs wr := ⟨hbr, hrow⟩
        have hcap := row_cap hrow
        have hsl := high36 ao N cap K (by omega)
        have HZ : Hid (zs.length = N ∧ Okl P zs) := ⟨hzl, hzo⟩
        clear hrow hbr hzl hzo mP hr hs0 hP hN hcap hi hz0 hz1 hz2 hK hKN
        go_wp2_with fail
        replace t := t.next (Below.refl _ _).drew
        have m1 : Hid True := trivial
        have m2 : Hid True := trivial
        go_region_held3 (fun _ => True) (exact trivial)
          (first
            | (go_at_call 9; refine (begun_any _).mono ?_; rintro en v0 ⟨rfl, q⟩; replace t := t.next q; clear q)
            | (go_at_call 19; refine (h19.out _ t.bel).mono ?_; rintro en v1 ⟨rfl, ⟨ao1, cap1, k1, k2, r1, cc1⟩, q⟩; replace t := t.next q; clear q)
            | (go_at_call 18; (first | (clear m1; refine (h18.out _ _ _ _ _ k1 k2 r1 cc1).mono ?_) | refine (h18'.out _ _ _ _ _ k1 k2 r1 cc1).mono ?_); clear k1 k2 r1 cc1; rintro en v6 ⟨ys, ao3, cap3, ly, oy, rfl, o3, q⟩; replace t := t.next q; clear q)
            | (go_at_call 17; (first | (clear m2; refine (h17.out _ _ _ _ _ _ _ _ _ o3 t.own ly HZ.out.1 oy HZ.out.2).mono ?_) | refine (h17'.out _ _ _ _ _ _ _ _ _ o3 t.own ly HZ.out.1 oy HZ.out.2).mono ?_); clear o3 ly oy; rintro en v7 ⟨rfl, q⟩; replace t := t.next q; clear q))
        all_goals
          go_wp2
          go_ret
          exact ⟨rfl, t.bel⟩
  · have hgt : (l0 : Int) > 2000 := by omega
    go_enter Try.func4, Try.ntmps4
    go_wp2
    go_ret
    exact ⟨rfl, Below.refl _ _⟩
end Go.Proofs.Ytgololmgdakigaa
