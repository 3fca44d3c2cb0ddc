/- The reference's Sizes: the walk. -/
import Derived.Test.YthbmfnibgjlkhaaDoorGBaSr
import Derived.Deep.DeepCutAuto
namespace Go.Proofs.YthbmfnibgjlkhaaDoor
open Go.RowKit
theorem ofF_top' (x : Tre) (r : List Tre) {k : Nat} (h : sizeF (x :: r) = k) : (ofF (x :: r))[k - 1]? = some x := by
  have := ofF_top x r
  rw [sizeF_cons] at h
  rw [← h]; exact this
theorem two_short {ts : List Tre} {k : Nat} {q : Nd} (hk : q.k = 3 ∨ q.k = 4) (hb : q.eq (bareN q) = true) (hs : sizeF ts = k) (h2 : k < 2) : stepT ts k q = none := by
  rw [step_two' hk hb]
  match ts, hs with
  | [], _ => rfl
  | [_], _ => rfl
  | y :: x :: r, hs =>
    rw [sizeF_cons, sizeF_cons] at hs
    have := y.size_pos
    have := x.size_pos
    omega
theorem two_no {y : Tre} {r : List Tre} {k : Nat} {q : Nd} (hk : q.k = 3 ∨ q.k = 4) (hb : q.eq (bareN q) = true) (hs : sizeF (y :: r) = k) (h : (y.size : Int) ≥ k ∨ q.b ≠ (k : Int) - 1 ∨ q.a ≠ (k : Int) - 1 - y.size) : stepT (y :: r) k q = none := by
  rw [step_two' hk hb]
  cases r with
  | nil => rfl
  | cons x r =>
    rw [sizeF_cons, sizeF_cons] at hs
    have := x.size_pos
    dsimp only
    rw [if_neg]
    omega
theorem two_yes {y : Tre} {r : List Tre} {k : Nat} {q : Nd} (hk : q.k = 3 ∨ q.k = 4) (hb : q.eq (bareN q) = true) (hs : sizeF (y :: r) = k) (h1 : ¬ (y.size : Int) ≥ k) (h2 : q.b = (k : Int) - 1) (h3 : q.a = (k : Int) - 1 - y.size) : ∃ x r', r = x :: r' ∧ stepT (y :: r) k q = some (.two q.k x y :: r') ∧ (ofF (y :: r))[k - 1 - y.size]? = some x := by
  cases r with
  | nil =>
    rw [sizeF_cons] at hs
    simp [sizeF, ofF] at hs
    omega
  | cons x r =>
    refine ⟨x, r, rfl, ?_, ?_⟩
    · rw [step_two' hk hb]
      dsimp only
      rw [if_pos ⟨h3, h2⟩]
    · rw [sizeF_cons] at hs
      have := ofF_top' x r (k := sizeF (x :: r)) rfl
      have hx : 0 < sizeF (x :: r) := by rw [sizeF_cons]; have := x.size_pos; omega
      simp only [ofF] at this ⊢
      rw [List.getElem?_append_left (by simp only [sizeF, ofF] at hs hx; omega)]
      rw [show k - 1 - y.size = sizeF (x :: r) - 1 by omega]
      exact this
theorem row_mono {W : World} {b b' e s n : Nat} {v : Value} {xs : List Value} (h : W.ownsRow b e s v n xs) (hb : b' ≤ b) : W.ownsRow b' e s v n xs := by
  obtain ⟨h1, h2⟩ := h
  refine ⟨h1, ?_⟩
  rcases h2 with h2 | ⟨g, cap, cur, e, hg, r⟩
  · exact .inl h2
  · exact .inr ⟨g, cap, cur, e, by omega, r⟩
/-- What the round's first test comes to. -/
def C8 (wr : World) (ts : List Tre) (k : Nat) (q : Nd) (c : Value) (wx : World) : Prop := ∃ b, c = .bool b ∧ (b = true → stepT ts k q = none) ∧ (b = false → 1 ≤ q.k ∧ q.k ≤ 7 ∧ q.eq (bareN q) = true) ∧ Cl wx wr.heap.size 82 (ndL q) ∧ Below wr.heap.size wr wx
/-- What a repeat's test comes to. -/
def C12 (W : World) (ts : List Tre) (k : Nat) (q : Nd) (c : Value) (wx : World) : Prop := ∃ b, c = .bool b ∧ (b = true → stepT ts k q = none) ∧ (b = false → ∃ x r, ts = x :: r ∧ stepT ts k q = some (.rep x q.l q.m q.z :: r)) ∧ wx = W
/-- What the test of two comes to. -/
def C16 (W : World) (ts : List Tre) (k : Nat) (q : Nd) (c : Value) (wx : World) : Prop := ∃ b, c = .bool b ∧ (b = true → stepT ts k q = none) ∧ (b = false → ∃ y r, ts = y :: r ∧ (y.size : Int) < k ∧ q.b = (k : Int) - 1 ∧ q.a = (k : Int) - 1 - y.size) ∧ Below W.heap.size W wx
set_option maxRecDepth 10000 in
set_option maxHeartbeats 40000000 in
theorem sizes_any (ao : Option Addr) (n cap : Nat) (F : Nat → Nd) (w : World) (hr : RdN w ao n F) (hm : (n : Int) ≤ 9223372036854775807) : Calls Tryd.prog 83 #[.agg #[.slice ao n cap]] w (RetSz w F n) := by
  have hW0 := below1 w (.cells #[.slice ao n cap] 48)
  have k0 := Cl.new w 48 [.slice ao n cap]
  by_cases h0 : n = 0
  · subst h0
    have e : treeOf F 0 = none := by simp [treeOf, scanT]
    have hR : ∀ v W, Below w.heap.size w W → RetSz w F 0 (.returned (.tuple #[v, .bool false])) W := fun v W h => ⟨⟨v, by rw [e]; rfl, fun t ht => by rw [e] at ht; cases ht⟩, h⟩
    clear hr
    go_enter Tryd.func83, Tryd.ntmps83
    go_wp2
    go_ret2
    exact hR _ _ hW0
  by_cases h1 : n > 2048
  · have e : treeOf F n = none := by simp [treeOf, h1]
    have hR : ∀ v W, Below w.heap.size w W → RetSz w F n (.returned (.tuple #[v, .bool false])) W := fun v W h => ⟨⟨v, by rw [e]; rfl, fun t ht => by rw [e] at ht; cases ht⟩, h⟩
    have hz : ((n : Int) == 0) = false := by simp; omega
    have hg : (n : Int) > 2048 := by omega
    clear hr
    go_enter Tryd.func83, Tryd.ntmps83
    go_wp2
    go_ret2
    exact hR _ _ hW0
  have hz : ((n : Int) == 0) = false := by simp; omega
  have hg : ¬ (n : Int) > 2048 := by omega
  obtain ⟨i0, hi, hz0, hz1, hz2⟩ := info_parts b_int
  have hrow0 : (w.alloc (.cells #[.slice ao n cap] 48)).ownsRow (w.heap.size + 1) 3 1 (.slice none 0 0) 0 (ints (fun _ => 0) 0) := World.ownsRow_nil _ _ _ _
  go_enter Tryd.func83, Tryd.ntmps83
  go_wp2
  go_loopw [4, 5] (fun v i wr => ∃ (k : Nat) (ts : List Tre) (g : Nat → Int), k ≤ n ∧ i = .int .i64 (k : Nat) ∧ scanT F k = some ts ∧ (∀ p u, (ofF ts)[p]? = some u → g p = u.size) ∧ wr.ownsRow (w.heap.size + 1) 3 1 v k (ints g k) ∧ Cl wr w.heap.size 48 [.slice ao n cap] ∧ Below w.heap.size w wr) (fun _ i _ => n - (intOf i).toNat)
  case atStart => exact ⟨0, [], fun _ => 0, Nat.zero_le _, rfl, rfl, fun p u h => by simp [ofF] at h, hrow0, k0, hW0⟩
  case round =>
    obtain ⟨k, ts, g, hk, rfl, hsc, hgF, hrow, hk0, hb⟩ := hrel
    clear hrow0 k0 hW0
    obtain ⟨av, cv, rfl⟩ := ownsRow_slice hrow
    have dk0 := hk0.cell 0 rfl
    by_cases hlt : k < n
    · obtain ⟨bb, off, rfl, hbb, hcs⟩ := hr (by omega)
      obtain ⟨hs1, hs2, hs3⟩ := scanT_inv hsc
      clear hs3
      obtain ⟨c0, c1, c2, c3, c4, c5, c6, c7, c8, c9⟩ := hcs k hlt
      rw [← hb.cell (p := ⟨bb, _, none⟩) hbb] at c0 c1 c2 c3 c4 c5 c6 c7 c8 c9
      have hki : (k : Int) < (n : Int) := by omega
      have hsz := hk0.lt
      have HB : Hid (∀ W, Calls Tryd.prog 100 #[ndV (F k)] W fun e w' => e = .returned (ndV (bareN (F k))) ∧ Below W.heap.size W w') := fun W => bare_any (F k) W
      have hne := run_neq29 (F k) (bareN (F k))
      unfold ndV at HB hne
      have HFail : Hid (stepT ts k (F k) = none → ∀ v W, Below wr.heap.size wr W → RetSz w F n (.returned (.tuple #[v, .bool false])) W) := by
        intro hst v W hW
        have e : treeOf F n = none := by
          have : scanT F (k + 1) = none := by simp only [scanT, hsc]; exact hst
          unfold treeOf
          rw [scan_none this n (by omega)]
          split <;> rfl
        exact ⟨⟨v, by rw [e]; rfl, fun t ht => by rw [e] at ht; cases ht⟩, hb.trans (hW.mono hb.size)⟩
      have HGo : Hid (∀ (s : Int) u r, stepT ts k (F k) = some (u :: r) → s = (u.size : Int) → ∀ w3, Below wr.heap.size wr w3 →
          ((w3.alloc (.cells #[.int .i64 s] 3)).ownsRow (w.heap.size + 1) 3 1 (.slice av k cv) k (ints g k) ∧ w.heap.size + 1 ≤ (w3.alloc (.cells #[.int .i64 s] 3)).heap.size ∧ (∀ j v, [Value.int .i64 s][j]? = some v → (w3.alloc (.cells #[.int .i64 s] 3)).cell? (Addr.add ⟨w3.heap.size, 0, none⟩ j) = some v)) ∧
          ∀ v' w2, w2.ownsRow (w.heap.size + 1) 3 1 v' (k + 1) (ints g k ++ [.int .i64 s]) → (w3.alloc (.cells #[.int .i64 s] 3)).grownBy w2 (Value.slice av k cv).ownBlock → ∃ (k' : Nat) (ts : List Tre) (g : Nat → Int), k' ≤ n ∧ Value.int .i64 ((k : Int) + 1) = .int .i64 (k' : Nat) ∧ scanT F k' = some ts ∧ (∀ p u, (ofF ts)[p]? = some u → g p = u.size) ∧ w2.ownsRow (w.heap.size + 1) 3 1 v' k' (ints g k') ∧ Cl w2 w.heap.size 48 [.slice (some ⟨bb, off, none⟩) n cap] ∧ Below w.heap.size w w2) := by
        intro s u r hst hsu w3 hb3
        have hss := hb3.size
        refine ⟨⟨ownsRow_below (ownsRow_below hrow hb3) (below1 _ _), by simp; omega, fun j v hj => ?_⟩, fun v' w2 h1 h2 => ?_⟩
        · have hj0 : j = 0 := by
            have := (List.getElem?_eq_some_iff.1 hj).1
            simpa using this
          subst hj0
          simpa [Addr.add] using (Cl.new w3 3 [.int .i64 s]).cell 0 hj
        · have hB5 : Below (w.heap.size + 1) w3 w2 := ((below1 w3 _).mono (by omega)).grown h2 (by simp; omega) (ownsRow_own hrow)
          have e1 : scanT F (k + 1) = some (u :: r) := by simp only [scanT, hsc]; exact hst
          obtain ⟨g1, g2, u', r', e', g4, g5⟩ := stepT_inv hst hs1 hs2
          obtain ⟨rfl, rfl⟩ := List.cons.inj e'
          refine ⟨k + 1, _, updI g k s, hlt, by simp, e1, fun p v hv => ?_, ?_, (hk0.below hb3).belowB hB5 (by omega), (hb.trans (hb3.mono hb.size)).trans (hB5.mono (by omega))⟩
          · rw [g4, List.getElem?_append] at hv
            unfold sizeF at hs1
            split at hv
            · rw [updI, if_neg (by omega)]; exact hgF p v hv
            · have : p = k := by
                rcases Nat.lt_or_ge (p - (ofF ts).length) 1 with h | h
                · omega
                · rw [List.getElem?_eq_none (by simpa using h)] at hv; cases hv
              subst this
              simp [hs1] at hv
              subst hv
              simp [updI, hsu]
          · rw [ints_snoc, show updI g k s k = s by simp [updI], ints_congr (g := g) (fun i hi => by simp [updI, show ¬ i = k by omega])]
            exact h1
      have kN := Cl.new wr 82 (ndL (F k))
      have hk0' := hk0.alloc (.cells (ndL (F k)).toArray 82)
      have HM : Hid (∀ W, Below (wr.alloc (.cells (ndL (F k)).toArray 82)).heap.size (wr.alloc (.cells (ndL (F k)).toArray 82)) W → Cl W wr.heap.size 82 (ndL (F k)) ∧ Below wr.heap.size wr W) := fun W h => ⟨kN.below h, (below1 _ _).trans (h.mono (by simp))⟩
      unfold ndL at kN hk0' HM
      clear hcs hr
      generalize F k = q at *
      go_upto_region 8 with fail
      go_cut [43] (fun c wx => C8 wr ts k q c wx)
      case first =>
        as_aux_lemma =>
          by_cases hlow : q.k < 1
          · have hst : stepT ts k q = none := by
              rw [stepT_lf ts k _ (by omega), if_neg]
              intro h
              have := lf_kind h
              omega
            have HD : Hid (stepT ts k q = none) := hst
            have hdl : decide (q.k < 1) = true := by simpa using hlow
            clear hst HGo HFail hgF hrow hs1 hs2 hsc HB hne
            go_quiet (fail)
            go_wp2
            go_meet
            exact ⟨_, rfl, fun _ => HD.out, fun h => (by cases h), HM.out _ (below_drewN (Below.refl _ _) _)⟩
          have hdl : decide (q.k < 1) = false := by simpa using hlow
          by_cases hhigh : q.k > 7
          · have hst : stepT ts k q = none := by
              rw [stepT_lf ts k _ (by omega), if_neg]
              intro h
              have := lf_kind h
              omega
            have HD : Hid (stepT ts k q = none) := hst
            have hdh : decide (q.k > 7) = true := by simpa using hhigh
            clear hst HGo HFail hgF hrow hs1 hs2 hsc HB hne
            go_quiet (fail)
            go_wp2
            go_meet
            exact ⟨_, rfl, fun _ => HD.out, fun h => (by cases h), HM.out _ (below_drewN (Below.refl _ _) _)⟩
          have hdh : decide (q.k > 7) = false := by simpa using hhigh
          cases hbe : q.eq (bareN q) with
          | false =>
            have hst : stepT ts k q = none := by
              cases hs : stepT ts k q with
              | none => rfl
              | some ts' => rw [step_bare hs hs1 hs2] at hbe; cases hbe
            have HD : Hid (stepT ts k q = none) := hst
            rw [hbe] at hne
            clear hst HGo HFail hgF hrow hs1 hs2 hsc hbe
            generalize bareN q = qb at HB hne
            go_region_with (go_at_call 100; refine (HB.out _).mono ?_; rintro e w3 ⟨rfl, hb3⟩; have kN3 := kN.drew.below hb3; obtain ⟨⟨f0, f1, f2, f3, f4, f5, f6, f7, f8, f9⟩, _⟩ := kN3.ten)
            all_goals (try go_wp2_with fail)
            all_goals go_meet
            all_goals exact ⟨_, rfl, fun _ => HD.out, fun h => (by cases h), HM.out _ ((Below.refl _ _).drew.trans (hb3.mono (by simp)))⟩
          | true =>
            have HD : Hid (1 ≤ q.k ∧ q.k ≤ 7 ∧ q.eq (bareN q) = true) := ⟨by omega, by omega, hbe⟩
            rw [hbe] at hne
            clear HGo HFail hgF hrow hs1 hs2 hsc hbe
            generalize hqb : bareN q = qb at HB hne
            clear hqb
            go_region_with (go_at_call 100; refine (HB.out _).mono ?_; rintro e w3 ⟨rfl, hb3⟩; have kN3 := kN.drew.below hb3; obtain ⟨⟨f0, f1, f2, f3, f4, f5, f6, f7, f8, f9⟩, _⟩ := kN3.ten)
            all_goals (try go_wp2_with fail)
            all_goals go_meet
            all_goals exact ⟨_, rfl, fun h => (by cases h), fun _ => HD.out, HM.out _ ((Below.refl _ _).drew.trans (hb3.mono (by simp)))⟩
      case rest =>
        obtain ⟨W8, hW8⟩ : ∃ W, W = wc := ⟨_, rfl⟩
        subst hW8
        obtain ⟨b, rfl, hbT, hbF, hkN, hB⟩ := hcut
        have hk0c := hk0.below hB
        have dk0c := hk0c.cell 0 rfl
        clear kN HM HB hne c0 c1 c2 c3 c4 c5 c6 c7 c8 c9 dk0 hk0'
        cases b with
        | true =>
          have HX : Hid _ := HFail.out (hbT rfl)
          clear HGo HFail hgF hrow hs1 hs2 hsc hbT hbF
          go_wp2
          go_ret2
          exact HX.out _ _ hB
        | false =>
          obtain ⟨hq1, hq7, hbe⟩ := hbF rfl
          unfold ndL at hkN
          obtain ⟨⟨f0, f1, f2, f3, f4, f5, f6, f7, f8, f9⟩, _⟩ := hkN.ten
          by_cases h3 : q.k ≠ 3 ∧ q.k ≠ 4 ∧ q.k ≠ 5
          · as_aux_lemma =>
              have hst := step_leaf' (ts := ts) (p := k) ⟨hq1, hq7⟩ h3 hbe
              have HG1 : Hid _ := HGo.out 1 _ _ hst rfl
              have d3 : (q.k == 3) = false := by simpa using h3.1
              have d4 : (q.k == 4) = false := by simpa using h3.2.1
              have d5 : (q.k == 5) = false := by simpa using h3.2.2
              clear HGo HFail hst hgF hrow hs1 hs2 hsc hbe h3 hbT hbF
              obtain ⟨⟨p1, p2, p3⟩, p4⟩ := HG1.out W8 hB
              have P3 : Hid _ := p3
              have P4 : Hid _ := p4
              clear p3 p4 HG1
              go_wp2_with (at_builtin; refine wpList_append_own _ rfl _ _ 42 rfl (w.heap.size + 1) 3 i0 _ 1 8 Tryd.underlying42 hi hz0 hz1 hz2 rfl (by decide) _ _ _ rfl p1 ⟨W8.heap.size, 0, none⟩ 1 1 [.int .i64 (1)] rfl rfl P3.out (by simp [Value.oneCell']) (by unfold maxLen; omega) (by omega) p2 ?_; intro v' w2 hown hgr hnil'; have HY : Hid _ := P4.out v' w2 hown hgr; clear hown hgr hnil')
              go_roundw
              case rel => exact HY.out
              case measure => simp [intOf]; omega
          by_cases hkd : q.k = 5
          · have hsr := step_rep' (ts := ts) (p := k) hkd hbe
            have d5 : (q.k == 5) = true := by simp [hkd]
            clear hbT hbF h3
            go_upto_region 12 with fail
            go_cut [82] (fun c wx => C12 W8 ts k q c wx)
            case first =>
              as_aux_lemma =>
                by_cases hk1 : k < 1
                · have hk1i : (k : Int) < 1 := by omega
                  have hno : True := trivial
                  have hst : stepT ts k q = none := by
                    have : ts = [] := by
                      cases ts with
                      | nil => rfl
                      | cons x r => rw [sizeF_cons] at hs1; have := x.size_pos; omega
                    rw [hsr, this]
                  have HD : Hid (stepT ts k q = none) := hst
                  clear hst HGo HFail hgF hrow hs1 hs2 hsc hbe hsr hno
                  go_wp2
                  go_meet
                  exact ⟨_, rfl, fun _ => HD.out, fun h => (by cases h), rfl⟩
                have hk1i : ¬ (k : Int) < 1 := by omega
                by_cases ha : q.a = (k : Int) - 1
                · by_cases hl0 : q.l < 0
                  · have hno : Tre.mayR q.l q.m = false := by simp [Tre.mayR]; omega
                    have hst : stepT ts k q = none := by
                      rw [hsr]
                      split
                      · rw [if_neg (by simp [hno])]
                      · rfl
                    have HD : Hid (stepT ts k q = none) := hst
                    have ha2 : (q.a != (k : Int) - 1) = false := by simp [ha]
                    clear ha
                    clear hst HGo HFail hgF hrow hs1 hs2 hsc hbe hsr hno
                    go_wp2
                    go_meet
                    exact ⟨_, rfl, fun _ => HD.out, fun h => (by cases h), rfl⟩
                  by_cases hl1 : q.l > 1000
                  · have hno : Tre.mayR q.l q.m = false := by simp [Tre.mayR]; omega
                    have hst : stepT ts k q = none := by
                      rw [hsr]
                      split
                      · rw [if_neg (by simp [hno])]
                      · rfl
                    have HD : Hid (stepT ts k q = none) := hst
                    have ha2 : (q.a != (k : Int) - 1) = false := by simp [ha]
                    clear ha
                    clear hst HGo HFail hgF hrow hs1 hs2 hsc hbe hsr hno
                    go_wp2
                    go_meet
                    exact ⟨_, rfl, fun _ => HD.out, fun h => (by cases h), rfl⟩
                  by_cases hm1 : q.m = -1
                  · have hyes : Tre.mayR q.l q.m = true := by simp [Tre.mayR]; omega
                    have HD : Hid (∃ x r, ts = x :: r ∧ stepT ts k q = some (.rep x q.l q.m q.z :: r)) := by
                      obtain ⟨x, r, rfl⟩ : ∃ x r, ts = x :: r := by
                        cases ts with
                        | nil => exact absurd (show 0 = k from hs1) (by omega)
                        | cons x r => exact ⟨x, r, rfl⟩
                      exact ⟨x, r, rfl, by rw [hsr]; simp [hyes, ha]⟩
                    have ha2 : (q.a != (k : Int) - 1) = false := by simp [ha]
                    clear ha
                    have hm2 : (q.m != -1) = false := by simp [hm1]
                    clear hm1
                    clear HGo HFail hgF hrow hs1 hs2 hsc hbe hsr hyes
                    go_wp2
                    go_meet
                    exact ⟨_, rfl, fun h => (by cases h), fun _ => HD.out, rfl⟩
                  by_cases hm2 : q.m < q.l
                  · have hno : Tre.mayR q.l q.m = false := by simp [Tre.mayR]; omega
                    have hst : stepT ts k q = none := by
                      rw [hsr]
                      split
                      · rw [if_neg (by simp [hno])]
                      · rfl
                    have HD : Hid (stepT ts k q = none) := hst
                    have ha2 : (q.a != (k : Int) - 1) = false := by simp [ha]
                    clear ha
                    have hm4 : (q.m != -1) = true := by simp [hm1]
                    clear hst HGo HFail hgF hrow hs1 hs2 hsc hbe hsr hno
                    go_wp2
                    go_meet
                    exact ⟨_, rfl, fun _ => HD.out, fun h => (by cases h), rfl⟩
                  by_cases hm3 : q.m > 1000
                  · have hno : Tre.mayR q.l q.m = false := by simp [Tre.mayR]; omega
                    have hst : stepT ts k q = none := by
                      rw [hsr]
                      split
                      · rw [if_neg (by simp [hno])]
                      · rfl
                    have HD : Hid (stepT ts k q = none) := hst
                    have ha2 : (q.a != (k : Int) - 1) = false := by simp [ha]
                    clear ha
                    have hm4 : (q.m != -1) = true := by simp [hm1]
                    clear hst HGo HFail hgF hrow hs1 hs2 hsc hbe hsr hno
                    go_wp2
                    go_meet
                    exact ⟨_, rfl, fun _ => HD.out, fun h => (by cases h), rfl⟩
                  have hyes : Tre.mayR q.l q.m = true := by simp [Tre.mayR]; omega
                  have HD : Hid (∃ x r, ts = x :: r ∧ stepT ts k q = some (.rep x q.l q.m q.z :: r)) := by
                    obtain ⟨x, r, rfl⟩ : ∃ x r, ts = x :: r := by
                      cases ts with
                      | nil => exact absurd (show 0 = k from hs1) (by omega)
                      | cons x r => exact ⟨x, r, rfl⟩
                    exact ⟨x, r, rfl, by rw [hsr]; simp [hyes, ha]⟩
                  have ha2 : (q.a != (k : Int) - 1) = false := by simp [ha]
                  clear ha
                  have hm4 : (q.m != -1) = true := by simp [hm1]
                  clear HGo HFail hgF hrow hs1 hs2 hsc hbe hsr hyes
                  go_wp2
                  go_meet
                  exact ⟨_, rfl, fun h => (by cases h), fun _ => HD.out, rfl⟩
                · have hno : True := trivial
                  have hst : stepT ts k q = none := by
                    rw [hsr]
                    split
                    · rw [if_neg (by simp [ha])]
                    · rfl
                  have HD : Hid (stepT ts k q = none) := hst
                  have ha2 : (q.a != (k : Int) - 1) = true := by simp [ha]
                  clear hst HGo HFail hgF hrow hs1 hs2 hsc hbe hsr hno
                  go_wp2
                  go_meet
                  exact ⟨_, rfl, fun _ => HD.out, fun h => (by cases h), rfl⟩
            case rest =>
              as_aux_lemma =>
                obtain ⟨b, rfl, hcT, hcF, rfl⟩ := hcut
                cases b with
                | true =>
                  have HX : Hid _ := HFail.out (hcT rfl)
                  clear HGo HFail hgF hrow hs1 hs2 hsc hcT hcF
                  go_wp2
                  go_ret2
                  exact HX.out _ _ hB
                | false =>
                  obtain ⟨x, r, rfl, hst⟩ := hcF rfl
                  have sx := x.size_pos
                  have hsx : x.size ≤ k := by rw [sizeF_cons] at hs1; omega
                  have HG1 : Hid _ := HGo.out (1 + (x.size : Int)) _ _ hst (by simp only [Tre.size]; omega)
                  obtain ⟨gb, ea, hgl, _, hcr, _⟩ := row_cell hrow (by omega)
                  subst ea
                  have dz := hcr (k - 1) _ (ints_get g (by omega))
                  rw [hgF _ _ (ofF_top' x r hs1)] at dz
                  have dz3 := dz
                  rw [← hB.cell (p := ⟨gb, _, none⟩) hgl] at dz3
                  have hk2 : ((k : Int) - 1).toNat = k - 1 := by omega
                  have hk3 : (0 : Int) ≤ (k : Int) - 1 := by omega
                  have hk4 : (k : Int) - 1 < (k : Int) := by omega
                  have d3 : (q.k == 3) = false := by simp [hkd]
                  have d4 : (q.k == 4) = false := by simp [hkd]
                  clear HGo HFail hgF hrow hs1 hs2 hsc hcT hcF hst hcr dz hsr hbe hkd
                  generalize x.size = xs at *
                  obtain ⟨⟨p1, p2, p3⟩, p4⟩ := HG1.out wc hB
                  have P3 : Hid _ := p3
                  have P4 : Hid _ := p4
                  clear p3 p4 HG1
                  go_wp2_with (at_builtin; refine wpList_append_own _ rfl _ _ 42 rfl (w.heap.size + 1) 3 i0 _ 1 8 Tryd.underlying42 hi hz0 hz1 hz2 rfl (by decide) _ _ _ rfl p1 ⟨wc.heap.size, 0, none⟩ 1 1 [.int .i64 (1 + (xs : Int))] rfl rfl P3.out (by simp [Value.oneCell']) (by unfold maxLen; omega) (by omega) p2 ?_; intro v' w2 hown hgr hnil'; have HY : Hid _ := P4.out v' w2 hown hgr; clear hown hgr hnil')
                  go_roundw
                  case rel => exact HY.out
                  case measure => simp [intOf]; omega
          have hk34 : q.k = 3 ∨ q.k = 4 := by omega
          have d5 : (q.k == 5) = false := by simp [hkd]
          clear hbT hbF h3 hkd
          cases d3 : (q.k == 3) with
          | true =>
            go_upto_region 16 with fail
            go_cut [128] (fun c wx => C16 W8 ts k q c wx)
            case first =>
              as_aux_lemma =>
                by_cases hk2 : k < 2
                · have hk2i : decide ((k : Int) < 2) = true := by simp; omega
                  have hst : stepT ts k q = none := two_short hk34 hbe hs1 hk2
                  have HD : Hid (stepT ts k q = none) := hst
                  clear hst HGo HFail hgF hrow hs1 hs2 hsc hbe
                  go_quiet (fail)
                  go_wp2
                  go_meet
                  exact ⟨_, rfl, fun _ => HD.out, fun h => (by cases h), below_drewN (Below.refl _ _) _⟩
                have hk2i : decide ((k : Int) < 2) = false := by simp; omega
                obtain ⟨x, r, rfl⟩ : ∃ x r, ts = x :: r := by
                  cases ts with
                  | nil => exact absurd (show 0 = k from hs1) (by omega)
                  | cons x r => exact ⟨x, r, rfl⟩
                obtain ⟨gb, ea, hgl, _, hcr, _⟩ := row_cell hrow (by omega)
                subst ea
                have dz := hcr (k - 1) _ (ints_get g (by omega))
                rw [hgF _ _ (ofF_top' x r hs1)] at dz
                have dz3 := dz
                rw [← hB.cell (p := ⟨gb, _, none⟩) hgl] at dz3
                have hk5 : ((k : Int) - 1).toNat = k - 1 := by omega
                have hk3 : (0 : Int) ≤ (k : Int) - 1 := by omega
                have hk4 : (k : Int) - 1 < (k : Int) := by omega
                clear hcr dz
                by_cases hb1 : q.b = (k : Int) - 1
                · have hb2 : (q.b != (k : Int) - 1) = false := by simp [hb1]
                  by_cases hs3 : (x.size : Int) ≥ k
                  · have hs4 : decide ((x.size : Int) ≥ (k : Int)) = true := by simpa using hs3
                    have hst : stepT (x :: r) k q = none := two_no hk34 hbe hs1 (.inl hs3)
                    have HD : Hid (stepT (x :: r) k q = none) := hst
                    clear hb1
                    clear hst HGo HFail hgF hrow hs1 hs2 hsc hbe
                    go_quiet (fail)
                    go_wp2
                    go_meet
                    exact ⟨_, rfl, fun _ => HD.out, fun h => (by cases h), below_drewN (Below.refl _ _) _⟩
                  have hs4 : decide ((x.size : Int) ≥ (k : Int)) = false := by simpa using hs3
                  by_cases ha : q.a = (k : Int) - 1 - x.size
                  · have ha2 : (q.a != (k : Int) - 1 - x.size) = false := by simp [ha]
                    have HD : Hid (∃ y r', x :: r = y :: r' ∧ (y.size : Int) < k ∧ q.b = (k : Int) - 1 ∧ q.a = (k : Int) - 1 - y.size) := ⟨x, r, rfl, by omega, hb1, ha⟩
                    clear HGo HFail hgF hrow hs1 hs2 hsc hbe hb1 ha
                    go_quiet (fail)
                    go_wp2
                    go_meet
                    exact ⟨_, rfl, fun h => (by cases h), fun _ => HD.out, below_drewN (Below.refl _ _) _⟩
                  · have ha2 : (q.a != (k : Int) - 1 - x.size) = true := by simp [ha]
                    have hst : stepT (x :: r) k q = none := two_no hk34 hbe hs1 (.inr (.inr ha))
                    have HD : Hid (stepT (x :: r) k q = none) := hst
                    clear hb1 ha
                    clear hst HGo HFail hgF hrow hs1 hs2 hsc hbe
                    go_quiet (fail)
                    go_wp2
                    go_meet
                    exact ⟨_, rfl, fun _ => HD.out, fun h => (by cases h), below_drewN (Below.refl _ _) _⟩
                · have hb2 : (q.b != (k : Int) - 1) = true := by simp [hb1]
                  have hst : stepT (x :: r) k q = none := two_no hk34 hbe hs1 (.inr (.inl hb1))
                  have HD : Hid (stepT (x :: r) k q = none) := hst
                  clear hb1
                  clear hst HGo HFail hgF hrow hs1 hs2 hsc hbe
                  go_quiet (fail)
                  go_wp2
                  go_meet
                  exact ⟨_, rfl, fun _ => HD.out, fun h => (by cases h), below_drewN (Below.refl _ _) _⟩
            case rest =>
              as_aux_lemma =>
                obtain ⟨b, rfl, hcT, hcF, hB2⟩ := hcut
                have hB3 : Below wr.heap.size wr wc := hB.trans (hB2.mono hB.size)
                obtain ⟨⟨e0, e1, e2, e3, e4, e5, e6, e7, e8, e9⟩, _⟩ := (hkN.below hB2).ten
                have dk0d := (hk0c.below hB2).cell 0 rfl
                clear f0 f1 f2 f3 f4 f5 f6 f7 f8 f9 dk0c
                cases b with
                | true =>
                  have HX : Hid _ := HFail.out (hcT rfl)
                  clear HGo HFail hgF hrow hs1 hs2 hsc hcT hcF
                  go_wp2
                  go_ret2
                  exact HX.out _ _ hB3
                | false =>
                  obtain ⟨x, r, rfl, g1, g2, g3⟩ := hcF rfl
                  obtain ⟨y, r, rfl, hst, hof⟩ := two_yes hk34 hbe hs1 (by omega) g2 g3
                  have sx := x.size_pos
                  have sy := y.size_pos
                  have hsx : x.size + y.size ≤ k := by rw [sizeF_cons, sizeF_cons] at hs1; omega
                  have HG1 : Hid _ := HGo.out (1 + ((x.size : Int) + (y.size : Int))) _ _ hst (by simp only [Tre.size]; omega)
                  obtain ⟨gb, ea, hgl, _, hcr, _⟩ := row_cell hrow (by omega)
                  subst ea
                  have dz := hcr (k - 1) _ (ints_get g (by omega))
                  rw [hgF _ _ (ofF_top' x (y :: r) hs1)] at dz
                  have dy := hcr (k - 1 - x.size) _ (ints_get g (by omega))
                  rw [hgF _ _ hof, show k - 1 - x.size = q.a.toNat by omega] at dy
                  rw [← hB3.cell (p := ⟨gb, _, none⟩) hgl] at dz dy
                  have hk2 : ((k : Int) - 1).toNat = k - 1 := by omega
                  have hk3 : (0 : Int) ≤ (k : Int) - 1 := by omega
                  have hk4 : (k : Int) - 1 < (k : Int) := by omega
                  have hk5 : (0 : Int) ≤ q.a := by omega
                  have hk6 : q.a < (k : Int) := by omega
                  clear HGo HFail hgF hrow hs1 hs2 hsc hcT hcF hst hcr hbe g1 g2 g3 hof hk34
                  generalize x.size = xs at *
                  generalize y.size = ys at *
                  obtain ⟨W9, hW9⟩ : ∃ W, W = wc := ⟨_, rfl⟩
                  subst hW9
                  go_upto_region 18 with fail
                  go_cut [7] (fun c wx => c = .int .i64 (1 + ((xs : Int) + (ys : Int))) ∧ Below W9.heap.size W9 wx)
                  case first =>
                    go_quiet (fail)
                    go_wp2
                    go_meet
                    exact ⟨rfl, below_drewN (Below.refl _ _) _⟩
                  case rest =>
                    obtain ⟨rfl, hB9⟩ := hcut
                    have hB8 := hB3.trans (hB9.mono hB3.size)
                    obtain ⟨⟨p1, p2, p3⟩, p4⟩ := HG1.out wc hB8
                    have P3 : Hid _ := p3
                    have P4 : Hid _ := p4
                    clear p3 p4 HG1
                    go_wp2_with (at_builtin; refine wpList_append_own _ rfl _ _ 42 rfl (w.heap.size + 1) 3 i0 _ 1 8 Tryd.underlying42 hi hz0 hz1 hz2 rfl (by decide) _ _ _ rfl p1 ⟨wc.heap.size, 0, none⟩ 1 1 [.int .i64 (1 + ((xs : Int) + (ys : Int)))] rfl rfl P3.out (by simp [Value.oneCell']) (by unfold maxLen; omega) (by omega) p2 ?_; intro v' w2 hown hgr hnil'; have HY : Hid _ := P4.out v' w2 hown hgr; clear hown hgr hnil')
                    go_roundw
                    case rel => exact HY.out
                    case measure => simp [intOf]; omega
          | false =>
            have d4 : (q.k == 4) = true := by
              have : ¬ q.k = 3 := by simpa using d3
              simp; omega
            go_upto_region 16 with fail
            go_cut [128] (fun c wx => C16 W8 ts k q c wx)
            case first =>
              as_aux_lemma =>
                by_cases hk2 : k < 2
                · have hk2i : decide ((k : Int) < 2) = true := by simp; omega
                  have hst : stepT ts k q = none := two_short hk34 hbe hs1 hk2
                  have HD : Hid (stepT ts k q = none) := hst
                  clear hst HGo HFail hgF hrow hs1 hs2 hsc hbe
                  go_quiet (fail)
                  go_wp2
                  go_meet
                  exact ⟨_, rfl, fun _ => HD.out, fun h => (by cases h), below_drewN (Below.refl _ _) _⟩
                have hk2i : decide ((k : Int) < 2) = false := by simp; omega
                obtain ⟨x, r, rfl⟩ : ∃ x r, ts = x :: r := by
                  cases ts with
                  | nil => exact absurd (show 0 = k from hs1) (by omega)
                  | cons x r => exact ⟨x, r, rfl⟩
                obtain ⟨gb, ea, hgl, _, hcr, _⟩ := row_cell hrow (by omega)
                subst ea
                have dz := hcr (k - 1) _ (ints_get g (by omega))
                rw [hgF _ _ (ofF_top' x r hs1)] at dz
                have dz3 := dz
                rw [← hB.cell (p := ⟨gb, _, none⟩) hgl] at dz3
                have hk5 : ((k : Int) - 1).toNat = k - 1 := by omega
                have hk3 : (0 : Int) ≤ (k : Int) - 1 := by omega
                have hk4 : (k : Int) - 1 < (k : Int) := by omega
                clear hcr dz
                by_cases hb1 : q.b = (k : Int) - 1
                · have hb2 : (q.b != (k : Int) - 1) = false := by simp [hb1]
                  by_cases hs3 : (x.size : Int) ≥ k
                  · have hs4 : decide ((x.size : Int) ≥ (k : Int)) = true := by simpa using hs3
                    have hst : stepT (x :: r) k q = none := two_no hk34 hbe hs1 (.inl hs3)
                    have HD : Hid (stepT (x :: r) k q = none) := hst
                    clear hb1
                    clear hst HGo HFail hgF hrow hs1 hs2 hsc hbe
                    go_quiet (fail)
                    go_wp2
                    go_meet
                    exact ⟨_, rfl, fun _ => HD.out, fun h => (by cases h), below_drewN (Below.refl _ _) _⟩
                  have hs4 : decide ((x.size : Int) ≥ (k : Int)) = false := by simpa using hs3
                  by_cases ha : q.a = (k : Int) - 1 - x.size
                  · have ha2 : (q.a != (k : Int) - 1 - x.size) = false := by simp [ha]
                    have HD : Hid (∃ y r', x :: r = y :: r' ∧ (y.size : Int) < k ∧ q.b = (k : Int) - 1 ∧ q.a = (k : Int) - 1 - y.size) := ⟨x, r, rfl, by omega, hb1, ha⟩
                    clear HGo HFail hgF hrow hs1 hs2 hsc hbe hb1 ha
                    go_quiet (fail)
                    go_wp2
                    go_meet
                    exact ⟨_, rfl, fun h => (by cases h), fun _ => HD.out, below_drewN (Below.refl _ _) _⟩
                  · have ha2 : (q.a != (k : Int) - 1 - x.size) = true := by simp [ha]
                    have hst : stepT (x :: r) k q = none := two_no hk34 hbe hs1 (.inr (.inr ha))
                    have HD : Hid (stepT (x :: r) k q = none) := hst
                    clear hb1 ha
                    clear hst HGo HFail hgF hrow hs1 hs2 hsc hbe
                    go_quiet (fail)
                    go_wp2
                    go_meet
                    exact ⟨_, rfl, fun _ => HD.out, fun h => (by cases h), below_drewN (Below.refl _ _) _⟩
                · have hb2 : (q.b != (k : Int) - 1) = true := by simp [hb1]
                  have hst : stepT (x :: r) k q = none := two_no hk34 hbe hs1 (.inr (.inl hb1))
                  have HD : Hid (stepT (x :: r) k q = none) := hst
                  clear hb1
                  clear hst HGo HFail hgF hrow hs1 hs2 hsc hbe
                  go_quiet (fail)
                  go_wp2
                  go_meet
                  exact ⟨_, rfl, fun _ => HD.out, fun h => (by cases h), below_drewN (Below.refl _ _) _⟩
            case rest =>
              as_aux_lemma =>
                obtain ⟨b, rfl, hcT, hcF, hB2⟩ := hcut
                have hB3 : Below wr.heap.size wr wc := hB.trans (hB2.mono hB.size)
                obtain ⟨⟨e0, e1, e2, e3, e4, e5, e6, e7, e8, e9⟩, _⟩ := (hkN.below hB2).ten
                have dk0d := (hk0c.below hB2).cell 0 rfl
                clear f0 f1 f2 f3 f4 f5 f6 f7 f8 f9 dk0c
                cases b with
                | true =>
                  have HX : Hid _ := HFail.out (hcT rfl)
                  clear HGo HFail hgF hrow hs1 hs2 hsc hcT hcF
                  go_wp2
                  go_ret2
                  exact HX.out _ _ hB3
                | false =>
                  obtain ⟨x, r, rfl, g1, g2, g3⟩ := hcF rfl
                  obtain ⟨y, r, rfl, hst, hof⟩ := two_yes hk34 hbe hs1 (by omega) g2 g3
                  have sx := x.size_pos
                  have sy := y.size_pos
                  have hsx : x.size + y.size ≤ k := by rw [sizeF_cons, sizeF_cons] at hs1; omega
                  have HG1 : Hid _ := HGo.out (1 + ((x.size : Int) + (y.size : Int))) _ _ hst (by simp only [Tre.size]; omega)
                  obtain ⟨gb, ea, hgl, _, hcr, _⟩ := row_cell hrow (by omega)
                  subst ea
                  have dz := hcr (k - 1) _ (ints_get g (by omega))
                  rw [hgF _ _ (ofF_top' x (y :: r) hs1)] at dz
                  have dy := hcr (k - 1 - x.size) _ (ints_get g (by omega))
                  rw [hgF _ _ hof, show k - 1 - x.size = q.a.toNat by omega] at dy
                  rw [← hB3.cell (p := ⟨gb, _, none⟩) hgl] at dz dy
                  have hk2 : ((k : Int) - 1).toNat = k - 1 := by omega
                  have hk3 : (0 : Int) ≤ (k : Int) - 1 := by omega
                  have hk4 : (k : Int) - 1 < (k : Int) := by omega
                  have hk5 : (0 : Int) ≤ q.a := by omega
                  have hk6 : q.a < (k : Int) := by omega
                  clear HGo HFail hgF hrow hs1 hs2 hsc hcT hcF hst hcr hbe g1 g2 g3 hof hk34
                  generalize x.size = xs at *
                  generalize y.size = ys at *
                  obtain ⟨W9, hW9⟩ : ∃ W, W = wc := ⟨_, rfl⟩
                  subst hW9
                  go_upto_region 18 with fail
                  go_cut [7] (fun c wx => c = .int .i64 (1 + ((xs : Int) + (ys : Int))) ∧ Below W9.heap.size W9 wx)
                  case first =>
                    go_quiet (fail)
                    go_wp2
                    go_meet
                    exact ⟨rfl, below_drewN (Below.refl _ _) _⟩
                  case rest =>
                    obtain ⟨rfl, hB9⟩ := hcut
                    have hB8 := hB3.trans (hB9.mono hB3.size)
                    obtain ⟨⟨p1, p2, p3⟩, p4⟩ := HG1.out wc hB8
                    have P3 : Hid _ := p3
                    have P4 : Hid _ := p4
                    clear p3 p4 HG1
                    go_wp2_with (at_builtin; refine wpList_append_own _ rfl _ _ 42 rfl (w.heap.size + 1) 3 i0 _ 1 8 Tryd.underlying42 hi hz0 hz1 hz2 rfl (by decide) _ _ _ rfl p1 ⟨wc.heap.size, 0, none⟩ 1 1 [.int .i64 (1 + ((xs : Int) + (ys : Int)))] rfl rfl P3.out (by simp [Value.oneCell']) (by unfold maxLen; omega) (by omega) p2 ?_; intro v' w2 hown hgr hnil'; have HY : Hid _ := P4.out v' w2 hown hgr; clear hown hgr hnil')
                    go_roundw
                    case rel => exact HY.out
                    case measure => simp [intOf]; omega
    · as_aux_lemma =>
        obtain rfl : k = n := by omega
        obtain ⟨hs1, hs2, hs3⟩ := scanT_inv hsc
        have hki : ¬ (k : Int) < (k : Int) := by omega
        obtain ⟨x, r, rfl⟩ : ∃ x r, ts = x :: r := by
          cases ts with
          | nil => exact absurd (show 0 = k from hs1) (by omega)
          | cons x r => exact ⟨x, r, rfl⟩
        have hgx := hgF _ _ (ofF_top' x r hs1)
        have ht : treeOf F k = if r = [] then some x else none := by
          unfold treeOf
          rw [if_neg (by omega), hsc]
          cases r with
          | nil => rfl
          | cons y r => rfl
        have hd : (g (k - 1) == (k : Int)) = (treeOf F k).isSome := by
          rw [ht, hgx]
          rw [sizeF_cons] at hs1
          cases r with
          | nil =>
            simp [sizeF, ofF] at hs1
            simp [hs1]
          | cons y r =>
            rw [sizeF_cons] at hs1
            have := y.size_pos
            simp
            omega
        have HR : Hid (∀ W, Below wr.heap.size wr W → RetSz w F k (.returned (.tuple #[.slice av k cv, .bool (treeOf F k).isSome])) W) := by
          intro W hW
          refine ⟨⟨_, rfl, fun t h => ⟨av, cv, rfl, ?_⟩⟩, hb.trans (hW.mono hb.size)⟩
          rw [ht] at h
          split at h
          · rename_i hr0
            subst hr0
            obtain rfl := Option.some.inj h
            have e : ints (szF x) k = ints g k := by
              apply ints_congr
              intro i hik
              have hl : i < x.subs.length := by rw [Tre.subs_length]; rw [sizeF_cons] at hs1; simp [sizeF, ofF] at hs1; omega
              have h1 : x.subs[i]? = some x.subs[i] := List.getElem?_eq_getElem hl
              have h2 := hgF i x.subs[i] (by simp [ofF])
              rw [h2]
              simp [szF, h1]
            rw [e]
            exact row_mono (ownsRow_below hrow hW) (by omega)
          · cases h
        obtain ⟨gb, rfl, hgl, _, hcr, _⟩ := row_cell hrow (by omega)
        have d0 := hcr (k - 1) _ (ints_get _ (by omega))
        rw [← hd] at HR
        have hk1 : ((k : Int) - 1).toNat = k - 1 := by omega
        have hk2 : (0 : Int) ≤ (k : Int) - 1 := by omega
        have hk3 : (k : Int) - 1 < (k : Int) := by omega
        clear hrow hcr hgF hsc hs1 hs2 hs3 hgx ht hd hlt hr
        generalize g (k - 1) = y at *
        go_wp2
        go_quiet (fail)
        go_wp2
        go_ret2
        exact HR.out _ (below_drewN (Below.refl _ _) _)
end Go.Proofs.YthbmfnibgjlkhaaDoor
