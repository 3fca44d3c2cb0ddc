/- RingJoins: the walk, of a ring that may be. -/
import Derived.Test.YtehlmjjdegmnaaaJp
namespace Go.Proofs.Ytehlmjjdegmnaaa
open Go.RowKit Go.Shelf
set_option maxRecDepth 100000 in
set_option maxHeartbeats 8000000 in
theorem joins_yes {a b c d a' b' c' d' lo' hi' : Nat} {lo hi m : Int} {P Q : Nat → Bool} (w : World) (xo : Option Addr) (xl xc : Nat) (ao : Option Addr) (n cap : Nat) (t : Nat → Nat) (er : Int)
    (HS : ∀ w, Calls Try.prog 25 #[rgV a b c d lo hi] w fun e w' => e = .returned (rgV a' b' c' d' lo' hi') ∧ Below w.heap.size w w') (hP : C4 P a' b' c' d') (hhi : hi' ≤ 1000)
    (HC : ∀ w, Calls Try.prog 10 #[rgV a b c d lo hi] w fun e w' => e = .returned (.int .i64 er) ∧ Below w.heap.size w w') (her : er = 0 ∧ hi = hi')
    (hx : Sta w (.agg #[.int .i64 m, .slice xo xl xc]) (hi' + 1) Q) (ht : RdB w ao n t) (hnc : n ≤ cap) (hn : (n : Int) ≤ 9223372036854775807) :
    Calls Try.prog 5 #[rgV a b c d lo hi, .agg #[.int .i64 m, .slice xo xl xc], .slice ao n cap] w fun e w' => e = .returned (.bool true) ∧ Below w.heap.size w w' := by
  have HER := Hid.mk' her
  clear her
  have hcast : ((hi' + 1 : Nat) : Int) = (hi' : Int) + 1 := by omega
  obtain ⟨k, hk⟩ : ∃ k, n / 2 = k := ⟨_, rfl⟩
  have hkn : k ≤ n := by omega
  have hT : TJ w a b c d lo hi m xo xl xc (hi' + 1) Q ao n t ((w.alloc (.cells #[.int .u64 (a : Nat), .int .u64 (b : Nat), .int .u64 (c : Nat), .int .u64 (d : Nat), .int .i64 lo, .int .i64 hi] 26)).alloc (.cells #[.int .i64 m, .slice xo xl xc] 39)) := by
    have hB := below_two w (.cells #[.int .u64 (a : Nat), .int .u64 (b : Nat), .int .u64 (c : Nat), .int .u64 (d : Nat), .int .i64 lo, .int .i64 hi] 26) (.cells #[.int .i64 m, .slice xo xl xc] 39)
    exact ⟨(RgAt.new w a b c d lo hi).below ((Below.refl _ _).alloc (Nat.le_refl _) _), Box.new1 w _ _ _, hx.below hB, ht.below hB, hB⟩
  have hsl1 := slice_to ao n cap k (by omega)
  have hsl2 := slice_from ao n cap k hkn
  have HRun1 : ∀ W, TJ w a b c d lo hi m xo xl xc (hi' + 1) Q ao n t W → Calls Try.prog 13 #[.agg #[.int .u64 (a : Nat), .int .u64 (b : Nat), .int .u64 (c : Nat), .int .u64 (d : Nat), .int .i64 lo, .int .i64 hi], .agg #[.int .i64 m, .slice xo xl xc], .slice ao k cap] W (RetFr W (hi' + 1) (rP P t k (hi' + 1) Q)) :=
    fun W h => run_any W ao k cap t HS hP hhi h.st (h.tx.upto k hkn) (by omega)
  have HRun3 : ∀ W, TJ w a b c d lo hi m xo xl xc (hi' + 1) Q ao n t W → Calls Try.prog 13 #[.agg #[.int .u64 (a : Nat), .int .u64 (b : Nat), .int .u64 (c : Nat), .int .u64 (d : Nat), .int .i64 lo, .int .i64 hi], .agg #[.int .i64 m, .slice xo xl xc], .slice ao n cap] W (RetFr W (hi' + 1) (rP P t n (hi' + 1) Q)) :=
    fun W h => run_any W ao n cap t HS hP hhi h.st h.tx hn
  generalize hy : (if cap = k then ao else ao.map (·.add k)) = yo at *
  have HRun2 : ∀ W yao yl yc, TJ w a b c d lo hi m xo xl xc (hi' + 1) Q ao n t W → Sta W (.agg #[.int .i64 ((hi' : Int) + 1), .slice yao yl yc]) (hi' + 1) (rP P t k (hi' + 1) Q) → Calls Try.prog 13 #[.agg #[.int .u64 (a : Nat), .int .u64 (b : Nat), .int .u64 (c : Nat), .int .u64 (d : Nat), .int .i64 lo, .int .i64 hi], .agg #[.int .i64 ((hi' : Int) + 1), .slice yao yl yc], .slice yo (n - k) (cap - k)] W (RetFr W (hi' + 1) (rP P t n (hi' + 1) Q)) := by
    intro W yao yl yc h hs
    have hta := h.tx.after hnc k hkn
    rw [hy] at hta
    refine (run_any W yo (n - k) (cap - k) (fun i => t (k + i)) HS hP hhi hs hta (by omega)).mono ?_
    intro e w' h
    refine h.congr fun i => ?_
    rw [rP_two, show k + (n - k) = n by omega]
  have HTr : ∀ W yao yl yc, Sta W (.agg #[.int .i64 ((hi' : Int) + 1), .slice yao yl yc]) (hi' + 1) (rP P t n (hi' + 1) Q) → Calls Try.prog 14 #[.agg #[.int .u64 (a : Nat), .int .u64 (b : Nat), .int .u64 (c : Nat), .int .u64 (d : Nat), .int .i64 lo, .int .i64 hi], .agg #[.int .i64 ((hi' : Int) + 1), .slice yao yl yc]] W (RetFr W (hi' + 1) fun i => rP P t n (hi' + 1) Q i || decide ((i : Int) = 0 ∧ i < hi' + 1)) :=
    fun W yao yl yc h => trigger_any W HS hhi h
  have HC' : ∀ w, Calls Try.prog 10 #[.agg #[.int .u64 (a : Nat), .int .u64 (b : Nat), .int .u64 (c : Nat), .int .u64 (d : Nat), .int .i64 lo, .int .i64 hi]] w fun e w' => e = .returned (.int .i64 er) ∧ Below w.heap.size w w' := HC
  have HX : Hid (Sta w (.agg #[.int .i64 m, .slice xo xl xc]) (hi' + 1) Q) := hx
  have HT : Hid (RdB w ao n t) := ht
  clear HS HC hx ht hy
  have hk2 : (n : Int).tdiv 2 = (k : Nat) := by rw [Int.tdiv_eq_ediv_of_nonneg (by omega)]; omega
  have hk3 : (n : Int) / 2 = (k : Nat) := by omega
  unfold rgV
  go_enter Try.func5, Try.ntmps5
  go_wp2_with (go_at_call 6; refine (live_any _).mono ?_; rintro e w1 ⟨rfl, hb1⟩; replace hT := hT.next hb1; clear hb1)
  have hw1 : w.heap.size + 2 ≤ w1.heap.size := hT.bs.lt
  go_cut [8] from 16 (fun v wx => JA w a b c d lo hi m xo xl xc hi' Q (rP P t n (hi' + 1) Q) ao n t v wx)
  case first =>
    replace hT := hT.next (Below.refl _ w1).drew
    go_region_held3 (fun w' => (w'.cell? ⟨w.heap.size, 0, none⟩ = some (.int .u64 (a : Nat)) ∧ w'.cell? ⟨w.heap.size, 1, none⟩ = some (.int .u64 (b : Nat)) ∧ w'.cell? ⟨w.heap.size, 2, none⟩ = some (.int .u64 (c : Nat)) ∧ w'.cell? ⟨w.heap.size, 3, none⟩ = some (.int .u64 (d : Nat)) ∧ w'.cell? ⟨w.heap.size, 4, none⟩ = some (.int .i64 lo) ∧ w'.cell? ⟨w.heap.size, 5, none⟩ = some (.int .i64 hi)) ∧ w'.cell? ⟨w.heap.size + 1, 0, none⟩ = some (.int .i64 m) ∧ w'.cell? ⟨w.heap.size + 1, 1, none⟩ = some (.slice xo xl xc))
      (first | exact ⟨hT.rg.cells.1, hT.bs.cells.1, hT.bs.cells.2.1⟩ | exact ⟨(hT.put2 HX.out HT.out hw2 _ _).rg.cells.1, (hT.put2 HX.out HT.out hw2 _ _).bs.cells.1, (hT.put2 HX.out HT.out hw2 _ _).bs.cells.2.1⟩ | exact ⟨(hT.put2 HX.out HT.out hw1 _ _).rg.cells.1, (hT.put2 HX.out HT.out hw1 _ _).bs.cells.1, (hT.put2 HX.out HT.out hw1 _ _).bs.cells.2.1⟩ | exact ⟨(hT.next ((Below.refl _ _).alloc (Nat.le_refl _) _)).rg.cells.1, (hT.next ((Below.refl _ _).alloc (Nat.le_refl _) _)).bs.cells.1, (hT.next ((Below.refl _ _).alloc (Nat.le_refl _) _)).bs.cells.2.1⟩)
      (first
        | (go_at_call 13; (fail_if_success (have hx := hs1)); refine (HRun1 _ (by first | exact hT | exact hT.next ((Below.refl _ _).alloc (Nat.le_refl _) _))).mono ?_; intro e w2 h2; obtain ⟨yo1, yl1, yc1, he1, hs1, -, hb2⟩ := RetSt.sta (RetFr.st h2); rw [hcast] at he1 hs1; subst he1; replace hT := (show TJ w a b c d lo hi m xo xl xc (hi' + 1) Q ao n t _ by first | exact hT | exact hT.next ((Below.refl _ _).alloc (Nat.le_refl _) _)).next hb2; have hw2 : w.heap.size + 2 ≤ w2.heap.size := hT.bs.lt; clear h2; (try (have kb2 : Box w2 w1.heap.size (.int .i64 0) (.slice none 0 0) := Box.below (by exact Box.new _ _ _) hb2)))
        | (go_at_call 13; refine (HRun2 _ _ _ _ (by first | exact hT | exact hT.next ((Below.refl _ _).alloc (Nat.le_refl _) _)) (by first | exact hs1 | exact hs1.below ((Below.refl _ _).alloc (Nat.le_refl _) _))).mono ?_; intro e w3 h3; obtain ⟨yo2, yl2, yc2, f2, he2, hr2, hq2, hset2, hb3⟩ := h3; rw [hcast] at he2; subst he2; replace hT := (show TJ w a b c d lo hi m xo xl xc (hi' + 1) Q ao n t _ by first | exact hT | exact hT.next ((Below.refl _ _).alloc (Nat.le_refl _) _)).next hb3; (try (have kb3 := kb2.below hb3; obtain ⟨z0, z1, z2, z3⟩ := kb3.cells)); (try (have kb3 : Box w3 w2.heap.size (.int .i64 0) (.slice none 0 0) := Box.below (by exact Box.new _ _ _) hb3; obtain ⟨z0, z1, z2, z3⟩ := kb3.cells))))
    all_goals go_wp2_with fail
    all_goals go_meet
    all_goals first
      | exact ⟨_, yo2, yl2, yc2, rfl, Box.new w3 _ _, ⟨yo2, yl2, yc2, f2, rfl, hr2.alloc _, hset2⟩, hT.next ((Below.refl _ _).alloc (Nat.le_refl _) _), by have := hT.bs.lt; omega⟩
      | exact ⟨_, yo2, yl2, yc2, rfl, kb3.set _ _, setAt_set2 hr2 hset2 (fun q e => by have := hq2 q e; simp at this; omega), hT.put2 HX.out HT.out hw2 _ _, hw2⟩
      | exact ⟨_, yo2, yl2, yc2, rfl, kb3.set _ _, setAt_set2 hr2 hset2 (fun q e => by have := hq2 q e; have := kb2.lt; omega), hT.put2 HX.out HT.out hw1 _ _, hw1⟩
  case rest =>
    obtain ⟨pa, ya, la, ca, rfl, ba, hsa, hTa, hpa⟩ := hcut
    clear hT HRun1 HRun2 hsl1 hsl2 hk2 hk3
    obtain ⟨⟨g0, g1, g2, g3, g4, g5⟩, -⟩ := hTa.rg.cells
    obtain ⟨a0, a1, -, -⟩ := ba.cells
    have hsta : Sta wc (.agg #[.int .i64 ((hi' : Int) + 1), .slice ya la ca]) (hi' + 1) (rP P t n (hi' + 1) Q) := by
      obtain ⟨ya', la', ca', f', e, hr, hs⟩ := hsa
      exact ⟨_, _, _, _, f', e, hr, .inl ⟨hcast.symm ▸ rfl, hs⟩⟩
    have HCk : ∀ W yb lb cb fb, Rd W yb lb fb → IsSet (hi' + 1) lb fb (fun i => rP P t n (hi' + 1) Q i || decide ((i : Int) = 0 ∧ i < hi' + 1)) → Calls Try.prog 16 #[.agg #[.int .i64 ((hi' : Int) + 1), .slice yb lb cb]] W fun e w' => e = .returned (.int .i64 0) ∧ Below W.heap.size W w' := by
      intro W yb lb cb fb hr hs
      have hok := hs.ok
      rw [hcast] at hok
      refine (rcheck_any _ yb lb cb fb W hr).mono ?_
      rintro e w' ⟨⟨_, he⟩ | ⟨h, _⟩, hb⟩
      · exact ⟨he, hb⟩
      · exact absurd hok h
    have HHs : ∀ W yb lb cb fb, Rd W yb lb fb → IsSet (hi' + 1) lb fb (fun i => rP P t n (hi' + 1) Q i || decide ((i : Int) = 0 ∧ i < hi' + 1)) → Calls Try.prog 17 #[.agg #[.int .i64 ((hi' : Int) + 1), .slice yb lb cb], .int .i64 0] W fun e w' => e = .returned (.bool true) ∧ Below W.heap.size W w' := by
      intro W yb lb cb fb hr hs
      have := rhas_n 0 (SetAt.arg (w := W) (x := .agg #[.int .i64 ((hi' + 1 : Nat) : Int), .slice yb lb cb]) ⟨yb, lb, cb, fb, rfl, hr, hs⟩)
      have e : (rP P t n (hi' + 1) Q 0 || decide (((0 : Nat) : Int) = 0 ∧ 0 < hi' + 1)) = true := by simp
      rw [e, hcast] at this
      exact this
    obtain ⟨rfl, rfl⟩ := HER.out
    go_wp2_with (first
      | (go_at_call 14; refine (HTr _ _ _ _ hsta).mono ?_; intro e w5 h5; obtain ⟨yb, lb, cb, fb, heb, hrb, hqb, hsb, hb5⟩ := h5; rw [hcast] at heb; subst heb; have ba5 := ba.below hb5; have hT5 := hTa.next hb5; have hsa5 := hsa.below hb5; clear g0 g1 g2 g3 g4 g5 a0 a1; have hL := TL.next (⟨hT5.next ((Below.refl _ _).alloc (Nat.le_refl _) (.cells #[.int .i64 ((hi' : Int) + 1), .slice yb lb cb] 39)), ba5.alloc _, hsa5.below ((Below.refl _ _).alloc (Nat.le_refl _) _), Box.new w5 _ _, hrb.alloc _, hsb⟩ : TL w a b c d lo hi' m xo xl xc hi' Q (rP P t n (hi' + 1) Q) ao n t pa ya la ca w5.heap.size yb lb cb fb (fun i => rP P t n (hi' + 1) Q i || decide ((i : Int) = 0 ∧ i < hi' + 1)) (w5.alloc (.cells #[.int .i64 ((hi' : Int) + 1), .slice yb lb cb] 39))) (Below.refl _ _); obtain ⟨⟨g0, g1, g2, g3, g4, g5⟩, -⟩ := hL.tj.rg.cells)
      | (go_at_call 10; refine (HC' _).mono ?_; rintro e w6 ⟨rfl, hb6⟩; replace hL := hL.next hb6; clear g0 g1 g2 g3 g4 g5))
    obtain ⟨Nn, hNn⟩ : ∃ Nn : Int, (hi' : Int) + 1 = Nn := ⟨_, rfl⟩
    have HNn : Hid ((hi' : Int) + 1 = Nn) := hNn
    simp only [hNn] at HCk HHs
    have HCK := Hid.mk' HCk
    have HHS := Hid.mk' HHs
    have HRUN := Hid.mk' HRun3
    have HCAST := Hid.mk' hcast
    rw [hNn]
    obtain ⟨⟨g0, g1, g2, g3, g4, g5⟩, -⟩ := hL.tj.rg.cells
    obtain ⟨s0, s1, -, -⟩ := hL.tj.bs.cells
    obtain ⟨a0, a1, -, -⟩ := hL.ba.cells
    rw [hNn] at a0
    replace hL := hL.next (Below.refl _ _).drew
    have hwp : IntKind.i64.wrap Nn = Nn := wrapi64_in _ (by omega) (by omega)
    clear HCk HHs HRun3 hcast HTr HC' HX HT hpa hw1 hkn hnc hsta hTa hsa ba ba5 hT5 hsa5 hrb hqb hsb hb5 hb6 hP hk hhi hn
    go_region_with (first
      | (go_at_call 13; refine (HRUN.out _ hL.tj).mono ?_; intro e w7 h7; obtain ⟨yc, lc, cc, he7, -, hsc, hb7⟩ := RetSt.sta (RetFr.st h7); rw [HCAST.out, HNn.out] at he7 hsc; subst he7; replace hL := hL.next hb7; clear h7 hb7 g0 g1 g2 g3 g4 g5 s0 s1 a0 a1; obtain ⟨a0, a1, -, -⟩ := hL.ba.cells; rw [HNn.out] at a0)
      | (go_at_call 15; have hsa := hL.sa; rw [HNn.out] at hsa; refine (exact_same hsa hsc (fun _ => rfl)).mono ?_; rintro e w8 ⟨rfl, hb8⟩; replace hL := hL.next hb8; clear a0 a1 hb8 hsa; obtain ⟨b0, b1, -, -⟩ := hL.bb.cells; rw [HNn.out] at b0)
      | (go_at_call 16; refine (HCK.out _ _ _ _ _ hL.rb hL.sb).mono ?_; rintro e w9 ⟨rfl, hb9⟩; replace hL := hL.next hb9; clear b0 b1 hb9; obtain ⟨b0, b1, -, -⟩ := hL.bb.cells; rw [HNn.out] at b0)
      | (go_at_call 17; refine (HHS.out _ _ _ _ _ hL.rb hL.sb).mono ?_; rintro e wA ⟨rfl, hbA⟩; replace hL := hL.next hbA; clear hbA))
    all_goals go_wp2_with fail
    all_goals go_ret
    all_goals exact ⟨rfl, hL.tj.bel⟩
end Go.Proofs.Ytehlmjjdegmnaaa
