/- RingSteps: whatever ring, value of type Bits and bytes are handed in, the law's call returns true, without a panic, and its arguments read behind the call as before it. Condition: the table of math/bits starts as the program's text lays it (the card ties it). -/
import Derived.Test.YtehlmjjdegmnaaaDoorRows
import Derived.Test.YtehlmjjdegmnaaaDoorCards
import Derived.Test.YtehlmjjdegmnaaaDoorTie
import Derived.Test.YtehlmjjdegmnaaaDoorSd
import Derived.Test.YtehlmjjdegmnaaaDoorOe
import Derived.Test.YtehlmjjdegmnaaaDoorOpen
import Derived.LaidMore
import Derived.Lib.LaidTab
import Derived.Stop.Joined
import Derived.SevenTiedAt
namespace Go.Proofs.YtehlmjjdegmnaaaDoor
open Go.ChangeShapes Go.WideShapes Go.ChangeAt Go.RowKit Go.Joins Go.Deep

theorem gTab : Tryd.prog.globalNamed "math/bits.deBruijn64tab" = some 0 := by kernel_rfl
theorem tTab : (Tryd.prog.globals[0]?).map (·.type) = some 74 := by kernel_rfl
theorem door_met (os : Os) (args : Array Value) : laidMetH Tryd.prog [("math/bits.deBruijn64tab", Rows.laid_math_bits_deBruijn64tab)] ((World.doorLaid Tryd.prog 400 os).forCall (fun _ _ => 0) ⟨#[], args, []⟩).memory :=
  laidMetH_of_parts3 (fuel := 8) (laidMet_of_run' 8 (by kernel_rfl) (by kernel_rfl)) (by kernel_rfl) (by kernel_rfl)
theorem tab_of_laid {W : World} (h : laidMetH Tryd.prog [("math/bits.deBruijn64tab", Rows.laid_math_bits_deBruijn64tab)] W) : Tab W := by
  rw [MakeChecks.laidMetH_plain _ _ _ (by kernel_rfl)] at h
  have hT : Lib.TabIs Tryd.prog W "math/bits.deBruijn64tab" .u8 debr := Lib.tabIs_of_head gTab tTab Tryd.underlying74 Tryd.underlying5 (by kernel_rfl) (by kernel_rfl) h
  have hc : ∀ i, i < 64 → W.cell? ⟨0, i, none⟩ = some (.int .u8 (debr.getD i 0)) := fun i hi => hT.cell gTab i hi
  exact ⟨by have := cell_lt (hc 0 (by decide)); exact this, hc⟩
/-- A value of type Bits that came in. -/
theorem bits_read {H : Type} {enc : TypeId × Value → H} {W : World} {b0 : Nat} {v : Value} {d : DataW H} {p : List MemPlace} (hv : Value.okWide Tryd.prog W .any b0 29 v) (h : DataW.Trod enc Tryd.prog W 0 (fun _ => true) true 29 v d p) :
    ∃ (m : Int) (ao : Option Addr) (l c : Nat) (f : Nat → Nat), v = .agg #[.int .i64 m, .slice ao l c] ∧ Rd W ao l f := by
  obtain ⟨u0, u1, y0, y1, m, rfl, _, _, t0, t1⟩ := open_agg2 Tryd.underlying29 (by kernel_rfl) (by kernel_rfl) hv h
  obtain ⟨nn, e0, _, _⟩ := DataW.trod_int Tryd.underlying3 t0
  simp at e0
  subst e0
  obtain ⟨ao, l, c, f, rfl, hr, _⟩ := rd_of t1
  exact ⟨nn, ao, l, c, f, rfl, hr⟩
/-- RingSteps. -/
theorem ringSteps_walk {a b c d : Nat} {lo hi m : Int} {P : Nat → Bool} (w : World) (xo : Option Addr) (xl xc : Nat) (f : Nat → Nat) (ao : Option Addr) (n cap : Nat) (t : Nat → Nat) (hT : Tab w) (hP : C4 P a b c d) (hrx : Rd w xo xl f) (ht : RdB w ao n t) (hn : (n : Int) ≤ 9223372036854775807) :
    Calls Tryd.prog 3 #[rgV a b c d lo hi, .agg #[.int .i64 m, .slice xo xl xc], .slice ao n cap] w fun e w' => e = .returned (.bool true) ∧ Below w.heap.size w w' := by
  have hout : ∀ (N : Nat) (Q : Nat → Bool), Sta w (.agg #[.int .i64 m, .slice xo xl xc]) N Q → ∀ i, N ≤ i → Q i = false := by
    intro N Q h i hi
    obtain ⟨_, _, _, _, _, _, _, ⟨_, hs⟩ | ⟨_, rfl⟩⟩ := h
    · exact hs.hout i hi
    · rfl
  cases h : okR lo hi with
  | true =>
    obtain ⟨lo', hi', rfl, rfl, h1⟩ : ∃ lo' hi' : Nat, lo = lo' ∧ hi = hi' ∧ hi' ≤ 1000 := by
      unfold okR at h
      simp only [Bool.and_eq_true, decide_eq_true_eq] at h
      obtain ⟨⟨⟨h1, h2⟩, h3⟩, h4⟩ := h
      exact ⟨lo.toNat, hi.toNat, by omega, by omega, by omega⟩
    obtain ⟨Q, hQ⟩ := sta_of (m := m) (cap := xc) (hi' + 1) hrx
    exact steps_given w xo xl xc ao n cap t hT (fun w => sound_yes w h) (fun w => may_yes w h) hP h1 hQ (hout _ _ hQ) ht hn
  | false =>
    obtain ⟨Q, hQ⟩ := sta_of (m := m) (cap := xc) (1 + 1) hrx
    exact steps_given (a' := 0) (b' := 0) (c' := 0) (d' := 0) (lo' := 0) (hi' := 1) w xo xl xc ao n cap t hT (fun w => sound_no w h) (fun w => may_no w h) c4_none (by decide) hQ (hout _ _ hQ) ht hn
set_option maxRecDepth 100000 in
theorem ringSteps_lifted (os : Os) (started : os.Started) (H : Type) (enc : TypeId × Value → H) :
    ReturnsInHanded {} Tryd.checked os 3 .any (fun w args => (Rows.ringStepsSpec.pre enc Tryd.prog Tryd.f3 [] false w args ∧ laidMetH Tryd.prog [("math/bits.deBruijn64tab", Rows.laid_math_bits_deBruijn64tab)] w) ∧ sizedMet enc Tryd.prog Tryd.f3 (OpenSpec.ofChange Rows.ringStepsSpec) false w args)
      (Rows.ringStepsSpec.post enc Tryd.prog Tryd.f3 false true false false) := by
  refine returnsInHanded_of_change_and (C := Tryd.checked) (X := fun w _ => laidMetH Tryd.prog [("math/bits.deBruijn64tab", Rows.laid_math_bits_deBruijn64tab)] w) (fun _ _ _ hh h => h.of_heap hh) Tryd.own started (by kernel_rfl) Tryd.func3
    (ChangeSpec.witness_shaped (enc := enc) (C := Tryd.checked) (os := os) (X := fun w _ => laidMetH Tryd.prog [("math/bits.deBruijn64tab", Rows.laid_math_bits_deBruijn64tab)] w) false (World.doorLaid Tryd.prog 400 os) #[.agg #[.int .u64 0, .int .u64 0, .int .u64 0, .int .u64 0, .int .i64 0, .int .i64 0], .agg #[.int .i64 0, .slice none 0 0], .slice none 0 0] 8 rfl (World.shaped_of_RefB (by kernel_rfl) (by kernel_rfl)) (by kernel_rfl) (by kernel_rfl) (by kernel_rfl) (door_met os _)) ?_
  intro W base args ds gs before hval0 hW _ _ hL _
  have hval : ∀ (j : Nat) t v, Tryd.f3.params[j]? = some t → args[j]? = some v → Value.okWide Tryd.prog W .any base t v := hval0
  have hW' := hW
  obtain ⟨p, q, hA0, hV, rfl, hfz, hnd⟩ := hW
  have hA : DataW.TrodAll enc Tryd.prog W 0 (fun _ => true) true Tryd.f3.params.toList args.toList ds p := hA0
  rw [Tryd.params3] at hA hval
  obtain ⟨v0, vs0, d0, ds0, p0, q0, hargs, rfl, rfl, h0, r0⟩ := trodAll_cons hA
  obtain ⟨v1, vs1, d1, ds1, p1, q1, rfl, rfl, rfl, h1, r1⟩ := trodAll_cons r0
  obtain ⟨v2, vs2, d2, ds2, p2, q2, rfl, rfl, rfl, h2, r2⟩ := trodAll_cons r1
  obtain ⟨rfl, rfl, rfl⟩ := trodAll_nil r2
  obtain rfl : args = #[v0, v1, v2] := by cases args; simp_all
  obtain ⟨rfl, rfl⟩ := trodVars_none hV
  have k0 := h0
  have k1 := h1
  have k2 := h2
  have lt0 : ∀ x ∈ p0, x.block < W.heap.size := by obtain ⟨m, hm⟩ := k0; exact DataW.trod_lt m _ _ _ hm
  have lt1 : ∀ x ∈ p1, x.block < W.heap.size := by obtain ⟨m, hm⟩ := k1; exact DataW.trod_lt m _ _ _ hm
  have lt2 : ∀ x ∈ p2, x.block < W.heap.size := by obtain ⟨m, hm⟩ := k2; exact DataW.trod_lt m _ _ _ hm
  obtain ⟨a, b, c, d, lo, hi, rfl, P, hP⟩ := ring_of (hval 0 26 v0 rfl rfl) h0
  obtain ⟨m1, a1, l1, c1, f1, rfl, hr1⟩ := bits_read (hval 1 29 v1 rfl rfl) h1
  obtain ⟨a2, l2, c2, rfl⟩ := okWide_slice Tryd.underlying30 (hval 2 30 v2 rfl rfl)
  obtain ⟨m2, hm2⟩ := h2
  obtain ⟨ao, n, cap, f, e2, hr, hnc, hn, hnil⟩ := rdB_of (v := .slice a2 l2 c2) (by simpa [Value.cells] using hm2)
  obtain ⟨rfl, rfl, rfl⟩ : a2 = ao ∧ l2 = n ∧ c2 = cap := by simpa using e2
  have hTab := tab_of_laid hL
  clear hA0 hval0
  refine (ringSteps_walk W a1 l1 c1 f1 a2 l2 c2 f hTab hP hr1 hr hn).mono fun e W' ⟨he, bel⟩ => ?_
  subst he
  exact ⟨_, rfl, _, _, _, [], _, [], hW', trodAll_mk1 (shut_bool Tryd.underlying4 _), (trodAll_cons_mk (Below.trod Tryd.laidOut (by kernel_rfl) (of_decide_eq_true (by kernel_rfl)) k0 bel lt0) (trodAll_cons_mk (Below.trod Tryd.laidOut (by kernel_rfl) (of_decide_eq_true (by kernel_rfl)) k1 bel lt1) (trodAll_cons_mk (Below.trod Tryd.laidOut (by kernel_rfl) (of_decide_eq_true (by kernel_rfl)) k2 bel lt2) trodAll_mk0))), rfl, bel.frame _, fun h => by cases h⟩

theorem ringSteps_said : Rows.RingStepsSaid :=
  OpenClaim.holds_of_wide 3 Tryd.f3 rfl rfl rfl rfl rfl rfl rfl ⟨rfl, rfl, rfl, rfl, rfl⟩ rfl rfl rfl rfl rfl (by kernel_rfl) Tryd.func3 (by kernel_rfl)
    (of_decide_eq_true (by kernel_rfl)) (by unfold Func.isWrapper; first | (rw [if_pos (by decide +kernel)]; kernel_rfl) | (rw [if_neg (by decide +kernel)]; exact ⟨rfl, rfl⟩))
    (fun os started H enc _ => ringSteps_lifted os started H enc)
theorem ringSteps_holds : Rows.RingStepsCardSaid :=
  Claim7.holds_tied_plain_at .later [] [.data] true (true, "e3e270658764b50155ceb08af9a12ea4a5ed7b0c75a37ef082371a65db399005") false
    ringSteps_said (fun _ h => by cases h) (by kernel_rfl) (fun _ h => by cases h) ringSteps_row_tie rfl ⟨rfl, rfl⟩ (by kernel_rfl) rfl
    (fun f fn hf hfn => by
      obtain rfl : f = 3 := Option.some.inj ((show Tryd.prog.funcNamed "riddle/riddlelaw13.RingSteps" = some 3 by kernel_rfl).symm.trans hf) |>.symm
      obtain rfl : fn = Tryd.f3 := (Option.some.inj (Tryd.func3.symm.trans hfn)).symm
      exact ⟨by kernel_rfl, fun j t ht => by
        rw [Tryd.params3] at ht
        have h3 : t = 26 ∨ t = 29 ∨ t = 30 := by
          rcases j with _ | _ | _ | j
          · exact .inl (by simpa using ht.symm)
          · exact .inr (.inl (by simpa using ht.symm))
          · exact .inr (.inr (by simpa using ht.symm))
          · simp at ht
        rcases h3 with rfl | rfl | rfl
        · exact (show Tryd.prog.wantsStandIn 26 = false by kernel_rfl)
        · exact (show Tryd.prog.wantsStandIn 29 = false by kernel_rfl)
        · exact (show Tryd.prog.wantsStandIn 30 = false by kernel_rfl)⟩)
    (by kernel_rfl)
#print axioms ringSteps_holds
end Go.Proofs.YtehlmjjdegmnaaaDoor
