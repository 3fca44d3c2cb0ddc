/- RingIs: the walk. -/
import Derived.Test.YtehlmjjdegmnaaaLv
import Derived.Deep.CutRange
import Derived.Deep.CutBlock
namespace Go.Proofs.Ytehlmjjdegmnaaa
open Go.RowKit Go.Shelf
theorem slice_hi (ao : Option Addr) (n cap x : Nat) (hx : x ≤ cap) (w : World) : (Instr.slice 28 (.slice ao n cap) none (some (.int .i64 (x : Nat))) none).run Try.prog w = .ok (.slice ao x cap) w := by
  have hxn : (x : Int) ≤ (cap : Int) := by omega
  by_cases h : cap = 0
  · subst h
    obtain rfl : x = 0 := by omega
    simp [go_sem, Try.underlying28]
  · cases ao <;> simp [go_sem, Try.underlying28, hxn, h, Addr.add]
theorem RdB.short {w : World} {ao : Option Addr} {n : Nat} {f : Nat → Nat} (h : RdB w ao n f) (k : Nat) (hk : k ≤ n) : RdB w ao k f :=
  ⟨fun i hi => h.small i (by omega), fun h0 => by
    obtain ⟨b, off, e, hlt, hc⟩ := h.at_ (by omega)
    exact ⟨b, off, e, hlt, fun i hi => hc i (by omega)⟩⟩
theorem okR_parts {lo hi : Int} (h : okR lo hi = true) : ∃ lo' hi' : Nat, lo = lo' ∧ hi = hi' ∧ hi' ≤ 1000 ∧ lo' ≤ hi' := by
  unfold okR at h
  simp only [Bool.and_eq_true, decide_eq_true_eq] at h
  obtain ⟨⟨⟨h1, h2⟩, h3⟩, h4⟩ := h
  exact ⟨lo.toNat, hi.toNat, by omega, by omega, by omega, by omega⟩
set_option maxRecDepth 100000 in
set_option maxHeartbeats 4000000 in
theorem ringIs_yes {a b c d lo hi : Nat} {P : Nat → Bool} (w : World) (zo : Option Addr) (l lc : Nat) (z : Nat → Int) (ao : Option Addr) (n cap : Nat) (t : Nat → Nat) (hP : C4 P a b c d) (hok : okR lo hi = true) (hhi : hi ≤ 1000) (hlh : lo ≤ hi)
    (hz : RdI w zo l z) (hl : (l : Int) ≤ 9223372036854775807) (ht : RdB w ao n t) (hnc : n ≤ cap) (hn : (n : Int) ≤ 9223372036854775807) (hnil : (ao = none ∧ n = 0 ∧ cap = 0) ∨ ∃ a, ao = some a) :
    Calls Try.prog 4 #[rgV a b c d lo hi, .slice zo l lc, .slice ao n cap] w fun e w' => e = .returned (.bool true) ∧ Below w.heap.size w w' := by
  obtain ⟨n', hn'⟩ : ∃ n', min n 60 = n' := ⟨_, rfl⟩
  have hn6 : n' ≤ 60 := by omega
  have hnn : n' ≤ n := by omega
  have hmin : ∀ w, (Builtin.min_ #[3, 3] 3 #[.int .i64 ((n : Nat) : Int), .int .i64 60]).run Try.prog w = .ok (.int .i64 ((n' : Nat) : Int)) w := by
    intro w
    rw [run_min_int2]
    congr 2
    split <;> omega
  have hsl := slice_hi ao n cap n' (by omega)
  have ht' := ht.short n' hnn
  have hnil' : (ao = none ∧ n' = 0 ∧ cap = 0) ∨ ∃ a, ao = some a := by
    rcases hnil with ⟨h1, h2, h3⟩ | h
    · exact .inl ⟨h1, by omega, h3⟩
    · exact .inr h
  have HLV := live_any (w.alloc (.cells #[.int .u64 (a : Nat), .int .u64 (b : Nat), .int .u64 (c : Nat), .int .u64 (d : Nat), .int .i64 lo, .int .i64 hi] 26))
  have r0 := RgAt.new w a b c d lo hi
  have hB0 : Below w.heap.size w (w.alloc (.cells #[.int .u64 (a : Nat), .int .u64 (b : Nat), .int .u64 (c : Nat), .int .u64 (d : Nat), .int .i64 lo, .int .i64 hi] 26)) := (Below.refl _ _).alloc (Nat.le_refl _) _
  clear hn' ht hnil hnn
  unfold rgV
  go_enter Try.func4, Try.ntmps4
  go_wp2_with (first
    | (go_at_call 6; refine HLV.mono ?_; rintro e w1 ⟨rfl, hb1⟩; have hB1 := hB0.trans (hb1.mono (by simp)); have r1 := r0.below hb1; clear hb1 HLV r0 hB0; obtain ⟨⟨g0, g1, g2, g3, g4, g5⟩, -⟩ := r1.cells)
    | (go_at_call 10; refine (check_yes _ hok).mono ?_; rintro e w2 ⟨rfl, hb2⟩; have hB2 := hB1.trans (hb2.mono hB1.size); have r2 := r1.below hb2; clear hb2 r1 hB1 g0 g1 g2 g3 g4 g5; obtain ⟨⟨g0, g1, g2, g3, g4, g5⟩, -⟩ := r2.cells)
    | (go_at_call 8; refine (ends_any (P := P) _ zo l lc z ao n' cap t (fun w => sound_yes w hok) hP (by omega) hhi (hz.below hB2) hl (ht'.below hB2) (by omega) hnil').mono ?_; intro e w3 h3; obtain ⟨go, gc, rfl, hr3, hb3⟩ := RetInts.out h3; have hB3 := hB2.trans (hb3.mono hB2.size); have r3 := r2.below hb3; clear hb3 r2 hB2 h3 g0 g1 g2 g3 g4 g5; obtain ⟨⟨g0, g1, g2, g3, g4, g5⟩, -⟩ := r3.cells))
  obtain ⟨L, hL⟩ : ∃ L, come (accF P lo hi (among z l) t) (n' + 1) = L := ⟨_, rfl⟩
  have hmemL : ∀ k, k ≤ n' → among (fun i => ((L.getD i 0 : Nat) : Int)) L.length k = accF P lo hi (among z l) t k := by
    intro k hk
    rw [Bool.eq_iff_iff, among_list, ← hL]
    unfold come
    rw [List.mem_filter, List.mem_range]
    exact ⟨fun h => h.2, fun h => ⟨by omega, h⟩⟩
  have hLlen : (L.length : Int) ≤ 61 := by rw [← hL]; have := come_len (accF P lo hi (among z l) t) (n' + 1); omega
  rw [hL] at hr3
  rw [hL]
  clear hL
  have hz3 := hz.below hB3
  have ht3 := ht'.below hB3
  clear hz ht' hsl hmin
  go_loopw [29] (fun u wr => ∃ k : Nat, k ≤ n' + 1 ∧ u = .int .i64 k ∧ Below w3.heap.size w3 wr) (fun u _ => n' + 1 - (intOf u).toNat)
  case atStart => exact ⟨0, Nat.zero_le _, rfl, Below.refl _ _⟩
  case round =>
    obtain ⟨k, hk, rfl, hBr⟩ := hrel
    by_cases hlt : k < n' + 1
    · have hki : (k : Int) < (n' : Int) + 1 := by omega
      have hk60 : (k : Int) ≤ 60 := by omega
      obtain ⟨av, hav⟩ : ∃ av : Nat → Bool, ∀ m, av m = (decide (m ≤ k) && alB P t k m) := ⟨_, fun _ => rfl⟩
      have hav0 : av 0 = true := by rw [hav, decide_eq_true (p := 0 ≤ k) (by omega)]; rfl
      clear g0 g1 g2 g3 g4 g5
      go_wp2_with fail
      go_loopw [9, 10, 11] (fun vi va vx wr' => ∃ m : Nat, m ≤ k + 1 ∧ vi = .bool (dn P lo hi (among z l) t k m) ∧ va = .bool (av m) ∧ vx = .int .i64 ((k : Int) - m) ∧ (m = 0 ∨ alB P t k (m - 1) = true) ∧ Below w3.heap.size w3 wr') (fun _ _ vx _ => (intOf vx + 1).toNat)
      case atStart => exact ⟨0, Nat.zero_le _, rfl, by rw [hav0], by simp, .inl rfl, hBr⟩
      case round =>
        obtain ⟨m, hm, rfl, rfl, rfl, hpre, hBw⟩ := hrel
        by_cases hmk : m ≤ k
        · cases hal : alB P t k m with
          | false =>
            have hdn : dn P lo hi (among z l) t k m = accF P lo hi (among z l) t k := dn_end hm (.inr hal) hpre
            have hav1 : av m = false := by rw [hav, hal, Bool.and_false]
            have hA1 : (0 : Int) ≤ (k : Int) - m := by omega
            rw [hav1]
            generalize hD : dn P lo hi (among z l) t k m = D at *
            have HCg := contains_any go L.length gc k _ wr (hr3.below hBw) (by omega)
            rw [hmemL k (by omega), ← hdn] at HCg
            clear hdn hD
            go_wp2_with (go_at_call 11; refine HCg.mono ?_; rintro e w4 ⟨rfl, rfl⟩)
            go_roundw
            case rel => exact ⟨k + 1, by omega, by go_num, hBw⟩
            case measure => simp [intOf]; omega
          | true =>
            have hav1 : av m = true := by rw [hav, hal, decide_eq_true hmk]; rfl
            obtain ⟨q, hqk⟩ : ∃ q, k - m = q := ⟨_, rfl⟩
            have hq : (k : Int) - m = (q : Nat) := by omega
            have hkq : (k : Int) - (q : Nat) = (m : Nat) := by omega
            have hwm : IntKind.i64.wrap (m : Int) = m := wrapi64_in _ (by omega) (by omega)
            have r5 := r3.below hBw
            obtain ⟨⟨g0, g1, g2, g3, g4, g5⟩, -⟩ := r5.cells
            have HCt := contains_any zo l lc q z wr (hz3.below hBw) hl
            rw [hav1, hq]
            have HM : Hid (∀ k, k ≤ n' → among (fun i => ((L.getD i 0 : Nat) : Int)) L.length k = accF P lo hi (among z l) t k) := hmemL
            have HR3 : Hid (RdI w3 go L.length fun i => ((L.getD i 0 : Nat) : Int)) := hr3
            have HAV : Hid (∀ m, av m = (decide (m ≤ k) && alB P t k m)) := hav
            clear hmemL hr3 hav hav0 hpre
            go_upto_block 3 with fail
            go_cut [9, 10] from 33 to 73 (fun v v' wx => v = .bool (dn P lo hi (among z l) t k (m + 1)) ∧ v' = .bool (av (m + 1)) ∧ Below w3.heap.size w3 wx)
            case first =>
              go_upto_region 15 with fail
              go_cut [9] from 33 to 73 (fun v wx => v = .bool (dn P lo hi (among z l) t k (m + 1)) ∧ wx = wr)
              case first =>
                cases hd : dn P lo hi (among z l) t k m with
                | true =>
                  have HDV : Hid (dn P lo hi (among z l) t k (m + 1) = true) := by show _ = _; simp only [dn]; rw [hd]; rfl
                  go_wp2_with fail
                  go_meet
                  exact ⟨by rw [HDV.out], rfl⟩
                | false =>
                  by_cases h1 : lo ≤ m
                  · have h1' : (lo : Int) ≤ (m : Int) := by omega
                    by_cases h2 : m ≤ hi
                    · have h2' : (m : Int) ≤ (hi : Int) := by omega
                      have HDV : Hid (dn P lo hi (among z l) t k (m + 1) = among z l q) := by show _ = _; simp only [dn]; rw [hd, decide_eq_true h1, decide_eq_true h2, hqk]; rfl
                      go_wp2_with (go_at_call 11; refine HCt.mono ?_; rintro e w4 ⟨rfl, rfl⟩)
                      go_meet
                      exact ⟨by rw [HDV.out], rfl⟩
                    · have h2' : ¬ (m : Int) ≤ (hi : Int) := by omega
                      have HDV : Hid (dn P lo hi (among z l) t k (m + 1) = false) := by show _ = _; simp only [dn]; rw [hd, decide_eq_true h1, decide_eq_false h2]; rfl
                      go_wp2_with fail
                      go_meet
                      exact ⟨by rw [HDV.out], rfl⟩
                  · have h1' : ¬ (lo : Int) ≤ (m : Int) := by omega
                    have HDV : Hid (dn P lo hi (among z l) t k (m + 1) = false) := by show _ = _; simp only [dn]; rw [hd, decide_eq_false h1]; rfl
                    go_wp2_with fail
                    go_meet
                    exact ⟨by rw [HDV.out], rfl⟩
              case rest =>
                obtain ⟨rfl, rfl⟩ := hcut
                clear HCt
                go_wp2_with fail
                cases q with
                | zero =>
                  have HA' : Hid (av (m + 1) = false) := by show _ = _; rw [HAV.out, decide_eq_false (p := m + 1 ≤ k) (by omega)]; rfl
                  go_quiet (fail)
                  go_wp2_with fail
                  go_meet
                  exact ⟨rfl, by rw [HA'.out], hBw.trans ((below_drewN (Below.refl _ _) _).mono hBw.size)⟩
                | succ q' =>
                  have HA' : Hid (av (m + 1) = P (t q')) := by show _ = _; rw [HAV.out, decide_eq_true (p := m + 1 ≤ k) (by omega), Bool.true_and, alB, hal, Bool.true_and, show k - (m + 1) = q' by omega]
                  obtain ⟨b', off, hao, hbl, hct⟩ := (ht3.below hBw).at_ (by omega)
                  have t1 := hct q' (by omega)
                  have hxs := ht3.small q' (by omega)
                  subst hao
                  have HH := rhas_c hP (t q') wc.drew hxs
                  have hg1 : (0 : Int) < (q' : Int) + 1 := by omega
                  have hqn : (q' : Int) < (n' : Int) := by omega
                  have hwj : IntKind.i64.wrap (q' : Int) = q' := wrapi64_in _ (by omega) (by omega)
                  clear hct hq hkq hqk
                  go_region_with (go_at_call 12; refine HH.mono ?_; rintro e w5 ⟨rfl, hb5⟩)
                  all_goals go_wp2_with fail
                  all_goals go_meet
                  all_goals exact ⟨rfl, by rw [HA'.out], hBw.trans (((Below.refl _ _).drew.trans hb5).mono hBw.size)⟩
            case rest =>
              obtain ⟨rfl, rfl, hBc⟩ := hcut
              have hi1 : (q : Int) - 1 = (k : Int) - ((m + 1 : Nat) : Int) := by omega
              have hwq : IntKind.i64.wrap ((q : Int) - 1) = (q : Int) - 1 := wrapi64_in _ (by omega) (by omega)
              have HI1 : Hid ((q : Int) - 1 = (k : Int) - ((m + 1 : Nat) : Int)) := hi1
              clear hi1
              go_wp2
              go_roundw
              case rel =>
                exact ⟨m + 1, by omega, rfl, rfl, by rw [HI1.out], .inr hal, hBc⟩
              case measure => first | (simp [intOf]; done) | (simp [intOf]; omega)
        · have hdn : dn P lo hi (among z l) t k m = accF P lo hi (among z l) t k := dn_end hm (.inl (by omega)) hpre
          have hA1 : ¬ (0 : Int) ≤ (k : Int) - m := by omega
          have hA2 : ¬ (m : Int) ≤ k := by omega
          generalize hD : dn P lo hi (among z l) t k m = D at *
          have HCg := contains_any go L.length gc k _ wr (hr3.below hBw) (by omega)
          rw [hmemL k (by omega), ← hdn] at HCg
          clear hdn hD
          go_wp2_with (go_at_call 11; refine HCg.mono ?_; rintro e w4 ⟨rfl, rfl⟩)
          go_roundw
          case rel => exact ⟨k + 1, by omega, by go_num, hBw⟩
          case measure => simp [intOf]; omega
    · obtain rfl : k = n' + 1 := by omega
      go_wp2
      go_ret
      exact ⟨rfl, hB3.trans (hBr.mono hB3.size)⟩
set_option maxHeartbeats 1000000 in
theorem ringIs_no {a b c d : Nat} {lo hi : Int} (w : World) (zo : Option Addr) (l lc : Nat) (ao : Option Addr) (n cap : Nat) (hok : okR lo hi = false) :
    Calls Try.prog 4 #[rgV a b c d lo hi, .slice zo l lc, .slice ao n cap] w fun e w' => e = .returned (.bool true) ∧ Below w.heap.size w w' := by
  have HLV := live_any (w.alloc (.cells #[.int .u64 (a : Nat), .int .u64 (b : Nat), .int .u64 (c : Nat), .int .u64 (d : Nat), .int .i64 lo, .int .i64 hi] 26))
  have r0 := RgAt.new w a b c d lo hi
  have hB0 : Below w.heap.size w (w.alloc (.cells #[.int .u64 (a : Nat), .int .u64 (b : Nat), .int .u64 (c : Nat), .int .u64 (d : Nat), .int .i64 lo, .int .i64 hi] 26)) := (Below.refl _ _).alloc (Nat.le_refl _) _
  unfold rgV
  go_enter Try.func4, Try.ntmps4
  go_wp2_with (first
    | (go_at_call 6; refine HLV.mono ?_; rintro e w1 ⟨rfl, hb1⟩; have hB1 := hB0.trans (hb1.mono (by simp)); have r1 := r0.below hb1; clear hb1 HLV r0 hB0; obtain ⟨⟨g0, g1, g2, g3, g4, g5⟩, -⟩ := r1.cells)
    | (go_at_call 10; refine (check_no _ hok).mono ?_; rintro e w2 ⟨rfl, hb2⟩; have hB2 := hB1.trans (hb2.mono hB1.size)))
  go_ret
  exact ⟨rfl, hB2⟩
theorem ringIs_walk {a b c d : Nat} {lo hi : Int} {P : Nat → Bool} (w : World) (zo : Option Addr) (l lc : Nat) (z : Nat → Int) (ao : Option Addr) (n cap : Nat) (t : Nat → Nat) (hP : C4 P a b c d)
    (hz : RdI w zo l z) (hl : (l : Int) ≤ 9223372036854775807) (ht : RdB w ao n t) (hnc : n ≤ cap) (hn : (n : Int) ≤ 9223372036854775807) (hnil : (ao = none ∧ n = 0 ∧ cap = 0) ∨ ∃ a, ao = some a) :
    Calls Try.prog 4 #[rgV a b c d lo hi, .slice zo l lc, .slice ao n cap] w fun e w' => e = .returned (.bool true) ∧ Below w.heap.size w w' := by
  cases h : okR lo hi with
  | true =>
    obtain ⟨lo', hi', rfl, rfl, h1, h2⟩ := okR_parts h
    exact ringIs_yes w zo l lc z ao n cap t hP h h1 h2 hz hl ht hnc hn hnil
  | false => exact ringIs_no w zo l lc ao n cap h
end Go.Proofs.Ytehlmjjdegmnaaa
