/- The reference's Widths: the walk. -/
import Derived.Test.YtiiecppkabdkgabDoorRw
import Derived.Deep.AppendLies
import Derived.Deep.QuietTactic
import Derived.BigQuiet
import Derived.Deep.CutBlock
namespace Go.Proofs.YtiiecppkabdkgabDoor
open Go.RowKit
/-- Two rows of numbers that the call owns, apart from each other. -/
def Tw (V wr : World) (v v' : Value) (k k' : Nat) (f g : Nat → Int) : Prop := wr.ownsRow V.heap.size 3 1 v k (ints f k) ∧ wr.ownsRow V.heap.size 3 1 v' k' (ints g k') ∧ (∀ b, v.ownBlock = some b → v'.ownBlock = some b → False) ∧ Below V.heap.size V wr
theorem tw_first {V wr w3 w2 : World} {v v' : Value} {k : Nat} {f g : Nat → Int} {y : Int} (h : Tw V wr v v' k k f g) (hb : Below wr.heap.size wr w3) (hy : f k = y) {gb cap : Nat} (h1 : w2.ownsRow V.heap.size 3 1 (.slice (some ⟨gb, 0, none⟩) (k + 1) cap) (k + 1) (ints f k ++ [.int .i64 y])) (h2 : (w3.alloc (.cells #[.int .i64 y] 3)).grownBy w2 v.ownBlock) (h3 : v.ownBlock = some gb ∨ gb = w3.heap.size + 1) : Tw V w2 (.slice (some ⟨gb, 0, none⟩) (k + 1) cap) v' (k + 1) k f g ∧ Below V.heap.size V w2 := by
  obtain ⟨r1, r2, ap, be⟩ := h
  have hs3 := hb.size
  have hsV := be.size
  have hB : Below V.heap.size V w2 := ((be.trans (hb.mono (by omega))).alloc (by omega) _).grown h2 (by simp; omega) (ownsRow_own r1)
  have hlt := World.ownsRow.lt r2
  refine ⟨⟨by rw [ints_snoc, hy]; exact h1, ?_, ?_, hB⟩, hB⟩
  · refine World.ownsRow.kept (ownsRow_below (ownsRow_below r2 hb) (below1 _ _)) h2 ?_
    cases hv : v'.ownBlock with
    | none => exact .inl rfl
    | some b => exact .inr fun e => ap b e.symm hv
  · intro b e1 e2
    have e1 : gb = b := by simpa [Value.ownBlock] using e1
    subst e1
    rcases h3 with h3 | h3
    · exact ap _ h3 e2
    · have := (hlt _ e2).2
      omega
theorem tw_second {V w3 w2 : World} {v v' : Value} {k : Nat} {f g : Nat → Int} {y : Int} (h : Tw V w3 v v' (k + 1) k f g) (hy : g k = y) {gb cap : Nat} (h1 : w2.ownsRow V.heap.size 3 1 (.slice (some ⟨gb, 0, none⟩) (k + 1) cap) (k + 1) (ints g k ++ [.int .i64 y])) (h2 : (w3.alloc (.cells #[.int .i64 y] 3)).grownBy w2 v'.ownBlock) (h3 : v'.ownBlock = some gb ∨ gb = w3.heap.size + 1) : Tw V w2 v (.slice (some ⟨gb, 0, none⟩) (k + 1) cap) (k + 1) (k + 1) f g := by
  obtain ⟨r1, r2, ap, be⟩ := h
  have hsV := be.size
  have hB : Below V.heap.size V w2 := (be.alloc (by omega) _).grown h2 (by simp; omega) (ownsRow_own r2)
  have hlt := World.ownsRow.lt r1
  refine ⟨?_, by rw [ints_snoc, hy]; exact h1, ?_, hB⟩
  · refine World.ownsRow.kept (ownsRow_below r1 (below1 _ _)) h2 ?_
    cases hv : v.ownBlock with
    | none => exact .inl rfl
    | some b => exact .inr fun e => ap b hv e.symm
  · intro b e1 e2
    have e2 : gb = b := by simpa [Value.ownBlock] using e2
    subst e2
    rcases h3 with h3 | h3
    · exact ap _ e1 h3
    · have := (hlt _ e1).2
      omega
def Bl (a b : World) : Prop := Below a.heap.size a b
theorem one_new (w3 : World) (y : Int) : ∀ j u, [Value.int .i64 y][j]? = some u → (w3.alloc (.cells #[.int .i64 y] 3)).cell? (Addr.add ⟨w3.heap.size, 0, none⟩ j) = some u := fun j u hj => by
  have hj0 : j = 0 := by
    have := (List.getElem?_eq_some_iff.1 hj).1
    simpa using this
  subst hj0
  simpa [Addr.add] using (Cl.new w3 3 [.int .i64 y]).cell 0 hj
set_option maxRecDepth 10000 in
set_option maxHeartbeats 8000000 in
theorem rwidths_any (a : Option Addr) (n c : Nat) (F : Nat → Nd) (w : World) (ha : RdN w a n F) (hn : (n : Int) ≤ 9223372036854775807) (hca : n ≤ c) : Calls Tryd.prog 6 #[.agg #[.slice a n c]] w fun e w' => e = .returned (.tuple #[.int .i64 (wl (snd F n)), .int .i64 (wg (snd F n))]) ∧ Below w.heap.size w w' := by
  obtain ⟨ox, sx⟩ := snd_ok F n
  have px := (snd F n).size_pos
  have hW0 := below1 w (.cells #[.slice a n c] 24)
  have ka := Cl.new w 24 [.slice a n c]
  have HA := rmay_any a n c F _ (ha.below hW0) hn hca
  have hlast : atP wl (snd F n) ((snd F n).size - 1) = wl (snd F n) := atP_get (Tre.subs_last _)
  have hlast2 : atP wg (snd F n) ((snd F n).size - 1) = wg (snd F n) := atP_get (Tre.subs_last _)
  have d0 := ka.cell 0 rfl
  clear ha
  generalize hX : snd F n = x at *
  clear hX
  obtain ⟨i0, hi, hz0, hz1, hz2⟩ := info_parts b_int
  go_enter Tryd.func6, Tryd.ntmps6
  go_wp2_with fail
  refine HA.mono ?_
  rintro e w1 ⟨ta, c1, rfl, r1, cc1, _, b1⟩
  have ka1 := ka.below b1
  obtain ⟨d1, d2⟩ := ka1.one
  have k1 := ka1.set 0 (.slice (some ta) x.size c1)
  simp only [List.set_cons_zero] at k1
  have r2 := r1.put ka1 (.slice (some ta) x.size c1)
  have hBV : Below w.heap.size w (w1.setCell ⟨w.heap.size, 0, none⟩ (.slice (some ta) x.size c1)) := (hW0.trans (b1.mono (by simp))).setCell (p := ⟨w.heap.size, 0, none⟩) (Nat.le_refl _) _
  clear d0 r1 ka ka1 b1 HA hW0
  go_wp2_with fail
  clear d1 d2
  generalize w1.setCell ⟨w.heap.size, 0, none⟩ (.slice (some ta) x.size c1) = V at *
  go_loopw [4, 5, 6] (fun v v' i wr => ∃ k : Nat, k ≤ x.size ∧ i = .int .i64 (k : Nat) ∧ Tw V wr v v' k k (atP wl x) (atP wg x)) (fun _ _ i _ => x.size - (intOf i).toNat)
  case atStart => exact ⟨0, Nat.zero_le _, rfl, by simpa [ints] using World.ownsRow_nil _ _ _ _, by simpa [ints] using World.ownsRow_nil _ _ _ _, fun _ h => by simp [Value.ownBlock] at h, Below.refl _ _⟩
  case round =>
    obtain ⟨k, hk, rfl, hT⟩ := hrel
    obtain ⟨hrow, hrow2, hap, hbel⟩ := id hT
    obtain ⟨av, cv, rfl⟩ := ownsRow_slice hrow
    obtain ⟨av2, cv2, rfl⟩ := ownsRow_slice hrow2
    have k1r := k1.below hbel
    have d0 := k1r.cell 0 rfl
    have hss := hbel.size
    by_cases hlt : k < x.size
    · have hki : (k : Int) < (x.size : Int) := by omega
      have rr := r2.below hbel
      obtain ⟨u, hu⟩ : ∃ u, x.subs[k]? = some u := ⟨_, List.getElem?_eq_getElem (by rw [Tre.subs_length]; exact hlt)⟩
      have hnd : nodes x k = u.nd k := nodes_get hu
      have ou := subs_ok _ _ _ ox hu
      obtain ⟨Y, hY⟩ : ∃ Y, wl u = Y := ⟨_, rfl⟩
      obtain ⟨Z, hZ⟩ : ∃ Z, wg u = Z := ⟨_, rfl⟩
      have hy : atP wl x k = Y := (atP_get hu).trans hY
      have hz : atP wg x k = Z := (atP_get hu).trans hZ
      obtain ⟨bb, off, ea, hbb, hc⟩ := rr (by omega)
      obtain rfl := Option.some.inj ea
      obtain ⟨c0, c1', c2, c3, c4, c5, c6, c7, c8, c9⟩ := hc k hlt
      rw [hnd] at c0 c1' c2 c3 c4 c5 c6 c7 c8 c9
      have kN := Cl.new wr 43 (ndL (u.nd k))
      have rI := row_rdI hrow
      have rI2 := row_rdI hrow2
      have how := ownsRow_own hrow
      have hbN := below1 wr (.cells (ndL (u.nd k)).toArray 43)
      have rI5 := rI.below hbN
      have rI6 := rI2.below hbN
      obtain ⟨q, hq⟩ : ∃ q, u.nd k = q := ⟨_, rfl⟩
      rw [hq] at c0 c1' c2 c3 c4 c5 c6 c7 c8 c9 kN hbN rI5 rI6
      unfold ndL at kN hbN rI5 rI6
      obtain ⟨f, _⟩ := kN.ten
      have f' : Hid _ := f
      have hXl : Hid _ := kN.lt
      have HT : Hid _ := hT
      have hBl : Bl wr (wr.alloc (.cells #[.int .i64 q.k, .int .u64 q.c0, .int .u64 q.c1, .int .u64 q.c2, .int .u64 q.c3, .int .i64 q.a, .int .i64 q.b, .int .i64 q.l, .int .i64 q.m, .bool q.z] 43)) := hbN
      have HAp : Hid _ := hap
      clear hrow hrow2 hbel rr hc kN rI rI2 hnd f k1r hT hap
      go_upto_region 8 with fail
      obtain ⟨f0, f1, f2, f3, f4, f5, f6, f7, f8, f9⟩ := f'.out
      clear f' d0 c0 c1' c2 c3 c4 c5 c6 c7 c8 c9
      generalize wr.alloc (.cells #[.int .i64 q.k, .int .u64 q.c0, .int .u64 q.c1, .int .u64 q.c2, .int .u64 q.c3, .int .i64 q.a, .int .i64 q.b, .int .i64 q.l, .int .i64 q.m, .bool q.z] 43) = W5 at *
      generalize wr.heap.size = X5 at *
      go_upto_block 2 with fail
      go_cut [8, 9] (fun va vb wx => va = .int .i64 Y ∧ vb = .int .i64 Z ∧ Below W5.heap.size W5 wx)
      case first =>
        clear HT HAp k1 r2
        cases u with
        | leaf q' =>
          obtain rfl : q' = q := hq
          have hq7 := lf_kind ou
          have hw0 : q'.k = 2 ∨ (q'.k ≠ 2 ∧ q'.k ≠ 3 ∧ q'.k ≠ 4 ∧ q'.k ≠ 5) := by omega
          rcases hw0 with hq2 | ⟨h2, h3, h4, h5⟩
          · obtain rfl : Y = 1 := by rw [← hY]; simp [wl, hq2]
            obtain rfl : Z = 1 := by rw [← hZ]; simp [wg, hq2]
            have e2 : (q'.k == 2) = true := by simpa using hq2
            clear hy hz ou hY hZ hu hq2 hq7
            go_wp2_with fail
            go_meet
            exact ⟨rfl, rfl, Below.refl _ _⟩
          · obtain rfl : Y = 0 := by rw [← hY]; simp [wl, h2]
            obtain rfl : Z = 0 := by rw [← hZ]; simp [wg, h2]
            have e2 : (q'.k == 2) = false := by simpa using h2
            have e3 : (q'.k == 3) = false := by simpa using h3
            have e4 : (q'.k == 4) = false := by simpa using h4
            have e5 : (q'.k == 5) = false := by simpa using h5
            clear hy hz ou hY hZ hu h2 h3 h4 h5 hq7
            go_wp2_with fail
            go_meet
            exact ⟨rfl, rfl, Below.refl _ _⟩
        | two kd y z =>
          have q0 : q.k = kd := by rw [← hq]; rfl
          have q5 : q.a = (k : Int) - 1 - z.size := by rw [← hq]; rfl
          have q6 : q.b = (k : Int) - 1 := by rw [← hq]; rfl
          have sy := y.size_pos
          have sz := z.size_pos
          obtain ⟨h1, h2, h3⟩ := subs_two hu
          simp [Tre.ok] at ou
          have gx := atP_get (f := wl) h3
          have gy := atP_get (f := wl) h2
          have gx2 := atP_get (f := wg) h3
          have gy2 := atP_get (f := wg) h2
          have wy := wl_in y ou.1.2
          have wz := wl_in z ou.2
          have wy2 := wg_in y ou.1.2
          have wz2 := wg_in z ou.2
          obtain ⟨b9, o9, rfl, hb9, hc9⟩ := rI5 (by omega)
          obtain ⟨b8, o8, rfl, hb8, hc8⟩ := rI6 (by omega)
          have d1 := hc9 (k - 1 - z.size) (by omega)
          have d2 := hc9 (k - 1) (by omega)
          have d3 := hc8 (k - 1 - z.size) (by omega)
          have d4 := hc8 (k - 1) (by omega)
          rw [gx] at d1
          rw [gy] at d2
          rw [gx2] at d3
          rw [gy2] at d4
          rw [q5, show (k : Int) - 1 - z.size = ((k - 1 - z.size : Nat) : Int) by omega] at f5
          rw [q6, show (k : Int) - 1 = ((k - 1 : Nat) : Int) by omega] at f6
          clear q5 q6 hq
          have hl1 : ((k - 1 - z.size : Nat) : Int) < (k : Int) := by omega
          have hl2 : ((k - 1 : Nat) : Int) < (k : Int) := by omega
          generalize k - 1 - z.size = p1 at *
          generalize k - 1 = p2 at *
          simp only [wl] at hY
          simp only [wg] at hZ
          generalize wl y = A at *
          generalize wl z = B at *
          generalize wg y = A2 at *
          generalize wg z = B2 at *
          obtain ⟨A0, A1⟩ := wy
          obtain ⟨B0, B1⟩ := wz
          obtain ⟨A3, A4⟩ := wy2
          obtain ⟨B3, B4⟩ := wz2
          clear hc9 hc8 gx gy gx2 gy2 hu h1 h2 h3 hy hz
          rcases ou.1.1 with hk3 | hk3
          · have e2 : (q.k == 2) = false := by rw [q0, hk3]; rfl
            have e3 : (q.k == 3) = true := by rw [q0, hk3]; rfl
            rw [if_pos hk3] at hY hZ
            have HC : Hid (∀ W, Calls Tryd.prog 13 #[.int .i64 (A + B)] W fun e w' => e = .returned (.int .i64 Y) ∧ w' = W) := fun W => by
              have := cap_any (A + B) W
              rw [cap_pl ⟨A0, A1⟩ ⟨B0, B1⟩, hY] at this
              exact this
            have HC2 : Hid (∀ W, Calls Tryd.prog 13 #[.int .i64 (A2 + B2)] W fun e w' => e = .returned (.int .i64 (min (A2 + B2) 1073741824)) ∧ w' = W) := fun W => cap_any (A2 + B2) W
            clear ou hk3 hY q0
            go_upto_region 13 with fail
            go_quiet ((go_at_call 13; exact Calls.quiet_of_same (HC.out _)))
            have hdr := below_drewN (Below.refl W5.heap.size W5) nq
            rw [← hdr.cell (p := ⟨b8, _, none⟩) hb8] at d3 d4
            rw [← hdr.cell (p := ⟨X5, _, none⟩) hXl.out] at f5 f6
            generalize W5.drewN nq = W6 at *
            clear HC d1 d2
            go_upto_region 14 with fail
            go_quiet ((go_at_call 13; exact Calls.quiet_of_same (HC2.out _)))
            clear HC2
            by_cases hA : A2 < 0
            · have hZ' : Z = -1 := by rw [← hZ]; unfold pl; rw [if_pos (by omega)]
              clear hZ
              go_wp2_with fail
              go_meet
              exact ⟨rfl, by rw [hZ'], below_drewN hdr _⟩
            · by_cases hB : B2 < 0
              · have hZ' : Z = -1 := by rw [← hZ]; unfold pl; rw [if_pos (by omega)]
                clear hZ
                go_wp2_with fail
                go_meet
                exact ⟨rfl, by rw [hZ'], below_drewN hdr _⟩
              · have hZ' : Z = min (A2 + B2) 1073741824 := by rw [← hZ, cap_pl ⟨by omega, A4⟩ ⟨by omega, B4⟩]
                clear hZ
                go_wp2_with fail
                go_meet
                exact ⟨rfl, by rw [hZ'], below_drewN hdr _⟩
          · have e2 : (q.k == 2) = false := by rw [q0, hk3]; rfl
            have e3 : (q.k == 3) = false := by rw [q0, hk3]; rfl
            have e4 : (q.k == 4) = true := by rw [q0, hk3]; rfl
            rw [if_neg (by omega)] at hY hZ
            have hmin : ∀ W, (Builtin.min_ #[3, 3] 3 #[.int .i64 A, .int .i64 B]).run Tryd.prog W = .ok (.int .i64 Y) W := fun W => by
              rw [run_min_int2, ← hY]
              congr 2
              split <;> omega
            have hmax : ∀ W, (Builtin.max_ #[3, 3] 3 #[.int .i64 A2, .int .i64 B2]).run Tryd.prog W = .ok (.int .i64 (max A2 B2)) W := fun W => by
              rw [run_max_int2]
              congr 2
              split <;> omega
            clear ou hk3 hY q0
            go_upto_region 18 with fail
            go_quiet (fail)
            clear hmin d1 d2
            go_upto_region 19 with fail
            go_quiet (fail)
            clear hmax
            by_cases hA : A2 < 0
            · have hZ' : Z = -1 := by rw [← hZ]; unfold gr; rw [if_pos (by omega)]
              clear hZ
              go_wp2_with fail
              go_meet
              exact ⟨rfl, by rw [hZ'], below_drewN (Below.refl _ _) _⟩
            · by_cases hB : B2 < 0
              · have hZ' : Z = -1 := by rw [← hZ]; unfold gr; rw [if_pos (by omega)]
                clear hZ
                go_wp2_with fail
                go_meet
                exact ⟨rfl, by rw [hZ'], below_drewN (Below.refl _ _) _⟩
              · have hZ' : Z = max A2 B2 := by rw [← hZ]; unfold gr; rw [if_neg (by omega)]
                clear hZ
                go_wp2_with fail
                go_meet
                exact ⟨rfl, by rw [hZ'], below_drewN (Below.refl _ _) _⟩
        | rep y l m zz =>
          have q0 : q.k = 5 := by rw [← hq]; rfl
          have q5 : q.a = (k : Int) - 1 := by rw [← hq]; rfl
          have q7 : q.l = l := by rw [← hq]; rfl
          have q8 : q.m = m := by rw [← hq]; rfl
          have sy := y.size_pos
          obtain ⟨h1, h2⟩ := subs_rep hu
          simp [Tre.ok] at ou
          have hm := mayR_in ou.1
          have gx := atP_get (f := wl) h2
          have gx2 := atP_get (f := wg) h2
          have wy := wl_in y ou.2
          have wy2 := wg_in y ou.2
          obtain ⟨b9, o9, rfl, hb9, hc9⟩ := rI5 (by omega)
          obtain ⟨b8, o8, rfl, hb8, hc8⟩ := rI6 (by omega)
          have d1 := hc9 (k - 1) (by omega)
          have d3 := hc8 (k - 1) (by omega)
          rw [gx] at d1
          rw [gx2] at d3
          rw [q5, show (k : Int) - 1 = ((k - 1 : Nat) : Int) by omega] at f5
          rw [q7] at f7
          rw [q8] at f8
          have hl1 : ((k - 1 : Nat) : Int) < (k : Int) := by omega
          generalize k - 1 = p1 at *
          simp only [wl] at hY
          simp only [wg] at hZ
          generalize wl y = A at *
          generalize wg y = A2 at *
          have HC : Hid (∀ W, Calls Tryd.prog 14 #[.int .i64 l, .int .i64 A] W fun e w' => e = .returned (.int .i64 Y) ∧ w' = W) := fun W => by
            have := rtimes_any l A W (by omega) (by omega)
            rw [hY] at this
            exact this
          have HC2 : Hid (∀ W, Calls Tryd.prog 14 #[.int .i64 m, .int .i64 A2] W fun e w' => e = .returned (.int .i64 Z) ∧ w' = W) := fun W => by
            have := rtimes_any m A2 W (by omega) (by omega)
            rw [hZ] at this
            exact this
          have e2 : (q.k == 2) = false := by rw [q0]; rfl
          have e3 : (q.k == 3) = false := by rw [q0]; rfl
          have e4 : (q.k == 4) = false := by rw [q0]; rfl
          have e5 : (q.k == 5) = true := by rw [q0]; rfl
          clear hc9 hc8 gx gx2 hu h1 h2 hy hz q0 q5 q7 q8 hq ou hm hY hZ
          go_upto_region 23 with fail
          go_quiet ((go_at_call 14; exact Calls.quiet_of_same (HC.out _)))
          have hdr := below_drewN (Below.refl W5.heap.size W5) nq
          rw [← hdr.cell (p := ⟨b8, _, none⟩) hb8] at d3
          rw [← hdr.cell (p := ⟨X5, _, none⟩) hXl.out] at f5 f8
          generalize W5.drewN nq = W6 at *
          clear HC d1
          go_upto_region 24 with fail
          go_quiet ((go_at_call 14; exact Calls.quiet_of_same (HC2.out _)))
          clear HC2
          go_wp2_with fail
          go_meet
          exact ⟨rfl, rfl, below_drewN hdr _⟩
      case rest =>
        obtain ⟨rfl, rfl, hB9⟩ := hcut
        have hB8 : Below wr.heap.size wr wc := Below.trans hBl (hB9.mono (Below.size hBl))
        obtain ⟨hrow, hrow2, hap, hbel⟩ := id HT.out
        have g1 := ownsRow_below (ownsRow_below hrow hB8) (below1 wc (.cells #[.int .i64 Y] 3))
        have g3 : V.heap.size ≤ (wc.alloc (.cells #[.int .i64 Y] 3)).heap.size := by have := hB8.size; have := hbel.size; simp; omega
        have G4 : Hid _ := one_new wc Y
        have HB8 : Hid _ := hB8
        have Hy : Hid _ := hy
        have Hz : Hid _ := hz
        clear hrow hrow2 hap hbel f0 f1 f2 f3 f4 f5 f6 f7 f8 f9 hB8 hbN hBl rI5 rI6 hy hz hY hZ hB9 hu ou hq
        go_upto_region 26 with (at_builtin; refine wpList_append_lies _ rfl _ _ 38 rfl V.heap.size 3 i0 _ 1 8 Tryd.underlying38 hi hz0 hz1 hz2 rfl (by decide) _ _ _ rfl g1 ⟨wc.heap.size, 0, none⟩ 1 1 [.int .i64 Y] rfl rfl G4.out (by simp [Value.oneCell']) (by decide) (by unfold maxLen; omega) (by omega) g3 (wc.heap.size + 1) (by simp) ?_; intro ga ca w2 hown hgr hat hglt; have HT2 : Hid _ := tw_first HT.out HB8.out Hy.out hown hgr hat; clear hown hgr hat hglt)
        obtain ⟨hT2, _⟩ := HT2.out
        obtain ⟨q1, q2, q3, q4⟩ := id hT2
        have HT3 : Hid _ := hT2
        have p1 := ownsRow_below q2 (below1 w2 (.cells #[.int .i64 Z] 3))
        have p3 : V.heap.size ≤ (w2.alloc (.cells #[.int .i64 Z] 3)).heap.size := by have := q4.size; simp; omega
        have P4 : Hid _ := one_new w2 Z
        clear hT2 q1 q2 q3 q4 HT2 g1 g3 G4 HB8
        go_wp2_with (at_builtin; refine wpList_append_lies _ rfl _ _ 38 rfl V.heap.size 3 i0 _ 1 8 Tryd.underlying38 hi hz0 hz1 hz2 rfl (by decide) _ _ _ rfl p1 ⟨w2.heap.size, 0, none⟩ 1 1 [.int .i64 Z] rfl rfl P4.out (by simp [Value.oneCell']) (by decide) (by unfold maxLen; omega) (by omega) p3 (w2.heap.size + 1) (by simp) ?_; intro gb cb w4 hown hgr hat hglt; have HT4 : Hid _ := tw_second HT3.out Hz.out hown hgr hat; clear hown hgr hat hglt)
        go_roundw
        case rel => exact ⟨k + 1, hlt, by simp, HT4.out⟩
        case measure => simp [intOf]; omega
    · obtain rfl : k = x.size := by omega
      have hki : ¬ (x.size : Int) < (x.size : Int) := by omega
      obtain ⟨g, rfl, hgl, _, hcr, _⟩ := row_cell hrow px
      obtain ⟨g', rfl, hgl', _, hcr', _⟩ := row_cell hrow2 px
      have d1 := hcr (x.size - 1) _ (ints_get _ (by omega))
      have d2 := hcr' (x.size - 1) _ (ints_get _ (by omega))
      rw [hlast] at d1
      rw [hlast2] at d2
      have HR : Hid (∀ W, Below wr.heap.size wr W → Below w.heap.size w W) := fun W h => (hBV.trans (hbel.mono hBV.size)).trans (h.mono (by have := hBV.size; omega))
      have hk1 : ((x.size : Int) - 1).toNat = x.size - 1 := by omega
      have hk2 : (0 : Int) ≤ (x.size : Int) - 1 := by omega
      have hk3 : (x.size : Int) - 1 < (x.size : Int) := by omega
      clear hrow hrow2 hbel hcr hcr' hlast hlast2 hT hap
      go_upto_region 27 with fail
      go_quiet (fail)
      go_wp2_with fail
      go_ret2
      exact ⟨rfl, HR.out _ (below_drewN (Below.refl _ _) _)⟩
end Go.Proofs.YtiiecppkabdkgabDoor
