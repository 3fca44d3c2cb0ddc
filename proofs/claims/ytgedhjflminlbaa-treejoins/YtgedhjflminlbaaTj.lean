/- TreeJoins: the walk. -/
import Derived.Test.YtgedhjflminlbaaPp
import Derived.Test.YtgedhjflminlbaaPf
import Derived.Test.YtgedhjflminlbaaLi
import Derived.Test.YtgedhjflminlbaaMw
import Derived.Deep.DeepCutAuto
import Derived.Deep.RegionHeld3
namespace Go.Proofs.Ytgedhjflminlbaa
open Go.RowKit
theorem slice_from43 (ao : Option Addr) (n cap : Nat) (hn : 1 ≤ n) (w : World) : (Instr.slice 43 (.slice ao n cap) (some (.int .i64 1)) none none).run Try.prog w = .ok (.slice (if cap = 1 then ao else ao.map (·.add 1)) (n - 1) (cap - 1)) w := by
  have hxn : (1 : Int) ≤ (n : Int) := by omega
  by_cases h : cap = 1 <;> simp [go_sem, Try.underlying43, hxn, h]
/-- Where the parts lie. -/
def LF (ts : List Tre) (g : Nat) (W : World) : Prop := ∀ (p : Nat) (u : Tre), ts[p]? = some u → ∃ gp cp, W.cell? ⟨g, p, none⟩ = some (.slice (some ⟨gp, 0, none⟩) u.size cp) ∧ RdN W (some ⟨gp, 0, none⟩) u.size (nodes u) ∧ u.size ≤ cp
theorem LF.below {ts : List Tre} {g : Nat} {W W' : World} (h : LF ts g W) (hg : g < W.heap.size) (hb : Below W.heap.size W W') : LF ts g W' := by
  intro p u hu
  obtain ⟨gp, cp, e, hr, hc⟩ := h p u hu
  refine ⟨gp, cp, ?_, hr.below hb, hc⟩
  rw [← e, World.cell?, World.cell?, hb.block g hg]
theorem lf_of {t : Tre} {kv : Int} {lo cap : Nat} {ao : Option Addr} {M : Nat → Value} {W : World} (hrow : W.ownsRow lo 24 1 (.slice ao (pt kv t).length cap) (pt kv t).length (vals M (pt kv t).length)) (htrs : Trs t kv lo (pt kv t).length (fun _ => False) M W) : ∃ g, ao = some ⟨g, 0, none⟩ ∧ g < W.heap.size ∧ LF (pt kv t) g W ∧ (pt kv t).length ≤ cap := by
  obtain ⟨g, e, hl, hB, hc, _⟩ := row_cell hrow (pt_pos kv t)
  refine ⟨g, e, hl, fun p u hu => ?_, ownsRow_cap hrow⟩
  have hp : p < (pt kv t).length := (List.getElem?_eq_some_iff.1 hu).1
  obtain ⟨gp, cp, e', hr, hc', _⟩ := htrs p u hp hu
  exact ⟨gp, cp, by rw [hc p _ (vals_get M hp), e'], hr, hc'⟩
theorem fd_step {kv : Int} {h u : Tre} {r : List Tre} {q : Nat} (hu : r[q]? = some u) : fd kv h (r.take (q + 1)) = .two kv (fd kv h (r.take q)) u := by
  rw [← fd_app]
  congr 1
  obtain ⟨hq, e⟩ := List.getElem?_eq_some_iff.1 hu
  rw [← e, List.take_append_getElem hq]
set_option maxRecDepth 10000 in
set_option maxHeartbeats 8000000 in
theorem tjoins_any (a : Option Addr) (n c : Nat) (F : Nat → Nd) (w : World) (ha : RdN w a n F) (hn : (n : Int) ≤ 9223372036854775807) (hca : n ≤ c) : Calls Try.prog 7 #[.agg #[.slice a n c]] w (RetBo w true) := by
  obtain ⟨ox, sx⟩ := snd_ok F n
  have kP := Cl.new w 24 [.slice a n c]
  have hW0 := below1 w (.cells #[.slice a n c] 24)
  have HL : Hid (∀ W, Calls Try.prog 9 #[] W (RetBo W true)) := fun W => live_any W
  go_enter Try.func7, Try.ntmps7
  go_upto_region 3 with (go_at_call 9; refine (HL.out _).mono ?_; rintro e w1 ⟨rfl, hb1⟩)
  have hB1 := hW0.trans (hb1.mono (by simp))
  have kP1 := kP.below hb1
  have rA := ha.below hB1
  clear kP hW0 ha hb1 HL
  have HPs : Hid (∀ W (k : Int), RdN W a n F → Calls Try.prog 25 #[.agg #[.slice a n c], .int .i64 k] W (RetPs W (snd F n) k)) := fun W k h => lparts_any a n c F k W h hn hca
  have HW : Hid (∀ W, RdN W a n F → Calls Try.prog 21 #[.agg #[.slice a n c]] W fun e w' => e = .returned (.tuple #[.int .i64 (wl (snd F n)), .int .i64 (wg (snd F n))]) ∧ Below W.heap.size W w') := fun W h => widths_any a n c F W h hn hca
  have HT : Hid (∀ W, RdN W a n F → Calls Try.prog 29 #[.agg #[.slice a n c]] W (RetI W (wt (snd F n)))) := fun W h => weight_any a n c F W h hn hca
  generalize snd F n = t at *
  have hbK := below1 w1 (.cells #[.int .i64 3, .int .i64 4] 3)
  have kK := Cl.new w1 3 [.int .i64 3, .int .i64 4]
  have kP2 := kP1.below hbK
  have rA2 := rA.below hbK
  have hB2 := hB1.trans (hbK.mono hB1.size)
  go_wp2_with fail
  obtain ⟨KB, hKB⟩ : ∃ b, b = w1.heap.size := ⟨_, rfl⟩
  clear kP1 rA hB1 hbK
  generalize w1.alloc (.cells #[.int .i64 3, .int .i64 4] 3) = w2 at *
  rw [← hKB] at kK ⊢
  clear hKB
  go_loopw [17] (fun i wr => ∃ j : Nat, j ≤ 2 ∧ i = .int .i64 (j : Nat) ∧ Below w2.heap.size w2 wr) (fun i _ => 2 - (intOf i).toNat)
  case atStart => exact ⟨0, by decide, rfl, Below.refl _ _⟩
  case round =>
    obtain ⟨j, hj, rfl, hbr⟩ := hrel
    have hkr := kK.below hbr
    have hpr := kP2.below hbr
    have rr := rA2.below hbr
    have d0 := hpr.cell 0 rfl
    by_cases hj2 : j < 2
    · have hji : (j : Int) < 2 := by omega
      obtain ⟨kv, hkv, dk⟩ : ∃ kv : Int, (kv = 3 ∨ kv = 4) ∧ wr.cell? ⟨KB, j, none⟩ = some (.int .i64 kv) := by
        rcases Nat.lt_or_ge j 1 with h | h
        · obtain rfl : j = 0 := by omega
          exact ⟨3, .inl rfl, hkr.cell 0 rfl⟩
        · obtain rfl : j = 1 := by omega
          exact ⟨4, .inr rfl, hkr.cell 1 rfl⟩
      go_upto_region 7 with (go_at_call 25; refine (HPs.out _ kv rr).mono ?_; rintro e w3 ⟨ao, cap, M, rfl, hrow, htrs, b3⟩)
      obtain ⟨g, rfl, hg, hlf, hcap⟩ := lf_of hrow htrs
      obtain ⟨h, r, hp⟩ : ∃ h r, pt kv t = h :: r := by
        cases e : pt kv t with
        | nil => have := pt_pos kv t; rw [e] at this; simp at this
        | cons h r => exact ⟨h, r, rfl⟩
      have hlen : r.length + 1 ≤ 2048 := by have := pt_le kv t; rw [hp] at this; simp at this; omega
      obtain ⟨f1, f2, f3, f4⟩ := fd_same hkv ox hp
      have hok := pt_ok kv t ox
      rw [hp] at hlf hcap hok ⊢
      rw [List.length_cons] at hcap ⊢
      have hoh : h.ok = true := hok h (by simp)
      have hor : ∀ u ∈ r, u.ok = true := fun u hu => hok u (by simp [hu])
      have HJ : Hid (∀ W ax cx gp cp q u, r[q]? = some u → RdN W ax (fd kv h (r.take q)).size (nodes (fd kv h (r.take q))) → (fd kv h (r.take q)).size ≤ cx → RdN W (some ⟨gp, 0, none⟩) u.size (nodes u) → u.size ≤ cp → Calls Try.prog 13 #[.int .i64 kv, .agg #[.slice ax (fd kv h (r.take q)).size cx], .agg #[.slice (some ⟨gp, 0, none⟩) u.size cp]] W (RetT W (fd kv h (r.take (q + 1))).size (nodes (fd kv h (r.take (q + 1)))))) := by
        intro W ax cx gp cp q u hu h1 h2 h3 h4
        have e := fd_step (kv := kv) (h := h) hu
        have hle := fd_take kv r h (q + 1)
        rw [f1, e] at hle
        have es : (Tre.two kv (fd kv h (r.take q)) u).size = (fd kv h (r.take q)).size + u.size + 1 := by simp [Tre.size]
        have := join_yes kv ax (some ⟨gp, 0, none⟩) _ _ cx cp _ _ W hkv h1 h3 (by omega) (by omega) h2 h4
        rw [snd_nodes _ (fd_ok hkv _ _ hoh (fun v hv => hor v (List.mem_of_mem_take hv))) (by omega), snd_nodes u (hor u (List.mem_of_getElem? hu)) (by omega)] at this
        rw [e, es]
        exact this
      have hsf : snd (nodes (fd kv h r)) (fd kv h r).size = fd kv h r := snd_nodes _ (fd_ok hkv _ _ hoh hor) (by omega)
      have HW2 : Hid (∀ W ax cx, RdN W ax (fd kv h r).size (nodes (fd kv h r)) → (fd kv h r).size ≤ cx → Calls Try.prog 21 #[.agg #[.slice ax (fd kv h r).size cx]] W fun e w' => e = .returned (.tuple #[.int .i64 (wl t), .int .i64 (wg t)]) ∧ Below W.heap.size W w') := fun W ax cx h1 h2 => by
        have := widths_any ax _ cx _ W h1 (by omega) h2
        rwa [hsf, f3, f4] at this
      have HT2 : Hid (∀ W ax cx, RdN W ax (fd kv h r).size (nodes (fd kv h r)) → (fd kv h r).size ≤ cx → Calls Try.prog 29 #[.agg #[.slice ax (fd kv h r).size cx]] W (RetI W (wt t))) := fun W ax cx h1 h2 => by
        have := weight_any ax _ cx _ W h1 (by omega) h2
        rwa [hsf, f2] at this
      have HX : Hid (∀ W, Below w3.heap.size w3 W → W.cell? ⟨w.heap.size, 0, none⟩ = some (.slice a n c) ∧ RdN W a n F ∧ LF (h :: r) g W) := fun W hW => ⟨((hpr.below b3).below hW).cell 0 rfl, (rr.below b3).below hW, hlf.below hg hW⟩
      have HE : Hid (∀ W, Below w3.heap.size w3 W → Below w2.heap.size w2 W) := fun W hW => hbr.trans ((b3.trans (hW.mono b3.size)).mono hbr.size)
      clear hrow htrs b3 rr dk d0 hpr hkr hp f1 f2 f3 f4 hok hoh hor hsf HPs
      obtain ⟨gp, cp, c0, r0, q0⟩ := hlf 0 h rfl
      clear hlf
      generalize hN : r.length = N at *
      have hNN : N + 1 - 1 = N := rfl
      have hsl := slice_from43 (some ⟨g, 0, none⟩) (N + 1) cap (by omega)
      obtain ⟨a1, ha1, ea1⟩ : ∃ a1, a1 = (if cap = 1 then some (⟨g, 0, none⟩ : Addr) else (some (⟨g, 0, none⟩ : Addr)).map (·.add 1)) ∧ (0 < N → a1 = some ⟨g, 1, none⟩) := ⟨_, rfl, fun h' => by rw [if_neg (by omega)]; simp [Addr.add]⟩
      rw [← ha1, Nat.add_sub_cancel] at hsl
      clear ha1
      have bX := below1 w3 (.cells #[.slice (some ⟨gp, 0, none⟩) h.size cp] 24)
      have kX := Cl.new w3 24 [.slice (some ⟨gp, 0, none⟩) h.size cp]
      have rX := r0.below bX
      have hN0 : ¬ ((N : Int) + 1 = 0) := by omega
      go_wp2_with fail
      obtain ⟨X, hX⟩ : ∃ X, X = w3.heap.size := ⟨_, rfl⟩
      rw [← hX] at kX ⊢
      have hXle : w3.heap.size ≤ X := by omega
      rw [show ((N : Int) + 1 == 0) = false from by simp; omega]
      clear c0 r0 hX
      generalize w3.alloc (.cells #[.slice (some ⟨gp, 0, none⟩) h.size cp] 24) = w4 at *
      go_loopw [33] (fun i wq => ∃ (q : Nat) (ax : Option Addr) (cx : Nat), q ≤ N ∧ i = .int .i64 (q : Nat) ∧ Below w3.heap.size w3 wq ∧ Cl wq X 24 [.slice ax (fd kv h (r.take q)).size cx] ∧ RdN wq ax (fd kv h (r.take q)).size (nodes (fd kv h (r.take q))) ∧ (fd kv h (r.take q)).size ≤ cx) (fun i _ => N - (intOf i).toNat)
      case atStart => exact ⟨0, _, cp, Nat.zero_le _, rfl, bX, by simpa [fd] using kX, by simpa [fd] using rX, by simpa [fd] using q0⟩
      case round =>
        obtain ⟨q, ax, cx, hq, rfl, hbq, kq, rq, cq⟩ := hrel
        by_cases hqN : q < N
        · have hqi : (q : Int) < (N : Int) := by omega
          obtain rfl := ea1 (by omega)
          obtain ⟨u, hu⟩ : ∃ u, r[q]? = some u := ⟨_, List.getElem?_eq_getElem (by omega)⟩
          obtain ⟨-, -, lf⟩ := HX.out _ hbq
          obtain ⟨gq, cpq, d1, r1, q1⟩ := lf (q + 1) u (by simpa using hu)
          rw [Nat.add_comm] at d1
          have b5 := below1 wr (.cells #[.slice (some ⟨gq, 0, none⟩) u.size cpq] 24)
          have k5 := kq.below b5
          have r5 := rq.below b5
          have r5' := r1.below b5
          have hb5 := hbq.trans (b5.mono hbq.size)
          have k8 := Cl.new wr 24 [.slice (some ⟨gq, 0, none⟩) u.size cpq]
          have d5 := k5.cell 0 rfl
          have d8 := k8.cell 0 rfl
          have HJ2 := HJ.out _ ax cx gq cpq q u hu r5 cq r5' q1
          clear HX HJ lf
          go_wp2_with (go_at_call 13; refine HJ2.mono ?_; rintro e w6 ⟨a6, c6, rfl, o6, b6⟩; have k6 := (k5.below b6).one; obtain ⟨d6, z6⟩ := k6)
          have hbF : Below w3.heap.size w3 (w6.setCell ⟨X, 0, none⟩ (.slice a6 (fd kv h (r.take (q + 1))).size c6)) := Below.setCell (p := ⟨X, 0, none⟩) (hb5.trans (b6.mono hb5.size)) hXle _
          have kF : Cl (w6.setCell ⟨X, 0, none⟩ (.slice a6 (fd kv h (r.take (q + 1))).size c6)) X 24 [.slice a6 (fd kv h (r.take (q + 1))).size c6] := by
            have := (k5.below b6).set 0 (.slice a6 (fd kv h (r.take (q + 1))).size c6)
            simpa using this
          have rF := o6.rd.put (k5.below b6) (.slice a6 (fd kv h (r.take (q + 1))).size c6)
          have cF := ownsRow_cap o6
          go_roundw
          case rel => exact ⟨q + 1, a6, c6, hqN, by simp, hbF, kF, rF, cF⟩
          case measure => simp [intOf]; omega
        · have hqi : ¬ (q : Int) < (N : Int) := by omega
          obtain rfl : q = N := by omega
          rw [List.take_of_length_le (by omega)] at kq rq cq
          have HX2 : Hid (∀ W, Below wr.heap.size wr W → (W.cell? ⟨w.heap.size, 0, none⟩ = some (.slice a n c) ∧ W.cell? ⟨X, 0, none⟩ = some (.slice ax (fd kv h r).size cx)) ∧ RdN W a n F ∧ RdN W ax (fd kv h r).size (nodes (fd kv h r))) := fun W hW => by
            obtain ⟨g1, g2, _⟩ := HX.out _ (hbq.trans (hW.mono hbq.size))
            exact ⟨⟨g1, (kq.below hW).cell 0 rfl⟩, g2, rq.below hW⟩
          have HE2 : Hid (∀ W, Below wr.heap.size wr W → Below w2.heap.size w2 W) := fun W hW => HE.out _ (hbq.trans (hW.mono hbq.size))
          have m1 : Hid True := trivial
          have m2 : Hid True := trivial
          have tB := Below.refl wr.heap.size wr
          obtain ⟨⟨d0, d1⟩, ra, rm⟩ := HX2.out _ tB
          clear HX HE HJ hbq kq rq kX rX bX q0 ea1 hsl
          generalize fd kv h r = fx at *
          generalize nodes fx = fm at *
          generalize fx.size = sz at *
          go_upto_region 17 with (go_at_call 21; first | (clear m1; refine (HW.out _ ra).mono ?_; rintro e w5 ⟨rfl, b5⟩; have tB5 := tB.trans (b5.mono tB.size); clear tB d0 d1 ra rm b5; obtain ⟨⟨d0, d1⟩, ra, rm⟩ := HX2.out _ tB5) | (refine (HW2.out _ _ _ rm cq).mono ?_; rintro e w6 ⟨rfl, b6⟩; have tB6 := tB5.trans (b6.mono tB5.size); clear tB5 d0 d1 ra rm b6))
          generalize wl t = L at *
          generalize wg t = G at *
          generalize wt t = T at *
          have hLL : (L == L) = true := by simp
          have hGG : (G == G) = true := by simp
          have hTT : (T == T) = true := by simp
          have tBd : Below wr.heap.size wr w6.drew := tB6.drew
          obtain ⟨hc, ra, rm⟩ := HX2.out _ tBd
          have TB : Hid _ := tBd
          clear tBd tB6 HW HW2
          go_region_held3 (fun w' => w'.cell? ⟨w.heap.size, 0, none⟩ = some (.slice a n c) ∧ w'.cell? ⟨X, 0, none⟩ = some (.slice ax sz cx)) (exact hc)
            (first
              | (go_at_call 29; (first | (clear m2; refine (HT2.out _ _ _ rm cq).mono ?_) | refine (HT.out _ ra).mono ?_); rintro e w9 ⟨rfl, qq⟩; have tB := TB.out.trans (qq.mono TB.out.size); clear TB qq hc ra rm; obtain ⟨hc, ra, rm⟩ := HX2.out _ tB; have TB : Hid _ := tB; clear tB))
          all_goals
            go_wp2
            go_roundw
            case rel => exact ⟨j + 1, by omega, by simp, HE2.out _ TB.out⟩
            case measure => simp [intOf]; omega
    · have hji : ¬ (j : Int) < 2 := by omega
      go_wp2_with fail
      go_ret
      exact ⟨rfl, hB2.trans (hbr.mono hB2.size)⟩
end Go.Proofs.Ytgedhjflminlbaa
