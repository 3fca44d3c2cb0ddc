/- TreeTurned: the walk. -/
import Derived.Test.YtgedhjflminlbaaMr
import Derived.Test.YtgedhjflminlbaaMa
import Derived.Test.YtgedhjflminlbaaSm
import Derived.Deep.DeepCutAuto
import Derived.Deep.RegionWith
namespace Go.Proofs.Ytgedhjflminlbaa
open Go.RowKit
theorem eqN_all {F G : Nat → Nd} : ∀ {n : Nat}, (∀ i, i < n → F i = G i) → eqN F G n = true
  | 0, _ => rfl
  | n + 1, h => by
    rw [eqN, eqN_all (fun i hi => h i (by omega)), h n (by omega)]
    simp [Nd.eq_iff]
set_option maxRecDepth 10000 in
set_option maxHeartbeats 8000000 in
theorem turned_any (a : Option Addr) (n c : Nat) (F : Nat → Nd) (w : World) (ha : RdN w a n F) (hn : (n : Int) ≤ 9223372036854775807) (hca : n ≤ c) : Calls Try.prog 6 #[.agg #[.slice a n c]] w (RetBo w true) := by
  have kP := Cl.new w 24 [.slice a n c]
  have hW0 := below1 w (.cells #[.slice a n c] 24)
  have HL : Hid (∀ W, Calls Try.prog 9 #[] W (RetBo W true)) := fun W => live_any W
  go_enter Try.func6, Try.ntmps6
  go_upto_region 3 with (go_at_call 9; refine (HL.out _).mono ?_; rintro e w1 ⟨rfl, hb1⟩)
  have hB1 := hW0.trans (hb1.mono (by simp))
  have kP1 := kP.below hb1
  have rA := ha.below hB1
  have d0 := kP1.cell 0 rfl
  have hm := may_any a n c F w1 rA hn
  clear kP hW0 ha hb1 HL
  cases hA : treeOf F n with
  | none =>
    rw [hA] at hm
    go_wp2_with (go_at_call 31; refine hm.mono ?_; rintro e w2 ⟨rfl, hb2⟩)
    go_ret
    exact ⟨rfl, hB1.trans (hb2.mono hB1.size)⟩
  | some t =>
    rw [hA] at hm
    obtain ⟨rfl, ho, hs, hF⟩ := treeOf_some hA
    have hsnd : snd F t.size = t := by simp [snd, hA]
    have hsm : snd (nodes (mir t)) t.size = mir t := by
      have := snd_nodes (mir t) (mir_ok t ho) (by rw [mir_size]; exact hs)
      rwa [mir_size] at this
    have HM : Hid (∀ W, Below w1.heap.size w1 W → Calls Try.prog 17 #[.agg #[.slice a t.size c]] W (RetT W t.size (nodes (mir t)))) := fun W h => by
      have := mirror_any a t.size c F W (rA.below h) hn hca
      rwa [hsnd] at this
    have HW : Hid (∀ W, Below w1.heap.size w1 W → Calls Try.prog 21 #[.agg #[.slice a t.size c]] W fun e w' => e = .returned (.tuple #[.int .i64 (wl t), .int .i64 (wg t)]) ∧ Below W.heap.size W w') := fun W h => by
      have := widths_any a t.size c F W (rA.below h) hn hca
      rwa [hsnd] at this
    have HW2 : Hid (∀ W b d, RdN W b t.size (nodes (mir t)) → t.size ≤ d → Calls Try.prog 21 #[.agg #[.slice b t.size d]] W fun e w' => e = .returned (.tuple #[.int .i64 (wl t), .int .i64 (wg t)]) ∧ Below W.heap.size W w') := fun W b d h1 h2 => by
      have := widths_any b t.size d _ W h1 (by omega) h2
      rwa [hsm, wl_mir, wg_mir] at this
    have HM2 : Hid (∀ W b d, RdN W b t.size (nodes (mir t)) → t.size ≤ d → Calls Try.prog 17 #[.agg #[.slice b t.size d]] W (RetT W t.size F)) := fun W b d h1 h2 => by
      have := mirror_any b t.size d _ W h1 (by omega) h2
      rw [hsm, mir_mir, mir_size] at this
      exact this.mono fun e w' h => h.congr (fun i hi => (hF i hi).symm)
    have HS : Hid (∀ W b d, RdN W b t.size F → RdN W a t.size F → Calls Try.prog 20 #[.agg #[.slice b t.size d], .agg #[.slice a t.size c]] W (RetBo W true)) := fun W b d h1 h2 => by
      have := tsame_any b a t.size t.size d c F F W h1 h2 hn
      rwa [eqN_all (fun _ _ => rfl), show (decide (t.size = t.size) && true) = true by simp] at this
    have HT : Hid (∀ W, Below w1.heap.size w1 W → Calls Try.prog 29 #[.agg #[.slice a t.size c]] W (RetI W (wt t))) := fun W h => by
      have := weight_any a t.size c F W (rA.below h) hn hca
      rwa [hsnd] at this
    have HT2 : Hid (∀ W b d, RdN W b t.size (nodes (mir t)) → t.size ≤ d → Calls Try.prog 29 #[.agg #[.slice b t.size d]] W (RetI W (wt t))) := fun W b d h1 h2 => by
      have := weight_any b t.size d _ W h1 (by omega) h2
      rwa [hsm, wt_mir] at this
    have HC : Hid (∀ W, Below w1.heap.size w1 W → Calls Try.prog 27 #[.agg #[.slice a t.size c]] W (RetI W (chkE F t.size))) := fun W h => check_any a t.size c F W (rA.below h) hn
    have HC2 : Hid (∀ W b d, RdN W b t.size (nodes (mir t)) → Calls Try.prog 27 #[.agg #[.slice b t.size d]] W (RetI W (chkE F t.size))) := fun W b d h1 => by
      have := check_any b t.size d _ W h1 (by omega)
      rw [chk_nodes (mir t) (mir_size t).symm (mir_ok t ho) (by rw [mir_size]; exact hs), anc_mir t true true ho] at this
      rw [show chkE F t.size = if anc t (true, true) = true then 0 else 51 by simp only [chkE, hA]]
      exact this
    have HRA : Hid (∀ W, Below w1.heap.size w1 W → RdN W a t.size F) := fun W h => rA.below h
    have HD : Hid (∀ W, Below w1.heap.size w1 W → W.cell? ⟨w.heap.size, 0, none⟩ = some (.slice a t.size c)) := fun W h => (kP1.below h).cell 0 rfl
    have m1 : Hid True := trivial
    have m2 : Hid True := trivial
    have m3 : Hid True := trivial
    clear rA kP1 hF hsnd hsm hA ho
    generalize wl t = L at *
    generalize wg t = G at *
    generalize wt t = T at *
    generalize chkE F t.size = E at *
    generalize nodes (mir t) = fm at *
    generalize t.size = s at *
    clear hs
    go_upto_region 8 with (first | (go_at_call 31; refine hm.mono ?_; rintro e w2 ⟨rfl, hb2⟩; clear d0 hm; have d0 := HD.out _ hb2) | (go_at_call 17; refine (HM.out _ hb2).mono ?_; rintro e w3 ⟨a3, c3, rfl, o3, b3⟩; have hb3 := hb2.trans (b3.mono hb2.size); have cc3 := ownsRow_cap o3; have r3 := o3.rd; clear o3; have k3 := Cl.new w3 24 [.slice a3 s c3]; have hb4 := hb3.trans ((below1 w3 (.cells #[.slice a3 s c3] 24)).mono hb3.size); have r4 := r3.below (below1 w3 (.cells #[.slice a3 s c3] 24)); clear d0; have d0 := HD.out _ hb4) | (go_at_call 21; first | (clear m1; refine (HW.out _ hb4).mono ?_; rintro e w5 ⟨rfl, b5⟩; have hb5 := hb4.trans (b5.mono hb4.size); have k5 := k3.below b5; have r5 := r4.below b5; have e0 := k5.cell 0 rfl; clear d0; have d0 := HD.out _ hb5) | (refine (HW2.out _ _ _ r5 cc3).mono ?_; rintro e w6 ⟨rfl, b6⟩; have hb6 := hb5.trans (b6.mono hb5.size); have k6 := k5.below b6; have r6 := r5.below b6)))
    clear k3 k5 r3 r4 r5 hb2 hb3 hb4 hb5 b3 b5 b6 e0 HM HW HW2
    generalize hX : w3.heap.size = X at *
    clear hX
    have hLL : (L == L) = true := by simp
    have hGG : (G == G) = true := by simp
    have hTT : (T == T) = true := by simp
    have hEE : (E == E) = true := by simp
    clear d0
    have HX : Hid (∀ W, Below w6.heap.size w6 W → (W.cell? ⟨w.heap.size, 0, none⟩ = some (.slice a s c) ∧ W.cell? ⟨X, 0, none⟩ = some (.slice a3 s c3)) ∧ RdN W a s F ∧ RdN W a3 s fm ∧ Below w1.heap.size w1 W) := fun W h => ⟨⟨HD.out _ (hb6.trans (h.mono hb6.size)), (k6.below h).cell 0 rfl⟩, HRA.out _ (hb6.trans (h.mono hb6.size)), r6.below h, hb6.trans (h.mono hb6.size)⟩
    have HE : Hid (∀ W, Below w6.heap.size w6 W → Below w.heap.size w W) := fun W h => hB1.trans ((hb6.trans (h.mono hb6.size)).mono hB1.size)
    clear k6 r6 HRA HD hb6 hB1
    have tB : Below w6.heap.size w6 w6.drew := (Below.refl _ _).drew
    obtain ⟨hc, ra, rm, bw⟩ := HX.out _ tB
    have TB : Hid _ := tB
    clear tB
    go_region_held3 (fun w' => w'.cell? ⟨w.heap.size, 0, none⟩ = some (.slice a s c) ∧ w'.cell? ⟨X, 0, none⟩ = some (.slice a3 s c3)) (exact hc)
      (first
        | (go_at_call 17; refine (HM2.out _ _ _ rm cc3).mono ?_; rintro e w7 ⟨a7, c7, rfl, o7, q⟩; have r7 := o7.rd; clear o7; have tB := TB.out.trans (q.mono TB.out.size); clear TB q hc ra rm bw; obtain ⟨hc, ra, rm, bw⟩ := HX.out _ tB; have TB : Hid _ := tB; clear tB)
        | (go_at_call 20; refine (HS.out _ _ _ r7 ra).mono ?_; rintro e w8 ⟨rfl, q⟩; clear r7; have tB := TB.out.trans (q.mono TB.out.size); clear TB q hc ra rm bw; obtain ⟨hc, ra, rm, bw⟩ := HX.out _ tB; have TB : Hid _ := tB; clear tB)
        | (go_at_call 29; (first | (clear m2; refine (HT2.out _ _ _ rm cc3).mono ?_) | refine (HT.out _ bw).mono ?_); rintro e w9 ⟨rfl, q⟩; have tB := TB.out.trans (q.mono TB.out.size); clear TB q hc ra rm bw; obtain ⟨hc, ra, rm, bw⟩ := HX.out _ tB; have TB : Hid _ := tB; clear tB)
        | (go_at_call 27; (first | (clear m3; refine (HC2.out _ _ _ rm).mono ?_) | refine (HC.out _ bw).mono ?_); rintro e w11 ⟨rfl, q⟩; have tB := TB.out.trans (q.mono TB.out.size); clear TB q hc ra rm bw; obtain ⟨hc, ra, rm, bw⟩ := HX.out _ tB; have TB : Hid _ := tB; clear tB))
    all_goals
      go_wp2
      go_ret
      exact ⟨rfl, HE.out _ TB.out⟩
end Go.Proofs.Ytgedhjflminlbaa
