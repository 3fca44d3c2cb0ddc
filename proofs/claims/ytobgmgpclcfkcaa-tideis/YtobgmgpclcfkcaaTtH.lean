/- Ported: TtH. -/
import Derived.Test.YtobgmgpclcfkcaaTtG
namespace Go.Proofs.Ytobgmgpclcfkcaa.T
open Go.RowKit
theorem rep_list (x : Tre) (l m : Int) (z : Bool) : ndsL (fun i => sh 0 (nodes x i)) x.size ++ ndL ⟨5, 0, 0, 0, 0, x.size - 1, 0, l, m, z⟩ = ndsL (nodes (.rep x l m z)) (x.size + 1) := by
  rw [ndsL]
  congr 1
  · refine ndsL_congr fun i hi => ?_
    rw [nodes_rep x l m z i (by omega), if_pos hi, sh_zero]
  · rw [nodes_rep x l m z _ (by omega), if_neg (by omega)]
theorem new_cells (w : World) (x : Nd) (w' : World) (hb : Below (w.heap.size + 1) (w.alloc (.cells (ndL x).toArray 70)) w') : ∀ j u, (ndL x)[j]? = some u → w'.cell? (Addr.add ⟨w.heap.size, 0, none⟩ j) = some u := by
  intro j u hj
  have kn := Cl.new w 70 (ndL x)
  have := kn.cell j hj
  rw [← hb.cell (p := ⟨w.heap.size, j, none⟩) (by simp)] at this
  by_cases h0 : j = 0
  · subst h0; simpa [Addr.add] using this
  · simpa [Addr.add, h0] using this
theorem Cl.belowB {w w' : World} {b B : Nat} {t : TypeId} {vs : List Value} (h : Cl w b t vs) (hb : Below B w w') (hlt : b < B) : Cl w' b t vs := by unfold Cl; rw [hb.block b hlt]; exact h
set_option maxRecDepth 10000 in
set_option maxHeartbeats 4000000 in
theorem repeat_any (a : Option Addr) (n c : Nat) (F : Nat → Nd) (l m : Int) (z : Bool) (w : World) (ha : RdN w a n F) (hn : (n : Int) ≤ 9223372036854775807) (hca : n ≤ c) : Calls Try.prog 39 #[.agg #[.slice a n c], .int .i64 l, .int .i64 m, .bool z] w (RetT w ((snd F n).size + 1) (nodes (.rep (snd F n) l m z))) := by
  obtain ⟨ox, sx⟩ := snd_ok F n
  have px := (snd F n).size_pos
  have hW0 := below2 w (.cells #[.slice a n c] 47) (.cells #[.slice none 0 0] 47)
  have HA := sound_any a n c F _ (ha.below hW0) hn hca
  have hl := rep_list (snd F n) l m z
  have HM : Hid (∀ W a' c', RdN W (some a') (snd F n).size (nodes (snd F n)) → Calls Try.prog 56 #[.slice (some a') (snd F n).size c', .int .i64 0] W (RetN W (snd F n).size (fun i => sh 0 (nodes (snd F n) i)))) := fun W a' c' h => moved_any _ _ _ _ _ W h (by omega) (.inr ⟨_, rfl⟩) (nodes_bound' ox sx) (by omega)
  clear ha
  generalize snd F n = x at *
  have ka : Cl ((w.alloc (.cells #[.slice a n c] 47)).alloc (.cells #[.slice none 0 0] 47)) w.heap.size 47 [.slice a n c] := (Cl.new w 47 [.slice a n c]).alloc _
  have kr : Cl ((w.alloc (.cells #[.slice a n c] 47)).alloc (.cells #[.slice none 0 0] 47)) (w.heap.size + 1) 47 [.slice none 0 0] := by
    have := Cl.new (w.alloc (.cells #[.slice a n c] 47)) 47 [.slice none 0 0]
    simpa only [World.size_alloc] using this
  go_enter Try.func39, Try.ntmps39
  go_wp2_with fail
  refine HA.mono ?_
  rintro e w1 ⟨a1, cap1, b1, rfl, hr1, _, _, hB1⟩
  have ka1 := ka.below hB1
  have kR := (kr.below hB1).other (k := w.heap.size) (by omega) 0 (.slice (some a1) x.size cap1)
  have kA := ka1.set 0 (.slice (some a1) x.size cap1)
  have hrx := hr1.put ka1 (.slice (some a1) x.size cap1)
  have hW : Below w.heap.size w (w1.setCell ⟨w.heap.size, 0, none⟩ (.slice (some a1) x.size cap1)) := (hW0.trans (hB1.mono (by simp; omega))).setCell (p := ⟨w.heap.size, 0, none⟩) (Nat.le_refl _) _
  obtain ⟨d1, d2⟩ := ka1.one
  have d3 := kA.cell 0 rfl
  simp only [List.set_cons_zero] at kA
  clear ka kr hB1 hr1 HA hW0 ka1
  obtain ⟨i0, hi, hz0, hz1, hz2⟩ := info_parts b_node
  go_wp2_with fail
  clear d1 d2 d3
  have hsz : (w1.setCell ⟨w.heap.size, 0, none⟩ (.slice (some a1) x.size cap1)).heap.size = w1.heap.size := by simp
  generalize hWW : w1.setCell ⟨w.heap.size, 0, none⟩ (.slice (some a1) x.size cap1) = V at *
  clear hWW
  have hszR := kR.lt
  have kN : Cl (V.alloc (.cells #[.int .i64 5, .int .u64 0, .int .u64 0, .int .u64 0, .int .u64 0, .int .i64 (x.size - 1), .int .i64 0, .int .i64 l, .int .i64 m, .bool z] 70)) w1.heap.size 70 [.int .i64 5, .int .u64 0, .int .u64 0, .int .u64 0, .int .u64 0, .int .i64 (x.size - 1), .int .i64 0, .int .i64 l, .int .i64 m, .bool z] := by
    have := Cl.new V 70 [.int .i64 5, .int .u64 0, .int .u64 0, .int .u64 0, .int .u64 0, .int .i64 (x.size - 1), .int .i64 0, .int .i64 l, .int .i64 m, .bool z]
    rw [hsz] at this
    exact this
  have kA' := kA.alloc (.cells #[.int .i64 5, .int .u64 0, .int .u64 0, .int .u64 0, .int .u64 0, .int .i64 (x.size - 1), .int .i64 0, .int .i64 l, .int .i64 m, .bool z] 70)
  have kR' := kR.alloc (.cells #[.int .i64 5, .int .u64 0, .int .u64 0, .int .u64 0, .int .u64 0, .int .i64 (x.size - 1), .int .i64 0, .int .i64 l, .int .i64 m, .bool z] 70)
  have hrx' := hrx.below (below1 V (.cells #[.int .i64 5, .int .u64 0, .int .u64 0, .int .u64 0, .int .u64 0, .int .i64 (x.size - 1), .int .i64 0, .int .i64 l, .int .i64 m, .bool z] 70))
  have hW' : Below w.heap.size w (V.alloc (.cells #[.int .i64 5, .int .u64 0, .int .u64 0, .int .u64 0, .int .u64 0, .int .i64 (x.size - 1), .int .i64 0, .int .i64 l, .int .i64 m, .bool z] 70)) := hW.trans ((below1 V _).mono hW.size)
  have hszU : (V.alloc (.cells #[.int .i64 5, .int .u64 0, .int .u64 0, .int .u64 0, .int .u64 0, .int .i64 (x.size - 1), .int .i64 0, .int .i64 l, .int .i64 m, .bool z] 70)).heap.size = V.heap.size + 1 := by simp
  generalize hU : V.alloc (.cells #[.int .i64 5, .int .u64 0, .int .u64 0, .int .u64 0, .int .u64 0, .int .i64 (x.size - 1), .int .i64 0, .int .i64 l, .int .i64 m, .bool z] 70) = U at *
  clear hU kA kR hrx hW
  have hdk : Hid (∀ o, RdN (U.drew.alloc o) (some a1) x.size (nodes x)) := fun o => (hrx'.below (Below.refl _ _).drew).below (below1 _ _)
  have hdk0 : Hid (RdN U.drew (some a1) x.size (nodes x)) := hrx'.below (Below.refl _ _).drew
  have h1c : Hid (∀ u ∈ ndL ⟨5, 0, 0, 0, 0, x.size - 1, 0, l, m, z⟩, u.oneCell' = true) := fun u hu => ndsL_oneCell (fun _ => ⟨5, 0, 0, 0, 0, x.size - 1, 0, l, m, z⟩) 1 u (by rw [ndsL_one]; exact hu)
  obtain ⟨dN, _⟩ := kN.ten
  obtain ⟨dN0, dN1, dN2, dN3, dN4, dN5, dN6, dN7, dN8, dN9⟩ := dN
  have dA := kA'.cell 0 rfl
  have hsx : (x.size : Int) ≤ 2048 := by omega
  have HS : Hid (∀ W, Cl W w.heap.size 47 [.slice (some a1) x.size cap1] → Cl W w1.heap.size 70 [.int .i64 5, .int .u64 0, .int .u64 0, .int .u64 0, .int .u64 0, .int .i64 (x.size - 1), .int .i64 0, .int .i64 l, .int .i64 m, .bool z] → W.cell? ⟨w.heap.size, 0, none⟩ = some (.slice (some a1) x.size cap1) ∧ W.cell? ⟨w1.heap.size, 0, none⟩ = some (.int .i64 5) ∧ W.cell? ⟨w1.heap.size, 1, none⟩ = some (.int .u64 0) ∧ W.cell? ⟨w1.heap.size, 2, none⟩ = some (.int .u64 0) ∧ W.cell? ⟨w1.heap.size, 3, none⟩ = some (.int .u64 0) ∧ W.cell? ⟨w1.heap.size, 4, none⟩ = some (.int .u64 0) ∧ W.cell? ⟨w1.heap.size, 5, none⟩ = some (.int .i64 (x.size - 1)) ∧ W.cell? ⟨w1.heap.size, 6, none⟩ = some (.int .i64 0) ∧ W.cell? ⟨w1.heap.size, 7, none⟩ = some (.int .i64 l) ∧ W.cell? ⟨w1.heap.size, 8, none⟩ = some (.int .i64 m) ∧ W.cell? ⟨w1.heap.size, 9, none⟩ = some (.bool z)) := by
    intro W h1 h2
    obtain ⟨⟨e0, e1, e2, e3, e4, e5, e6, e7, e8, e9⟩, _⟩ := h2.ten
    exact ⟨h1.cell 0 rfl, e0, e1, e2, e3, e4, e5, e6, e7, e8, e9⟩
  have HL : Hid (∀ W ao c4, OwN W U.heap.size ao (x.size + 1) c4 (nodes (.rep x l m z)) → Below U.heap.size U W → Cl W (w.heap.size + 1) 47 [.slice none 0 0] ∧ RetT w (x.size + 1) (nodes (.rep x l m z)) (.returned (.agg #[.slice ao (x.size + 1) c4])) (W.setCell ⟨w.heap.size + 1, 0, none⟩ (.slice ao (x.size + 1) c4))) := by
    intro W ao c4 h1 h2
    refine ⟨kR'.belowB h2 (by omega), ao, c4, rfl, ?_, (hW'.trans (h2.mono (by omega))).setCell (p := ⟨w.heap.size + 1, 0, none⟩) (by simp) _⟩
    refine ownsRow_base (ownsRow_at h1 fun g' h1 h2 => ?_) (show w.heap.size ≤ U.heap.size by omega)
    rw [Below.heap_setCell _ _ _ _ (by simp; omega)]
  have hds : U.drew.heap.size = U.heap.size := rfl
  go_region_held3 (fun w' => w'.cell? ⟨w.heap.size, 0, none⟩ = some (.slice (some a1) x.size cap1) ∧ w'.cell? ⟨w1.heap.size, 0, none⟩ = some (.int .i64 5) ∧ w'.cell? ⟨w1.heap.size, 1, none⟩ = some (.int .u64 0) ∧ w'.cell? ⟨w1.heap.size, 2, none⟩ = some (.int .u64 0) ∧ w'.cell? ⟨w1.heap.size, 3, none⟩ = some (.int .u64 0) ∧ w'.cell? ⟨w1.heap.size, 4, none⟩ = some (.int .u64 0) ∧ w'.cell? ⟨w1.heap.size, 5, none⟩ = some (.int .i64 (x.size - 1)) ∧ w'.cell? ⟨w1.heap.size, 6, none⟩ = some (.int .i64 0) ∧ w'.cell? ⟨w1.heap.size, 7, none⟩ = some (.int .i64 l) ∧ w'.cell? ⟨w1.heap.size, 8, none⟩ = some (.int .i64 m) ∧ w'.cell? ⟨w1.heap.size, 9, none⟩ = some (.bool z)) (first | exact sC | exact sB | exact sA | go_keep) (first | (go_at_call 56; refine (HM.out _ _ _ (by first | exact hdk0.out | exact hdk.out _)).mono ?_; rintro e w3 ⟨ao3, c3, rfl, ho3, hb3⟩; obtain ⟨g3, rfl, hg3, hgB3, _, _⟩ := ho3.cells px; have kA3 : Cl w3 w.heap.size 47 [.slice (some a1) x.size cap1] := (by first | exact kA'.drew.below hb3 | exact (kA'.drew.alloc _).below hb3); have kN3 : Cl w3 w1.heap.size 70 [.int .i64 5, .int .u64 0, .int .u64 0, .int .u64 0, .int .u64 0, .int .i64 (x.size - 1), .int .i64 0, .int .i64 l, .int .i64 m, .bool z] := (by first | exact kN.drew.below hb3 | exact (kN.drew.alloc _).below hb3); have sA := HS.out w3 kA3 kN3; have hg3U : U.heap.size ≤ g3 := Nat.le_trans (by simp) hgB3; have hbU : Below U.heap.size U w3 := (by first | exact (Below.refl _ _).drew.trans (hb3.mono (by simp [hds])) | exact ((Below.refl _ _).drew.alloc (by simp) _).trans (hb3.mono (by simp))); have ho3' : OwN w3 U.heap.size (some ⟨g3, 0, none⟩) x.size c3 (fun i => sh 0 (nodes x i)) := ownsRow_base ho3 (by simp)) | (refine step_append_lies _ (by rfl) _ _ 45 (by rfl) U.heap.size 70 i0 _ 10 80 Try.underlying45 hi hz0 hz1 hz2 (by rfl) (by decide) (.slice (some ⟨g3, 0, none⟩) x.size c3) x.size (ndsL (fun i => sh 0 (nodes x i)) x.size) (by rfl) (by first | exact ownsRow_below ho3' (below1 _ _) | exact ho3') _ 1 1 (ndL ⟨5, 0, 0, 0, 0, x.size - 1, 0, l, m, z⟩) (by rfl) (by rfl) (by first | exact new_cells w3 _ _ (Below.refl _ _) | (have q := new_cells U ⟨5, 0, 0, 0, 0, x.size - 1, 0, l, m, z⟩ w3 ((Below.refl _ _).drew.trans (hb3.mono (by simp))); rw [show U.heap.size = w1.heap.size + 1 by omega] at q; exact q)) h1c.out (by decide) (by unfold maxLen; omega) (by omega) (by first | exact hbU.size | exact Nat.le_trans hbU.size (by simp)) _ rfl ?_; intro g cap2 w2 hown2 hgrow hat hlt2; rw [hl] at hown2; have hb5 : Below U.heap.size w3 w2 := (by first | exact ((below1 _ _).mono hbU.size).grown hgrow (Nat.le_trans hbU.size (by simp)) (by intro q hq; simp [Value.ownBlock] at hq; omega) | exact (Below.refl _ _).grown hgrow hbU.size (by intro q hq; simp [Value.ownBlock] at hq; omega)); have sB := HS.out w2 (kA3.belowB hb5 (by omega)) (kN3.belowB hb5 (by omega)); have sC := HS.out (w2.setCell ⟨w.heap.size + 1, 0, none⟩ (.slice (some ⟨g, 0, none⟩) (x.size + 1) cap2)) ((kA3.belowB hb5 (by omega)).other (by omega) 0 _) ((kN3.belowB hb5 (by omega)).other (by omega) 0 _); obtain ⟨kR5, hfin⟩ := HL.out w2 _ _ hown2 (hbU.trans hb5); obtain ⟨d8, d9⟩ := kR5.one))
  all_goals
    have dd := (kR5.set 0 (.slice (some ⟨g, 0, none⟩) (x.size + 1) cap2)).cell 0 rfl
    have HX : Hid _ := hfin
    clear hfin
    go_wp2
    exact bodyPost_ret (by simp [results, Try.results39, go_sem, dd]) rfl HX.out
end Go.Proofs.Ytobgmgpclcfkcaa.T
