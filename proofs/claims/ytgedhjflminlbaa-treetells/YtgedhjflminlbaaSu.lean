/- cut, Sub, Clone: the walks. -/
import Derived.Test.YtgedhjflminlbaaMv
import Derived.Test.YtgedhjflminlbaaJo
import Derived.Test.YtgedhjflminlbaaTail
namespace Go.Proofs.Ytgedhjflminlbaa
open Go.RowKit
theorem slice_mid22 (b off n cap lo hi : Nat) (h1 : lo < hi) (h2 : hi ≤ cap) (w : World) : (Instr.slice 22 (.slice (some ⟨b, off, none⟩) n cap) (some (.int .i64 (lo : Nat))) (some (.int .i64 (hi : Nat))) none).run Try.prog w = .ok (.slice (some ⟨b, off + lo * 10, none⟩) (hi - lo) (cap - lo)) w := by
  have hs : ∀ w, (Go.sizeOf 29).run Try.prog w = .ok 10 w := fun w => by kernel_rfl
  have e1 : (lo : Int) ≤ (hi : Int) := by omega
  have e2 : (hi : Int) ≤ (cap : Int) := by omega
  have e3 : ¬ cap = lo := by omega
  by_cases h0 : lo = 0
  · subst h0
    simp [go_sem, Try.underlying22, hs, e2, e3, Addr.add]
  · simp [go_sem, Try.underlying22, hs, e1, e2, e3, Addr.add]
    omega
set_option maxRecDepth 10000 in
set_option maxHeartbeats 1000000 in
theorem cut_any (bb off cap fr at_ : Nat) (t u : Tre) (w : World) (ho : t.ok = true) (hs : t.size ≤ 2048) (hcap : t.size ≤ cap) (hr : RdN w (some ⟨bb, off, none⟩) t.size (nodes t)) (hu : t.subs[at_]? = some u) (hfr : fr = at_ + 1 - u.size) :
    Calls Try.prog 48 #[.agg #[.slice (some ⟨bb, off, none⟩) t.size cap], .int .i64 (fr : Nat), .int .i64 (at_ : Nat)] w (RetT w u.size (nodes u)) := by
  obtain ⟨s1, s2, _⟩ := subs_sub t at_ u hu
  have su := u.size_pos
  have hok := subs_ok t at_ u ho hu
  have e1 : at_ + 1 - fr = u.size := by omega
  have hsl := slice_mid22 bb off t.size cap fr (at_ + 1) (by omega) (by omega)
  rw [e1] at hsl
  have hB := below2 w (.cells #[.slice (some ⟨bb, off, none⟩) t.size cap] 24) (.cells #[.slice none 0 0] 24)
  have hrd : RdN w (some ⟨bb, off + fr * 10, none⟩) u.size (fun i => nodes t (fr + i)) := by
    intro _
    obtain ⟨b', o', ea, hlt, hc⟩ := hr (by omega)
    obtain ⟨rfl, rfl⟩ : bb = b' ∧ off = o' := by simpa using ea
    refine ⟨bb, off + fr * 10, rfl, hlt, fun i hi => ?_⟩
    have := hc (fr + i) (by omega)
    rw [show off + (fr + i) * 10 = off + fr * 10 + i * 10 by omega] at this
    exact this
  have HM := moved_any (some ⟨bb, off + fr * 10, none⟩) u.size (cap - fr) (fun i => nodes t (fr + i)) (-(fr : Int)) _ (hrd.below hB) (by omega) (.inr ⟨_, rfl⟩) (fun i hi => nodes_bound' ho hs (fr + i) (by omega)) (by omega)
  have hres : ∀ i, i < u.size → sh (-(fr : Int)) (nodes t (fr + i)) = nodes u i := fun i hi => by
    rw [nodes_sub ho hu i hi, hfr]
  have kr : Cl ((w.alloc (.cells #[.slice (some ⟨bb, off, none⟩) t.size cap] 24)).alloc (.cells #[.slice none 0 0] 24)) (w.heap.size + 1) 24 [.slice none 0 0] := by
    have := Cl.new (w.alloc (.cells #[.slice (some ⟨bb, off, none⟩) t.size cap] 24)) 24 [.slice none 0 0]
    simpa only [World.size_alloc] using this
  have hai : (at_ : Int) ≤ 2048 := by omega
  have hfi : (fr : Int) ≤ 2048 := by omega
  have ea : ((at_ + 1 : Nat) : Int) = (at_ : Int) + 1 := by omega
  rw [ea] at hsl
  have HF : Hid (∀ w3 ao c3, OwN w3 (w.heap.size + 1 + 1) ao u.size c3 (fun i => sh (-(fr : Int)) (nodes t (fr + i))) → Below (w.heap.size + 1 + 1) ((w.alloc (.cells #[.slice (some ⟨bb, off, none⟩) t.size cap] 24)).alloc (.cells #[.slice none 0 0] 24)) w3 → RetT w u.size (nodes u) (.returned (.agg #[.slice ao u.size c3])) (w3.setCell ⟨w.heap.size + 1, 0, none⟩ (.slice ao u.size c3))) := by
    intro w3 ao c3 h1 h2
    refine ⟨ao, c3, rfl, ?_, (hB.trans (h2.mono (by omega))).setCell (p := ⟨w.heap.size + 1, 0, none⟩) (by simp) _⟩
    unfold OwN
    rw [← ndsL_congr hres]
    refine ownsRow_base (ownsRow_at h1 fun g' h1 h2 => ?_) (by omega)
    rw [Below.heap_setCell _ _ _ _ (by simp; omega)]
  clear hr hrd hres hu hok s1 s2 e1 hfr hs ho
  go_enter Try.func48, Try.ntmps48
  go_wp2_with (go_at_call 38; refine HM.mono ?_; rintro e w3 ⟨ao3, c3, rfl, ho3, hb3⟩; have kr3 := kr.below hb3; obtain ⟨d1, d2⟩ := kr3.one)
  have dd := (kr3.set 0 (.slice ao3 u.size c3)).cell 0 rfl
  have hfin := HF.out w3 ao3 c3 (by simpa using ho3) (by simpa using hb3)
  exact bodyPost_ret (by simp [results, Try.results48, go_sem, dd]) rfl hfin
set_option maxHeartbeats 400000 in
theorem tclone_any (ao : Option Addr) (l c : Nat) (F : Nat → Nd) (w : World) (hr : RdN w ao l F) (hm : (l : Int) * 80 ≤ 140737488355328) (hn : Shp ao l c) : Calls Try.prog 19 #[.agg #[.slice ao l c]] w (RetT w l F) := by
  have hB := below2 w (.cells #[.slice ao l c] 24) (.cells #[.slice none 0 0] 24)
  have HC := clone_any ao l c F _ (hr.below hB) hm hn
  have kr : Cl ((w.alloc (.cells #[.slice ao l c] 24)).alloc (.cells #[.slice none 0 0] 24)) (w.heap.size + 1) 24 [.slice none 0 0] := by
    have := Cl.new (w.alloc (.cells #[.slice ao l c] 24)) 24 [.slice none 0 0]
    simpa only [World.size_alloc] using this
  clear hr hm hn
  go_enter Try.func19, Try.ntmps19
  go_wp2_with (go_at_call 42; refine HC.mono ?_; rintro e w3 ⟨ao3, c3, rfl, ho3, hb3⟩; have kr3 := kr.below hb3; obtain ⟨d1, d2⟩ := kr3.one)
  have dd := (kr3.set 0 (.slice ao3 l c3)).cell 0 rfl
  have hs3 := hb3.size
  simp only [World.size_alloc] at hs3
  refine bodyPost_ret (by simp [results, Try.results19, go_sem, dd]) rfl ⟨ao3, c3, rfl, ?_, (hB.trans (hb3.mono (by simp; omega))).setCell (p := ⟨w.heap.size + 1, 0, none⟩) (by simp) _⟩
  refine ownsRow_base (ownsRow_at ho3 fun g' h1 h2 => ?_) (by simp; omega)
  simp only [World.size_alloc] at h1
  rw [Below.heap_setCell _ _ _ _ (by simp; omega)]
/-- What Sub answers. -/
def RetSb (w : World) (t : Tre) (x : Int) (e : Ending) (w' : World) : Prop :=
  (x < 0 ∨ (t.size : Int) ≤ x → e = .returned (.tuple #[.agg #[.slice none 0 0], .bool false])) ∧
  (∀ u, 0 ≤ x → t.subs[x.toNat]? = some u → ∃ ao cap, e = .returned (.tuple #[.agg #[.slice ao u.size cap], .bool true]) ∧ OwN w' w.heap.size ao u.size cap (nodes u)) ∧ Below w.heap.size w w'
set_option maxRecDepth 10000 in
set_option maxHeartbeats 2000000 in
theorem sub_any (a : Option Addr) (n c : Nat) (F : Nat → Nd) (x : Int) (w : World) (ha : RdN w a n F) (hn : (n : Int) ≤ 9223372036854775807) (hca : n ≤ c) : Calls Try.prog 23 #[.agg #[.slice a n c], .int .i64 x] w (RetSb w (snd F n) x) := by
  obtain ⟨ox, sx⟩ := snd_ok F n
  have px := (snd F n).size_pos
  have hW0 := below2 w (.cells #[.slice a n c] 24) (.cells #[.slice none 0 0] 24)
  have HA := sound_any a n c F _ (ha.below hW0) hn hca
  clear ha
  generalize snd F n = t at *
  have ka : Cl ((w.alloc (.cells #[.slice a n c] 24)).alloc (.cells #[.slice none 0 0] 24)) w.heap.size 24 [.slice a n c] := (Cl.new w 24 [.slice a n c]).alloc _
  have kr : Cl ((w.alloc (.cells #[.slice a n c] 24)).alloc (.cells #[.slice none 0 0] 24)) (w.heap.size + 1) 24 [.slice none 0 0] := by
    have := Cl.new (w.alloc (.cells #[.slice a n c] 24)) 24 [.slice none 0 0]
    simpa only [World.size_alloc] using this
  go_enter Try.func23, Try.ntmps23
  go_wp2_with fail
  refine HA.mono ?_
  rintro e w1 ⟨a1, cap1, b1, rfl, hr1, ⟨hb1, hcap1⟩, hc1, hB1⟩
  have ka1 := ka.below hB1
  simp only [World.size_alloc] at hb1
  have kF := hc1.other (k := w.heap.size) (by omega) 0 (.slice (some a1) t.size cap1)
  have kR := (kr.below hB1).other (k := w.heap.size) (by omega) 0 (.slice (some a1) t.size cap1)
  have kA := ka1.set 0 (.slice (some a1) t.size cap1)
  have hrx := hr1.put ka1 (.slice (some a1) t.size cap1)
  have hW : Below w.heap.size w (w1.setCell ⟨w.heap.size, 0, none⟩ (.slice (some a1) t.size cap1)) := (hW0.trans (hB1.mono (by simp; omega))).setCell (p := ⟨w.heap.size, 0, none⟩) (Nat.le_refl _) _
  obtain ⟨d1, d2⟩ := ka1.one
  have d3 := kA.cell 0 rfl
  simp only [List.set_cons_zero] at kA
  obtain ⟨bb, off, ea, _, _⟩ := hrx px
  obtain rfl := Option.some.inj ea
  clear ka kr hB1 hr1 HA hW0 ka1 hc1
  by_cases hx : x < 0 ∨ (t.size : Int) ≤ x
  · have HR : Hid (∀ W, Below w.heap.size w W → RetSb w t x (.returned (.tuple #[.agg #[.slice none 0 0], .bool false])) W) := fun W h => ⟨fun _ => rfl, fun u h0 hu => by
      have := (List.getElem?_eq_some_iff.1 hu).1
      rw [Tre.subs_length] at this
      omega, h⟩
    obtain ⟨d8, d9⟩ := kR.one
    have dd := (kR.set 0 (.slice none 0 0)).cell 0 rfl
    have hbf := hW.setCell (p := ⟨w.heap.size + 1, 0, none⟩) (by simp) (.slice none 0 0)
    by_cases h0 : x < 0
    · clear hx
      go_wp2_with fail
      exact bodyPost_ret (by simp [results, Try.results23, go_sem, dd]) rfl (HR.out _ hbf)
    · have h1 : (t.size : Int) ≤ x := by omega
      have h2 : x ≥ (t.size : Int) := h1
      clear hx
      go_wp2_with fail
      exact bodyPost_ret (by simp [results, Try.results23, go_sem, dd]) rfl (HR.out _ hbf)
  · obtain ⟨k, rfl⟩ : ∃ k : Nat, x = (k : Int) := ⟨x.toNat, by omega⟩
    have hk : k < t.size := by omega
    have hki : (k : Int) < (t.size : Int) := by omega
    have h0 : ¬ (k : Int) < 0 := by omega
    have h2 : ¬ (k : Int) ≥ (t.size : Int) := by omega
    have hl : k < t.subs.length := by rw [Tre.subs_length]; exact hk
    have e := List.getElem?_eq_getElem hl
    obtain ⟨s1, _, _⟩ := subs_sub t k _ e
    have hst : stF t k = ((k + 1 - (t.subs[k]).size : Nat) : Int) := by
      unfold stF
      rw [e]
      simp only [Option.getD_some]
      omega
    have dF := kF.cell k (ints_get (stF t) hk)
    rw [hst] at dF
    have HC : Hid (∀ W, Below w.heap.size w W → RdN W (some ⟨bb, off, none⟩) t.size (nodes t) → Calls Try.prog 48 #[.agg #[.slice (some ⟨bb, off, none⟩) t.size cap1], .int .i64 ((k + 1 - (t.subs[k]).size : Nat) : Int), .int .i64 (k : Nat)] W (RetT W (t.subs[k]).size (nodes t.subs[k]))) := fun W _ hr => cut_any bb off cap1 _ k t _ W ox sx hcap1 hr e rfl
    have HR : Hid (∀ W ao cap, OwN W w.heap.size ao (t.subs[k]).size cap (nodes t.subs[k]) → Below w.heap.size w W → RetSb w t (k : Int) (.returned (.tuple #[.agg #[.slice ao (t.subs[k]).size cap], .bool true])) W) := fun W ao cap h1 h2 => ⟨fun h => absurd h hx, fun u _ hu => by
      rw [Int.toNat_natCast, e] at hu
      obtain rfl := Option.some.inj hu
      exact ⟨ao, cap, rfl, h1⟩, h2⟩
    clear hx e hst s1
    generalize (t.subs[k]).size = us at *
    generalize nodes t.subs[k] = G at *
    generalize k + 1 - us = fr at *
    have hsz2 := kR.lt
    go_wp2_with fail
    clear d1 d2 d3
    generalize hWW : w1.setCell ⟨w.heap.size, 0, none⟩ (.slice (some ⟨bb, off, none⟩) t.size cap1) = V at *
    clear hWW
    have n1 := Near.cell (kA.cell 0 rfl) kA.lt
    have n2 := Near.cell dF kF.lt
    refine wp_region_quiet_tail 6 (fun w' => ∃ u : World, w' = near V u) (by kernel_rfl) (by kernel_rfl) (Near.start _) ?_
    simp only [List.take_succ_cons, List.take_zero, List.drop_succ_cons, List.drop_zero]
    repeat (go_big_quiet_step (fail))
    refine wpQuiet_nil ?_
    rintro _ ⟨u, rfl⟩
    have kR' := kR.below (near_below V u)
    have hbn := hW.trans ((near_below V u).mono hW.size)
    have hrn := hrx.below (near_below V u)
    have hsn := (near_below V u).size
    clear n1 n2
    generalize near V u = U at *
    go_wp2_with (go_at_call 48; refine (HC.out _ hbn hrn).mono ?_; rintro e w3 ⟨ao3, c3, rfl, ho3, hb3⟩; have kr3 := kR'.below hb3; obtain ⟨d5, d6⟩ := kr3.one)
    have dd := (kr3.set 0 (.slice ao3 us c3)).cell 0 rfl
    refine bodyPost_ret (by simp [results, Try.results23, go_sem, dd]) rfl (HR.out _ ao3 c3 ?_ ((hbn.trans (hb3.mono hbn.size)).setCell (p := ⟨w.heap.size + 1, 0, none⟩) (by simp) _))
    refine ownsRow_base (ownsRow_at ho3 fun g' h1 h2 => ?_) hbn.size
    rw [Below.heap_setCell _ _ _ _ (by simp; omega)]
end Go.Proofs.Ytgedhjflminlbaa
