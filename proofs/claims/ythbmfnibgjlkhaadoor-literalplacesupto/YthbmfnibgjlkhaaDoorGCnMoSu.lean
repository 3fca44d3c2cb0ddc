/- Cn: more of Nl. Mo: more of Mv. cut, Sub, Clone: the walks. -/
import Derived.Test.YthbmfnibgjlkhaaDoorGSpSaNl
import Derived.Test.YthbmfnibgjlkhaaDoorGMvEmGrJoRpJk
import Derived.Test.YthbmfnibgjlkhaaDoorTail
namespace Go.Proofs.YthbmfnibgjlkhaaDoor
open Go.RowKit
set_option maxHeartbeats 400000 in
theorem clone_nil (w : World) : Calls Tryd.prog 96 #[.slice none 0 0] w fun e w' => e = .returned (.slice none 0 0) ∧ w' = w := by
  have hnil := fun w => Lib.run_eql_slice_nil (P := Tryd.prog) w 46 82 none 0 0 0 0 Tryd.underlying46
  go_enter Tryd.func96, Tryd.ntmps96
  go_wp2
  go_ret
  exact ⟨rfl, rfl⟩
set_option maxHeartbeats 400000 in
theorem clone_some (a : Addr) (l c : Nat) (F : Nat → Nd) (w : World) (hr : RdN w (some a) l F) (hm : (l : Int) * 80 ≤ 140737488355328) : Calls Tryd.prog 96 #[.slice (some a) l c] w fun e w' => ∃ g cap, e = .returned (.slice (some ⟨g, 0, none⟩) l cap) ∧ OwN w' w.heap.size (some ⟨g, 0, none⟩) l cap F ∧ Below w.heap.size w w' := by
  have hnil := fun w => Lib.run_eql_slice_nil (P := Tryd.prog) w 46 82 (some a) l c 0 0 Tryd.underlying46
  obtain ⟨i0, hi, hz0, hz1, hz2⟩ := info_parts b_node
  go_enter Tryd.func96, Tryd.ntmps96
  have hnews : ∀ j u, (ndsL F l)[j]? = some u → (w.alloc (.cells #[] 82)).cell? (a.add j) = some u := by
    intro j u hj
    have hjl := (List.getElem?_eq_some_iff.1 hj).1
    rw [ndsL_len] at hjl
    obtain ⟨b, off, e, hb, hc⟩ := hr.cells (by omega)
    obtain rfl := Option.some.inj e
    have hcj := hc j u hj
    rw [((Below.refl _ w).alloc (Nat.le_refl _) _).cell (by by_cases h0 : j = 0 <;> simpa [Addr.add, h0] using hb)]
    by_cases h0 : j = 0
    · subst h0; simpa [Addr.add] using hcj
    · simpa [Addr.add, h0] using hcj
  go_wp2_with (at_builtin; refine wpList_append_own _ rfl _ _ 46 rfl w.heap.size 82 i0 _ 10 80 Tryd.underlying46 hi hz0 hz1 hz2 rfl (by decide) _ _ _ rfl (World.ownsRow_made (e := 82) (size := 10) (base := w.heap.size) w #[] 0 (Nat.le_refl _) (Nat.zero_le _) rfl) a l c (ndsL F l) rfl (by simp [ndsL_len]) hnews (ndsL_oneCell F l) (by unfold maxLen; omega) (by omega) (by simp) ?_)
  intro v' w2 hown hgr hnil'
  have hb2 : Below w.heap.size w w2 := ((Below.refl _ _).alloc (Nat.le_refl _) _).grown hgr (by simp) (by intro k hk; simp [Value.ownBlock] at hk; omega)
  obtain ⟨g, cap, rfl, hrd⟩ : ∃ g cap, v' = .slice (some ⟨g, 0, none⟩) l cap ∧ OwN w2 w.heap.size (some ⟨g, 0, none⟩) l cap F := by
    replace hown : w2.ownsRow w.heap.size 82 10 v' l (ndsL F l) := by simpa using hown
    rcases hown.2 with ⟨h', _⟩ | ⟨g, cap, cur, h', _⟩
    · exact (hnil' h').elim
    · exact ⟨g, cap, h', by unfold OwN; rw [← h']; exact hown⟩
  have HR : Hid (OwN w2 w.heap.size (some ⟨g, 0, none⟩) l cap F) := hrd
  clear hown hgr hnil' hnews hr hrd
  go_wp2
  go_ret
  exact ⟨_, cap, rfl, HR.out, hb2⟩
theorem clone_any (ao : Option Addr) (l c : Nat) (F : Nat → Nd) (w : World) (hr : RdN w ao l F) (hm : (l : Int) * 80 ≤ 140737488355328) (hn : Shp ao l c) : Calls Tryd.prog 96 #[.slice ao l c] w (RetN w l F) := by
  rcases hn with ⟨rfl, rfl, rfl⟩ | ⟨a, rfl⟩
  · exact (clone_nil w).mono fun e w' ⟨he, hw⟩ => ⟨none, 0, he, World.ownsRow_nil _ _ _ _, by rw [hw]; exact Below.refl _ _⟩
  · exact (clone_some a l c F w hr hm).mono fun e w' ⟨g, cap, he, ho, hb⟩ => ⟨_, cap, he, ho, hb⟩
end Go.Proofs.YthbmfnibgjlkhaaDoor
namespace Go.Proofs.YthbmfnibgjlkhaaDoor
open Go.RowKit
set_option maxRecDepth 10000 in
set_option maxHeartbeats 1000000 in
theorem moved_any (ao : Option Addr) (n cap : Nat) (F : Nat → Nd) (by_ : Int) (w : World) (hr : RdN w ao n F) (hn : (n : Int) ≤ 2048) (hs : Shp ao n cap) (hF : ∀ i, i < n → (-4096 ≤ (F i).a ∧ (F i).a ≤ 4096) ∧ (-4096 ≤ (F i).b ∧ (F i).b ≤ 4096)) (hby : -4096 ≤ by_ ∧ by_ ≤ 4096) :
    Calls Tryd.prog 99 #[.slice ao n cap, .int .i64 by_] w (RetN w n (fun i => sh by_ (F i))) := by
  have HC := clone_any ao n cap F w hr (by omega) hs
  have hfin : ∀ i, i < n → mvF by_ n F i = sh by_ (F i) := fun i hi => by simp [mvF, hi]
  have hF0 : mvF by_ 0 F = F := by funext i; simp [mvF]
  clear hr hs
  go_enter Tryd.func99, Tryd.ntmps99
  go_wp2_with (go_at_call 96; refine HC.mono ?_; rintro e w1 ⟨ao1, cap1, rfl, ho, hb⟩)
  clear HC
  go_loopw [11] (fun i wr => ∃ k : Nat, k ≤ n ∧ i = .int .i64 (k : Nat) ∧ OwN wr w.heap.size ao1 n cap1 (mvF by_ k F) ∧ Below w.heap.size w wr) (fun i _ => n - (intOf i).toNat)
  case atStart => exact ⟨0, Nat.zero_le _, rfl, by rw [hF0]; exact ho, hb⟩
  case round =>
    obtain ⟨k, hk, rfl, ho1, hb1⟩ := hrel
    clear ho hb
    by_cases hlt : k < n
    · have hki : (k : Int) < (n : Int) := by omega
      obtain ⟨g, rfl, hgl, hgB, hc, hfz⟩ := ho1.cells (by omega)
      have c0 := hc k 0 _ hlt (by omega) rfl
      have c5 := hc k 5 _ hlt (by omega) rfl
      have c6 := hc k 6 _ hlt (by omega) rfl
      have f5 := hfz (k * 10 + 5)
      have f6 := hfz (k * 10 + 6)
      rw [mvF_at] at c0 c5 c6
      simp only [Nat.add_zero] at c0
      obtain ⟨⟨a1, a2⟩, b1, b2⟩ := hF k hlt
      obtain ⟨y1, y2⟩ := hby
      have HX : Hid (∀ W, OwN W w.heap.size (some ⟨g, 0, none⟩) n cap1 (mvF by_ (k + 1) F) → Below w.heap.size w W → ∃ k' : Nat, k' ≤ n ∧ (Value.int .i64 ((k : Int) + 1)) = .int .i64 (k' : Nat) ∧ OwN W w.heap.size (some ⟨g, 0, none⟩) n cap1 (mvF by_ k' F) ∧ Below w.heap.size w W) := fun W h1 h2 => ⟨k + 1, hlt, by simp, h1, h2⟩
      have hset : ∀ (G : Nat → Nd) (j : Nat) (v : Int) (x : Nd) (W : World), j < 10 → OwN W w.heap.size (some ⟨g, 0, none⟩) n cap1 G → Below w.heap.size w W → (ndL (G k)).set j (.int .i64 v) = ndL x → OwN (W.setCell ⟨g, k * 10 + j, none⟩ (.int .i64 v)) w.heap.size (some ⟨g, 0, none⟩) n cap1 (updN G k x) ∧ Below w.heap.size w (W.setCell ⟨g, k * 10 + j, none⟩ (.int .i64 v)) := by
        intro G j v x W hj h1 h2 h3
        refine ⟨?_, h2.setCell (p := ⟨g, k * 10 + j, none⟩) hgB _⟩
        have := (World.ownsRow.stored h1 (k * 10 + j) (.int .i64 v)).1
        rw [ndsL_set G n k j _ x hlt hj h3] at this
        exact this
      have hm := mvF_succ by_ k F
      have hat := mvF_at by_ k F
      by_cases k34 : (F k).k = 3 ∨ (F k).k = 4
      · have HY : Hid (OwN ((wr.setCell ⟨g, k * 10 + 6, none⟩ (.int .i64 ((F k).b + by_))).setCell ⟨g, k * 10 + 5, none⟩ (.int .i64 ((F k).a + by_))) w.heap.size (some ⟨g, 0, none⟩) n cap1 (mvF by_ (k + 1) F) ∧ Below w.heap.size w ((wr.setCell ⟨g, k * 10 + 6, none⟩ (.int .i64 ((F k).b + by_))).setCell ⟨g, k * 10 + 5, none⟩ (.int .i64 ((F k).a + by_)))) := by
          obtain ⟨h1, h2⟩ := hset (mvF by_ k F) 6 ((F k).b + by_) { F k with b := (F k).b + by_ } wr (by omega) ho1 hb1 (by rw [hat]; rfl)
          obtain ⟨h3, h4⟩ := hset _ 5 ((F k).a + by_) { F k with a := (F k).a + by_, b := (F k).b + by_ } _ (by omega) h1 h2 (by simp [updN, ndL])
          rw [updN_two] at h3
          rw [sh34 by_ k34] at hm
          rw [hm] at h3
          exact ⟨h3, h4⟩
        have HZ := HX.out _ HY.out.1 HY.out.2
        clear HY HX hset hm hat ho1 hb1 hc hfz hF hfin hF0
        generalize F k = q at *
        have HW : Hid _ := HZ
        clear HZ
        rcases k34 with e | e <;> rw [e] at c0 <;> clear e <;> go_wp2 <;> go_roundw
        case rel => exact HW.out
        case measure => simp [intOf]; omega
        case rel => exact HW.out
        case measure => simp [intOf]; omega
      · have n3 : ((F k).k == 3) = false := by simp; omega
        have n4 : ((F k).k == 4) = false := by simp; omega
        by_cases k5 : (F k).k = 5
        · have HY : Hid (OwN (wr.setCell ⟨g, k * 10 + 5, none⟩ (.int .i64 ((F k).a + by_))) w.heap.size (some ⟨g, 0, none⟩) n cap1 (mvF by_ (k + 1) F) ∧ Below w.heap.size w (wr.setCell ⟨g, k * 10 + 5, none⟩ (.int .i64 ((F k).a + by_)))) := by
            obtain ⟨h1, h2⟩ := hset (mvF by_ k F) 5 ((F k).a + by_) { F k with a := (F k).a + by_ } wr (by omega) ho1 hb1 (by rw [hat]; rfl)
            rw [sh5 by_ k5] at hm
            rw [hm] at h1
            exact ⟨h1, h2⟩
          have HZ := HX.out _ HY.out.1 HY.out.2
          clear HY HX hset hm hat ho1 hb1 hc hfz hF hfin hF0 k34 n3 n4
          generalize F k = q at *
          have HW : Hid _ := HZ
          clear HZ
          rw [k5] at c0
          clear k5
          go_wp2
          go_roundw
          case rel => exact HW.out
          case measure => simp [intOf]; omega
        · have n5 : ((F k).k == 5) = false := by simp; omega
          have HZ := HX.out wr (by rw [← hm, sh0 by_ (by omega), ← hat, updN_self]; exact ho1) hb1
          clear HX hset hm hat ho1 hb1 hc hfz hF hfin hF0 k34 k5
          generalize F k = q at *
          have HW : Hid _ := HZ
          clear HZ
          go_wp2
          go_roundw
          case rel => exact HW.out
          case measure => simp [intOf]; omega
    · obtain rfl : k = n := by omega
      have hki : ¬ (k : Int) < (k : Int) := by omega
      have HR : Hid (RetN w k (fun i => sh by_ (F i)) (.returned (.slice ao1 k cap1)) wr) := ⟨ao1, cap1, rfl, by unfold OwN; rw [← ndsL_congr hfin]; exact ho1, hb1⟩
      clear ho1 hb1 hF hfin hF0
      go_wp2
      go_ret
      exact HR.out
end Go.Proofs.YthbmfnibgjlkhaaDoor
namespace Go.Proofs.YthbmfnibgjlkhaaDoor
open Go.RowKit
theorem slice_mid22 (b off n cap lo hi : Nat) (h1 : lo < hi) (h2 : hi ≤ cap) (w : World) : (Instr.slice 46 (.slice (some ⟨b, off, none⟩) n cap) (some (.int .i64 (lo : Nat))) (some (.int .i64 (hi : Nat))) none).run Tryd.prog w = .ok (.slice (some ⟨b, off + lo * 10, none⟩) (hi - lo) (cap - lo)) w := by
  have hs : ∀ w, (Go.sizeOf 82).run Tryd.prog w = .ok 10 w := fun w => by kernel_rfl
  have e1 : (lo : Int) ≤ (hi : Int) := by omega
  have e2 : (hi : Int) ≤ (cap : Int) := by omega
  have e3 : ¬ cap = lo := by omega
  by_cases h0 : lo = 0
  · subst h0
    simp [go_sem, Tryd.underlying46, hs, e2, e3, Addr.add]
  · simp [go_sem, Tryd.underlying46, hs, e1, e2, e3, Addr.add]
    omega
set_option maxRecDepth 10000 in
set_option maxHeartbeats 1000000 in
theorem cut_any (bb off cap fr at_ : Nat) (t u : Tre) (w : World) (ho : t.ok = true) (hs : t.size ≤ 2048) (hcap : t.size ≤ cap) (hr : RdN w (some ⟨bb, off, none⟩) t.size (nodes t)) (hu : t.subs[at_]? = some u) (hfr : fr = at_ + 1 - u.size) :
    Calls Tryd.prog 82 #[.agg #[.slice (some ⟨bb, off, none⟩) t.size cap], .int .i64 (fr : Nat), .int .i64 (at_ : Nat)] w (RetT w u.size (nodes u)) := by
  obtain ⟨s1, s2, _⟩ := subs_sub t at_ u hu
  have su := u.size_pos
  have hok := subs_ok t at_ u ho hu
  have e1 : at_ + 1 - fr = u.size := by omega
  have hsl := slice_mid22 bb off t.size cap fr (at_ + 1) (by omega) (by omega)
  rw [e1] at hsl
  have hB := below2 w (.cells #[.slice (some ⟨bb, off, none⟩) t.size cap] 48) (.cells #[.slice none 0 0] 48)
  have hrd : RdN w (some ⟨bb, off + fr * 10, none⟩) u.size (fun i => nodes t (fr + i)) := by
    intro _
    obtain ⟨b', o', ea, hlt, hc⟩ := hr (by omega)
    obtain ⟨rfl, rfl⟩ : bb = b' ∧ off = o' := by simpa using ea
    refine ⟨bb, off + fr * 10, rfl, hlt, fun i hi => ?_⟩
    have := hc (fr + i) (by omega)
    rw [show off + (fr + i) * 10 = off + fr * 10 + i * 10 by omega] at this
    exact this
  have HM := moved_any (some ⟨bb, off + fr * 10, none⟩) u.size (cap - fr) (fun i => nodes t (fr + i)) (-(fr : Int)) _ (hrd.below hB) (by omega) (.inr ⟨_, rfl⟩) (fun i hi => nodes_bound' ho hs (fr + i) (by omega)) (by omega)
  have hres : ∀ i, i < u.size → sh (-(fr : Int)) (nodes t (fr + i)) = nodes u i := fun i hi => by
    rw [nodes_sub ho hu i hi, hfr]
  have kr : Cl ((w.alloc (.cells #[.slice (some ⟨bb, off, none⟩) t.size cap] 48)).alloc (.cells #[.slice none 0 0] 48)) (w.heap.size + 1) 48 [.slice none 0 0] := by
    have := Cl.new (w.alloc (.cells #[.slice (some ⟨bb, off, none⟩) t.size cap] 48)) 48 [.slice none 0 0]
    simpa only [World.size_alloc] using this
  have hai : (at_ : Int) ≤ 2048 := by omega
  have hfi : (fr : Int) ≤ 2048 := by omega
  have ea : ((at_ + 1 : Nat) : Int) = (at_ : Int) + 1 := by omega
  rw [ea] at hsl
  have HF : Hid (∀ w3 ao c3, OwN w3 (w.heap.size + 1 + 1) ao u.size c3 (fun i => sh (-(fr : Int)) (nodes t (fr + i))) → Below (w.heap.size + 1 + 1) ((w.alloc (.cells #[.slice (some ⟨bb, off, none⟩) t.size cap] 48)).alloc (.cells #[.slice none 0 0] 48)) w3 → RetT w u.size (nodes u) (.returned (.agg #[.slice ao u.size c3])) (w3.setCell ⟨w.heap.size + 1, 0, none⟩ (.slice ao u.size c3))) := by
    intro w3 ao c3 h1 h2
    refine ⟨ao, c3, rfl, ?_, (hB.trans (h2.mono (by omega))).setCell (p := ⟨w.heap.size + 1, 0, none⟩) (by simp) _⟩
    unfold OwN
    rw [← ndsL_congr hres]
    refine ownsRow_base (ownsRow_at h1 fun g' h1 h2 => ?_) (by omega)
    rw [Below.heap_setCell _ _ _ _ (by simp; omega)]
  clear hr hrd hres hu hok s1 s2 e1 hfr hs ho
  go_enter Tryd.func82, Tryd.ntmps82
  go_wp2_with (go_at_call 99; refine HM.mono ?_; rintro e w3 ⟨ao3, c3, rfl, ho3, hb3⟩; have kr3 := kr.below hb3; obtain ⟨d1, d2⟩ := kr3.one)
  have dd := (kr3.set 0 (.slice ao3 u.size c3)).cell 0 rfl
  have hfin := HF.out w3 ao3 c3 (by simpa using ho3) (by simpa using hb3)
  exact bodyPost_ret (by simp [results, Tryd.results82, go_sem, dd]) rfl hfin
set_option maxHeartbeats 400000 in
theorem tclone_any (ao : Option Addr) (l c : Nat) (F : Nat → Nd) (w : World) (hr : RdN w ao l F) (hm : (l : Int) * 80 ≤ 140737488355328) (hn : Shp ao l c) : Calls Tryd.prog 79 #[.agg #[.slice ao l c]] w (RetT w l F) := by
  have hB := below2 w (.cells #[.slice ao l c] 48) (.cells #[.slice none 0 0] 48)
  have HC := clone_any ao l c F _ (hr.below hB) hm hn
  have kr : Cl ((w.alloc (.cells #[.slice ao l c] 48)).alloc (.cells #[.slice none 0 0] 48)) (w.heap.size + 1) 48 [.slice none 0 0] := by
    have := Cl.new (w.alloc (.cells #[.slice ao l c] 48)) 48 [.slice none 0 0]
    simpa only [World.size_alloc] using this
  clear hr hm hn
  go_enter Tryd.func79, Tryd.ntmps79
  go_wp2_with (go_at_call 96; refine HC.mono ?_; rintro e w3 ⟨ao3, c3, rfl, ho3, hb3⟩; have kr3 := kr.below hb3; obtain ⟨d1, d2⟩ := kr3.one)
  have dd := (kr3.set 0 (.slice ao3 l c3)).cell 0 rfl
  have hs3 := hb3.size
  simp only [World.size_alloc] at hs3
  refine bodyPost_ret (by simp [results, Tryd.results79, go_sem, dd]) rfl ⟨ao3, c3, rfl, ?_, (hB.trans (hb3.mono (by simp; omega))).setCell (p := ⟨w.heap.size + 1, 0, none⟩) (by simp) _⟩
  refine ownsRow_base (ownsRow_at ho3 fun g' h1 h2 => ?_) (by simp; omega)
  simp only [World.size_alloc] at h1
  rw [Below.heap_setCell _ _ _ _ (by simp; omega)]
/-- What Sub answers. -/
def RetSb (w : World) (t : Tre) (x : Int) (e : Ending) (w' : World) : Prop :=
  (x < 0 ∨ (t.size : Int) ≤ x → e = .returned (.tuple #[.agg #[.slice none 0 0], .bool false])) ∧
  (∀ u, 0 ≤ x → t.subs[x.toNat]? = some u → ∃ ao cap, e = .returned (.tuple #[.agg #[.slice ao u.size cap], .bool true]) ∧ OwN w' w.heap.size ao u.size cap (nodes u)) ∧ Below w.heap.size w w'
end Go.Proofs.YthbmfnibgjlkhaaDoor
