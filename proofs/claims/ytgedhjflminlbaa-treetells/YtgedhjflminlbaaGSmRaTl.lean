/- The reference's anchors, Check: the walks. The reference's Same; slices.Equal of nodes, Same: the walks. TreeTells: the walk. -/
import Derived.Test.YtgedhjflminlbaaPl
import Derived.Test.YtgedhjflminlbaaCe
import Derived.Test.YtgedhjflminlbaaTail
import Derived.Deep.DeepCutAuto
import Derived.Deep.CutBlock
import Derived.Test.YtgedhjflminlbaaAp
import Derived.Test.YtgedhjflminlbaaGRtRwWf
import Derived.Test.YtgedhjflminlbaaGRuRg
import Derived.Test.YtgedhjflminlbaaLi
import Derived.Test.YtgedhjflminlbaaMw
import Derived.Deep.RegionHeld3
namespace Go.Proofs.Ytgedhjflminlbaa
open Go.RowKit
/-- Truths as cells. -/
def bls (f : Nat → Bool) (n : Nat) : List Value := (List.range n).map fun i => .bool (f i)
theorem bls_len (f : Nat → Bool) (n : Nat) : (bls f n).length = n := by simp [bls]
theorem bls_get (f : Nat → Bool) {n i : Nat} (h : i < n) : (bls f n)[i]? = some (.bool (f i)) := by simp [bls, h]
theorem bls_congr {f g : Nat → Bool} {n : Nat} (h : ∀ i, i < n → f i = g i) : bls f n = bls g n := by
  apply List.map_congr_left
  intro i hi
  rw [h i (by simpa using hi)]
theorem bls_set (f : Nat → Bool) (n i : Nat) (b : Bool) : (bls f n).set i (.bool b) = bls (fun q => if q = i then b else f q) n := by
  apply List.ext_getElem?
  intro q
  by_cases hq : q < n
  · rw [bls_get _ hq, List.getElem?_set]
    by_cases e : i = q
    · subst e; simp [bls_len, hq]
    · rw [if_neg e, bls_get _ hq]; simp [Ne.symm e]
  · rw [List.getElem?_eq_none (by simp [bls_len]; omega), List.getElem?_eq_none (by simp [bls_len]; omega)]
theorem b_bool : (Try.prog.info? 4).map (fun i => (i.zero, i.size, i.bytes)) = some (some (.bool false), 1, 1) := by kernel_rfl
theorem make_bools (n : Nat) (hn : n ≤ 2048) (w : World) : (Instr.makeSlice 92 (.int .i64 (n : Nat)) (.int .i64 (n : Nat))).run Try.prog w = .ok (.slice (some ⟨w.heap.size, 0, none⟩) n n) (w.alloc (.cells (bls (fun _ => false) n).toArray 4)) := by
  obtain ⟨i, hi, hz, hs, hb⟩ := info_parts b_bool
  have := run_make (P := Try.prog) w 92 4 i _ Try.underlying92 hi hz .i64 .i64 (n : Int) (n : Int) (by omega) (by omega) (by rw [hb]; omega) (by omega)
  rw [this, hs]
  have e : madeCells #[Value.bool false] (n * 1) = (bls (fun _ => false) n).toArray := by
    apply Array.ext_getElem?
    intro q
    rw [Nat.mul_one]
    by_cases hq : q < n
    · have hs : q < (madeCells #[Value.bool false] n).size := by rw [size_madeCells]; exact hq
      rw [Array.getElem?_eq_getElem hs, List.getElem?_toArray, bls_get _ hq]
      simp [madeCells, Array.getElem_map, Nat.mod_one]
    · rw [Array.getElem?_eq_none (by rw [size_madeCells]; omega), Array.getElem?_eq_none (by simp [bls_len]; omega)]
  rw [Nat.mul_one] at e
  simp [Value.cells, e]
/-- What stands at the head of the loop. -/
structure AnI (w : World) (V : Value) (t : Tre) (b1 b2 j : Nat) (wr : World) : Prop where
  le : j ≤ t.size
  hat : ∀ k, j = k + 1 → Cl wr b1 4 (bls (fun q => (stW t k q).1) t.size)
  fin : ∀ k, j = k + 1 → Cl wr b2 4 (bls (fun q => (stW t k q).2) t.size)
  bel : Below w.heap.size w wr
  met : ∀ p u, j ≤ p → t.subs[p]? = some u → okA u (wy t (true, true) p) = true
  bx : Cl wr w.heap.size 24 [V]
set_option maxRecDepth 10000 in
set_option maxHeartbeats 8000000 in
theorem ranchors_any (bb off c : Nat) (t : Tre) (w : World) (ox : t.ok = true) (sx : t.size ≤ 2048) (hr : RdN w (some ⟨bb, off, none⟩) t.size (nodes t)) : Calls Try.prog 53 #[.agg #[.slice (some ⟨bb, off, none⟩) t.size c]] w (RetBo w (anc t (true, true))) := by
  have px := t.size_pos
  have hmk := make_bools t.size sx
  have hk1 : ((t.size : Int) - 1).toNat = t.size - 1 := by omega
  have hk2 : (0 : Int) ≤ (t.size : Int) - 1 := by omega
  have hk3 : (t.size : Int) - 1 < (t.size : Int) := by omega
  have hk4 : (t.size : Int) ≤ 2048 := by omega
  have hst : (bls (fun _ => false) t.size).set (t.size - 1) (.bool true) = bls (fun q => (stW t (t.size - 1) q).1) t.size := by
    rw [bls_set]
    exact bls_congr fun q hq => by rw [stW_start t q hq]; by_cases h : q = t.size - 1 <;> simp [h]
  have hst2 : (bls (fun _ => false) t.size).set (t.size - 1) (.bool true) = bls (fun q => (stW t (t.size - 1) q).2) t.size := by
    rw [bls_set]
    exact bls_congr fun q hq => by rw [stW_start t q hq]; by_cases h : q = t.size - 1 <;> simp [h]
  have e0 : Cl (w.alloc (.cells #[.slice (some ⟨bb, off, none⟩) t.size c] 24)) w.heap.size 24 [.slice (some ⟨bb, off, none⟩) t.size c] := Cl.new w 24 [.slice (some ⟨bb, off, none⟩) t.size c]
  have d0 := e0.cell 0 rfl
  have e1 := e0.alloc (.cells (bls (fun _ => false) t.size).toArray 4)
  have d1 := e1.cell 0 rfl
  have e2 := e1.alloc (.cells (bls (fun _ => false) t.size).toArray 4)
  have d2 := e2.cell 0 rfl
  have h1 : Cl ((w.alloc (.cells #[.slice (some ⟨bb, off, none⟩) t.size c] 24)).alloc (.cells (bls (fun _ => false) t.size).toArray 4)) (w.heap.size + 1) 4 (bls (fun _ => false) t.size) := by
    have := Cl.new (w.alloc (.cells #[.slice (some ⟨bb, off, none⟩) t.size c] 24)) 4 (bls (fun _ => false) t.size)
    simpa only [World.size_alloc] using this
  have h2 := h1.alloc (.cells (bls (fun _ => false) t.size).toArray 4)
  have h3 : Cl (((w.alloc (.cells #[.slice (some ⟨bb, off, none⟩) t.size c] 24)).alloc (.cells (bls (fun _ => false) t.size).toArray 4)).alloc (.cells (bls (fun _ => false) t.size).toArray 4)) (w.heap.size + 1 + 1) 4 (bls (fun _ => false) t.size) := by
    have := Cl.new ((w.alloc (.cells #[.slice (some ⟨bb, off, none⟩) t.size c] 24)).alloc (.cells (bls (fun _ => false) t.size).toArray 4)) 4 (bls (fun _ => false) t.size)
    simpa only [World.size_alloc] using this
  have hB3 : Below w.heap.size w (((w.alloc (.cells #[.slice (some ⟨bb, off, none⟩) t.size c] 24)).alloc (.cells (bls (fun _ => false) t.size).toArray 4)).alloc (.cells (bls (fun _ => false) t.size).toArray 4)) := (below2 w _ _).alloc (by simp; omega) _
  go_enter Try.func53, Try.ntmps53
  go_upto_region 4 with fail
  clear d0 d1 e0 e1 h1 hmk
  generalize ((w.alloc (.cells #[.slice (some ⟨bb, off, none⟩) t.size c] 24)).alloc (.cells (bls (fun _ => false) t.size).toArray 4)).alloc (.cells (bls (fun _ => false) t.size).toArray 4) = V at *
  have z0 := h2.cell (t.size - 1) (bls_get _ (by omega))
  have z1 := h2.frozen (t.size - 1)
  have g2 := h2.set (t.size - 1) (.bool true)
  have g3 := h3.other (k := w.heap.size + 1) (by omega) (t.size - 1) (.bool true)
  have z2 := g3.cell (t.size - 1) (bls_get _ (by omega))
  have z3 := g3.frozen (t.size - 1)
  have l2 := g2.other (k := w.heap.size + 1 + 1) (by omega) (t.size - 1) (.bool true)
  have l3 := g3.set (t.size - 1) (.bool true)
  have l4 := (e2.other (k := w.heap.size + 1) (by omega) (t.size - 1) (.bool true)).other (k := w.heap.size + 1 + 1) (by omega) (t.size - 1) (.bool true)
  have l5 : Below w.heap.size w ((V.setCell ⟨w.heap.size + 1, t.size - 1, none⟩ (.bool true)).setCell ⟨w.heap.size + 1 + 1, t.size - 1, none⟩ (.bool true)) := (hB3.setCell (p := ⟨w.heap.size + 1, t.size - 1, none⟩) (by simp) _).setCell (p := ⟨w.heap.size + 1 + 1, t.size - 1, none⟩) (by simp; omega) _
  rw [hst] at l2
  rw [hst2] at l3
  have S0 : AnI w (.slice (some ⟨bb, off, none⟩) t.size c) t (w.heap.size + 1) (w.heap.size + 1 + 1) t.size ((V.setCell ⟨w.heap.size + 1, t.size - 1, none⟩ (.bool true)).setCell ⟨w.heap.size + 1 + 1, t.size - 1, none⟩ (.bool true)) := ⟨Nat.le_refl _, fun k hk => by rw [show k = t.size - 1 by omega]; exact l2, fun k hk => by rw [show k = t.size - 1 by omega]; exact l3, l5, fun p u hp hu => by
    have := (List.getElem?_eq_some_iff.1 hu).1
    rw [Tre.subs_length] at this
    omega, l4⟩
  clear l2 l3 l4 l5 g2 g3 h2 h3 hB3 hst hst2 e2
  go_upto_block 0 with fail
  clear z0 z1 z2 z3 d2
  generalize (V.setCell ⟨w.heap.size + 1, t.size - 1, none⟩ (.bool true)).setCell ⟨w.heap.size + 1 + 1, t.size - 1, none⟩ (.bool true) = W1 at *
  go_wp2_with fail
  go_loopw [6] (fun i wr => ∃ j : Nat, i = .int .i64 ((j : Int) - 1) ∧ AnI w (.slice (some ⟨bb, off, none⟩) t.size c) t (w.heap.size + 1) (w.heap.size + 1 + 1) j wr) (fun i _ => (intOf i + 1).toNat)
  case atStart => exact ⟨t.size, rfl, S0⟩
  case round =>
    obtain ⟨j, rfl, S⟩ := hrel
    clear S0
    have hjl := S.le
    by_cases hj : j = 0
    · subst hj
      have hji : ¬ (((0 : Nat) : Int) - 1) ≥ 0 := by omega
      have HR : Hid (RetBo w (anc t (true, true)) (.returned (.bool true)) wr) := by
        have : anc t (true, true) = true := (anc_iff t _).2 fun p v hv => S.met p v (Nat.zero_le _) hv
        rw [this]
        exact ⟨rfl, S.bel⟩
      clear S
      go_wp2_with fail
      go_ret
      exact HR.out
    · obtain ⟨k, rfl⟩ : ∃ k, j = k + 1 := ⟨j - 1, by omega⟩
      have hk : k < t.size := by omega
      have hkj : ((k + 1 : Nat) : Int) - 1 = (k : Int) := by omega
      have kH := S.hat k rfl
      have kE := S.fin k rfl
      have kB := S.bx
      have dB := kB.cell 0 rfl
      obtain ⟨bb', off', ea, hbb0, hc⟩ := hr px
      obtain ⟨rfl, rfl⟩ : bb = bb' ∧ off = off' := by simpa using ea
      obtain ⟨c0, c1, c2, c3, c4, c5, c6, c7, c8, c9⟩ := hc k hk
      rw [← S.bel.cell (p := ⟨bb, _, none⟩) hbb0] at c0 c1 c2 c3 c4 c5 c6 c7 c8 c9
      obtain ⟨u, hu⟩ : ∃ u, t.subs[k]? = some u := ⟨_, List.getElem?_eq_getElem (by rw [Tre.subs_length]; exact hk)⟩
      have ou := subs_ok _ _ _ ox hu
      rw [nodes_get hu] at c0 c1 c2 c3 c4 c5 c6 c7 c8 c9
      have v0 := kH.cell k (bls_get _ hk)
      have v1 := kE.cell k (bls_get _ hk)
      rw [stW_self t k hk] at v0 v1
      have hbN := below1 wr (.cells (ndL (u.nd k)).toArray 29)
      have kX := Cl.new wr 29 (ndL (u.nd k))
      have hbel := S.bel
      have HN : Hid (okA u (wy t (true, true) k) = true → ∀ W, (∀ q, k = q + 1 → Cl W (w.heap.size + 1) 4 (bls (fun p => (stW t q p).1) t.size)) → (∀ q, k = q + 1 → Cl W (w.heap.size + 1 + 1) 4 (bls (fun p => (stW t q p).2) t.size)) → Below w.heap.size w W → Cl W w.heap.size 24 [.slice (some ⟨bb, off, none⟩) t.size c] → AnI w (.slice (some ⟨bb, off, none⟩) t.size c) t (w.heap.size + 1) (w.heap.size + 1 + 1) k W) := fun hf W a1 a2 a3 a4 => ⟨by omega, a1, a2, a3, fun p v hp hv => by
        by_cases hpk : p = k
        · subst hpk
          rw [hu] at hv
          obtain rfl := Option.some.inj hv
          exact hf
        · exact S.met p v (by omega) hv, a4⟩
      have HF : Hid (okA u (wy t (true, true) k) = false → ∀ W, Below w.heap.size w W → RetBo w (anc t (true, true)) (.returned (.bool false)) W) := by
        intro hf W hW
        have : anc t (true, true) = false := by
          cases h : anc t (true, true) with
          | false => rfl
          | true => rw [(anc_iff t _).1 h k _ hu] at hf; cases hf
        rw [this]
        exact ⟨rfl, hW⟩
      have hki2 : (k : Int) < (t.size : Int) := by omega
      have hki3 : (k : Int) ≥ 0 := by omega
      have hbW := hbel.trans (hbN.mono hbel.size)
      have kH5 := kH.below hbN
      have kE5 := kE.below hbN
      have kB5 := kB.below hbN
      have v05 := kH5.cell k (bls_get _ hk)
      have v15 := kE5.cell k (bls_get _ hk)
      rw [stW_self t k hk] at v05 v15
      rw [hkj]
      clear S hc hkj
      obtain ⟨hh, he⟩ : ∃ hh : Bool × Bool, wy t (true, true) k = hh := ⟨_, rfl⟩
      rw [he] at v0 v1 v05 v15 HN HF
      cases u with
      | leaf q =>
        simp only [Tre.nd] at c0 c1 c2 c3 c4 c5 c6 c7 c8 c9 kX hbN hbW kH5 kE5 kB5 v05 v15
        have hq7 := lf_kind ou
        have HG : Hid (okA (.leaf q) hh = true → AnI w (.slice (some ⟨bb, off, none⟩) t.size c) t (w.heap.size + 1) (w.heap.size + 1 + 1) k (wr.alloc (.cells (ndL q).toArray 29))) := fun hf => HN.out hf _ (fun q' hq => by have := bls_congr (n := t.size) fun p hp => congrArg Prod.fst (stW_leaf hu (by omega) p hp); rw [show k - 1 = q' by omega] at this; rw [← this]; exact kH5) (fun q' hq => by have := bls_congr (n := t.size) fun p hp => congrArg Prod.snd (stW_leaf hu (by omega) p hp); rw [show k - 1 = q' by omega] at this; rw [← this]; exact kE5) hbW kB5
        have HF' : Hid (okA (.leaf q) hh = false → RetBo w (anc t (true, true)) (.returned (.bool false)) (wr.alloc (.cells (ndL q).toArray 29))) := fun hf => HF.out hf _ hbW
        have hoA : okA (.leaf q) hh = if q.k = 6 then hh.1 else if q.k = 7 then hh.2 else true := rfl
        unfold ndL at kX v05 v15 HG HF'
        obtain ⟨⟨f0, _⟩, _⟩ := kX.ten
        clear HN HF kH kE kB kH5 kE5 kB5 hbN hbW hu ou kX hbel hr
        have e4 : (q.k == 4) = false := by simp; omega
        have e3 : (q.k == 3) = false := by simp; omega
        obtain ⟨hA, hB⟩ := hh
        dsimp only at v0 v1 v05 v15 hoA
        by_cases e6 : q.k = 6
        · rw [if_pos e6] at hoA
          have e6' : (q.k == 6) = true := by simpa using e6
          cases hA with
          | true =>
            have HG2 : Hid _ := HG.out hoA
            clear HG HF' hoA e6
            go_wp2_with fail
            go_roundw
            case rel => exact ⟨k, by simp, HG2.out⟩
            case measure => simp [intOf] <;> omega
          | false =>
            have HG2 : Hid _ := HF'.out hoA
            clear HG HF' hoA e6
            go_wp2_with fail
            go_ret
            exact HG2.out
        · have e6' : (q.k == 6) = false := by simpa using e6
          rw [if_neg e6] at hoA
          by_cases e7 : q.k = 7
          · rw [if_pos e7] at hoA
            have e7' : (q.k == 7) = true := by simpa using e7
            cases hB with
            | true =>
              have HG2 : Hid _ := HG.out hoA
              clear HG HF' hoA e6 e7
              go_wp2_with fail
              go_roundw
              case rel => exact ⟨k, by simp, HG2.out⟩
              case measure => simp [intOf] <;> omega
            | false =>
              have HG2 : Hid _ := HF'.out hoA
              clear HG HF' hoA e6 e7
              go_wp2_with fail
              go_ret
              exact HG2.out
          · have e7' : (q.k == 7) = false := by simpa using e7
            rw [if_neg e7] at hoA
            have HG2 : Hid _ := HG.out hoA
            clear HG HF' hoA e6 e7
            go_wp2_with fail
            go_roundw
            case rel => exact ⟨k, by simp, HG2.out⟩
            case measure => simp [intOf] <;> omega
      | rep x l m z =>
        obtain ⟨hx1, _⟩ := subs_rep hu
        have px2 := x.size_pos
        have HG : Hid (AnI w (.slice (some ⟨bb, off, none⟩) t.size c) t (w.heap.size + 1) (w.heap.size + 1 + 1) k (wr.alloc (.cells (ndL ((Tre.rep x l m z).nd k)).toArray 29))) := HN.out rfl _ (fun q' hq => by have := bls_congr (n := t.size) fun p hp => congrArg Prod.fst (stW_rep hu (by omega) p hp); rw [show k - 1 = q' by omega] at this; rw [← this]; exact kH5) (fun q' hq => by have := bls_congr (n := t.size) fun p hp => congrArg Prod.snd (stW_rep hu (by omega) p hp); rw [show k - 1 = q' by omega] at this; rw [← this]; exact kE5) hbW kB5
        simp only [Tre.nd] at c0 c1 c2 c3 c4 c5 c6 c7 c8 c9 kX HG
        unfold ndL at kX HG
        obtain ⟨⟨f0, _⟩, _⟩ := kX.ten
        clear HN HF kH kE kB kH5 kE5 kB5 hbN hbW hu ou kX hbel hr v05 v15
        go_wp2_with fail
        go_roundw
        case rel => exact ⟨k, by simp, HG.out⟩
        case measure => simp [intOf] <;> omega
      | two kd x y =>
        obtain ⟨hxy, _, _⟩ := subs_two hu
        have px2 := x.size_pos
        have py2 := y.size_pos
        have hndE : (Tre.two kd x y).nd (k : Int) = ⟨kd, 0, 0, 0, 0, ((k - 1 - y.size : Nat) : Int), ((k - 1 : Nat) : Int), 0, 0, false⟩ := by simp only [Tre.nd]; congr 1 <;> omega
        have hs2 := stW_two hu
        have hun := stW_unset hu
        rw [he] at hs2
        rw [hndE] at c0 c1 c2 c3 c4 c5 c6 c7 c8 c9 kX hbN hbW kH5 kE5 kB5 v05 v15
        unfold ndL at kX hbN hbW kH5 kE5 kB5 v05 v15
        dsimp only at c0 c1 c2 c3 c4 c5 c6 c7 c8 c9 kX hbN hbW kH5 kE5 kB5 v05 v15
        have hpa : k - 1 - y.size < t.size := by omega
        have hpb : k - 1 < t.size := by omega
        have hpk : k - 1 - y.size ≠ k ∧ k - 1 ≠ k ∧ k - 1 - y.size ≠ k - 1 := by omega
        have hai : ((k - 1 - y.size : Nat) : Int) < (t.size : Int) := by omega
        have hbi : ((k - 1 : Nat) : Int) < (t.size : Int) := by omega
        simp [Tre.ok] at ou
        clear hu hndE
        have hkk : k - 1 + 1 = k := by omega
        generalize k - 1 - y.size = pa at *
        generalize hpB : k - 1 = pb at *
        obtain ⟨hA, hB⟩ := hh
        dsimp only at v0 v1 v05 v15
        have hX9 : w.heap.size + 1 + 1 < wr.heap.size := kE.lt
        rcases ou.1.1 with hk3 | hk3
        · subst hk3
          clear kH kE kB hbel HF
          have hX : w.heap.size + 1 + 1 < wr.heap.size := hX9
          obtain ⟨⟨f0, f1, f2, f3, f4, f5, f6, f7, f8, f9⟩, _⟩ := kX.ten
          obtain ⟨fH, hfH⟩ : ∃ f : Nat → Bool, f = fun q => (stW t k q).1 := ⟨_, rfl⟩
          obtain ⟨fE, hfE⟩ : ∃ f : Nat → Bool, f = fun q => (stW t k q).2 := ⟨_, rfl⟩
          rw [← hfH] at kH5
          rw [← hfE] at kE5
          have fHk : fH k = hA := by rw [hfH]; simp only [stW_self t k hk, he]
          have fEk : fE k = hB := by rw [hfE]; simp only [stW_self t k hk, he]
          have eH : Hid (∀ q, fH q = (stW t k q).1) := fun q => by rw [hfH]
          have eE : Hid (∀ q, fE q = (stW t k q).2) := fun q => by rw [hfE]
          have HS2 : Hid _ := hs2
          have HU : Hid _ := hun
          have HKK : Hid _ := hkk
          have HOK : Hid (okA (Tre.two 3 x y) (hA, hB) = true) := rfl
          clear hfH hfE f1 f2 f3 f4 f7 f8 f9 hs2 hun hkk he hpB hr v05 v15
          rename Cl _ (w.heap.size + 1) 4 (bls fH t.size) => kH
          rename Cl _ (w.heap.size + 1 + 1) 4 (bls fE t.size) => kE
          rename Cl _ w.heap.size 24 _ => kB
          go_upto_region 17 with fail
          clear c0 c1 c2 c3 c4 c5 c6 c7 c8 c9 dB v0 v1 f0 f5 f6
          generalize wr.alloc (.cells #[.int .i64 3, .int .u64 0, .int .u64 0, .int .u64 0, .int .u64 0, .int .i64 (pa : Nat), .int .i64 (pb : Nat), .int .i64 0, .int .i64 0, .bool false] 29) = U at *
          generalize wr.heap.size = X5 at *
          have n1 := Near.cell (kX.cell 5 rfl) kX.lt
          have n2 := Near.cell (kH.cell k (v := .bool hA) (by rw [bls_get _ hk, fHk])) kH.lt
          refine wp_region_quiet_tail 8 (fun w' => ∃ u : World, w' = near U u) (by kernel_rfl) (by kernel_rfl) (Near.start _) ?_
          simp only [List.take_succ_cons, List.take_zero, List.drop_succ_cons, List.drop_zero]
          repeat (go_big_quiet_step (fail))
          refine wpQuiet_nil ?_
          rintro _ ⟨u, rfl⟩
          replace kH := kH.below (near_below U u)
          replace kE := kE.below (near_below U u)
          replace kB := kB.below (near_below U u)
          replace kX := kX.below (near_below U u)
          replace hbW := hbW.trans ((near_below U u).mono hbW.size)
          clear n1 n2
          generalize near U u = U0 at *
          have y1 := kH.cell pa (bls_get _ hpa)
          have y2 := kH.frozen pa
          replace kH := kH.set pa (.bool hA)
          rw [bls_set] at kH
          replace kE := kE.other (k := w.heap.size + 1) (by omega) pa (.bool hA)
          replace kB := kB.other (k := w.heap.size + 1) (by omega) pa (.bool hA)
          replace kX := kX.other (k := w.heap.size + 1) (by omega) pa (.bool hA)
          replace hbW := hbW.setCell (p := ⟨w.heap.size + 1, pa, none⟩) (by simp <;> omega) (.bool hA)
          obtain ⟨gH0, hg⟩ : ∃ g : Nat → Bool, g = fun q => if q = pa then hA else fH q := ⟨_, rfl⟩
          rw [← hg] at kH
          replace fHk : gH0 k = hA := by rw [hg]; simp [fHk]
          have eH0 : Hid (∀ q, gH0 q = if q = pa then hA else fH q) := fun q => by rw [hg]
          clear hg
          go_upto_region 18 with fail
          clear y1 y2
          generalize U0.setCell ⟨w.heap.size + 1, pa, none⟩ (.bool hA) = U at *
          have n1 := Near.cell (kX.cell 6 rfl) kX.lt
          have n2 := Near.cell (kE.cell k (v := .bool hB) (by rw [bls_get _ hk, fEk])) kE.lt
          refine wp_region_quiet_tail 8 (fun w' => ∃ u : World, w' = near U u) (by kernel_rfl) (by kernel_rfl) (Near.start _) ?_
          simp only [List.take_succ_cons, List.take_zero, List.drop_succ_cons, List.drop_zero]
          repeat (go_big_quiet_step (fail))
          refine wpQuiet_nil ?_
          rintro _ ⟨u, rfl⟩
          replace kH := kH.below (near_below U u)
          replace kE := kE.below (near_below U u)
          replace kB := kB.below (near_below U u)
          replace kX := kX.below (near_below U u)
          replace hbW := hbW.trans ((near_below U u).mono hbW.size)
          clear n1 n2
          generalize near U u = U1 at *
          have y1 := kE.cell pb (bls_get _ hpb)
          have y2 := kE.frozen pb
          replace kE := kE.set pb (.bool hB)
          rw [bls_set] at kE
          replace kH := kH.other (k := w.heap.size + 1 + 1) (by omega) pb (.bool hB)
          replace kB := kB.other (k := w.heap.size + 1 + 1) (by omega) pb (.bool hB)
          replace kX := kX.other (k := w.heap.size + 1 + 1) (by omega) pb (.bool hB)
          replace hbW := hbW.setCell (p := ⟨w.heap.size + 1 + 1, pb, none⟩) (by simp <;> omega) (.bool hB)
          obtain ⟨gE1, hg⟩ : ∃ g : Nat → Bool, g = fun q => if q = pb then hB else fE q := ⟨_, rfl⟩
          rw [← hg] at kE
          replace fEk : gE1 k = hB := by rw [hg]; simp [fEk]
          have eE1 : Hid (∀ q, gE1 q = if q = pb then hB else fE q) := fun q => by rw [hg]
          clear hg
          go_wp2_with fail
          generalize U1.setCell ⟨w.heap.size + 1 + 1, pb, none⟩ (.bool hB) = UU at *
          go_roundw
          case measure => simp [intOf] <;> omega
          case rel =>
            refine ⟨k, by simp, HN.out HOK.out _ (fun q' hq => ?_) (fun q' hq => ?_) hbW kB⟩
            · have hq' : pb = q' := by have := HKK.out; omega
              subst hq'
              have : bls gH0 t.size = bls (fun p => (stW t pb p).1) t.size := bls_congr fun p hp => by
                rw [eH0.out, eH.out, HS2.out p hp]
                by_cases h1 : p = pb
                · subst h1; rw [if_neg (Ne.symm hpk.2.2), HU.out.1]; simp [hdB]
                · by_cases h2 : p = pa
                  · subst h2; simp [h1, hdA]
                  · simp [h1, h2]
              rw [← this]; exact kH
            · have hq' : pb = q' := by have := HKK.out; omega
              subst hq'
              have : bls gE1 t.size = bls (fun p => (stW t pb p).2) t.size := bls_congr fun p hp => by
                rw [eE1.out, eE.out, HS2.out p hp]
                by_cases h1 : p = pb
                · simp [h1, hdB]
                · by_cases h2 : p = pa
                  · subst h2; rw [if_neg h1, HU.out.2]; simp [h1, hdA]
                  · simp [h1, h2]
              rw [← this]; exact kE
        · subst hk3
          clear kH kE kB hbel HF
          have hX : w.heap.size + 1 + 1 < wr.heap.size := hX9
          obtain ⟨⟨f0, f1, f2, f3, f4, f5, f6, f7, f8, f9⟩, _⟩ := kX.ten
          obtain ⟨fH, hfH⟩ : ∃ f : Nat → Bool, f = fun q => (stW t k q).1 := ⟨_, rfl⟩
          obtain ⟨fE, hfE⟩ : ∃ f : Nat → Bool, f = fun q => (stW t k q).2 := ⟨_, rfl⟩
          rw [← hfH] at kH5
          rw [← hfE] at kE5
          have fHk : fH k = hA := by rw [hfH]; simp only [stW_self t k hk, he]
          have fEk : fE k = hB := by rw [hfE]; simp only [stW_self t k hk, he]
          have eH : Hid (∀ q, fH q = (stW t k q).1) := fun q => by rw [hfH]
          have eE : Hid (∀ q, fE q = (stW t k q).2) := fun q => by rw [hfE]
          have HS2 : Hid _ := hs2
          have HU : Hid _ := hun
          have HKK : Hid _ := hkk
          have HOK : Hid (okA (Tre.two 4 x y) (hA, hB) = true) := rfl
          clear hfH hfE f1 f2 f3 f4 f7 f8 f9 hs2 hun hkk he hpB hr v05 v15
          rename Cl _ (w.heap.size + 1) 4 (bls fH t.size) => kH
          rename Cl _ (w.heap.size + 1 + 1) 4 (bls fE t.size) => kE
          rename Cl _ w.heap.size 24 _ => kB
          go_upto_region 12 with fail
          clear c0 c1 c2 c3 c4 c5 c6 c7 c8 c9 dB v0 v1 f0 f5 f6
          generalize wr.alloc (.cells #[.int .i64 4, .int .u64 0, .int .u64 0, .int .u64 0, .int .u64 0, .int .i64 (pa : Nat), .int .i64 (pb : Nat), .int .i64 0, .int .i64 0, .bool false] 29) = U at *
          generalize wr.heap.size = X5 at *
          have n1 := Near.cell (kX.cell 5 rfl) kX.lt
          have n2 := Near.cell (kH.cell k (v := .bool hA) (by rw [bls_get _ hk, fHk])) kH.lt
          refine wp_region_quiet_tail 8 (fun w' => ∃ u : World, w' = near U u) (by kernel_rfl) (by kernel_rfl) (Near.start _) ?_
          simp only [List.take_succ_cons, List.take_zero, List.drop_succ_cons, List.drop_zero]
          repeat (go_big_quiet_step (fail))
          refine wpQuiet_nil ?_
          rintro _ ⟨u, rfl⟩
          replace kH := kH.below (near_below U u)
          replace kE := kE.below (near_below U u)
          replace kB := kB.below (near_below U u)
          replace kX := kX.below (near_below U u)
          replace hbW := hbW.trans ((near_below U u).mono hbW.size)
          clear n1 n2
          generalize near U u = U0 at *
          have y1 := kH.cell pa (bls_get _ hpa)
          have y2 := kH.frozen pa
          replace kH := kH.set pa (.bool hA)
          rw [bls_set] at kH
          replace kE := kE.other (k := w.heap.size + 1) (by omega) pa (.bool hA)
          replace kB := kB.other (k := w.heap.size + 1) (by omega) pa (.bool hA)
          replace kX := kX.other (k := w.heap.size + 1) (by omega) pa (.bool hA)
          replace hbW := hbW.setCell (p := ⟨w.heap.size + 1, pa, none⟩) (by simp <;> omega) (.bool hA)
          obtain ⟨gH0, hg⟩ : ∃ g : Nat → Bool, g = fun q => if q = pa then hA else fH q := ⟨_, rfl⟩
          rw [← hg] at kH
          replace fHk : gH0 k = hA := by rw [hg]; simp [fHk]
          have eH0 : Hid (∀ q, gH0 q = if q = pa then hA else fH q) := fun q => by rw [hg]
          clear hg
          go_upto_region 13 with fail
          clear y1 y2
          generalize U0.setCell ⟨w.heap.size + 1, pa, none⟩ (.bool hA) = U at *
          have n1 := Near.cell (kX.cell 6 rfl) kX.lt
          have n2 := Near.cell (kH.cell k (v := .bool hA) (by rw [bls_get _ hk, fHk])) kH.lt
          refine wp_region_quiet_tail 8 (fun w' => ∃ u : World, w' = near U u) (by kernel_rfl) (by kernel_rfl) (Near.start _) ?_
          simp only [List.take_succ_cons, List.take_zero, List.drop_succ_cons, List.drop_zero]
          repeat (go_big_quiet_step (fail))
          refine wpQuiet_nil ?_
          rintro _ ⟨u, rfl⟩
          replace kH := kH.below (near_below U u)
          replace kE := kE.below (near_below U u)
          replace kB := kB.below (near_below U u)
          replace kX := kX.below (near_below U u)
          replace hbW := hbW.trans ((near_below U u).mono hbW.size)
          clear n1 n2
          generalize near U u = U1 at *
          have y1 := kH.cell pb (bls_get _ hpb)
          have y2 := kH.frozen pb
          replace kH := kH.set pb (.bool hA)
          rw [bls_set] at kH
          replace kE := kE.other (k := w.heap.size + 1) (by omega) pb (.bool hA)
          replace kB := kB.other (k := w.heap.size + 1) (by omega) pb (.bool hA)
          replace kX := kX.other (k := w.heap.size + 1) (by omega) pb (.bool hA)
          replace hbW := hbW.setCell (p := ⟨w.heap.size + 1, pb, none⟩) (by simp <;> omega) (.bool hA)
          obtain ⟨gH1, hg⟩ : ∃ g : Nat → Bool, g = fun q => if q = pb then hA else gH0 q := ⟨_, rfl⟩
          rw [← hg] at kH
          replace fHk : gH1 k = hA := by rw [hg]; simp [fHk]
          have eH1 : Hid (∀ q, gH1 q = if q = pb then hA else gH0 q) := fun q => by rw [hg]
          clear hg
          go_upto_region 14 with fail
          clear y1 y2
          generalize U1.setCell ⟨w.heap.size + 1, pb, none⟩ (.bool hA) = U at *
          have n1 := Near.cell (kX.cell 5 rfl) kX.lt
          have n2 := Near.cell (kE.cell k (v := .bool hB) (by rw [bls_get _ hk, fEk])) kE.lt
          refine wp_region_quiet_tail 8 (fun w' => ∃ u : World, w' = near U u) (by kernel_rfl) (by kernel_rfl) (Near.start _) ?_
          simp only [List.take_succ_cons, List.take_zero, List.drop_succ_cons, List.drop_zero]
          repeat (go_big_quiet_step (fail))
          refine wpQuiet_nil ?_
          rintro _ ⟨u, rfl⟩
          replace kH := kH.below (near_below U u)
          replace kE := kE.below (near_below U u)
          replace kB := kB.below (near_below U u)
          replace kX := kX.below (near_below U u)
          replace hbW := hbW.trans ((near_below U u).mono hbW.size)
          clear n1 n2
          generalize near U u = U2 at *
          have y1 := kE.cell pa (bls_get _ hpa)
          have y2 := kE.frozen pa
          replace kE := kE.set pa (.bool hB)
          rw [bls_set] at kE
          replace kH := kH.other (k := w.heap.size + 1 + 1) (by omega) pa (.bool hB)
          replace kB := kB.other (k := w.heap.size + 1 + 1) (by omega) pa (.bool hB)
          replace kX := kX.other (k := w.heap.size + 1 + 1) (by omega) pa (.bool hB)
          replace hbW := hbW.setCell (p := ⟨w.heap.size + 1 + 1, pa, none⟩) (by simp <;> omega) (.bool hB)
          obtain ⟨gE2, hg⟩ : ∃ g : Nat → Bool, g = fun q => if q = pa then hB else fE q := ⟨_, rfl⟩
          rw [← hg] at kE
          replace fEk : gE2 k = hB := by rw [hg]; simp [fEk]
          have eE2 : Hid (∀ q, gE2 q = if q = pa then hB else fE q) := fun q => by rw [hg]
          clear hg
          go_upto_region 15 with fail
          clear y1 y2
          generalize U2.setCell ⟨w.heap.size + 1 + 1, pa, none⟩ (.bool hB) = U at *
          have n1 := Near.cell (kX.cell 6 rfl) kX.lt
          have n2 := Near.cell (kE.cell k (v := .bool hB) (by rw [bls_get _ hk, fEk])) kE.lt
          refine wp_region_quiet_tail 8 (fun w' => ∃ u : World, w' = near U u) (by kernel_rfl) (by kernel_rfl) (Near.start _) ?_
          simp only [List.take_succ_cons, List.take_zero, List.drop_succ_cons, List.drop_zero]
          repeat (go_big_quiet_step (fail))
          refine wpQuiet_nil ?_
          rintro _ ⟨u, rfl⟩
          replace kH := kH.below (near_below U u)
          replace kE := kE.below (near_below U u)
          replace kB := kB.below (near_below U u)
          replace kX := kX.below (near_below U u)
          replace hbW := hbW.trans ((near_below U u).mono hbW.size)
          clear n1 n2
          generalize near U u = U3 at *
          have y1 := kE.cell pb (bls_get _ hpb)
          have y2 := kE.frozen pb
          replace kE := kE.set pb (.bool hB)
          rw [bls_set] at kE
          replace kH := kH.other (k := w.heap.size + 1 + 1) (by omega) pb (.bool hB)
          replace kB := kB.other (k := w.heap.size + 1 + 1) (by omega) pb (.bool hB)
          replace kX := kX.other (k := w.heap.size + 1 + 1) (by omega) pb (.bool hB)
          replace hbW := hbW.setCell (p := ⟨w.heap.size + 1 + 1, pb, none⟩) (by simp <;> omega) (.bool hB)
          obtain ⟨gE3, hg⟩ : ∃ g : Nat → Bool, g = fun q => if q = pb then hB else gE2 q := ⟨_, rfl⟩
          rw [← hg] at kE
          replace fEk : gE3 k = hB := by rw [hg]; simp [fEk]
          have eE3 : Hid (∀ q, gE3 q = if q = pb then hB else gE2 q) := fun q => by rw [hg]
          clear hg
          go_wp2_with fail
          generalize U3.setCell ⟨w.heap.size + 1 + 1, pb, none⟩ (.bool hB) = UU at *
          go_roundw
          case measure => simp [intOf] <;> omega
          case rel =>
            refine ⟨k, by simp, HN.out HOK.out _ (fun q' hq => ?_) (fun q' hq => ?_) hbW kB⟩
            · have hq' : pb = q' := by have := HKK.out; omega
              subst hq'
              have : bls gH1 t.size = bls (fun p => (stW t pb p).1) t.size := bls_congr fun p hp => by
                rw [eH1.out, eH0.out, eH.out, HS2.out p hp]
                by_cases h1 : p = pb
                · simp [h1, hdB]
                · by_cases h2 : p = pa
                  · subst h2; simp [h1, hdA]
                  · simp [h1, h2]
              rw [← this]; exact kH
            · have hq' : pb = q' := by have := HKK.out; omega
              subst hq'
              have : bls gE3 t.size = bls (fun p => (stW t pb p).2) t.size := bls_congr fun p hp => by
                rw [eE3.out, eE2.out, eE.out, HS2.out p hp]
                by_cases h1 : p = pb
                · simp [h1, hdB]
                · by_cases h2 : p = pa
                  · subst h2; simp [h1, hdA]
                  · simp [h1, h2]
              rw [← this]; exact kE
set_option maxHeartbeats 1000000 in
theorem rcheck_any (a : Option Addr) (n c : Nat) (F : Nat → Nd) (w : World) (ha : RdN w a n F) (hn : (n : Int) ≤ 9223372036854775807) : Calls Try.prog 28 #[.agg #[.slice a n c]] w (RetI w (chkE F n)) := by
  have hW0 := below1 w (.cells #[.slice a n c] 24)
  have ka := Cl.new w 24 [.slice a n c]
  have HM := may_any a n c F _ (ha.below hW0) hn
  cases hA : treeOf F n with
  | none =>
    rw [hA] at HM
    have hs : chkE F n = 50 := by simp [chkE, hA]
    rw [hs]
    go_enter Try.func28, Try.ntmps28
    go_wp2_with (go_at_call 31; refine HM.mono ?_; rintro e w1 ⟨rfl, hb1⟩)
    go_ret
    exact ⟨rfl, hW0.trans (hb1.mono (by simp))⟩
  | some t =>
    rw [hA] at HM
    obtain ⟨rfl, ho, hs, hF⟩ := treeOf_some hA
    have px := t.size_pos
    obtain ⟨bb, off, rfl, _, _⟩ := ha px
    have hr := (ha.below hW0).congr hF
    have hc : chkE F t.size = if anc t (true, true) = true then 0 else 51 := by simp [chkE, hA]
    rw [hc]
    have HC : Hid (∀ W, Below (w.alloc (.cells #[.slice (some ⟨bb, off, none⟩) t.size c] 24)).heap.size (w.alloc (.cells #[.slice (some ⟨bb, off, none⟩) t.size c] 24)) W → Calls Try.prog 53 #[.agg #[.slice (some ⟨bb, off, none⟩) t.size c]] W (RetBo W (anc t (true, true)))) := fun W hb => ranchors_any bb off c t W ho hs (hr.below hb)
    cases hn : anc t (true, true) with
    | true =>
      rw [hn] at HC
      go_enter Try.func28, Try.ntmps28
      go_wp2_with (first | (go_at_call 31; refine HM.mono ?_; rintro e w1 ⟨rfl, hb1⟩; have d1 := (ka.below hb1).cell 0 rfl) | (go_at_call 53; refine (HC.out _ hb1).mono ?_; rintro e w2 ⟨rfl, hb2⟩))
      go_ret
      exact ⟨rfl, (hW0.trans (hb1.mono (by simp))).trans (hb2.mono (by have := hb1.size; simp at this; omega))⟩
    | false =>
      rw [hn] at HC
      go_enter Try.func28, Try.ntmps28
      go_wp2_with (first | (go_at_call 31; refine HM.mono ?_; rintro e w1 ⟨rfl, hb1⟩; have d1 := (ka.below hb1).cell 0 rfl) | (go_at_call 53; refine (HC.out _ hb1).mono ?_; rintro e w2 ⟨rfl, hb2⟩))
      go_ret
      exact ⟨rfl, (hW0.trans (hb1.mono (by simp))).trans (hb2.mono (by have := hb1.size; simp at this; omega))⟩
end Go.Proofs.Ytgedhjflminlbaa
namespace Go.Proofs.Ytgedhjflminlbaa
open Go.RowKit
/-- Whether the first n nodes are the same. -/
def eqN (F G : Nat → Nd) : Nat → Bool
  | 0 => true
  | n + 1 => eqN F G n && (F n).eq (G n)
theorem eqN_stop {F G : Nat → Nd} {k : Nat} (h : (F k).eq (G k) = false) : ∀ n, k < n → eqN F G n = false
  | 0, hn => by omega
  | n + 1, hn => by
    rw [eqN]
    by_cases e : k = n
    · subst e; rw [h, Bool.and_false]
    · rw [eqN_stop h n (by omega), Bool.false_and]
theorem eqN_iff {F G : Nat → Nd} : ∀ {n : Nat}, eqN F G n = true ↔ ∀ i, i < n → F i = G i
  | 0 => by simp [eqN]
  | n + 1 => by
    rw [eqN, Bool.and_eq_true, eqN_iff, Nd.eq_iff]
    constructor
    · rintro ⟨h1, h2⟩ i hi
      by_cases e : i = n
      · subst e; exact h2
      · exact h1 i (by omega)
    · intro h
      exact ⟨fun i hi => h i (by omega), h n (by omega)⟩
set_option maxRecDepth 10000 in
set_option maxHeartbeats 2000000 in
theorem equal_any (ao bo : Option Addr) (n m ca cb : Nat) (F G : Nat → Nd) (w : World) (ha : RdN w ao n F) (hb : RdN w bo m G) (hm : (n : Int) ≤ 9223372036854775807) :
    Calls Try.prog 43 #[.slice ao n ca, .slice bo m cb] w fun e w' => e = .returned (.bool (decide (n = m) && eqN F G n)) ∧ ∃ q, w' = w.drewN q := by
  by_cases hnm : n = m
  · subst hnm
    rw [decide_eq_true rfl, Bool.true_and]
    have hn : ((n : Int) != (n : Int)) = false := by simp
    go_enter Try.func43, Try.ntmps43
    go_wp2_with fail
    go_loopw [13] (fun i wr => ∃ k : Nat, k ≤ n ∧ i = .int .i64 k ∧ eqN F G k = true ∧ ∃ q, wr = w.drewN q) (fun i _ => n - (intOf i).toNat)
    case atStart => exact ⟨0, Nat.zero_le _, rfl, rfl, 0, rfl⟩
    case round =>
      obtain ⟨k, hk, rfl, heq, q, rfl⟩ := hrel
      by_cases hlt : k < n
      · obtain ⟨b1, o1, rfl, _, hc⟩ := ha (by omega)
        obtain ⟨b2, o2, rfl, _, hc2⟩ := hb (by omega)
        obtain ⟨c0, c1, c2, c3, c4, c5, c6, c7, c8, c9⟩ := hc k hlt
        obtain ⟨d0, d1, d2, d3, d4, d5, d6, d7, d8, d9⟩ := hc2 k hlt
        have hki : (k : Int) < (n : Int) := by omega
        have hne := run_neq29 (F k) (G k)
        unfold ndV at hne
        clear hc hc2 ha hb
        cases hq : (F k).eq (G k) with
        | false =>
          have hfin : Hid (eqN F G n = false) := eqN_stop hq n hlt
          rw [hq] at hne
          clear hq heq
          generalize F k = x at *
          generalize G k = y at *
          go_wp2
          go_quiet (fail)
          go_wp2
          go_ret
          exact ⟨by rw [hfin.out]; rfl, _, World.drewN_drewN _ _ _⟩
        | true =>
          have hnx : Hid (eqN F G (k + 1) = true) := by show eqN F G (k + 1) = true; rw [eqN, heq, hq]; rfl
          rw [hq] at hne
          clear hq heq
          generalize F k = x at *
          generalize G k = y at *
          go_wp2
          go_quiet (fail)
          go_wp2
          go_roundw
          case rel => exact ⟨k + 1, by omega, by go_num, hnx.out, _, rfl⟩
          case measure => simp [intOf]; omega
      · obtain rfl : k = n := by omega
        have hfin : Hid (eqN F G k = true) := heq
        clear ha hb heq
        go_wp2
        go_ret
        exact ⟨by rw [hfin.out]; rfl, _, rfl⟩
  · rw [decide_eq_false hnm, Bool.false_and]
    have hn : ((n : Int) != (m : Int)) = true := by simp; omega
    clear ha hb
    go_enter Try.func43, Try.ntmps43
    go_wp2
    go_ret
    exact ⟨rfl, 0, rfl⟩
set_option maxHeartbeats 400000 in
theorem tsame_any (ao bo : Option Addr) (n m ca cb : Nat) (F G : Nat → Nd) (w : World) (ha : RdN w ao n F) (hb : RdN w bo m G) (hm : (n : Int) ≤ 9223372036854775807) : Calls Try.prog 20 #[.agg #[.slice ao n ca], .agg #[.slice bo m cb]] w (RetBo w (decide (n = m) && eqN F G n)) := by
  have hB := below2 w (.cells #[.slice ao n ca] 24) (.cells #[.slice bo m cb] 24)
  have HE := equal_any ao bo n m ca cb F G _ (ha.below hB) (hb.below hB) hm
  clear ha hb
  generalize (decide (n = m) && eqN F G n) = r at *
  go_enter Try.func20, Try.ntmps20
  go_wp2_with (go_at_call 43; refine HE.mono ?_; rintro e w3 ⟨rfl, q, rfl⟩)
  go_ret
  exact ⟨rfl, below_drewN hB _⟩
set_option maxRecDepth 10000 in
set_option maxHeartbeats 2000000 in
theorem rsame_any (ao bo : Option Addr) (n m ca cb : Nat) (F G : Nat → Nd) (w : World) (ha : RdN w ao n F) (hb : RdN w bo m G) (hm : (n : Int) ≤ 9223372036854775807) : Calls Try.prog 10 #[.agg #[.slice ao n ca], .agg #[.slice bo m cb]] w (RetBo w (decide (n = m) && eqN F G n)) := by
  have hB := below2 w (.cells #[.slice ao n ca] 24) (.cells #[.slice bo m cb] 24)
  have k1 : Cl ((w.alloc (.cells #[.slice ao n ca] 24)).alloc (.cells #[.slice bo m cb] 24)) w.heap.size 24 [.slice ao n ca] := (Cl.new w 24 [.slice ao n ca]).alloc _
  have k2 : Cl ((w.alloc (.cells #[.slice ao n ca] 24)).alloc (.cells #[.slice bo m cb] 24)) (w.heap.size + 1) 24 [.slice bo m cb] := by
    have := Cl.new (w.alloc (.cells #[.slice ao n ca] 24)) 24 [.slice bo m cb]
    simpa only [World.size_alloc] using this
  replace ha := ha.below hB
  replace hb := hb.below hB
  by_cases hnm : n = m
  · subst hnm
    rw [decide_eq_true rfl, Bool.true_and]
    have hn : ((n : Int) != (n : Int)) = false := by simp
    go_enter Try.func10, Try.ntmps10
    go_wp2_with fail
    generalize hU : (w.alloc (.cells #[.slice ao n ca] 24)).alloc (.cells #[.slice bo n cb] 24) = U at *
    clear hU
    have u1 := k1.cell 0 rfl
    have u2 := k2.cell 0 rfl
    go_loopw [5] (fun i wr => ∃ k : Nat, k ≤ n ∧ i = .int .i64 k ∧ eqN F G k = true ∧ ∃ q, wr = U.drewN q) (fun i _ => n - (intOf i).toNat)
    case atStart => exact ⟨0, Nat.zero_le _, rfl, rfl, 0, rfl⟩
    case round =>
      obtain ⟨k, hk, rfl, heq, q, rfl⟩ := hrel
      by_cases hlt : k < n
      · obtain ⟨b1, o1, rfl, _, hc⟩ := ha (by omega)
        obtain ⟨b2, o2, rfl, _, hc2⟩ := hb (by omega)
        obtain ⟨c0, c1, c2, c3, c4, c5, c6, c7, c8, c9⟩ := hc k hlt
        obtain ⟨d0, d1, d2, d3, d4, d5, d6, d7, d8, d9⟩ := hc2 k hlt
        have hki : (k : Int) < (n : Int) := by omega
        have hne := run_neq29 (F k) (G k)
        unfold ndV at hne
        clear hc hc2 ha hb k1 k2
        cases hq : (F k).eq (G k) with
        | false =>
          have hfin : Hid (eqN F G n = false) := eqN_stop hq n hlt
          rw [hq] at hne
          clear hq heq
          generalize F k = x at *
          generalize G k = y at *
          go_wp2
          go_quiet (fail)
          go_wp2
          go_ret
          exact ⟨by rw [hfin.out]; rfl, below_drewN (below_drewN hB _) _⟩
        | true =>
          have hnx : Hid (eqN F G (k + 1) = true) := by show eqN F G (k + 1) = true; rw [eqN, heq, hq]; rfl
          rw [hq] at hne
          clear hq heq
          generalize F k = x at *
          generalize G k = y at *
          go_wp2
          go_quiet (fail)
          go_wp2
          go_roundw
          case rel => exact ⟨k + 1, by omega, by go_num, hnx.out, _, rfl⟩
          case measure => simp [intOf]; omega
      · obtain rfl : k = n := by omega
        have hfin : Hid (eqN F G k = true) := heq
        clear ha hb heq
        go_wp2
        go_ret
        exact ⟨by rw [hfin.out]; rfl, below_drewN hB _⟩
  · rw [decide_eq_false hnm, Bool.false_and]
    have hn : ((n : Int) != (m : Int)) = true := by simp; omega
    clear ha hb
    go_enter Try.func10, Try.ntmps10
    go_wp2
    go_ret
    exact ⟨rfl, hB⟩
end Go.Proofs.Ytgedhjflminlbaa
namespace Go.Proofs.Ytgedhjflminlbaa
open Go.RowKit
/-- The subtree of a node, if there is one. -/
def sbU (t : Tre) (x : Int) : Option Tre := if 0 ≤ x then t.subs[x.toNat]? else none
def sbN (t : Tre) (x : Int) : Nat := match sbU t x with | some u => u.size | none => 0
def sbF (t : Tre) (x : Int) : Nat → Nd := match sbU t x with | some u => nodes u | none => nodes t
def sbB (t : Tre) (x : Int) : Bool := (sbU t x).isSome
/-- What both Subs answer. -/
def RetS2 (w : World) (m : Nat) (H : Nat → Nd) (b : Bool) (e : Ending) (w' : World) : Prop := ∃ ao cap, e = .returned (.tuple #[.agg #[.slice ao m cap], .bool b]) ∧ RdN w' ao m H ∧ Below w.heap.size w w'
theorem ret_s2 {w : World} {t : Tre} {x : Int} {e : Ending} {w' : World} (h : RetSb w t x e w') : RetS2 w (sbN t x) (sbF t x) (sbB t x) e w' := by
  obtain ⟨h1, h2, h3⟩ := h
  cases hu : sbU t x with
  | none =>
    have hx : x < 0 ∨ (t.size : Int) ≤ x := by
      unfold sbU at hu
      split at hu
      · right
        have := List.getElem?_eq_none_iff.1 hu
        rw [Tre.subs_length] at this
        omega
      · left; omega
    refine ⟨none, 0, ?_, ?_, h3⟩
    · simp only [sbN, sbB, hu]; exact h1 hx
    · simp only [sbN, hu]; intro h0; omega
  | some u =>
    have hx : 0 ≤ x ∧ t.subs[x.toNat]? = some u := by
      unfold sbU at hu
      split at hu
      · exact ⟨by assumption, hu⟩
      · cases hu
    obtain ⟨ao, cap, he, ho⟩ := h2 u hx.1 hx.2
    refine ⟨ao, cap, ?_, ?_, h3⟩
    · simp only [sbN, sbB, hu]; exact he
    · simp only [sbN, sbF, hu]; exact ho.rd
theorem sbN_le (t : Tre) (x : Int) (hs : t.size ≤ 2048) : sbN t x ≤ 2048 := by
  unfold sbN sbU
  split
  · rename_i u h
    split at h
    · have := (subs_sub t _ u h).1
      have := (subs_sub t _ u h).2.1
      omega
    · cases h
  · omega
/-- Where the parts lie. -/
def LG (ts : List Tre) (g : Nat) (W : World) : Prop := ∀ (p : Nat) (u : Tre), ts[p]? = some u → ∃ gp cp, W.cell? ⟨g, p, none⟩ = some (.slice (some ⟨gp, 0, none⟩) u.size cp) ∧ RdN W (some ⟨gp, 0, none⟩) u.size (nodes u) ∧ u.size ≤ cp
theorem LG.below {ts : List Tre} {g : Nat} {W W' : World} (h : LG ts g W) (hg : g < W.heap.size) (hb : Below W.heap.size W W') : LG ts g W' := by
  intro p u hu
  obtain ⟨gp, cp, e, hr, hc⟩ := h p u hu
  refine ⟨gp, cp, ?_, hr.below hb, hc⟩
  rw [← e, World.cell?, World.cell?, hb.block g hg]
/-- What both Parts answer, as it lasts. -/
def RetP2 (w : World) (ts : List Tre) (e : Ending) (w' : World) : Prop := ∃ g cap, e = .returned (.slice (some ⟨g, 0, none⟩) ts.length cap) ∧ (∀ W, Below w'.heap.size w' W → LG ts g W ∧ g < W.heap.size) ∧ Below w.heap.size w w'
theorem ret_p2 {w : World} {t : Tre} {c : Int} {e : Ending} {w' : World} (h : RetPs w t c e w') : RetP2 w (pt c t) e w' := by
  obtain ⟨ao, cap, M, rfl, hrow, htrs, hb⟩ := h
  obtain ⟨g, e, hl, hB, hc, _⟩ := row_cell hrow (pt_pos c t)
  subst e
  refine ⟨g, cap, rfl, fun W hW => ⟨LG.below (fun p u hu => ?_) hl hW, Nat.lt_of_lt_of_le hl hW.size⟩, hb⟩
  have hp : p < (pt c t).length := (List.getElem?_eq_some_iff.1 hu).1
  obtain ⟨gp, cp, e', hr, hc', _⟩ := htrs p u hp hu
  exact ⟨gp, cp, by rw [hc p _ (vals_get M hp), e'], hr, hc'⟩
theorem pt_sz (c : Int) : ∀ (t u : Tre), u ∈ pt c t → u.size ≤ t.size
  | .leaf n, u, h => by simp [pt] at h; rw [h]; exact Nat.le_refl _
  | .two k x y, u, h => by
    unfold pt at h
    split at h
    · rcases List.mem_append.1 h with h | h
      · have := pt_sz c x u h; simp [Tre.size]; omega
      · have := pt_sz c y u h; simp [Tre.size]; omega
    · simp at h; rw [h]; exact Nat.le_refl _
  | .rep x l m z, u, h => by simp [pt] at h; rw [h]; exact Nat.le_refl _
theorem eqN_self (F : Nat → Nd) (n : Nat) : (decide (n = n) && eqN F F n) = true := by
  rw [eqN_iff.2 fun _ _ => rfl]; simp
set_option maxRecDepth 10000 in
set_option maxHeartbeats 8000000 in
theorem ttells_any (a : Option Addr) (n c : Nat) (F : Nat → Nd) (x kd : Int) (w : World) (ha : RdN w a n F) (hn : (n : Int) ≤ 9223372036854775807) (hca : n ≤ c) (hx : x ≤ 9223372036854775807) : Calls Try.prog 4 #[.agg #[.slice a n c], .int .i64 x, .int .i64 kd] w (RetBo w true) := by
  obtain ⟨ox, sx⟩ := snd_ok F n
  have kP := Cl.new w 24 [.slice a n c]
  have hW0 := below1 w (.cells #[.slice a n c] 24)
  have HL : Hid (∀ W, Calls Try.prog 9 #[] W (RetBo W true)) := fun W => live_any W
  have HW : Hid (∀ W, RdN W a n F → Calls Try.prog 21 #[.agg #[.slice a n c]] W fun e w' => e = .returned (.tuple #[.int .i64 (wl (snd F n)), .int .i64 (wg (snd F n))]) ∧ Below W.heap.size W w') := fun W h => widths_any a n c F W h hn hca
  have HW2 : Hid (∀ W, RdN W a n F → Calls Try.prog 22 #[.agg #[.slice a n c]] W fun e w' => e = .returned (.tuple #[.int .i64 (wl (snd F n)), .int .i64 (wg (snd F n))]) ∧ Below W.heap.size W w') := fun W h => rwidths_any a n c F W h hn hca
  have HS : Hid (∀ W, RdN W a n F → Calls Try.prog 23 #[.agg #[.slice a n c], .int .i64 x] W (RetS2 W (sbN (snd F n) x) (sbF (snd F n) x) (sbB (snd F n) x))) := fun W h => (sub_any a n c F x W h hn hca).mono fun _ _ => ret_s2
  have HS2 : Hid (∀ W, RdN W a n F → Calls Try.prog 24 #[.agg #[.slice a n c], .int .i64 x] W (RetS2 W (sbN (snd F n) x) (sbF (snd F n) x) (sbB (snd F n) x))) := fun W h => (rsub_any a n c F x W h hn hca hx).mono fun _ _ => ret_s2
  have HPs : Hid (∀ W, RdN W a n F → Calls Try.prog 25 #[.agg #[.slice a n c], .int .i64 kd] W (RetP2 W (pt kd (snd F n)))) := fun W h => (lparts_any a n c F kd W h hn hca).mono fun _ _ => ret_p2
  have HPs2 : Hid (∀ W, RdN W a n F → Calls Try.prog 26 #[.agg #[.slice a n c], .int .i64 kd] W (RetP2 W (pt kd (snd F n)))) := fun W h => (rparts_any a n c F kd W h hn hca).mono fun _ _ => ret_p2
  have HC : Hid (∀ W, RdN W a n F → Calls Try.prog 27 #[.agg #[.slice a n c]] W (RetI W (chkE F n))) := fun W h => check_any a n c F W h hn
  have HC2 : Hid (∀ W, RdN W a n F → Calls Try.prog 28 #[.agg #[.slice a n c]] W (RetI W (chkE F n))) := fun W h => rcheck_any a n c F W h hn
  have HT : Hid (∀ W, RdN W a n F → Calls Try.prog 29 #[.agg #[.slice a n c]] W (RetI W (wt (snd F n)))) := fun W h => weight_any a n c F W h hn hca
  have HT2 : Hid (∀ W, RdN W a n F → Calls Try.prog 30 #[.agg #[.slice a n c]] W (RetI W (wt (snd F n)))) := fun W h => rweight_any a n c F W h hn hca
  generalize snd F n = t at *
  generalize wl t = L at *
  generalize wg t = G at *
  generalize wt t = T at *
  generalize chkE F n = E at *
  have hsN := sbN_le t x sx
  have HSm : Hid (∀ W ao bo ca cb (H : Nat → Nd) (m : Nat), m ≤ 2048 → RdN W ao m H → RdN W bo m H → Calls Try.prog 10 #[.agg #[.slice ao m ca], .agg #[.slice bo m cb]] W (RetBo W true)) := fun W ao bo ca cb H m hm h1 h2 => by
    have := rsame_any ao bo m m ca cb H H W h1 h2 (by omega)
    rwa [eqN_self] at this
  have hple := pt_le kd t
  have hpsz : ∀ u ∈ pt kd t, u.size ≤ 2048 := fun u hu => Nat.le_trans (pt_sz kd t u hu) sx
  generalize sbN t x = sN at *
  generalize sbF t x = sF at *
  generalize sbB t x = sB at *
  generalize pt kd t = ts at *
  go_enter Try.func4, Try.ntmps4
  go_upto_region 3 with (go_at_call 9; refine (HL.out _).mono ?_; rintro e w1 ⟨rfl, hb1⟩)
  have hB1 := hW0.trans (hb1.mono (by simp))
  have kP1 := kP.below hb1
  have rA := ha.below hB1
  have d1 := kP1.cell 0 rfl
  clear kP hW0 ha hb1 HL
  go_upto_region 4 with (go_at_call 21; refine (HW.out _ rA).mono ?_; rintro e w2 ⟨rfl, b2⟩; have kP2 := kP1.below b2; have rA2 := rA.below b2; have hB2 := hB1.trans (b2.mono hB1.size); clear HW kP1 rA b2 hB1)
  have d2 := kP2.cell 0 rfl
  clear d1
  go_upto_region 5 with (go_at_call 22; refine (HW2.out _ rA2).mono ?_; rintro e w3 ⟨rfl, b3⟩; have kP3 := kP2.below b3; have rA3 := rA2.below b3; have hB3 := hB2.trans (b3.mono hB2.size); clear HW2 kP2 rA2 b3 hB2)
  have d3 := kP3.cell 0 rfl
  clear d2
  go_upto_region 6 with (go_at_call 23; refine (HS.out _ rA3).mono ?_; rintro e w4 ⟨ao, cap, rfl, rS, b4⟩; have b5 := b4.trans ((below1 w4 (.cells #[.slice ao sN cap] 24)).mono b4.size); have kP4 := kP3.below b5; have rA4 := rA3.below b5; have hB4 := hB3.trans (b5.mono hB3.size); have kX := Cl.new w4 24 [.slice ao sN cap]; have rX := rS.below (below1 w4 (.cells #[.slice ao sN cap] 24)); clear HS kP3 rA3 b4 b5 hB3 rS)
  clear d3
  obtain ⟨X, hX⟩ : ∃ X, X = w4.heap.size := ⟨_, rfl⟩
  rw [← hX] at kX ⊢
  clear hX
  generalize w4.alloc (.cells #[.slice ao sN cap] 24) = w5 at *
  have d4 := kP4.cell 0 rfl
  go_wp2_with fail
  refine (HS2.out _ rA4).mono ?_
  rintro e w6 ⟨ay, cay, rfl, rS, b4⟩
  have b5 := b4.trans ((below1 w6 (.cells #[.slice ay sN cay] 24)).mono b4.size)
  have kP6 := kP4.below b5
  have rA6 := rA4.below b5
  have hB6 := hB4.trans (b5.mono hB4.size)
  have kX6 := kX.below b5
  have rX6 := rX.below b5
  have kY := Cl.new w6 24 [.slice ay sN cay]
  have rY := rS.below (below1 w6 (.cells #[.slice ay sN cay] 24))
  clear HS2 kP4 rA4 kX rX b4 b5 hB4 rS
  go_upto_region 7 with fail
  clear d4
  obtain ⟨Y, hY⟩ : ∃ Y, Y = w6.heap.size := ⟨_, rfl⟩
  rw [← hY] at kY ⊢
  clear hY
  generalize w6.alloc (.cells #[.slice ay sN cay] 24) = w7 at *
  have HX : Hid (∀ W, Below w7.heap.size w7 W → (W.cell? ⟨w.heap.size, 0, none⟩ = some (.slice a n c) ∧ W.cell? ⟨X, 0, none⟩ = some (.slice ao sN cap) ∧ W.cell? ⟨Y, 0, none⟩ = some (.slice ay sN cay)) ∧ RdN W a n F ∧ RdN W ao sN sF ∧ RdN W ay sN sF) := fun W hW => ⟨⟨(kP6.below hW).cell 0 rfl, (kX6.below hW).cell 0 rfl, (kY.below hW).cell 0 rfl⟩, rA6.below hW, rX6.below hW, rY.below hW⟩
  clear kP6 kX6 kY rA6 rX6 rY
  go_cut [15, 16] (fun v v' wx => ∃ g c1 g' c2, v = .slice (some ⟨g, 0, none⟩) ts.length c1 ∧ v' = .slice (some ⟨g', 0, none⟩) ts.length c2 ∧ (∀ W, Below wx.heap.size wx W → (LG ts g W ∧ g < W.heap.size) ∧ LG ts g' W ∧ g' < W.heap.size) ∧ Below w7.heap.size w7 wx)
  case first =>
    have tBd : Below w7.heap.size w7 w7.drew := (Below.refl _ _).drew
    obtain ⟨⟨d0, _⟩, ra, _⟩ := HX.out _ tBd
    have TB : Hid _ := tBd
    clear tBd
    go_region_held3 (fun w' => w'.cell? ⟨w.heap.size, 0, none⟩ = some (.slice a n c)) (exact d0)
      (first
        | (go_at_call 25; refine (HPs.out _ ra).mono ?_; rintro e w9 ⟨g, c1, rfl, L, qq⟩; have L5 : Hid _ := L; have tB := TB.out.trans (qq.mono TB.out.size); (first | (have L7 : Hid (∀ W, Below w9.heap.size w9 W → LG ts g' W ∧ g' < W.heap.size) := fun W hW => L6.out W (qq.trans (hW.mono qq.size)); clear L6) | skip); clear L TB qq d0 ra; obtain ⟨⟨d0, _⟩, ra, _⟩ := HX.out _ tB; have TB : Hid _ := tB; clear tB)
        | (go_at_call 26; refine (HPs2.out _ ra).mono ?_; rintro e w9 ⟨g', c2, rfl, L, qq⟩; have L6 : Hid _ := L; have tB := TB.out.trans (qq.mono TB.out.size); (first | (have L8 : Hid (∀ W, Below w9.heap.size w9 W → LG ts g W ∧ g < W.heap.size) := fun W hW => L5.out W (qq.trans (hW.mono qq.size)); clear L5) | skip); clear L TB qq d0 ra; obtain ⟨⟨d0, _⟩, ra, _⟩ := HX.out _ tB; have TB : Hid _ := tB; clear tB))
    all_goals
      go_wp2_with fail
      go_meet
      first
        | exact ⟨g, c1, g', c2, rfl, rfl, fun W hW => ⟨L8.out W hW, L6.out W hW⟩, TB.out⟩
        | exact ⟨g, c1, g', c2, rfl, rfl, fun W hW => ⟨L5.out W hW, L7.out W hW⟩, TB.out⟩
  case rest =>
    obtain ⟨g, c1, g', c2, rfl, rfl, hLG, hBc⟩ := hcut
    have HLg : Hid _ := hLG
    have HX2 : Hid (∀ W, Below wc.heap.size wc W → (W.cell? ⟨w.heap.size, 0, none⟩ = some (.slice a n c) ∧ W.cell? ⟨X, 0, none⟩ = some (.slice ao sN cap) ∧ W.cell? ⟨Y, 0, none⟩ = some (.slice ay sN cay)) ∧ RdN W a n F ∧ RdN W ao sN sF ∧ RdN W ay sN sF) := fun W hW => HX.out W (hBc.trans (hW.mono hBc.size))
    have HE : Hid (∀ W, Below wc.heap.size wc W → Below w.heap.size w W) := fun W hW => (hB6.trans (hBc.mono hB6.size)).trans (hW.mono (Nat.le_trans hB6.size hBc.size))
    clear HX hB6 hBc hLG HPs HPs2
    have hNs : ts.length ≤ 2048 := by omega
    have hget : ∀ q, q < ts.length → ∃ u, ts[q]? = some u := fun q hq => ⟨_, List.getElem?_eq_getElem hq⟩
    generalize ts.length = N at *
    have hnn : ((N : Int) != (N : Int)) = false := by simp
    go_wp2_with fail
    go_loopw [56] (fun i wr => ∃ q : Nat, q ≤ N ∧ i = .int .i64 (q : Nat) ∧ Below wc.heap.size wc wr) (fun i _ => N - (intOf i).toNat)
    case atStart => exact ⟨0, Nat.zero_le _, rfl, Below.refl _ _⟩
    case round =>
      obtain ⟨q, hq, rfl, hbq⟩ := hrel
      by_cases hqN : q < N
      · have hqi : (q : Int) < (N : Int) := by omega
        obtain ⟨u, hu⟩ := hget q hqN
        obtain ⟨⟨l1, _⟩, l2, _⟩ := HLg.out wr hbq
        obtain ⟨gp, cp, e1, r1, q1⟩ := l1 q u hu
        obtain ⟨gp', cp', e2, r2, q2⟩ := l2 q u hu
        have b5 := below1 wr (.cells #[.slice (some ⟨gp, 0, none⟩) u.size cp] 24)
        have hb5 := hbq.trans (b5.mono hbq.size)
        have k5 := Cl.new wr 24 [.slice (some ⟨gp, 0, none⟩) u.size cp]
        obtain ⟨⟨l3, _⟩, l4, hg4⟩ := HLg.out _ hb5
        have e3 : (wr.alloc (.cells #[.slice (some ⟨gp, 0, none⟩) u.size cp] 24)).cell? ⟨g', q, none⟩ = some (.slice (some ⟨gp', 0, none⟩) u.size cp') := by rw [b5.cell (p := ⟨g', q, none⟩) (HLg.out wr hbq).2.2]; exact e2
        have rr1 := r1.below b5
        have rr2 := r2.below b5
        have hus : u.size ≤ 2048 := hpsz u (List.mem_of_getElem? hu)
        clear l1 l2 l3 l4 e2 r1 r2 hget
        go_upto_region 13 with fail
        clear e1
        obtain ⟨XX, hXX⟩ : ∃ X, X = wr.heap.size := ⟨_, rfl⟩
        rw [← hXX] at k5 ⊢
        clear hXX b5
        generalize wr.alloc (.cells #[.slice (some ⟨gp, 0, none⟩) u.size cp] 24) = W5 at *
        have hd : Below W5.heap.size W5 W5.drew := (Below.refl _ _).drew
        have z1 := (k5.below hd).cell 0 rfl
        have z2 : W5.drew.cell? ⟨g', q, none⟩ = some (.slice (some ⟨gp', 0, none⟩) u.size cp') := by rw [hd.cell (p := ⟨g', q, none⟩) hg4]; exact e3
        have hS : W5.drew.cell? ⟨XX, 0, none⟩ = some (.slice (some ⟨gp, 0, none⟩) u.size cp) ∧ W5.drew.cell? ⟨g', q, none⟩ = some (.slice (some ⟨gp', 0, none⟩) u.size cp') := ⟨z1, z2⟩
        have HQ := HSm.out W5.drew (some ⟨gp, 0, none⟩) (some ⟨gp', 0, none⟩) cp cp' (nodes u) u.size hus (rr1.below hd) (rr2.below hd)
        have hbd := hb5.trans (hd.mono hb5.size)
        have hk5 := k5.lt
        have HS9 : Hid (∀ W, Below W5.drew.heap.size W5.drew W → W.cell? ⟨XX, 0, none⟩ = some (.slice (some ⟨gp, 0, none⟩) u.size cp) ∧ W.cell? ⟨g', q, none⟩ = some (.slice (some ⟨gp', 0, none⟩) u.size cp')) := fun W hW => ⟨by rw [hW.cell (p := ⟨XX, 0, none⟩) (Nat.lt_of_lt_of_le hk5 hd.size)]; exact z1, by rw [hW.cell (p := ⟨g', q, none⟩) (Nat.lt_of_lt_of_le hg4 hd.size)]; exact z2⟩
        clear rr1 rr2 z1 z2 e3 k5 hk5
        generalize u.size = us at *
        go_region_held3 (fun w' => w'.cell? ⟨XX, 0, none⟩ = some (.slice (some ⟨gp, 0, none⟩) us cp) ∧ w'.cell? ⟨g', q, none⟩ = some (.slice (some ⟨gp', 0, none⟩) us cp')) (exact hS)
          (first
            | (go_at_call 10; refine HQ.mono ?_; rintro e w9 ⟨rfl, qq⟩; have hb9 := hbd.trans (qq.mono hbd.size); clear hS; have hS := HS9.out _ qq; clear qq))
        all_goals
          go_wp2_with fail
          go_roundw
          case rel => exact ⟨q + 1, by omega, by simp, hb9⟩
          case measure => simp [intOf]; omega
      · have hqi : ¬ (q : Int) < (N : Int) := by omega
        have tBd : Below wc.heap.size wc wr.drew := hbq.drew
        obtain ⟨hc, ra, rx, ry⟩ := HX2.out _ tBd
        have TB : Hid _ := tBd
        have hEE : (E == E) = true := by simp
        have hLL : (L == L) = true := by simp
        have hGG : (G == G) = true := by simp
        have hTT : (T == T) = true := by simp
        have hBB : (sB == sB) = true := by simp
        clear tBd hbq HLg hget hpsz hnn
        go_upto_region 16 with fail
        go_region_held3 (fun w' => w'.cell? ⟨w.heap.size, 0, none⟩ = some (.slice a n c) ∧ w'.cell? ⟨X, 0, none⟩ = some (.slice ao sN cap) ∧ w'.cell? ⟨Y, 0, none⟩ = some (.slice ay sN cay)) (exact hc)
          (first
            | (go_at_call 27; refine (HC.out _ ra).mono ?_; rintro e w9 ⟨rfl, qq⟩; have tB := TB.out.trans (qq.mono TB.out.size); clear TB qq hc ra rx ry; obtain ⟨hc, ra, rx, ry⟩ := HX2.out _ tB; have TB : Hid _ := tB; clear tB)
            | (go_at_call 28; refine (HC2.out _ ra).mono ?_; rintro e w9 ⟨rfl, qq⟩; have tB := TB.out.trans (qq.mono TB.out.size); clear TB qq hc ra rx ry; obtain ⟨hc, ra, rx, ry⟩ := HX2.out _ tB; have TB : Hid _ := tB; clear tB)
            | (go_at_call 29; refine (HT.out _ ra).mono ?_; rintro e w9 ⟨rfl, qq⟩; have tB := TB.out.trans (qq.mono TB.out.size); clear TB qq hc ra rx ry; obtain ⟨hc, ra, rx, ry⟩ := HX2.out _ tB; have TB : Hid _ := tB; clear tB)
            | (go_at_call 30; refine (HT2.out _ ra).mono ?_; rintro e w9 ⟨rfl, qq⟩; have tB := TB.out.trans (qq.mono TB.out.size); clear TB qq hc ra rx ry; obtain ⟨hc, ra, rx, ry⟩ := HX2.out _ tB; have TB : Hid _ := tB; clear tB)
            | (go_at_call 10; refine (HSm.out _ _ _ _ _ sF sN hsN rx ry).mono ?_; rintro e w9 ⟨rfl, qq⟩; have tB := TB.out.trans (qq.mono TB.out.size); clear TB qq hc ra rx ry; obtain ⟨hc, ra, rx, ry⟩ := HX2.out _ tB; have TB : Hid _ := tB; clear tB))
        all_goals
          go_wp2_with fail
          go_ret
          exact ⟨rfl, HE.out _ TB.out⟩
end Go.Proofs.Ytgedhjflminlbaa
