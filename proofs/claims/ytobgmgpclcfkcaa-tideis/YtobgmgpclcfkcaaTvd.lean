/- Ported: Tvd. -/
import Derived.Test.YtobgmgpclcfkcaaTva
import Derived.Test.YtobgmgpclcfkcaaTvb
import Derived.Test.YtobgmgpclcfkcaaTvc
namespace Go.Proofs.Ytobgmgpclcfkcaa.T
open Go.RowKit
/-- Truths as cells. -/
def bls (f : Nat → Bool) (n : Nat) : List Value := (List.range n).map fun i => .bool (f i)
theorem bls_len (f : Nat → Bool) (n : Nat) : (bls f n).length = n := by simp [bls]
theorem bls_get (f : Nat → Bool) {n i : Nat} (h : i < n) : (bls f n)[i]? = some (.bool (f i)) := by simp [bls, h]
theorem bls_congr {f g : Nat → Bool} {n : Nat} (h : ∀ i, i < n → f i = g i) : bls f n = bls g n := by
  apply List.map_congr_left
  intro i hi
  rw [h i (by simpa using hi)]
theorem bls_set (f : Nat → Bool) (n i : Nat) (b : Bool) : (bls f n).set i (.bool b) = bls (fun q => if q = i then b else f q) n := by
  apply List.ext_getElem?
  intro q
  by_cases hq : q < n
  · rw [bls_get _ hq, List.getElem?_set]
    by_cases e : i = q
    · subst e; simp [bls_len, hq]
    · rw [if_neg e, bls_get _ hq]; simp [Ne.symm e]
  · rw [List.getElem?_eq_none (by simp [bls_len]; omega), List.getElem?_eq_none (by simp [bls_len]; omega)]
theorem make_bools (n : Nat) (hn : n ≤ 2048) (w : World) : (Instr.makeSlice 57 (.int .i64 (n : Nat)) (.int .i64 (n : Nat))).run Try.prog w = .ok (.slice (some ⟨w.heap.size, 0, none⟩) n n) (w.alloc (.cells (bls (fun _ => false) n).toArray 4)) := by
  obtain ⟨i, hi, hz, hs, hb⟩ := info_parts b_bool
  have := run_make (P := Try.prog) w 57 4 i _ Try.underlying57 hi hz .i64 .i64 (n : Int) (n : Int) (by omega) (by omega) (by rw [hb]; omega) (by omega)
  rw [this, hs]
  have e : madeCells #[Value.bool false] (n * 1) = (bls (fun _ => false) n).toArray := by
    apply Array.ext_getElem?
    intro q
    rw [Nat.mul_one]
    by_cases hq : q < n
    · have hs : q < (madeCells #[Value.bool false] n).size := by rw [size_madeCells]; exact hq
      rw [Array.getElem?_eq_getElem hs, List.getElem?_toArray, bls_get _ hq]
      simp [madeCells, Array.getElem_map, Nat.mod_one]
    · rw [Array.getElem?_eq_none (by rw [size_madeCells]; omega), Array.getElem?_eq_none (by simp [bls_len]; omega)]
  rw [Nat.mul_one] at e
  simp [Value.cells, e]
/-- What stands at the head of the loop. -/
structure AnI (w : World) (V : Value) (t : Tre) (b1 b2 j : Nat) (wr : World) : Prop where
  le : j ≤ t.size
  hat : ∀ k, j = k + 1 → Cl wr b1 4 (bls (fun q => (stW t k q).1) t.size)
  fin : ∀ k, j = k + 1 → Cl wr b2 4 (bls (fun q => (stW t k q).2) t.size)
  bel : Below w.heap.size w wr
  met : ∀ p u, j ≤ p → t.subs[p]? = some u → okA u (wy t (true, true) p) = true
  bx : Cl wr w.heap.size 47 [V]
set_option maxRecDepth 10000 in
set_option maxHeartbeats 8000000 in
theorem ranchors_any (bb off c : Nat) (t : Tre) (w : World) (ox : t.ok = true) (sx : t.size ≤ 2048) (hr : RdN w (some ⟨bb, off, none⟩) t.size (nodes t)) : Calls Try.prog 63 #[.agg #[.slice (some ⟨bb, off, none⟩) t.size c]] w (RetBo w (anc t (true, true))) := by
  have px := t.size_pos
  have hmk := make_bools t.size sx
  have hk1 : ((t.size : Int) - 1).toNat = t.size - 1 := by omega
  have hk2 : (0 : Int) ≤ (t.size : Int) - 1 := by omega
  have hk3 : (t.size : Int) - 1 < (t.size : Int) := by omega
  have hk4 : (t.size : Int) ≤ 2048 := by omega
  have hst : (bls (fun _ => false) t.size).set (t.size - 1) (.bool true) = bls (fun q => (stW t (t.size - 1) q).1) t.size := by
    rw [bls_set]
    exact bls_congr fun q hq => by rw [stW_start t q hq]; by_cases h : q = t.size - 1 <;> simp [h]
  have hst2 : (bls (fun _ => false) t.size).set (t.size - 1) (.bool true) = bls (fun q => (stW t (t.size - 1) q).2) t.size := by
    rw [bls_set]
    exact bls_congr fun q hq => by rw [stW_start t q hq]; by_cases h : q = t.size - 1 <;> simp [h]
  have e0 : Cl (w.alloc (.cells #[.slice (some ⟨bb, off, none⟩) t.size c] 47)) w.heap.size 47 [.slice (some ⟨bb, off, none⟩) t.size c] := Cl.new w 47 [.slice (some ⟨bb, off, none⟩) t.size c]
  have d0 := e0.cell 0 rfl
  have e1 := e0.alloc (.cells (bls (fun _ => false) t.size).toArray 4)
  have d1 := e1.cell 0 rfl
  have e2 := e1.alloc (.cells (bls (fun _ => false) t.size).toArray 4)
  have d2 := e2.cell 0 rfl
  have h1 : Cl ((w.alloc (.cells #[.slice (some ⟨bb, off, none⟩) t.size c] 47)).alloc (.cells (bls (fun _ => false) t.size).toArray 4)) (w.heap.size + 1) 4 (bls (fun _ => false) t.size) := by
    have := Cl.new (w.alloc (.cells #[.slice (some ⟨bb, off, none⟩) t.size c] 47)) 4 (bls (fun _ => false) t.size)
    simpa only [World.size_alloc] using this
  have h2 := h1.alloc (.cells (bls (fun _ => false) t.size).toArray 4)
  have h3 : Cl (((w.alloc (.cells #[.slice (some ⟨bb, off, none⟩) t.size c] 47)).alloc (.cells (bls (fun _ => false) t.size).toArray 4)).alloc (.cells (bls (fun _ => false) t.size).toArray 4)) (w.heap.size + 1 + 1) 4 (bls (fun _ => false) t.size) := by
    have := Cl.new ((w.alloc (.cells #[.slice (some ⟨bb, off, none⟩) t.size c] 47)).alloc (.cells (bls (fun _ => false) t.size).toArray 4)) 4 (bls (fun _ => false) t.size)
    simpa only [World.size_alloc] using this
  have hB3 : Below w.heap.size w (((w.alloc (.cells #[.slice (some ⟨bb, off, none⟩) t.size c] 47)).alloc (.cells (bls (fun _ => false) t.size).toArray 4)).alloc (.cells (bls (fun _ => false) t.size).toArray 4)) := (below2 w _ _).alloc (by simp; omega) _
  go_enter Try.func63, Try.ntmps63
  go_upto_region 4 with fail
  clear d0 d1 e0 e1 h1 hmk
  generalize ((w.alloc (.cells #[.slice (some ⟨bb, off, none⟩) t.size c] 47)).alloc (.cells (bls (fun _ => false) t.size).toArray 4)).alloc (.cells (bls (fun _ => false) t.size).toArray 4) = V at *
  have z0 := h2.cell (t.size - 1) (bls_get _ (by omega))
  have z1 := h2.frozen (t.size - 1)
  have g2 := h2.set (t.size - 1) (.bool true)
  have g3 := h3.other (k := w.heap.size + 1) (by omega) (t.size - 1) (.bool true)
  have z2 := g3.cell (t.size - 1) (bls_get _ (by omega))
  have z3 := g3.frozen (t.size - 1)
  have l2 := g2.other (k := w.heap.size + 1 + 1) (by omega) (t.size - 1) (.bool true)
  have l3 := g3.set (t.size - 1) (.bool true)
  have l4 := (e2.other (k := w.heap.size + 1) (by omega) (t.size - 1) (.bool true)).other (k := w.heap.size + 1 + 1) (by omega) (t.size - 1) (.bool true)
  have l5 : Below w.heap.size w ((V.setCell ⟨w.heap.size + 1, t.size - 1, none⟩ (.bool true)).setCell ⟨w.heap.size + 1 + 1, t.size - 1, none⟩ (.bool true)) := (hB3.setCell (p := ⟨w.heap.size + 1, t.size - 1, none⟩) (by simp) _).setCell (p := ⟨w.heap.size + 1 + 1, t.size - 1, none⟩) (by simp; omega) _
  rw [hst] at l2
  rw [hst2] at l3
  have S0 : AnI w (.slice (some ⟨bb, off, none⟩) t.size c) t (w.heap.size + 1) (w.heap.size + 1 + 1) t.size ((V.setCell ⟨w.heap.size + 1, t.size - 1, none⟩ (.bool true)).setCell ⟨w.heap.size + 1 + 1, t.size - 1, none⟩ (.bool true)) := ⟨Nat.le_refl _, fun k hk => by rw [show k = t.size - 1 by omega]; exact l2, fun k hk => by rw [show k = t.size - 1 by omega]; exact l3, l5, fun p u hp hu => by
    have := (List.getElem?_eq_some_iff.1 hu).1
    rw [Tre.subs_length] at this
    omega, l4⟩
  clear l2 l3 l4 l5 g2 g3 h2 h3 hB3 hst hst2 e2
  go_upto_block 0 with fail
  clear z0 z1 z2 z3 d2
  generalize (V.setCell ⟨w.heap.size + 1, t.size - 1, none⟩ (.bool true)).setCell ⟨w.heap.size + 1 + 1, t.size - 1, none⟩ (.bool true) = W1 at *
  go_wp2_with fail
  go_loopw [6] (fun i wr => ∃ j : Nat, i = .int .i64 ((j : Int) - 1) ∧ AnI w (.slice (some ⟨bb, off, none⟩) t.size c) t (w.heap.size + 1) (w.heap.size + 1 + 1) j wr) (fun i _ => (intOf i + 1).toNat)
  case atStart => exact ⟨t.size, rfl, S0⟩
  case round =>
    obtain ⟨j, rfl, S⟩ := hrel
    clear S0
    have hjl := S.le
    by_cases hj : j = 0
    · subst hj
      have hji : ¬ (((0 : Nat) : Int) - 1) ≥ 0 := by omega
      have HR : Hid (RetBo w (anc t (true, true)) (.returned (.bool true)) wr) := by
        have : anc t (true, true) = true := (anc_iff t _).2 fun p v hv => S.met p v (Nat.zero_le _) hv
        rw [this]
        exact ⟨rfl, S.bel⟩
      clear S
      go_wp2_with fail
      go_ret
      exact HR.out
    · obtain ⟨k, rfl⟩ : ∃ k, j = k + 1 := ⟨j - 1, by omega⟩
      have hk : k < t.size := by omega
      have hkj : ((k + 1 : Nat) : Int) - 1 = (k : Int) := by omega
      have kH := S.hat k rfl
      have kE := S.fin k rfl
      have kB := S.bx
      have dB := kB.cell 0 rfl
      obtain ⟨bb', off', ea, hbb0, hc⟩ := hr px
      obtain ⟨rfl, rfl⟩ : bb = bb' ∧ off = off' := by simpa using ea
      obtain ⟨c0, c1, c2, c3, c4, c5, c6, c7, c8, c9⟩ := hc k hk
      rw [← S.bel.cell (p := ⟨bb, _, none⟩) hbb0] at c0 c1 c2 c3 c4 c5 c6 c7 c8 c9
      obtain ⟨u, hu⟩ : ∃ u, t.subs[k]? = some u := ⟨_, List.getElem?_eq_getElem (by rw [Tre.subs_length]; exact hk)⟩
      have ou := subs_ok _ _ _ ox hu
      rw [nodes_get hu] at c0 c1 c2 c3 c4 c5 c6 c7 c8 c9
      have v0 := kH.cell k (bls_get _ hk)
      have v1 := kE.cell k (bls_get _ hk)
      rw [stW_self t k hk] at v0 v1
      have hbN := below1 wr (.cells (ndL (u.nd k)).toArray 70)
      have kX := Cl.new wr 70 (ndL (u.nd k))
      have hbel := S.bel
      have HN : Hid (okA u (wy t (true, true) k) = true → ∀ W, (∀ q, k = q + 1 → Cl W (w.heap.size + 1) 4 (bls (fun p => (stW t q p).1) t.size)) → (∀ q, k = q + 1 → Cl W (w.heap.size + 1 + 1) 4 (bls (fun p => (stW t q p).2) t.size)) → Below w.heap.size w W → Cl W w.heap.size 47 [.slice (some ⟨bb, off, none⟩) t.size c] → AnI w (.slice (some ⟨bb, off, none⟩) t.size c) t (w.heap.size + 1) (w.heap.size + 1 + 1) k W) := fun hf W a1 a2 a3 a4 => ⟨by omega, a1, a2, a3, fun p v hp hv => by
        by_cases hpk : p = k
        · subst hpk
          rw [hu] at hv
          obtain rfl := Option.some.inj hv
          exact hf
        · exact S.met p v (by omega) hv, a4⟩
      have HF : Hid (okA u (wy t (true, true) k) = false → ∀ W, Below w.heap.size w W → RetBo w (anc t (true, true)) (.returned (.bool false)) W) := by
        intro hf W hW
        have : anc t (true, true) = false := by
          cases h : anc t (true, true) with
          | false => rfl
          | true => rw [(anc_iff t _).1 h k _ hu] at hf; cases hf
        rw [this]
        exact ⟨rfl, hW⟩
      have hki2 : (k : Int) < (t.size : Int) := by omega
      have hki3 : (k : Int) ≥ 0 := by omega
      have hbW := hbel.trans (hbN.mono hbel.size)
      have kH5 := kH.below hbN
      have kE5 := kE.below hbN
      have kB5 := kB.below hbN
      have v05 := kH5.cell k (bls_get _ hk)
      have v15 := kE5.cell k (bls_get _ hk)
      rw [stW_self t k hk] at v05 v15
      rw [hkj]
      clear S hc hkj
      obtain ⟨hh, he⟩ : ∃ hh : Bool × Bool, wy t (true, true) k = hh := ⟨_, rfl⟩
      rw [he] at v0 v1 v05 v15 HN HF
      cases u with
      | leaf q =>
        simp only [Tre.nd] at c0 c1 c2 c3 c4 c5 c6 c7 c8 c9 kX hbN hbW kH5 kE5 kB5 v05 v15
        have hq7 := lf_kind ou
        have HG : Hid (okA (.leaf q) hh = true → AnI w (.slice (some ⟨bb, off, none⟩) t.size c) t (w.heap.size + 1) (w.heap.size + 1 + 1) k (wr.alloc (.cells (ndL q).toArray 70))) := fun hf => HN.out hf _ (fun q' hq => by have := bls_congr (n := t.size) fun p hp => congrArg Prod.fst (stW_leaf hu (by omega) p hp); rw [show k - 1 = q' by omega] at this; rw [← this]; exact kH5) (fun q' hq => by have := bls_congr (n := t.size) fun p hp => congrArg Prod.snd (stW_leaf hu (by omega) p hp); rw [show k - 1 = q' by omega] at this; rw [← this]; exact kE5) hbW kB5
        have HF' : Hid (okA (.leaf q) hh = false → RetBo w (anc t (true, true)) (.returned (.bool false)) (wr.alloc (.cells (ndL q).toArray 70))) := fun hf => HF.out hf _ hbW
        have hoA : okA (.leaf q) hh = if q.k = 6 then hh.1 else if q.k = 7 then hh.2 else true := rfl
        unfold ndL at kX v05 v15 HG HF'
        obtain ⟨⟨f0, _⟩, _⟩ := kX.ten
        clear HN HF kH kE kB kH5 kE5 kB5 hbN hbW hu ou kX hbel hr
        have e4 : (q.k == 4) = false := by simp; omega
        have e3 : (q.k == 3) = false := by simp; omega
        obtain ⟨hA, hB⟩ := hh
        dsimp only at v0 v1 v05 v15 hoA
        by_cases e6 : q.k = 6
        · rw [if_pos e6] at hoA
          have e6' : (q.k == 6) = true := by simpa using e6
          cases hA with
          | true =>
            have HG2 : Hid _ := HG.out hoA
            clear HG HF' hoA e6
            go_wp2_with fail
            go_roundw
            case rel => exact ⟨k, by simp, HG2.out⟩
            case measure => simp [intOf] <;> omega
          | false =>
            have HG2 : Hid _ := HF'.out hoA
            clear HG HF' hoA e6
            go_wp2_with fail
            go_ret
            exact HG2.out
        · have e6' : (q.k == 6) = false := by simpa using e6
          rw [if_neg e6] at hoA
          by_cases e7 : q.k = 7
          · rw [if_pos e7] at hoA
            have e7' : (q.k == 7) = true := by simpa using e7
            cases hB with
            | true =>
              have HG2 : Hid _ := HG.out hoA
              clear HG HF' hoA e6 e7
              go_wp2_with fail
              go_roundw
              case rel => exact ⟨k, by simp, HG2.out⟩
              case measure => simp [intOf] <;> omega
            | false =>
              have HG2 : Hid _ := HF'.out hoA
              clear HG HF' hoA e6 e7
              go_wp2_with fail
              go_ret
              exact HG2.out
          · have e7' : (q.k == 7) = false := by simpa using e7
            rw [if_neg e7] at hoA
            have HG2 : Hid _ := HG.out hoA
            clear HG HF' hoA e6 e7
            go_wp2_with fail
            go_roundw
            case rel => exact ⟨k, by simp, HG2.out⟩
            case measure => simp [intOf] <;> omega
      | rep x l m z =>
        obtain ⟨hx1, _⟩ := subs_rep hu
        have px2 := x.size_pos
        have HG : Hid (AnI w (.slice (some ⟨bb, off, none⟩) t.size c) t (w.heap.size + 1) (w.heap.size + 1 + 1) k (wr.alloc (.cells (ndL ((Tre.rep x l m z).nd k)).toArray 70))) := HN.out rfl _ (fun q' hq => by have := bls_congr (n := t.size) fun p hp => congrArg Prod.fst (stW_rep hu (by omega) p hp); rw [show k - 1 = q' by omega] at this; rw [← this]; exact kH5) (fun q' hq => by have := bls_congr (n := t.size) fun p hp => congrArg Prod.snd (stW_rep hu (by omega) p hp); rw [show k - 1 = q' by omega] at this; rw [← this]; exact kE5) hbW kB5
        simp only [Tre.nd] at c0 c1 c2 c3 c4 c5 c6 c7 c8 c9 kX HG
        unfold ndL at kX HG
        obtain ⟨⟨f0, _⟩, _⟩ := kX.ten
        clear HN HF kH kE kB kH5 kE5 kB5 hbN hbW hu ou kX hbel hr v05 v15
        go_wp2_with fail
        go_roundw
        case rel => exact ⟨k, by simp, HG.out⟩
        case measure => simp [intOf] <;> omega
      | two kd x y =>
        obtain ⟨hxy, _, _⟩ := subs_two hu
        have px2 := x.size_pos
        have py2 := y.size_pos
        have hndE : (Tre.two kd x y).nd (k : Int) = ⟨kd, 0, 0, 0, 0, ((k - 1 - y.size : Nat) : Int), ((k - 1 : Nat) : Int), 0, 0, false⟩ := by simp only [Tre.nd]; congr 1 <;> omega
        have hs2 := stW_two hu
        have hun := stW_unset hu
        rw [he] at hs2
        rw [hndE] at c0 c1 c2 c3 c4 c5 c6 c7 c8 c9 kX hbN hbW kH5 kE5 kB5 v05 v15
        unfold ndL at kX hbN hbW kH5 kE5 kB5 v05 v15
        dsimp only at c0 c1 c2 c3 c4 c5 c6 c7 c8 c9 kX hbN hbW kH5 kE5 kB5 v05 v15
        have hpa : k - 1 - y.size < t.size := by omega
        have hpb : k - 1 < t.size := by omega
        have hpk : k - 1 - y.size ≠ k ∧ k - 1 ≠ k ∧ k - 1 - y.size ≠ k - 1 := by omega
        have hai : ((k - 1 - y.size : Nat) : Int) < (t.size : Int) := by omega
        have hbi : ((k - 1 : Nat) : Int) < (t.size : Int) := by omega
        simp [Tre.ok] at ou
        clear hu hndE
        have hkk : k - 1 + 1 = k := by omega
        generalize k - 1 - y.size = pa at *
        generalize hpB : k - 1 = pb at *
        obtain ⟨hA, hB⟩ := hh
        dsimp only at v0 v1 v05 v15
        have hX9 : w.heap.size + 1 + 1 < wr.heap.size := kE.lt
        rcases ou.1.1 with hk3 | hk3
        · subst hk3
          clear kH kE kB hbel HF
          have hX : w.heap.size + 1 + 1 < wr.heap.size := hX9
          obtain ⟨⟨f0, f1, f2, f3, f4, f5, f6, f7, f8, f9⟩, _⟩ := kX.ten
          obtain ⟨fH, hfH⟩ : ∃ f : Nat → Bool, f = fun q => (stW t k q).1 := ⟨_, rfl⟩
          obtain ⟨fE, hfE⟩ : ∃ f : Nat → Bool, f = fun q => (stW t k q).2 := ⟨_, rfl⟩
          rw [← hfH] at kH5
          rw [← hfE] at kE5
          have fHk : fH k = hA := by rw [hfH]; simp only [stW_self t k hk, he]
          have fEk : fE k = hB := by rw [hfE]; simp only [stW_self t k hk, he]
          have eH : Hid (∀ q, fH q = (stW t k q).1) := fun q => by rw [hfH]
          have eE : Hid (∀ q, fE q = (stW t k q).2) := fun q => by rw [hfE]
          have HS2 : Hid _ := hs2
          have HU : Hid _ := hun
          have HKK : Hid _ := hkk
          have HOK : Hid (okA (Tre.two 3 x y) (hA, hB) = true) := rfl
          clear hfH hfE f1 f2 f3 f4 f7 f8 f9 hs2 hun hkk he hpB hr v05 v15
          rename Cl _ (w.heap.size + 1) 4 (bls fH t.size) => kH
          rename Cl _ (w.heap.size + 1 + 1) 4 (bls fE t.size) => kE
          rename Cl _ w.heap.size 47 _ => kB
          go_upto_region 17 with fail
          clear c0 c1 c2 c3 c4 c5 c6 c7 c8 c9 dB v0 v1 f0 f5 f6
          generalize wr.alloc (.cells #[.int .i64 3, .int .u64 0, .int .u64 0, .int .u64 0, .int .u64 0, .int .i64 (pa : Nat), .int .i64 (pb : Nat), .int .i64 0, .int .i64 0, .bool false] 70) = U at *
          generalize wr.heap.size = X5 at *
          have n1 := Near.cell (kX.cell 5 rfl) kX.lt
          have n2 := Near.cell (kH.cell k (v := .bool hA) (by rw [bls_get _ hk, fHk])) kH.lt
          refine wp_region_quiet_tail 8 (fun w' => ∃ u : World, w' = near U u) (by kernel_rfl) (by kernel_rfl) (Near.start _) ?_
          simp only [List.take_succ_cons, List.take_zero, List.drop_succ_cons, List.drop_zero]
          repeat (go_big_quiet_step (fail))
          refine wpQuiet_nil ?_
          rintro _ ⟨u, rfl⟩
          replace kH := kH.below (near_below U u)
          replace kE := kE.below (near_below U u)
          replace kB := kB.below (near_below U u)
          replace kX := kX.below (near_below U u)
          replace hbW := hbW.trans ((near_below U u).mono hbW.size)
          clear n1 n2
          generalize near U u = U0 at *
          have y1 := kH.cell pa (bls_get _ hpa)
          have y2 := kH.frozen pa
          replace kH := kH.set pa (.bool hA)
          rw [bls_set] at kH
          replace kE := kE.other (k := w.heap.size + 1) (by omega) pa (.bool hA)
          replace kB := kB.other (k := w.heap.size + 1) (by omega) pa (.bool hA)
          replace kX := kX.other (k := w.heap.size + 1) (by omega) pa (.bool hA)
          replace hbW := hbW.setCell (p := ⟨w.heap.size + 1, pa, none⟩) (by simp <;> omega) (.bool hA)
          obtain ⟨gH0, hg⟩ : ∃ g : Nat → Bool, g = fun q => if q = pa then hA else fH q := ⟨_, rfl⟩
          rw [← hg] at kH
          replace fHk : gH0 k = hA := by rw [hg]; simp [fHk]
          have eH0 : Hid (∀ q, gH0 q = if q = pa then hA else fH q) := fun q => by rw [hg]
          clear hg
          go_upto_region 18 with fail
          clear y1 y2
          generalize U0.setCell ⟨w.heap.size + 1, pa, none⟩ (.bool hA) = U at *
          have n1 := Near.cell (kX.cell 6 rfl) kX.lt
          have n2 := Near.cell (kE.cell k (v := .bool hB) (by rw [bls_get _ hk, fEk])) kE.lt
          refine wp_region_quiet_tail 8 (fun w' => ∃ u : World, w' = near U u) (by kernel_rfl) (by kernel_rfl) (Near.start _) ?_
          simp only [List.take_succ_cons, List.take_zero, List.drop_succ_cons, List.drop_zero]
          repeat (go_big_quiet_step (fail))
          refine wpQuiet_nil ?_
          rintro _ ⟨u, rfl⟩
          replace kH := kH.below (near_below U u)
          replace kE := kE.below (near_below U u)
          replace kB := kB.below (near_below U u)
          replace kX := kX.below (near_below U u)
          replace hbW := hbW.trans ((near_below U u).mono hbW.size)
          clear n1 n2
          generalize near U u = U1 at *
          have y1 := kE.cell pb (bls_get _ hpb)
          have y2 := kE.frozen pb
          replace kE := kE.set pb (.bool hB)
          rw [bls_set] at kE
          replace kH := kH.other (k := w.heap.size + 1 + 1) (by omega) pb (.bool hB)
          replace kB := kB.other (k := w.heap.size + 1 + 1) (by omega) pb (.bool hB)
          replace kX := kX.other (k := w.heap.size + 1 + 1) (by omega) pb (.bool hB)
          replace hbW := hbW.setCell (p := ⟨w.heap.size + 1 + 1, pb, none⟩) (by simp <;> omega) (.bool hB)
          obtain ⟨gE1, hg⟩ : ∃ g : Nat → Bool, g = fun q => if q = pb then hB else fE q := ⟨_, rfl⟩
          rw [← hg] at kE
          replace fEk : gE1 k = hB := by rw [hg]; simp [fEk]
          have eE1 : Hid (∀ q, gE1 q = if q = pb then hB else fE q) := fun q => by rw [hg]
          clear hg
          go_wp2_with fail
          generalize U1.setCell ⟨w.heap.size + 1 + 1, pb, none⟩ (.bool hB) = UU at *
          go_roundw
          case measure => simp [intOf] <;> omega
          case rel =>
            refine ⟨k, by simp, HN.out HOK.out _ (fun q' hq => ?_) (fun q' hq => ?_) hbW kB⟩
            · have hq' : pb = q' := by have := HKK.out; omega
              subst hq'
              have : bls gH0 t.size = bls (fun p => (stW t pb p).1) t.size := bls_congr fun p hp => by
                rw [eH0.out, eH.out, HS2.out p hp]
                by_cases h1 : p = pb
                · subst h1; rw [if_neg (Ne.symm hpk.2.2), HU.out.1]; simp [hdB]
                · by_cases h2 : p = pa
                  · subst h2; simp [h1, hdA]
                  · simp [h1, h2]
              rw [← this]; exact kH
            · have hq' : pb = q' := by have := HKK.out; omega
              subst hq'
              have : bls gE1 t.size = bls (fun p => (stW t pb p).2) t.size := bls_congr fun p hp => by
                rw [eE1.out, eE.out, HS2.out p hp]
                by_cases h1 : p = pb
                · simp [h1, hdB]
                · by_cases h2 : p = pa
                  · subst h2; rw [if_neg h1, HU.out.2]; simp [h1, hdA]
                  · simp [h1, h2]
              rw [← this]; exact kE
        · subst hk3
          clear kH kE kB hbel HF
          have hX : w.heap.size + 1 + 1 < wr.heap.size := hX9
          obtain ⟨⟨f0, f1, f2, f3, f4, f5, f6, f7, f8, f9⟩, _⟩ := kX.ten
          obtain ⟨fH, hfH⟩ : ∃ f : Nat → Bool, f = fun q => (stW t k q).1 := ⟨_, rfl⟩
          obtain ⟨fE, hfE⟩ : ∃ f : Nat → Bool, f = fun q => (stW t k q).2 := ⟨_, rfl⟩
          rw [← hfH] at kH5
          rw [← hfE] at kE5
          have fHk : fH k = hA := by rw [hfH]; simp only [stW_self t k hk, he]
          have fEk : fE k = hB := by rw [hfE]; simp only [stW_self t k hk, he]
          have eH : Hid (∀ q, fH q = (stW t k q).1) := fun q => by rw [hfH]
          have eE : Hid (∀ q, fE q = (stW t k q).2) := fun q => by rw [hfE]
          have HS2 : Hid _ := hs2
          have HU : Hid _ := hun
          have HKK : Hid _ := hkk
          have HOK : Hid (okA (Tre.two 4 x y) (hA, hB) = true) := rfl
          clear hfH hfE f1 f2 f3 f4 f7 f8 f9 hs2 hun hkk he hpB hr v05 v15
          rename Cl _ (w.heap.size + 1) 4 (bls fH t.size) => kH
          rename Cl _ (w.heap.size + 1 + 1) 4 (bls fE t.size) => kE
          rename Cl _ w.heap.size 47 _ => kB
          go_upto_region 12 with fail
          clear c0 c1 c2 c3 c4 c5 c6 c7 c8 c9 dB v0 v1 f0 f5 f6
          generalize wr.alloc (.cells #[.int .i64 4, .int .u64 0, .int .u64 0, .int .u64 0, .int .u64 0, .int .i64 (pa : Nat), .int .i64 (pb : Nat), .int .i64 0, .int .i64 0, .bool false] 70) = U at *
          generalize wr.heap.size = X5 at *
          have n1 := Near.cell (kX.cell 5 rfl) kX.lt
          have n2 := Near.cell (kH.cell k (v := .bool hA) (by rw [bls_get _ hk, fHk])) kH.lt
          refine wp_region_quiet_tail 8 (fun w' => ∃ u : World, w' = near U u) (by kernel_rfl) (by kernel_rfl) (Near.start _) ?_
          simp only [List.take_succ_cons, List.take_zero, List.drop_succ_cons, List.drop_zero]
          repeat (go_big_quiet_step (fail))
          refine wpQuiet_nil ?_
          rintro _ ⟨u, rfl⟩
          replace kH := kH.below (near_below U u)
          replace kE := kE.below (near_below U u)
          replace kB := kB.below (near_below U u)
          replace kX := kX.below (near_below U u)
          replace hbW := hbW.trans ((near_below U u).mono hbW.size)
          clear n1 n2
          generalize near U u = U0 at *
          have y1 := kH.cell pa (bls_get _ hpa)
          have y2 := kH.frozen pa
          replace kH := kH.set pa (.bool hA)
          rw [bls_set] at kH
          replace kE := kE.other (k := w.heap.size + 1) (by omega) pa (.bool hA)
          replace kB := kB.other (k := w.heap.size + 1) (by omega) pa (.bool hA)
          replace kX := kX.other (k := w.heap.size + 1) (by omega) pa (.bool hA)
          replace hbW := hbW.setCell (p := ⟨w.heap.size + 1, pa, none⟩) (by simp <;> omega) (.bool hA)
          obtain ⟨gH0, hg⟩ : ∃ g : Nat → Bool, g = fun q => if q = pa then hA else fH q := ⟨_, rfl⟩
          rw [← hg] at kH
          replace fHk : gH0 k = hA := by rw [hg]; simp [fHk]
          have eH0 : Hid (∀ q, gH0 q = if q = pa then hA else fH q) := fun q => by rw [hg]
          clear hg
          go_upto_region 13 with fail
          clear y1 y2
          generalize U0.setCell ⟨w.heap.size + 1, pa, none⟩ (.bool hA) = U at *
          have n1 := Near.cell (kX.cell 6 rfl) kX.lt
          have n2 := Near.cell (kH.cell k (v := .bool hA) (by rw [bls_get _ hk, fHk])) kH.lt
          refine wp_region_quiet_tail 8 (fun w' => ∃ u : World, w' = near U u) (by kernel_rfl) (by kernel_rfl) (Near.start _) ?_
          simp only [List.take_succ_cons, List.take_zero, List.drop_succ_cons, List.drop_zero]
          repeat (go_big_quiet_step (fail))
          refine wpQuiet_nil ?_
          rintro _ ⟨u, rfl⟩
          replace kH := kH.below (near_below U u)
          replace kE := kE.below (near_below U u)
          replace kB := kB.below (near_below U u)
          replace kX := kX.below (near_below U u)
          replace hbW := hbW.trans ((near_below U u).mono hbW.size)
          clear n1 n2
          generalize near U u = U1 at *
          have y1 := kH.cell pb (bls_get _ hpb)
          have y2 := kH.frozen pb
          replace kH := kH.set pb (.bool hA)
          rw [bls_set] at kH
          replace kE := kE.other (k := w.heap.size + 1) (by omega) pb (.bool hA)
          replace kB := kB.other (k := w.heap.size + 1) (by omega) pb (.bool hA)
          replace kX := kX.other (k := w.heap.size + 1) (by omega) pb (.bool hA)
          replace hbW := hbW.setCell (p := ⟨w.heap.size + 1, pb, none⟩) (by simp <;> omega) (.bool hA)
          obtain ⟨gH1, hg⟩ : ∃ g : Nat → Bool, g = fun q => if q = pb then hA else gH0 q := ⟨_, rfl⟩
          rw [← hg] at kH
          replace fHk : gH1 k = hA := by rw [hg]; simp [fHk]
          have eH1 : Hid (∀ q, gH1 q = if q = pb then hA else gH0 q) := fun q => by rw [hg]
          clear hg
          go_upto_region 14 with fail
          clear y1 y2
          generalize U1.setCell ⟨w.heap.size + 1, pb, none⟩ (.bool hA) = U at *
          have n1 := Near.cell (kX.cell 5 rfl) kX.lt
          have n2 := Near.cell (kE.cell k (v := .bool hB) (by rw [bls_get _ hk, fEk])) kE.lt
          refine wp_region_quiet_tail 8 (fun w' => ∃ u : World, w' = near U u) (by kernel_rfl) (by kernel_rfl) (Near.start _) ?_
          simp only [List.take_succ_cons, List.take_zero, List.drop_succ_cons, List.drop_zero]
          repeat (go_big_quiet_step (fail))
          refine wpQuiet_nil ?_
          rintro _ ⟨u, rfl⟩
          replace kH := kH.below (near_below U u)
          replace kE := kE.below (near_below U u)
          replace kB := kB.below (near_below U u)
          replace kX := kX.below (near_below U u)
          replace hbW := hbW.trans ((near_below U u).mono hbW.size)
          clear n1 n2
          generalize near U u = U2 at *
          have y1 := kE.cell pa (bls_get _ hpa)
          have y2 := kE.frozen pa
          replace kE := kE.set pa (.bool hB)
          rw [bls_set] at kE
          replace kH := kH.other (k := w.heap.size + 1 + 1) (by omega) pa (.bool hB)
          replace kB := kB.other (k := w.heap.size + 1 + 1) (by omega) pa (.bool hB)
          replace kX := kX.other (k := w.heap.size + 1 + 1) (by omega) pa (.bool hB)
          replace hbW := hbW.setCell (p := ⟨w.heap.size + 1 + 1, pa, none⟩) (by simp <;> omega) (.bool hB)
          obtain ⟨gE2, hg⟩ : ∃ g : Nat → Bool, g = fun q => if q = pa then hB else fE q := ⟨_, rfl⟩
          rw [← hg] at kE
          replace fEk : gE2 k = hB := by rw [hg]; simp [fEk]
          have eE2 : Hid (∀ q, gE2 q = if q = pa then hB else fE q) := fun q => by rw [hg]
          clear hg
          go_upto_region 15 with fail
          clear y1 y2
          generalize U2.setCell ⟨w.heap.size + 1 + 1, pa, none⟩ (.bool hB) = U at *
          have n1 := Near.cell (kX.cell 6 rfl) kX.lt
          have n2 := Near.cell (kE.cell k (v := .bool hB) (by rw [bls_get _ hk, fEk])) kE.lt
          refine wp_region_quiet_tail 8 (fun w' => ∃ u : World, w' = near U u) (by kernel_rfl) (by kernel_rfl) (Near.start _) ?_
          simp only [List.take_succ_cons, List.take_zero, List.drop_succ_cons, List.drop_zero]
          repeat (go_big_quiet_step (fail))
          refine wpQuiet_nil ?_
          rintro _ ⟨u, rfl⟩
          replace kH := kH.below (near_below U u)
          replace kE := kE.below (near_below U u)
          replace kB := kB.below (near_below U u)
          replace kX := kX.below (near_below U u)
          replace hbW := hbW.trans ((near_below U u).mono hbW.size)
          clear n1 n2
          generalize near U u = U3 at *
          have y1 := kE.cell pb (bls_get _ hpb)
          have y2 := kE.frozen pb
          replace kE := kE.set pb (.bool hB)
          rw [bls_set] at kE
          replace kH := kH.other (k := w.heap.size + 1 + 1) (by omega) pb (.bool hB)
          replace kB := kB.other (k := w.heap.size + 1 + 1) (by omega) pb (.bool hB)
          replace kX := kX.other (k := w.heap.size + 1 + 1) (by omega) pb (.bool hB)
          replace hbW := hbW.setCell (p := ⟨w.heap.size + 1 + 1, pb, none⟩) (by simp <;> omega) (.bool hB)
          obtain ⟨gE3, hg⟩ : ∃ g : Nat → Bool, g = fun q => if q = pb then hB else gE2 q := ⟨_, rfl⟩
          rw [← hg] at kE
          replace fEk : gE3 k = hB := by rw [hg]; simp [fEk]
          have eE3 : Hid (∀ q, gE3 q = if q = pb then hB else gE2 q) := fun q => by rw [hg]
          clear hg
          go_wp2_with fail
          generalize U3.setCell ⟨w.heap.size + 1 + 1, pb, none⟩ (.bool hB) = UU at *
          go_roundw
          case measure => simp [intOf] <;> omega
          case rel =>
            refine ⟨k, by simp, HN.out HOK.out _ (fun q' hq => ?_) (fun q' hq => ?_) hbW kB⟩
            · have hq' : pb = q' := by have := HKK.out; omega
              subst hq'
              have : bls gH1 t.size = bls (fun p => (stW t pb p).1) t.size := bls_congr fun p hp => by
                rw [eH1.out, eH0.out, eH.out, HS2.out p hp]
                by_cases h1 : p = pb
                · simp [h1, hdB]
                · by_cases h2 : p = pa
                  · subst h2; simp [h1, hdA]
                  · simp [h1, h2]
              rw [← this]; exact kH
            · have hq' : pb = q' := by have := HKK.out; omega
              subst hq'
              have : bls gE3 t.size = bls (fun p => (stW t pb p).2) t.size := bls_congr fun p hp => by
                rw [eE3.out, eE2.out, eE.out, HS2.out p hp]
                by_cases h1 : p = pb
                · simp [h1, hdB]
                · by_cases h2 : p = pa
                  · subst h2; simp [h1, hdA]
                  · simp [h1, h2]
              rw [← this]; exact kE
set_option maxHeartbeats 1000000 in
theorem rcheck_any (a : Option Addr) (n c : Nat) (F : Nat → Nd) (w : World) (ha : RdN w a n F) (hn : (n : Int) ≤ 9223372036854775807) : Calls Try.prog 44 #[.agg #[.slice a n c]] w (RetI w (chkE F n)) := by
  have hW0 := below1 w (.cells #[.slice a n c] 47)
  have ka := Cl.new w 47 [.slice a n c]
  have HM := may_any a n c F _ (ha.below hW0) hn
  cases hA : treeOf F n with
  | none =>
    rw [hA] at HM
    have hs : chkE F n = 50 := by simp [chkE, hA]
    rw [hs]
    go_enter Try.func44, Try.ntmps44
    go_wp2_with (go_at_call 62; refine HM.mono ?_; rintro e w1 ⟨rfl, hb1⟩)
    go_ret
    exact ⟨rfl, hW0.trans (hb1.mono (by simp))⟩
  | some t =>
    rw [hA] at HM
    obtain ⟨rfl, ho, hs, hF⟩ := treeOf_some hA
    have px := t.size_pos
    obtain ⟨bb, off, rfl, _, _⟩ := ha px
    have hr := (ha.below hW0).congr hF
    have hc : chkE F t.size = if anc t (true, true) = true then 0 else 51 := by simp [chkE, hA]
    rw [hc]
    have HC : Hid (∀ W, Below (w.alloc (.cells #[.slice (some ⟨bb, off, none⟩) t.size c] 47)).heap.size (w.alloc (.cells #[.slice (some ⟨bb, off, none⟩) t.size c] 47)) W → Calls Try.prog 63 #[.agg #[.slice (some ⟨bb, off, none⟩) t.size c]] W (RetBo W (anc t (true, true)))) := fun W hb => ranchors_any bb off c t W ho hs (hr.below hb)
    cases hn : anc t (true, true) with
    | true =>
      rw [hn] at HC
      go_enter Try.func44, Try.ntmps44
      go_wp2_with (first | (go_at_call 62; refine HM.mono ?_; rintro e w1 ⟨rfl, hb1⟩; have d1 := (ka.below hb1).cell 0 rfl) | (go_at_call 63; refine (HC.out _ hb1).mono ?_; rintro e w2 ⟨rfl, hb2⟩))
      go_ret
      exact ⟨rfl, (hW0.trans (hb1.mono (by simp))).trans (hb2.mono (by have := hb1.size; simp at this; omega))⟩
    | false =>
      rw [hn] at HC
      go_enter Try.func44, Try.ntmps44
      go_wp2_with (first | (go_at_call 62; refine HM.mono ?_; rintro e w1 ⟨rfl, hb1⟩; have d1 := (ka.below hb1).cell 0 rfl) | (go_at_call 63; refine (HC.out _ hb1).mono ?_; rintro e w2 ⟨rfl, hb2⟩))
      go_ret
      exact ⟨rfl, (hW0.trans (hb1.mono (by simp))).trans (hb2.mono (by have := hb1.size; simp at this; omega))⟩
end Go.Proofs.Ytobgmgpclcfkcaa.T
