/- normal.Is and the reference's: the walks. -/
import Derived.Test.YthbmfnibgjlkhaaDoorGCeLi
import Derived.Test.YthbmfnibgjlkhaaDoorMa
import Derived.Deep.DeepCutAuto
import Derived.Deep.RegionHeld3
import Derived.Deep.QuietTactic
namespace Go.Proofs.YthbmfnibgjlkhaaDoor
open Go.RowKit
/-- A node that is no repeat but a star. -/
def okR (n : Nd) : Bool := !(n.k == 5) || (n.l == 0 && n.m == -1 && !n.z)
/-- Whether nodes are a plain tree. -/
def isB (F : Nat → Nd) (n : Nat) : Bool := (treeOf F n).isSome && (List.range n).all fun k => okR (F k)
theorem allR_snoc (F : Nat → Nd) (n : Nat) : ((List.range (n + 1)).all fun k => okR (F k)) = (((List.range n).all fun k => okR (F k)) && okR (F n)) := by
  rw [List.range_succ, List.all_append]
  simp
/-- The node of a repeat in a tree that stands. -/
theorem node5 {t : Tre} (ho : t.ok = true) (p : Nat) (hp : p < t.size) (h5 : (nodes t p).k = 5) : ∃ (a l m : Int) (z : Bool), nodes t p = ⟨5, 0, 0, 0, 0, a, 0, l, m, z⟩ := by
  obtain ⟨u, hu⟩ : ∃ u, t.subs[p]? = some u := ⟨_, List.getElem?_eq_getElem (by rw [Tre.subs_length]; exact hp)⟩
  have hok := subs_ok t p u ho hu
  rw [nodes_get hu] at h5 ⊢
  cases u with
  | leaf n =>
    exfalso
    simp only [Tre.nd] at h5
    simp only [Tre.ok, Tre.lf, h5] at hok
    simp at hok
  | two k x y =>
    exfalso
    simp only [Tre.nd] at h5
    simp only [Tre.ok, h5] at hok
    simp at hok
  | rep x l m z => exact ⟨_, l, m, z, rfl⟩
set_option maxRecDepth 10000 in
set_option maxHeartbeats 2000000 in
theorem star_any (a : Int) (w : World) : Calls Tryd.prog 77 #[.int .i64 a] w (fun e w' => e = .returned (ndV ⟨5, 0, 0, 0, 0, a, 0, 0, -1, false⟩) ∧ Below w.heap.size w w') := by
  go_enter Tryd.func77, Tryd.ntmps77
  go_wp2_with fail
  have hb := below1 w (.cells #[.int .i64 5, .int .u64 0, .int .u64 0, .int .u64 0, .int .u64 0, .int .i64 a, .int .i64 0, .int .i64 0, .int .i64 (-1), .bool false] 82)
  have kb := Cl.new w 82 [.int .i64 5, .int .u64 0, .int .u64 0, .int .u64 0, .int .u64 0, .int .i64 a, .int .i64 0, .int .i64 0, .int .i64 (-1), .bool false]
  have c0 := kb.cell 0 rfl
  have c1 := kb.cell 1 rfl
  have c2 := kb.cell 2 rfl
  have c3 := kb.cell 3 rfl
  have c4 := kb.cell 4 rfl
  have c5 := kb.cell 5 rfl
  have c6 := kb.cell 6 rfl
  have c7 := kb.cell 7 rfl
  have c8 := kb.cell 8 rfl
  have c9 := kb.cell 9 rfl
  have HR : Hid (∀ W, Below w.heap.size w W → _ ∧ Below w.heap.size w W) := fun W h => (⟨rfl, h⟩ : Ending.returned (ndV ⟨5, 0, 0, 0, 0, a, 0, 0, -1, false⟩) = .returned (ndV ⟨5, 0, 0, 0, 0, a, 0, 0, -1, false⟩) ∧ _)
  have HB : Hid _ := hb
  clear kb hb
  refine bodyPost_ret (v := ndV ⟨5, 0, 0, 0, 0, a, 0, 0, -1, false⟩) ?_ rfl ?_
  rotate_left
  · exact HR.out _ HB.out
  clear HR HB
  simp [results, Tryd.results77, go_sem, ndV, c0, c1, c2, c3, c4, c5, c6, c7, c8, c9, loadCellsFrom]
set_option maxRecDepth 10000 in
set_option maxHeartbeats 2000000 in
theorem is_plain (a : Option Addr) (n c : Nat) (F : Nat → Nd) (w : World) (ha : RdN w a n F) (hn : (n : Int) ≤ 9223372036854775807) : Calls Tryd.prog 46 #[.agg #[.slice a n c]] w (RetBo w (isB F n)) := by
  have hW0 := below1 w (.cells #[.slice a n c] 48)
  have k0 := Cl.new w 48 [.slice a n c]
  have HC := check_any a n c F _ (ha.below hW0) hn
  cases ht : treeOf F n with
  | none =>
    have e : isB F n = false := by simp [isB, ht]
    have e2 : chkE F n = 50 := by simp [chkE, ht]
    rw [e]
    rw [e2] at HC
    clear ha ht e e2
    go_enter Tryd.func46, Tryd.ntmps46
    go_wp2_with (go_at_call 76; refine HC.mono ?_; rintro e w1 ⟨rfl, hb⟩)
    go_ret
    exact ⟨rfl, hW0.trans (hb.mono (by simp))⟩
  | some t =>
    obtain ⟨e1, e2, e3, e4⟩ := treeOf_some ht
    have h5 : Hid (∀ j, j < n → (F j).k = 5 → ∃ (a l m : Int) (z : Bool), F j = ⟨5, 0, 0, 0, 0, a, 0, l, m, z⟩) := fun j hj h => by
      rw [e4 j hj] at h ⊢
      exact node5 e2 j (by omega) h
    have e : isB F n = (List.range n).all fun k => okR (F k) := by simp [isB, ht]
    obtain ⟨ch, hch, hne⟩ : ∃ ch, chkE F n = ch ∧ (ch == 50) = false := by
      refine ⟨_, rfl, ?_⟩
      simp only [chkE, ht]
      split <;> rfl
    rw [e]
    rw [hch] at HC
    clear ht e e1 e2 e3 e4 hch
    go_enter Tryd.func46, Tryd.ntmps46
    go_upto_region 3 with (go_at_call 76; refine HC.mono ?_; rintro e w1 ⟨rfl, hb⟩)
    have k1 := k0.below hb
    have hr1 := ha.below (hW0.trans (hb.mono (by simp)))
    have hB1 := hW0.trans (hb.mono (by simp))
    have d0 := k1.cell 0 rfl
    clear k0 ha hb HC hW0
    go_wp2_with fail
    go_loopw [11] (fun i wr => ∃ j : Nat, j ≤ n ∧ i = .int .i64 (j : Nat) ∧ Below w1.heap.size w1 wr ∧ Hid (((List.range j).all fun k => okR (F k)) = true)) (fun i _ => n - (intOf i).toNat)
    case atStart => exact ⟨0, by omega, rfl, Below.refl _ _, rfl⟩
    case round =>
      obtain ⟨j, hj, rfl, hbr, hall⟩ := hrel
      have hB3 := hB1.trans (hbr.mono hB1.size)
      by_cases hlt : j < n
      · have hji : (j : Int) < (n : Int) := by omega
        have hr3 := hr1.below hbr
        obtain ⟨bb, off, rfl, hbb, hc⟩ := hr3 (by omega)
        obtain ⟨q0, q1, q2, q3, q4, q5, q6, q7, q8, q9⟩ := hc j hlt
        have h5j := h5.out j hlt
        have HA : Hid (∀ b, okR (F j) = b → ((List.range (j + 1)).all fun k => okR (F k)) = b) := fun b hb => by rw [allR_snoc, hall.out, hb, Bool.true_and]
        have HF : Hid (okR (F j) = false → ((List.range n).all fun k => okR (F k)) = false) := fun hb => by
          rw [List.all_eq_false]
          exact ⟨j, by simpa using hlt, by simp [hb]⟩
        clear hc hr1 hr3
        generalize F j = N at *
        by_cases hk5 : N.k = 5
        · obtain ⟨na, nl, nm, nz, rfl⟩ := h5j hk5
          dsimp only at *
          clear h5j hk5
          have hbA := below1 wr (.cells #[.int .i64 5, .int .u64 0, .int .u64 0, .int .u64 0, .int .u64 0, .int .i64 na, .int .i64 0, .int .i64 nl, .int .i64 nm, .bool nz] 82)
          have kA : Cl (wr.alloc (.cells #[.int .i64 5, .int .u64 0, .int .u64 0, .int .u64 0, .int .u64 0, .int .i64 na, .int .i64 0, .int .i64 nl, .int .i64 nm, .bool nz] 82)).drew wr.heap.size 82 [.int .i64 5, .int .u64 0, .int .u64 0, .int .u64 0, .int .u64 0, .int .i64 na, .int .i64 0, .int .i64 nl, .int .i64 nm, .bool nz] := Cl.new wr 82 [.int .i64 5, .int .u64 0, .int .u64 0, .int .u64 0, .int .u64 0, .int .i64 na, .int .i64 0, .int .i64 nl, .int .i64 nm, .bool nz]
          have hb4 := (hbr.trans (hbA.mono hbr.size)).drew
          have hneq : ∀ W, (Go.binOp BinOp.neq 82 (ndV ⟨5, 0, 0, 0, 0, na, 0, nl, nm, nz⟩) (ndV ⟨5, 0, 0, 0, 0, na, 0, 0, -1, false⟩)).run Tryd.prog W = .ok (.bool (!okR ⟨5, 0, 0, 0, 0, na, 0, nl, nm, nz⟩)) W := fun W => by
            rw [run_neq29]
            simp [Nd.eq, okR, Bool.and_assoc]
          have HS : Hid (∀ W, Calls Tryd.prog 77 #[.int .i64 na] W (fun e w' => e = .returned (ndV ⟨5, 0, 0, 0, 0, na, 0, 0, -1, false⟩) ∧ Below W.heap.size W w')) := fun W => star_any na W
          unfold ndV at hneq HS
          dsimp only at hneq HS
          go_wp2_with fail
          clear hbA
          generalize wr.alloc (.cells #[.int .i64 5, .int .u64 0, .int .u64 0, .int .u64 0, .int .u64 0, .int .i64 na, .int .i64 0, .int .i64 nl, .int .i64 nm, .bool nz] 82) = w4 at *
          generalize wr.heap.size = B4 at *
          have HB4 : Hid (w1.heap.size ≤ w4.drew.heap.size) := hb4.size
          have HB4' : Hid _ := hb4
          clear q0 q1 q2 q3 q4 q5 q6 q7 q8 q9 hb4
          cases hok : okR ⟨5, 0, 0, 0, 0, na, 0, nl, nm, nz⟩ with
          | true =>
            rw [hok] at hneq
            obtain ⟨⟨a0, a1, a2, a3, a4, a5, a6, a7, a8, a9⟩, _⟩ := kA.ten
            go_region_with (go_at_call 77; refine (HS.out _).mono ?_; rintro e w5 ⟨rfl, hb5⟩; obtain ⟨⟨e0, e1, e2, e3, e4, e5, e6, e7, e8, e9⟩, _⟩ := (kA.below hb5).ten)
            all_goals go_wp2
            all_goals go_roundw
            all_goals first | exact ⟨j + 1, by omega, by go_num, HB4'.out.trans (hb5.mono HB4.out), HA.out _ hok⟩ | (simp [intOf]; omega)
          | false =>
            rw [hok] at hneq
            obtain ⟨⟨a0, a1, a2, a3, a4, a5, a6, a7, a8, a9⟩, _⟩ := kA.ten
            go_region_with (go_at_call 77; refine (HS.out _).mono ?_; rintro e w5 ⟨rfl, hb5⟩; obtain ⟨⟨e0, e1, e2, e3, e4, e5, e6, e7, e8, e9⟩, _⟩ := (kA.below hb5).ten)
            all_goals go_wp2
            all_goals go_ret
            all_goals exact ⟨by rw [HF.out hok]; rfl, hB1.trans ((HB4'.out.trans (hb5.mono HB4.out)).mono hB1.size)⟩
        · have hke : (N.k == 5) = false := by simpa using hk5
          have hok : okR N = true := by simp [okR, hke]
          have HO : Hid (((List.range (j + 1)).all fun k => okR (F k)) = true) := HA.out _ hok
          clear h5j hk5 hok HA HF
          obtain ⟨nk, n0, n1, n2, n3, na, nb, nl, nm, nz⟩ := N
          dsimp only at *
          have hbA := below1 wr (.cells #[.int .i64 nk, .int .u64 n0, .int .u64 n1, .int .u64 n2, .int .u64 n3, .int .i64 na, .int .i64 nb, .int .i64 nl, .int .i64 nm, .bool nz] 82)
          have kA := Cl.new wr 82 [.int .i64 nk, .int .u64 n0, .int .u64 n1, .int .u64 n2, .int .u64 n3, .int .i64 na, .int .i64 nb, .int .i64 nl, .int .i64 nm, .bool nz]
          have a0 : (wr.alloc (.cells #[.int .i64 nk, .int .u64 n0, .int .u64 n1, .int .u64 n2, .int .u64 n3, .int .i64 na, .int .i64 nb, .int .i64 nl, .int .i64 nm, .bool nz] 82)).drew.cell? ⟨wr.heap.size, 0, none⟩ = some (.int .i64 nk) := kA.cell 0 rfl
          have HB : Hid _ := (hbr.trans (hbA.mono hbr.size))
          clear kA hbA
          go_wp2_with fail
          go_quiet (fail)
          all_goals go_wp2
          all_goals go_roundw
          all_goals first | exact ⟨j + 1, by omega, by go_num, below_drewN HB.out _, HO.out⟩ | (simp [intOf]; omega)
      · obtain rfl : j = n := by omega
        go_wp2
        go_ret
        exact ⟨by rw [hall.out]; rfl, hB3⟩
set_option maxRecDepth 10000 in
set_option maxHeartbeats 2000000 in
theorem ris_plain (a : Option Addr) (n c : Nat) (F : Nat → Nd) (w : World) (ha : RdN w a n F) (hn : (n : Int) ≤ 9223372036854775807) : Calls Tryd.prog 27 #[.agg #[.slice a n c]] w (RetBo w (isB F n)) := by
  have hW0 := below1 w (.cells #[.slice a n c] 48)
  have k0 := Cl.new w 48 [.slice a n c]
  have HC := may_any a n c F _ (ha.below hW0) hn
  cases ht : (treeOf F n).isSome with
  | false =>
    have e : isB F n = false := by simp [isB, ht]
    rw [e]
    rw [ht] at HC
    clear ha ht e
    go_enter Tryd.func27, Tryd.ntmps27
    go_wp2_with (go_at_call 51; refine HC.mono ?_; rintro e w1 ⟨rfl, hb⟩)
    go_ret
    exact ⟨rfl, hW0.trans (hb.mono (by simp))⟩
  | true =>
    have e : isB F n = (List.range n).all fun k => okR (F k) := by simp [isB, ht]
    rw [e]
    rw [ht] at HC
    clear ht e
    go_enter Tryd.func27, Tryd.ntmps27
    go_upto_region 3 with (go_at_call 51; refine HC.mono ?_; rintro e w1 ⟨rfl, hb⟩)
    have k1 := k0.below hb
    have hr1 := ha.below (hW0.trans (hb.mono (by simp)))
    have hB1 := hW0.trans (hb.mono (by simp))
    clear k0 ha hb HC hW0
    go_wp2_with fail
    go_loopw [3] (fun i wr => ∃ j : Nat, j ≤ n ∧ i = .int .i64 (j : Nat) ∧ Below w1.heap.size w1 wr ∧ Hid (((List.range j).all fun k => okR (F k)) = true)) (fun i _ => n - (intOf i).toNat)
    case atStart => exact ⟨0, by omega, rfl, Below.refl _ _, rfl⟩
    case round =>
      obtain ⟨j, hj, rfl, hbr, hall⟩ := hrel
      have hB3 := hB1.trans (hbr.mono hB1.size)
      have k3 := k1.below hbr
      have d0 := k3.cell 0 rfl
      by_cases hlt : j < n
      · have hji : (j : Int) < (n : Int) := by omega
        have hr3 := hr1.below hbr
        obtain ⟨bb, off, rfl, hbb, hc⟩ := hr3 (by omega)
        obtain ⟨q0, q1, q2, q3, q4, q5, q6, q7, q8, q9⟩ := hc j hlt
        have HA : Hid (∀ b, okR (F j) = b → ((List.range (j + 1)).all fun k => okR (F k)) = b) := fun b hb => by rw [allR_snoc, hall.out, hb, Bool.true_and]
        have HF : Hid (okR (F j) = false → ((List.range n).all fun k => okR (F k)) = false) := fun hb => by
          rw [List.all_eq_false]
          exact ⟨j, by simpa using hlt, by simp [hb]⟩
        clear hc hr1 hr3
        generalize F j = N at *
        obtain ⟨nk, n0, n1, n2, n3, na, nb, nl, nm, nz⟩ := N
        dsimp only at *
        have hbA := below1 wr (.cells #[.int .i64 nk, .int .u64 n0, .int .u64 n1, .int .u64 n2, .int .u64 n3, .int .i64 na, .int .i64 nb, .int .i64 nl, .int .i64 nm, .bool nz] 82)
        have HB : Hid _ := (hbr.trans (hbA.mono hbr.size))
        have HB3 : Hid _ := hB3.trans (hbA.mono hB3.size)
        clear hbA
        cases e1 : (nk == 5) with
        | false =>
          have HO : Hid (((List.range (j + 1)).all fun k => okR (F k)) = true) := HA.out _ (by simp [okR, e1])
          clear HA HF
          go_wp2
          go_roundw
          all_goals first | exact ⟨j + 1, by omega, by go_num, HB.out, HO.out⟩ | (simp [intOf]; omega)
        | true =>
        cases e2 : (nl == 0) with
        | false =>
          have e2' : (nl != 0) = true := by simpa [bne] using e2
          have HO : Hid (((List.range n).all fun k => okR (F k)) = false) := HF.out (by simp [okR, e1, e2])
          clear HA HF
          go_wp2
          go_ret
          exact ⟨by rw [HO.out]; rfl, HB3.out⟩
        | true =>
        have e2' : (nl != 0) = false := by simpa [bne] using e2
        cases e3 : (nm == -1) with
        | false =>
          have e3' : (nm != -1) = true := by simpa [bne] using e3
          have HO : Hid (((List.range n).all fun k => okR (F k)) = false) := HF.out (by simp [okR, e1, e2, e3])
          clear HA HF
          go_wp2
          go_ret
          exact ⟨by rw [HO.out]; rfl, HB3.out⟩
        | true =>
        have e3' : (nm != -1) = false := by simpa [bne] using e3
        cases nz with
        | true =>
          have HO : Hid (((List.range n).all fun k => okR (F k)) = false) := HF.out (by simp [okR, e1, e2, e3])
          clear HA HF
          go_wp2
          go_ret
          exact ⟨by rw [HO.out]; rfl, HB3.out⟩
        | false =>
          have HO : Hid (((List.range (j + 1)).all fun k => okR (F k)) = true) := HA.out _ (by simp [okR, e1, e2, e3])
          clear HA HF
          go_wp2
          go_roundw
          all_goals first | exact ⟨j + 1, by omega, by go_num, HB.out, HO.out⟩ | (simp [intOf]; omega)
      · obtain rfl : j = n := by omega
        go_wp2
        go_ret
        exact ⟨by rw [hall.out]; rfl, hB3⟩
end Go.Proofs.YthbmfnibgjlkhaaDoor
