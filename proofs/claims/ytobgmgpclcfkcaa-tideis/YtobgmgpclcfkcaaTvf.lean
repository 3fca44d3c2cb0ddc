/- Ported: Tvf. -/
import Derived.Test.YtobgmgpclcfkcaaTva
import Derived.Test.YtobgmgpclcfkcaaTvb
import Derived.Test.YtobgmgpclcfkcaaTvc
import Derived.Test.YtobgmgpclcfkcaaTve
import Derived.Test.YtobgmgpclcfkcaaTvTa
namespace Go.Proofs.Ytobgmgpclcfkcaa.T
open Go.RowKit
/-- A row more on the diagonal. -/
theorem diag_next {P : Nat → Nat → Bool} {k : Nat} {x : Bool} (h : ∀ j, P k j = (k == j && x)) (i j : Nat) : upd2 (fun i j => decide (i < k) && P i j) k k x i j = (decide (i < k + 1) && P i j) := by
  unfold upd2
  by_cases hi : i = k
  · subst hi
    rw [h j]
    by_cases hj : j = i
    · subst hj; simp
    · have : (i == j) = false := by simpa using fun e => hj e.symm
      simp [hj, this]
  · have : (i < k + 1) ↔ (i < k) := by omega
    simp [hi, this]
theorem off_next {P : Nat → Nat → Bool} {k : Nat} (h : ∀ j, P k j = (j == k + 1)) (i j : Nat) : upd2 (fun i j => decide (i < k) && P i j) k (k + 1) true i j = (decide (i < k + 1) && P i j) := by
  unfold upd2
  by_cases hi : i = k
  · subst hi
    rw [h j]
    by_cases hj : j = i + 1
    · subst hj; simp
    · have : (j == i + 1) = false := by simpa using hj
      simp [hj, this]
  · have : (i < k + 1) ↔ (i < k) := by omega
    simp [hi, this]
theorem no_next {P : Nat → Nat → Bool} {k : Nat} (h : ∀ j, P k j = false) (i j : Nat) : (decide (i < k) && P i j) = (decide (i < k + 1) && P i j) := by
  by_cases hi : i = k
  · subst hi; rw [h j]; simp
  · have : (i < k + 1) ↔ (i < k) := by omega
    simp [this]
theorem spB_emp (f : Nat → Nat) (n : Nat) (mu : Bool) {q : Nd} (h : q.k = 1) (i j : Nat) : spB (mLeaf f n mu q) i j = (i == j && true) := by
  unfold spB
  rw [mLeaf_emp (by omega) (by omega) (by omega), Bool.eq_iff_iff]
  simp
  omega
theorem spB_hat (f : Nat → Nat) (n : Nat) (mu : Bool) {q : Nd} (h : q.k = 6) (i j : Nat) : spB (mLeaf f n mu q) i j = (i == j && hatB f mu i) := by
  unfold spB
  rw [mLeaf_hat h, Bool.eq_iff_iff]
  simp
  constructor
  · rintro ⟨h1, h2, h3⟩; exact ⟨by omega, h3⟩
  · rintro ⟨h1, h3⟩; exact ⟨by omega, by omega, h3⟩
theorem spB_dol (f : Nat → Nat) (n : Nat) (mu : Bool) {q : Nd} (h : q.k = 7) (i j : Nat) : spB (mLeaf f n mu q) i j = (i == j && dolB f n mu i) := by
  unfold spB
  rw [mLeaf_dol h, Bool.eq_iff_iff]
  simp
  constructor
  · rintro ⟨h1, h2, h3⟩; exact ⟨by omega, h3⟩
  · rintro ⟨h1, h3⟩; exact ⟨by omega, by omega, h3⟩
theorem spB_cls (f : Nat → Nat) (n : Nat) (mu : Bool) {q : Nd} (h : q.k = 2) (i j : Nat) : spB (mLeaf f n mu q) i j = (j == i + 1 && (decide (i < n) && clsP q (f i))) := by
  unfold spB
  rw [mLeaf_cls h, Bool.eq_iff_iff]
  simp
  constructor
  · rintro ⟨h1, h2, h3⟩; exact ⟨by omega, h3⟩
  · rintro ⟨h1, h3⟩; exact ⟨by omega, by omega, h3⟩
theorem rchas_any (q : Nd) (x : Nat) (w : World) (h : wfN q) (hx : x < 256) : Calls Try.prog 37 #[.agg #[.int .u64 q.c0, .int .u64 q.c1, .int .u64 q.c2, .int .u64 q.c3], .int .u8 (x : Nat)] w fun e w' => e = .returned (.bool (clsP q x)) ∧ Below w.heap.size w w' := by
  have := rhas_c (c4_cls h) x w hx
  obtain ⟨h0, h1, h2, h3⟩ := h
  rwa [show ((q.c0.toNat : Nat) : Int) = q.c0 by omega, show ((q.c1.toNat : Nat) : Int) = q.c1 by omega, show ((q.c2.toNat : Nat) : Int) = q.c2 by omega, show ((q.c3.toNat : Nat) : Int) = q.c3 by omega] at this
/-- leaf's loop. -/
structure LfI (w : World) (q : Nd) (g N : Nat) (P : Nat → Nat → Bool) (k : Nat) (W : World) : Prop where
  box : Cl W w.heap.size 70 (ndL q)
  tab : RT W (w.heap.size + 1) g N (fun i j => decide (i < k) && P i j)
  bel : Below w.heap.size w W
theorem LfI.put {w : World} {q : Nd} {g N k b j : Nat} {P : Nat → Nat → Bool} {W A : World} {x : Bool} (h : LfI w q g N P k W) (hA : Below W.heap.size W A) (hb : w.heap.size + 1 ≤ b) (hR : RT (A.setCell ⟨b, j, none⟩ (.bool x)) (w.heap.size + 1) g N (fun i j => decide (i < k + 1) && P i j)) : LfI w q g N P (k + 1) (A.setCell ⟨b, j, none⟩ (.bool x)) :=
  ⟨(h.box.below hA).other (by omega) _ _, hR, (h.bel.trans (hA.mono h.bel.size)).setCell (p := ⟨b, j, none⟩) (by show w.heap.size ≤ b; omega) _⟩
set_option maxRecDepth 10000 in
set_option maxHeartbeats 8000000 in
theorem leaf40_1 (ao : Option Addr) (n cap : Nat) (mu : Bool) (f : Nat → Nat) (q : Nd) (w : World) (hr : RdB w ao n f) (hn : n ≤ 24) (hk : q.k = 1) : Calls Try.prog 49 #[ndV q, .bool mu, .slice ao n cap] w (RetR w (n + 1) (spB (mLeaf f n mu q))) := by
  obtain ⟨N, hNe⟩ : ∃ N, n + 1 = N := ⟨_, rfl⟩
  have hN : N ≤ 25 := by omega
  have hb0 := below1 w (.cells (ndL q).toArray 70)
  have k0 := Cl.new w 70 (ndL q)
  have HE := empty36_any n (w.alloc (.cells (ndL q).toArray 70)) hn
  have hni : (n : Int) ≤ 24 := by omega
  have t1 : (q.k == 1) = true := by simp [hk]
  have t2 : (q.k == 2) = false := by simp [hk]
  have t6 : (q.k == 6) = false := by simp [hk]
  have t7 : (q.k == 7) = false := by simp [hk]
  have hP := spB_emp f n mu hk
  have hf := hr.1
  clear hk
  rw [hNe] at HE ⊢
  generalize spB (mLeaf f n mu q) = P at *
  have hsz1 : (w.alloc (.cells (ndL q).toArray 70)).heap.size = w.heap.size + 1 := by simp
  unfold RetR at HE
  rw [hsz1] at HE
  unfold ndL at HE
  unfold ndV
  go_enter Try.func49, Try.ntmps49
  go_wp2_with fail
  refine HE.mono ?_
  rintro e w1 ⟨g, gc, rfl, hR, hb⟩
  have L0 : LfI w q g N P 0 w1 := ⟨k0.belowB hb (by omega), hR.congr (fun i j _ _ => by simp), hb0.trans (hb.mono (by omega))⟩
  clear HE hR hb k0 hb0
  go_wp2_with fail
  go_loopw [8] (fun v wr => ∃ k : Nat, k ≤ N ∧ v = .int .i64 (k : Nat) ∧ LfI w q g N P k wr) (fun v _ => N - (intOf v).toNat)
  case atStart => exact ⟨0, Nat.zero_le _, rfl, L0⟩
  case round =>
    obtain ⟨k, hkN, rfl, hL⟩ := hrel
    clear L0
    by_cases hlt : k < N
    · have hki : (k : Int) ≤ (n : Int) := by omega
      have hki2 : (k : Int) < (N : Int) := by omega
      obtain ⟨b, hBb, hgl, hbl, d1, d2, f2, hset⟩ := hL.tab.get hlt
      have q0 := hL.box.cell 0 rfl
      have hbx := hL.box.lt
      have d3 := d2 k hlt
      have f3 := f2 k
      have HY : Hid (∃ k' : Nat, k' ≤ N ∧ Value.int .i64 ((k : Int) + 1) = .int .i64 (k' : Nat) ∧ LfI w q g N P k' (wr.setCell ⟨b, k, none⟩ (.bool true))) := ⟨k + 1, by omega, by simp, hL.put (Below.refl _ _) hBb ((hset _ (Below.refl _ _) k true).congr (fun i j _ _ => diag_next (hP k) i j))⟩
      clear hset hL d2 f2 hP hr
      generalize q.k = qk at *
      go_wp2_with fail
      go_roundw
      case rel => exact HY.out
      case measure => simp [intOf]; omega
    · obtain rfl : k = N := by omega
      have hki : ¬ (k : Int) ≤ (n : Int) := by omega
      have HR : Hid (RetR w k P (.returned (.slice (some ⟨g, 0, none⟩) k gc)) wr) := ⟨g, gc, rfl, (hL.tab.lower (by omega)).congr (fun i j hi _ => by simp [hi]), hL.bel⟩
      clear hL
      go_wp2_with fail
      go_ret
      exact HR.out
set_option maxRecDepth 10000 in
set_option maxHeartbeats 8000000 in
theorem leaf40_6 (ao : Option Addr) (n cap : Nat) (mu : Bool) (f : Nat → Nat) (q : Nd) (w : World) (hr : RdB w ao n f) (hn : n ≤ 24) (hk : q.k = 6) : Calls Try.prog 49 #[ndV q, .bool mu, .slice ao n cap] w (RetR w (n + 1) (spB (mLeaf f n mu q))) := by
  obtain ⟨N, hNe⟩ : ∃ N, n + 1 = N := ⟨_, rfl⟩
  have hN : N ≤ 25 := by omega
  have hb0 := below1 w (.cells (ndL q).toArray 70)
  have k0 := Cl.new w 70 (ndL q)
  have HE := empty36_any n (w.alloc (.cells (ndL q).toArray 70)) hn
  have hni : (n : Int) ≤ 24 := by omega
  have t1 : (q.k == 1) = false := by simp [hk]
  have t2 : (q.k == 2) = false := by simp [hk]
  have t6 : (q.k == 6) = true := by simp [hk]
  have t7 : (q.k == 7) = false := by simp [hk]
  have hP := spB_hat f n mu hk
  have hf := hr.1
  clear hk
  rw [hNe] at HE ⊢
  generalize spB (mLeaf f n mu q) = P at *
  have hsz1 : (w.alloc (.cells (ndL q).toArray 70)).heap.size = w.heap.size + 1 := by simp
  unfold RetR at HE
  rw [hsz1] at HE
  unfold ndL at HE
  unfold ndV
  go_enter Try.func49, Try.ntmps49
  go_wp2_with fail
  refine HE.mono ?_
  rintro e w1 ⟨g, gc, rfl, hR, hb⟩
  have L0 : LfI w q g N P 0 w1 := ⟨k0.belowB hb (by omega), hR.congr (fun i j _ _ => by simp), hb0.trans (hb.mono (by omega))⟩
  clear HE hR hb k0 hb0
  go_wp2_with fail
  go_loopw [8] (fun v wr => ∃ k : Nat, k ≤ N ∧ v = .int .i64 (k : Nat) ∧ LfI w q g N P k wr) (fun v _ => N - (intOf v).toNat)
  case atStart => exact ⟨0, Nat.zero_le _, rfl, L0⟩
  case round =>
    obtain ⟨k, hkN, rfl, hL⟩ := hrel
    clear L0
    by_cases hlt : k < N
    · have hki : (k : Int) ≤ (n : Int) := by omega
      have hki2 : (k : Int) < (N : Int) := by omega
      obtain ⟨b, hBb, hgl, hbl, d1, d2, f2, hset⟩ := hL.tab.get hlt
      have q0 := hL.box.cell 0 rfl
      have hbx := hL.box.lt
      have n1 := Near.cell d1 hgl
      have n2 := Near.cell (d2 k hlt) hbl
      have n3 := Near.frozen (f2 k) hbl
      have HY : Hid (∀ u : World, ∃ k' : Nat, k' ≤ N ∧ Value.int .i64 ((k : Int) + 1) = .int .i64 (k' : Nat) ∧ LfI w q g N P k' ((near wr u).setCell ⟨b, k, none⟩ (.bool (hatB f mu k)))) := fun u => ⟨k + 1, by omega, by simp, hL.put (near_below wr u) hBb ((hset _ (near_below wr u) k _).congr (fun i j _ _ => diag_next (hP k) i j))⟩
      have hrr := hr.below hL.bel
      clear hset hL d1 d2 f2 hP hr
      by_cases hz : k = 0
      · have e0 : ((k : Int) == 0) = true := by simp; omega
        have ev : hatB f mu k = true := by unfold hatB; simp [hz]
        rw [ev] at HY
        clear hrr ev hz
        generalize q.k = qk at *
        go_wp2_with fail
        refine wp_region_quiet_tail 19 (fun w' => ∃ u : World, w' = near wr u) (by kernel_rfl) (by kernel_rfl) (Near.start _) ?_
        simp only [List.take_succ_cons, List.take_zero, List.drop_succ_cons, List.drop_zero]
        repeat (go_big_quiet_step (fail))
        refine wpQuiet_nil ?_
        rintro _ ⟨u, rfl⟩
        have HZ : Hid _ := HY.out u
        clear HY
        go_wp2_with fail
        go_roundw
        case rel => exact HZ.out
        case measure => simp [intOf]; omega
      · have e0 : ((k : Int) == 0) = false := by simp; omega
        have hz' : ¬ (k : Int) = 0 := by omega
        cases mu with
        | false =>
          have ev : hatB f false k = false := by unfold hatB; simp [hz]
          rw [ev] at HY
          clear hrr ev
          generalize q.k = qk at *
          go_wp2_with fail
          refine wp_region_quiet_tail 19 (fun w' => ∃ u : World, w' = near wr u) (by kernel_rfl) (by kernel_rfl) (Near.start _) ?_
          simp only [List.take_succ_cons, List.take_zero, List.drop_succ_cons, List.drop_zero]
          repeat (go_big_quiet_step (fail))
          refine wpQuiet_nil ?_
          rintro _ ⟨u, rfl⟩
          have HZ : Hid _ := HY.out u
          clear HY
          go_wp2_with fail
          go_roundw
          case rel => exact HZ.out
          case measure => simp [intOf]; omega
        | true =>
          obtain ⟨bb, off, e9, hbb, hcs⟩ := hrr.2 (by omega)
          subst e9
          have cx := hcs (k - 1) (by omega)
          have ev : hatB f true k = (f (k - 1) == 10) := by unfold hatB; simp [hz]
          rw [ev] at HY
          have n9 := Near.cell cx hbb
          have hb10 := beq_nat10 (f (k - 1))
          have hk1 : (k : Int) - 1 = ((k - 1 : Nat) : Int) := by omega
          have hkw : IntKind.i64.wrap ((k : Int) - 1) = ((k - 1 : Nat) : Int) := by rw [IntKind.wrap_i64]; omega
          have hk2 : ((k - 1 : Nat) : Int) < (n : Int) := by omega
          clear hrr ev hcs cx hf
          generalize f (k - 1) = fx at *
          generalize k - 1 = kk at *
          generalize q.k = qk at *
          go_wp2_with fail
          refine wp_region_quiet_tail 19 (fun w' => ∃ u : World, w' = near wr u) (by kernel_rfl) (by kernel_rfl) (Near.start _) ?_
          simp only [List.take_succ_cons, List.take_zero, List.drop_succ_cons, List.drop_zero]
          repeat (go_big_quiet_step (fail))
          refine wpQuiet_nil ?_
          rintro _ ⟨u, rfl⟩
          have HZ : Hid _ := HY.out u
          clear HY
          go_wp2_with fail
          go_roundw
          case rel => exact HZ.out
          case measure => simp [intOf]; omega
    · obtain rfl : k = N := by omega
      have hki : ¬ (k : Int) ≤ (n : Int) := by omega
      have HR : Hid (RetR w k P (.returned (.slice (some ⟨g, 0, none⟩) k gc)) wr) := ⟨g, gc, rfl, (hL.tab.lower (by omega)).congr (fun i j hi _ => by simp [hi]), hL.bel⟩
      clear hL
      go_wp2_with fail
      go_ret
      exact HR.out
set_option maxRecDepth 10000 in
set_option maxHeartbeats 8000000 in
theorem leaf40_7 (ao : Option Addr) (n cap : Nat) (mu : Bool) (f : Nat → Nat) (q : Nd) (w : World) (hr : RdB w ao n f) (hn : n ≤ 24) (hk : q.k = 7) : Calls Try.prog 49 #[ndV q, .bool mu, .slice ao n cap] w (RetR w (n + 1) (spB (mLeaf f n mu q))) := by
  obtain ⟨N, hNe⟩ : ∃ N, n + 1 = N := ⟨_, rfl⟩
  have hN : N ≤ 25 := by omega
  have hb0 := below1 w (.cells (ndL q).toArray 70)
  have k0 := Cl.new w 70 (ndL q)
  have HE := empty36_any n (w.alloc (.cells (ndL q).toArray 70)) hn
  have hni : (n : Int) ≤ 24 := by omega
  have t1 : (q.k == 1) = false := by simp [hk]
  have t2 : (q.k == 2) = false := by simp [hk]
  have t6 : (q.k == 6) = false := by simp [hk]
  have t7 : (q.k == 7) = true := by simp [hk]
  have hP := spB_dol f n mu hk
  have hf := hr.1
  clear hk
  rw [hNe] at HE ⊢
  generalize spB (mLeaf f n mu q) = P at *
  have hsz1 : (w.alloc (.cells (ndL q).toArray 70)).heap.size = w.heap.size + 1 := by simp
  unfold RetR at HE
  rw [hsz1] at HE
  unfold ndL at HE
  unfold ndV
  go_enter Try.func49, Try.ntmps49
  go_wp2_with fail
  refine HE.mono ?_
  rintro e w1 ⟨g, gc, rfl, hR, hb⟩
  have L0 : LfI w q g N P 0 w1 := ⟨k0.belowB hb (by omega), hR.congr (fun i j _ _ => by simp), hb0.trans (hb.mono (by omega))⟩
  clear HE hR hb k0 hb0
  go_wp2_with fail
  go_loopw [8] (fun v wr => ∃ k : Nat, k ≤ N ∧ v = .int .i64 (k : Nat) ∧ LfI w q g N P k wr) (fun v _ => N - (intOf v).toNat)
  case atStart => exact ⟨0, Nat.zero_le _, rfl, L0⟩
  case round =>
    obtain ⟨k, hkN, rfl, hL⟩ := hrel
    clear L0
    by_cases hlt : k < N
    · have hki : (k : Int) ≤ (n : Int) := by omega
      have hki2 : (k : Int) < (N : Int) := by omega
      obtain ⟨b, hBb, hgl, hbl, d1, d2, f2, hset⟩ := hL.tab.get hlt
      have q0 := hL.box.cell 0 rfl
      have hbx := hL.box.lt
      have n1 := Near.cell d1 hgl
      have n2 := Near.cell (d2 k hlt) hbl
      have n3 := Near.frozen (f2 k) hbl
      have HY : Hid (∀ u : World, ∃ k' : Nat, k' ≤ N ∧ Value.int .i64 ((k : Int) + 1) = .int .i64 (k' : Nat) ∧ LfI w q g N P k' ((near wr u).setCell ⟨b, k, none⟩ (.bool (dolB f n mu k)))) := fun u => ⟨k + 1, by omega, by simp, hL.put (near_below wr u) hBb ((hset _ (near_below wr u) k _).congr (fun i j _ _ => diag_next (hP k) i j))⟩
      have hrr := hr.below hL.bel
      clear hset hL d1 d2 f2 hP hr
      by_cases hz : k = n
      · have e0 : ((k : Int) == (n : Int)) = true := by simp; omega
        have ev : dolB f n mu k = true := by unfold dolB; simp [hz]
        rw [ev] at HY
        clear hrr ev hz
        generalize q.k = qk at *
        go_wp2_with fail
        refine wp_region_quiet_tail 20 (fun w' => ∃ u : World, w' = near wr u) (by kernel_rfl) (by kernel_rfl) (Near.start _) ?_
        simp only [List.take_succ_cons, List.take_zero, List.drop_succ_cons, List.drop_zero]
        repeat (go_big_quiet_step (fail))
        refine wpQuiet_nil ?_
        rintro _ ⟨u, rfl⟩
        have HZ : Hid _ := HY.out u
        clear HY
        go_wp2_with fail
        go_roundw
        case rel => exact HZ.out
        case measure => simp [intOf]; omega
      · have e0 : ((k : Int) == (n : Int)) = false := by simp; omega
        have hz' : ¬ (k : Int) = (n : Int) := by omega
        cases mu with
        | false =>
          have ev : dolB f n false k = false := by unfold dolB; simp [hz]
          rw [ev] at HY
          clear hrr ev
          generalize q.k = qk at *
          go_wp2_with fail
          refine wp_region_quiet_tail 20 (fun w' => ∃ u : World, w' = near wr u) (by kernel_rfl) (by kernel_rfl) (Near.start _) ?_
          simp only [List.take_succ_cons, List.take_zero, List.drop_succ_cons, List.drop_zero]
          repeat (go_big_quiet_step (fail))
          refine wpQuiet_nil ?_
          rintro _ ⟨u, rfl⟩
          have HZ : Hid _ := HY.out u
          clear HY
          go_wp2_with fail
          go_roundw
          case rel => exact HZ.out
          case measure => simp [intOf]; omega
        | true =>
          obtain ⟨bb, off, e9, hbb, hcs⟩ := hrr.2 (by omega)
          subst e9
          have cx := hcs (k) (by omega)
          have ev : dolB f n true k = (f (k) == 10) := by unfold dolB; simp [hz]
          rw [ev] at HY
          have n9 := Near.cell cx hbb
          have hb10 := beq_nat10 (f (k))
          have hkn : (k : Int) < (n : Int) := by omega
          
          clear hrr ev hcs cx hf
          generalize f (k) = fx at *
          generalize q.k = qk at *
          go_wp2_with fail
          refine wp_region_quiet_tail 20 (fun w' => ∃ u : World, w' = near wr u) (by kernel_rfl) (by kernel_rfl) (Near.start _) ?_
          simp only [List.take_succ_cons, List.take_zero, List.drop_succ_cons, List.drop_zero]
          repeat (go_big_quiet_step (fail))
          refine wpQuiet_nil ?_
          rintro _ ⟨u, rfl⟩
          have HZ : Hid _ := HY.out u
          clear HY
          go_wp2_with fail
          go_roundw
          case rel => exact HZ.out
          case measure => simp [intOf]; omega
    · obtain rfl : k = N := by omega
      have hki : ¬ (k : Int) ≤ (n : Int) := by omega
      have HR : Hid (RetR w k P (.returned (.slice (some ⟨g, 0, none⟩) k gc)) wr) := ⟨g, gc, rfl, (hL.tab.lower (by omega)).congr (fun i j hi _ => by simp [hi]), hL.bel⟩
      clear hL
      go_wp2_with fail
      go_ret
      exact HR.out
end Go.Proofs.Ytobgmgpclcfkcaa.T
