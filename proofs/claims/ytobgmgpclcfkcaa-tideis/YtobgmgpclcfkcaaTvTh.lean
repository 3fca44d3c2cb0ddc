/- Ported: TvTh. -/
import Derived.Test.YtobgmgpclcfkcaaTva
import Derived.Test.YtobgmgpclcfkcaaTvb
import Derived.Test.YtobgmgpclcfkcaaTvc
import Derived.Test.YtobgmgpclcfkcaaTve
import Derived.Test.YtobgmgpclcfkcaaTvTa
import Derived.Test.YtobgmgpclcfkcaaTvf
namespace Go.Proofs.Ytobgmgpclcfkcaa.T
open Go.RowKit
set_option maxRecDepth 10000 in
set_option maxHeartbeats 8000000 in
theorem leaf40_2 (ao : Option Addr) (n cap : Nat) (mu : Bool) (f : Nat → Nat) (q : Nd) (w : World) (hr : RdB w ao n f) (hn : n ≤ 24) (hk : q.k = 2) (hq : wfN q) : Calls Try.prog 49 #[ndV q, .bool mu, .slice ao n cap] w (RetR w (n + 1) (spB (mLeaf f n mu q))) := by
  obtain ⟨N, hNe⟩ : ∃ N, n + 1 = N := ⟨_, rfl⟩
  have hN : N ≤ 25 := by omega
  have hb0 := below1 w (.cells (ndL q).toArray 70)
  have k0 := Cl.new w 70 (ndL q)
  have HE := empty36_any n (w.alloc (.cells (ndL q).toArray 70)) hn
  have hni : (n : Int) ≤ 24 := by omega
  have t1 : (q.k == 1) = false := by simp [hk]
  have t2 : (q.k == 2) = true := by simp [hk]
  have t6 : (q.k == 6) = false := by simp [hk]
  have t7 : (q.k == 7) = false := by simp [hk]
  have hP := spB_cls f n mu hk
  have hf := hr.1
  clear hk
  rw [hNe] at HE ⊢
  generalize spB (mLeaf f n mu q) = P at *
  have hsz1 : (w.alloc (.cells (ndL q).toArray 70)).heap.size = w.heap.size + 1 := by simp
  unfold RetR at HE
  rw [hsz1] at HE
  unfold ndL at HE
  unfold ndV
  go_enter Try.func49, Try.ntmps49
  go_wp2_with fail
  refine HE.mono ?_
  rintro e w1 ⟨g, gc, rfl, hR, hb⟩
  have L0 : LfI w q g N P 0 w1 := ⟨k0.belowB hb (by omega), hR.congr (fun i j _ _ => by simp), hb0.trans (hb.mono (by omega))⟩
  clear HE hR hb k0 hb0
  go_wp2_with fail
  go_loopw [8] (fun v wr => ∃ k : Nat, k ≤ N ∧ v = .int .i64 (k : Nat) ∧ LfI w q g N P k wr) (fun v _ => N - (intOf v).toNat)
  case atStart => exact ⟨0, Nat.zero_le _, rfl, L0⟩
  case round =>
    obtain ⟨k, hkN, rfl, hL⟩ := hrel
    clear L0
    by_cases hlt : k < N
    · have hki : (k : Int) ≤ (n : Int) := by omega
      have hki2 : (k : Int) < (N : Int) := by omega
      obtain ⟨b, hBb, hgl, hbl, d1, d2, f2, hset⟩ := hL.tab.get hlt
      have q0 := hL.box.cell 0 rfl
      have hbx := hL.box.lt
      have hrr := hr.below hL.bel
      obtain ⟨q1, q2, q3, q4⟩ := (⟨hL.box.cell 1 rfl, hL.box.cell 2 rfl, hL.box.cell 3 rfl, hL.box.cell 4 rfl⟩ : wr.cell? ⟨w.heap.size, 1, none⟩ = some (.int .u64 q.c0) ∧ wr.cell? ⟨w.heap.size, 2, none⟩ = some (.int .u64 q.c1) ∧ wr.cell? ⟨w.heap.size, 3, none⟩ = some (.int .u64 q.c2) ∧ wr.cell? ⟨w.heap.size, 4, none⟩ = some (.int .u64 q.c3))
      have m1 := Near.cell q1 hbx
      have m2 := Near.cell q2 hbx
      have m3 := Near.cell q3 hbx
      have m4 := Near.cell q4 hbx
      by_cases hkn : k < n
      · have hkn' : (k : Int) < (n : Int) := by omega
        obtain ⟨bb, off, e9, hbb, hcs⟩ := hrr.2 (by omega)
        subst e9
        have cx := hcs k hkn
        have n9 := Near.cell cx hbb
        have HH : Hid (∀ u : World, Calls Try.prog 37 #[.agg #[.int .u64 q.c0, .int .u64 q.c1, .int .u64 q.c2, .int .u64 q.c3], .int .u8 (f k : Nat)] (near wr u) fun e w' => e = .returned (.bool (clsP q (f k))) ∧ Below (near wr u).heap.size (near wr u) w') := fun u => rchas_any q (f k) _ hq (hf k hkn)
        have hk1 : (k : Int) + 1 < (N : Int) := by omega
        have hkw : IntKind.i64.wrap ((k : Int) + 1) = (k : Int) + 1 := by rw [IntKind.wrap_i64]; omega
        have hkt : ((k : Int) + 1).toNat = k + 1 := by omega
        have HYt : Hid (clsP q (f k) = true → ∀ u : World, (near wr u).cell? ⟨g, k, none⟩ = some (.slice (some ⟨b, 0, none⟩) N N) ∧ (∃ y, (near wr u).cell? ⟨b, k + 1, none⟩ = some y) ∧ (near wr u).frozen? ⟨b, k + 1, none⟩ = false ∧ ∃ k' : Nat, k' ≤ N ∧ Value.int .i64 ((k : Int) + 1) = .int .i64 (k' : Nat) ∧ LfI w q g N P k' ((near wr u).setCell ⟨b, k + 1, none⟩ (.bool true))) := fun hc u => ⟨Near.cell d1 hgl u, ⟨_, Near.cell (d2 (k + 1) (by omega)) hbl u⟩, Near.frozen (f2 (k + 1)) hbl u, k + 1, by omega, by simp, hL.put (near_below wr u) hBb ((hset _ (near_below wr u) (k + 1) true).congr (fun i j _ _ => off_next (fun j => by rw [hP k j, hc]; simp [hkn]) i j))⟩
        have HYf : Hid (clsP q (f k) = false → ∀ u : World, ∃ k' : Nat, k' ≤ N ∧ Value.int .i64 ((k : Int) + 1) = .int .i64 (k' : Nat) ∧ LfI w q g N P k' (near wr u)) := fun hc u => ⟨k + 1, by omega, by simp, hL.box.below (near_below wr u), (hL.tab.below (near_below wr u)).congr (fun i j _ _ => no_next (fun j => by rw [hP k j, hc]; simp) i j), hL.bel.trans ((near_below wr u).mono hL.bel.size)⟩
        clear hset hL d1 d2 f2 hP hr hrr hcs cx hf hq q1 q2 q3 q4
        generalize clsP q (f k) = cl at *
        generalize f k = fx at *
        obtain ⟨qk, c0, c1, c2, c3, qa, qb, ql, qm, qz⟩ := q
        dsimp only at *
        go_wp2_with fail
        refine wp_region_quiet_tail 12 (fun w' => ∃ u : World, w' = near wr u) (by kernel_rfl) (by kernel_rfl) (Near.start _) ?_
        simp only [List.take_succ_cons, List.take_zero, List.drop_succ_cons, List.drop_zero]
        repeat (go_big_quiet_step ((go_at_call 37; exact Near.call (HH.out _))))
        refine wpQuiet_nil ?_
        rintro _ ⟨u, rfl⟩
        cases cl with
        | true =>
          obtain ⟨d5, ⟨y, d6⟩, f6, HZ0⟩ := HYt.out rfl u
          have HZ : Hid _ := HZ0
          clear HYt HYf HH HZ0
          go_wp2_with fail
          go_roundw
          case rel => exact HZ.out
          case measure => simp [intOf]; omega
        | false =>
          have HZ : Hid _ := HYf.out rfl u
          clear HYt HYf HH
          go_wp2_with fail
          go_roundw
          case rel => exact HZ.out
          case measure => simp [intOf]; omega
      · have hkn' : ¬ (k : Int) < (n : Int) := by omega
        have HYf : Hid (∀ u : World, ∃ k' : Nat, k' ≤ N ∧ Value.int .i64 ((k : Int) + 1) = .int .i64 (k' : Nat) ∧ LfI w q g N P k' (near wr u)) := fun u => ⟨k + 1, by omega, by simp, hL.box.below (near_below wr u), (hL.tab.below (near_below wr u)).congr (fun i j _ _ => no_next (fun j => by rw [hP k j]; simp [hkn]) i j), hL.bel.trans ((near_below wr u).mono hL.bel.size)⟩
        clear hset hL d1 d2 f2 hP hr hrr hf hq q1 q2 q3 q4
        generalize q.k = qk at *
        go_wp2_with fail
        refine wp_region_quiet_tail 12 (fun w' => ∃ u : World, w' = near wr u) (by kernel_rfl) (by kernel_rfl) (Near.start _) ?_
        simp only [List.take_succ_cons, List.take_zero, List.drop_succ_cons, List.drop_zero]
        repeat (go_big_quiet_step (fail))
        refine wpQuiet_nil ?_
        rintro _ ⟨u, rfl⟩
        have HZ : Hid _ := HYf.out u
        clear HYf
        go_wp2_with fail
        go_roundw
        case rel => exact HZ.out
        case measure => simp [intOf]; omega
    · obtain rfl : k = N := by omega
      have hki : ¬ (k : Int) ≤ (n : Int) := by omega
      have HR : Hid (RetR w k P (.returned (.slice (some ⟨g, 0, none⟩) k gc)) wr) := ⟨g, gc, rfl, (hL.tab.lower (by omega)).congr (fun i j hi _ => by simp [hi]), hL.bel⟩
      clear hL
      go_wp2_with fail
      go_ret
      exact HR.out
end Go.Proofs.Ytobgmgpclcfkcaa.T
