/- The iterator of Runs, where the caller may leave early: what was told is a head of the runs. -/
import Derived.Test.YthgjklhjfpillabDoorTo
namespace Go.Proofs.YthgjklhjfpillabDoor
open Go.RowKit Go.Shelf
attribute [local go_sem] Oper.semAt_some
theorem rs_mono (P : Nat → Bool) (i j : Nat) (h : i ≤ j) : (rs P i).1 <+: (rs P j).1 := by
  induction j with
  | zero => obtain rfl : i = 0 := by omega
            exact List.prefix_refl _
  | succ j ih =>
    by_cases e : i = j + 1
    · subst e; exact List.prefix_refl _
    · refine (ih (by omega)).trans ?_
      rw [rs]
      split
      · exact List.prefix_refl _
      · show (rs P j).1 <+: (ite _ _ _ : List (Nat × Nat))
        split
        · exact List.prefix_append _ _
        · exact List.prefix_refl _
set_option maxRecDepth 100000 in
set_option maxHeartbeats 4000000 in
theorem runsIt_pre {P : Nat → Bool} {a b c d : Nat} (m l bc B : Nat) (h4 : C4 P a b c d) (Kp : World → World → Prop) (J Jx : List (Nat × Nat) → World → Prop) (hm : 1 ≤ m) (hA : AbidesFrom B J)
    (hK : ∀ W W', Kp W W' → Bx W bc (.int .u64 (a : Nat)) (.int .u64 (b : Nat)) (.int .u64 (c : Nat)) (.int .u64 (d : Nat)) → Bx W' bc (.int .u64 (a : Nat)) (.int .u64 (b : Nat)) (.int .u64 (c : Nat)) (.int .u64 (d : Nat)))
    (hY : ∀ pre x W, J pre W → pre.length < 257 → x.1 ≤ x.2 → x.2 < 256 → YieldAt Fence.wide (m - 1) Tryd.prog l #[.int .u8 (x.1 : Nat), .int .u8 (x.2 : Nat)] W fun e W' =>
      (e = .returned (.bool true) ∧ J (pre ++ [x]) W' ∧ Kp W W') ∨ (e = .returned (.bool false) ∧ Jx (pre ++ [x]) W'))
    (W : World) (hb : Bx W bc (.int .u64 (a : Nat)) (.int .u64 (b : Nat)) (.int .u64 (c : Nat)) (.int .u64 (d : Nat))) (h0 : J [] W) :
    CallsIn Fence.wide m Tryd.prog 20 #[.func (.yield l) #[] #[], .pointer (some ⟨bc, 0, none⟩)] W fun e W' => (∃ v, e = .returned v) ∧
      ((∃ ys, ys = (rs P 257).1 ∧ J ys W') ∨ (∃ pre, pre <+: (rs P 257).1 ∧ Jx pre W')) := by
  refine callsIn_of_wp Tryd.func20 rfl trivial ?_ rfl
  simp only [Tryd.ntmps20, List.size_toArray, List.length_cons, List.length_nil, Nat.reduceAdd, Nat.reduceSub, Array.replicate_succ, Array.replicate_zero, List.push_toArray, List.append_toArray, List.nil_append, List.cons_append]
  gi_wp2
  gi_loopw [3, 5] (fun j i wr => ∃ k lo : Nat, k ≤ 257 ∧ i = .int .i64 (k : Nat) ∧ j = .int .i64 (lo : Nat) ∧ (rs P k).2 = lo ∧ J (rs P k).1 wr ∧ Bx wr bc (.int .u64 (a : Nat)) (.int .u64 (b : Nat)) (.int .u64 (c : Nat)) (.int .u64 (d : Nat))) (fun _ i _ => 257 - (intOf i).toNat)
  case atStart => exact ⟨0, 0, by omega, rfl, rfl, rfl, h0, hb⟩
  case round =>
    obtain ⟨k, lo, hk, rfl, rfl, hlo, hJ, hx⟩ := hrel
    obtain ⟨c0, c1, c2, c3, f0, f1, f2, f3⟩ := hx.cells
    have hlk : lo ≤ k := by rw [← hlo]; exact rs_lo P k
    have hlen : k < 257 → (rs P k).1.length < 257 := by have := rs_len P k; omega
    by_cases hlt : k < 257
    · have hlen := hlen hlt
      have hki : (k : Int) < 257 := by omega
      by_cases h256 : k < 256
      · have hk2 : (k : Int) < 256 := by omega
        have hh := has_c h4 k wr h256
        cases hP : P k with
        | true =>
          rw [hP] at hh
          have hin := rs_in h256 hP
          gi_wp2_with (refine ⟨trivial, ?_⟩; gi_at_call 19; refine (callsIn_wide.2 hh).mono ?_; rintro e w1 ⟨rfl, hb1⟩; have hJ1 := abides hA hb1 hJ; have hx1 := hx.below hb1)
          go_roundw
          case rel => exact ⟨k + 1, lo, by omega, by go_num, rfl, by rw [hin]; exact hlo, by rw [hin]; exact hJ1, hx1⟩
          case measure => simp [intOf]; omega
        | false =>
          rw [hP] at hh
          have hq : (decide (k < 256) && P k) = false := by rw [hP, Bool.and_false]
          by_cases hl : lo < k
          · have hout := rs_out hq (by rw [hlo]; exact hl)
            have hpx : Hid ((rs P k).1 ++ [(lo, k - 1)] <+: (rs P 257).1) := (by have h := rs_mono P (k + 1) 257 (by omega); rw [hout, hlo] at h; exact h)
            have hli : (lo : Int) < (k : Int) := by omega
            have hk1 : ((k - 1 : Nat) : Int) = (k : Int) - 1 := by omega
            have hv1 : (lo, k - 1).1 ≤ (lo, k - 1).2 := by show lo ≤ k - 1; omega
            have hv2 : (lo, k - 1).2 < 256 := by show k - 1 < 256; omega
            gi_wp2_with (refine ⟨trivial, ?_⟩; gi_at_call 19; refine (callsIn_wide.2 hh).mono ?_; rintro e w1 ⟨rfl, hb1⟩; have hJ1 := abides hA hb1 hJ; have hx1 := hx.below hb1; obtain ⟨fn, tmps, assign, body, hy, hR⟩ := hY (rs P k).1 (lo, k - 1) w1 hJ1 hlen hv1 hv2; rw [hk1] at hy)
            refine hR.mono ?_
            rintro e W3 (⟨rfl, hJ3, hk3⟩ | ⟨rfl, hJx3⟩)
            · have hx3 := hK _ _ hk3 hx1
              gi_wp2
              go_roundw
              case rel => exact ⟨k + 1, k + 1, by omega, by go_num, by go_num, by rw [hout], by rw [hout, hlo]; exact hJ3, hx3⟩
              case measure => simp [intOf]; omega
            · gi_wp2
              refine bodyPost_ret (results_none rfl _ _ _) rfl ?_
              exact ⟨⟨_, rfl⟩, .inr ⟨_, hpx.out, hJx3⟩⟩
          · have hout := rs_skip hq (by rw [hlo]; exact hl)
            have hli : ¬ ((lo : Int) < (k : Int)) := by omega
            gi_wp2_with (refine ⟨trivial, ?_⟩; gi_at_call 19; refine (callsIn_wide.2 hh).mono ?_; rintro e w1 ⟨rfl, hb1⟩; have hJ1 := abides hA hb1 hJ; have hx1 := hx.below hb1)
            refine ⟨(fun f h => by cases h), ?_⟩
            gi_wp2
            go_roundw
            case rel => exact ⟨k + 1, k + 1, by omega, by go_num, by go_num, by rw [hout], by rw [hout]; exact hJ1, hx1⟩
            case measure => simp [intOf]; omega
      · have hk2 : ¬ ((k : Int) < 256) := by omega
        have hq : (decide (k < 256) && P k) = false := by rw [decide_eq_false h256, Bool.false_and]
        by_cases hl : lo < k
        · have hout := rs_out hq (by rw [hlo]; exact hl)
          have hpx : Hid ((rs P k).1 ++ [(lo, k - 1)] <+: (rs P 257).1) := (by have h := rs_mono P (k + 1) 257 (by omega); rw [hout, hlo] at h; exact h)
          have hli : (lo : Int) < (k : Int) := by omega
          have hk1 : ((k - 1 : Nat) : Int) = (k : Int) - 1 := by omega
          have hv1 : (lo, k - 1).1 ≤ (lo, k - 1).2 := by show lo ≤ k - 1; omega
          have hv2 : (lo, k - 1).2 < 256 := by show k - 1 < 256; omega
          obtain ⟨fn, tmps, assign, body, hy, hR⟩ := hY (rs P k).1 (lo, k - 1) wr hJ hlen hv1 hv2
          rw [hk1] at hy
          gi_wp2
          refine ⟨trivial, ?_⟩
          gi_wp2
          refine hR.mono ?_
          rintro e W3 (⟨rfl, hJ3, hk3⟩ | ⟨rfl, hJx3⟩)
          · have hx3 := hK _ _ hk3 hx
            gi_wp2
            go_roundw
            case rel => exact ⟨k + 1, k + 1, by omega, by go_num, by go_num, by rw [hout], by rw [hout, hlo]; exact hJ3, hx3⟩
            case measure => simp [intOf]; omega
          · gi_wp2
            refine bodyPost_ret (results_none rfl _ _ _) rfl ?_
            exact ⟨⟨_, rfl⟩, .inr ⟨_, hpx.out, hJx3⟩⟩
        · have hout := rs_skip hq (by rw [hlo]; exact hl)
          have hli : ¬ ((lo : Int) < (k : Int)) := by omega
          gi_wp2
          refine ⟨trivial, ?_⟩
          gi_wp2
          refine ⟨(fun f h => by cases h), ?_⟩
          gi_wp2
          go_roundw
          case rel => exact ⟨k + 1, k + 1, by omega, by go_num, by go_num, by rw [hout], by rw [hout]; exact hJ, hx⟩
          case measure => simp [intOf]; omega
    · have hki : ¬ ((k : Int) < 257) := by omega
      have hke : Hid (J (rs P 257).1 wr) := by rw [show 257 = k by omega]; exact hJ
      gi_wp2
      go_end0
      exact ⟨⟨_, rfl⟩, .inl hke.out⟩
theorem runs_seqp {P : Nat → Bool} {a b c d : Nat} {bc l : Nat} {w4 W : World} {Kp : World → World → Prop} {J Jx : List Rn → World → Prop} (h4 : C4 P a b c d) (hx : Bx w4 bc (.int .u64 (a : Nat)) (.int .u64 (b : Nat)) (.int .u64 (c : Nat)) (.int .u64 (d : Nat))) (hKp : ∀ X Y, Kp X Y → Bx X bc (.int .u64 (a : Nat)) (.int .u64 (b : Nat)) (.int .u64 (c : Nat)) (.int .u64 (d : Nat)) → Bx Y bc (.int .u64 (a : Nat)) (.int .u64 (b : Nat)) (.int .u64 (c : Nat)) (.int .u64 (d : Nat))) (hW : Below w4.heap.size w4 W) (hA : AbidesFrom W.heap.size J)
    (hY : ∀ (pre : List Rn) (x : Rn) W1, J pre W1 → pre.length < 257 → YieldAt Fence.wide (5 - 1 - 1) Tryd.prog l #[.int .u8 (x.1.1 : Nat), .int .u8 (x.1.2 : Nat)] W1 fun e W' =>
      (e = .returned (.bool true) ∧ J (pre ++ [x]) W' ∧ Kp W1 W') ∨ (e = .returned (.bool false) ∧ Jx (pre ++ [x]) W')) (h0 : J [] W) :
    CallsIn Fence.wide (5 - 1) Tryd.prog 20 (#[.func (.yield l) #[] #[]] ++ #[.pointer (some ⟨bc, 0, none⟩)]) W fun e W' => (∃ v, e = .returned v) ∧ ((∃ ys : List Rn, ys.map (·.1) = (rs P 257).1 ∧ J ys W') ∨ (∃ pre : List Rn, pre.map (·.1) <+: (rs P 257).1 ∧ Jx pre W')) := by
  have := runsIt_pre 4 l bc W.heap.size h4 Kp (fun pre W => ∃ p : List Rn, p.map (·.1) = pre ∧ J p W) (fun pre W => ∃ p : List Rn, p.map (·.1) = pre ∧ Jx p W) (by decide)
    (fun s X Y row ⟨p, hp, hj⟩ hg hr => ⟨p, hp, hA p X Y row hj hg hr⟩) hKp (fun pre x X hj hlen h1 h2 => by
      obtain ⟨p, hp, hj⟩ := hj
      obtain ⟨fn, tmps, assign, body, hy, hR⟩ := hY p ⟨x, h1, h2⟩ X hj (by rw [← hp] at hlen; simpa using hlen)
      refine ⟨fn, tmps, assign, body, hy, hR.mono ?_⟩
      rintro e X' (⟨he, hj', hk⟩ | ⟨he, hj'⟩)
      · exact .inl ⟨he, ⟨_, by simp [hp], hj'⟩, hk⟩
      · exact .inr ⟨he, ⟨_, by simp [hp], hj'⟩⟩) W (hx.below hW) ⟨[], rfl, h0⟩
  refine this.mono ?_
  rintro e X ⟨hv, ⟨ys, hys, p, hp, hj⟩ | ⟨pre, hpp, p, hp, hj⟩⟩
  · exact ⟨hv, .inl ⟨p, by rw [hp, hys], hj⟩⟩
  · exact ⟨hv, .inr ⟨p, by rw [hp]; exact hpp, hj⟩⟩
end Go.Proofs.YthgjklhjfpillabDoor
