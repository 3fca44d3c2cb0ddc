/- begun: the walk. -/
import Derived.Test.YtobgmgpclcfkcaaGr
import Derived.Lib.SlBytesConst
namespace Go.Proofs.Ytobgmgpclcfkcaa
open Go.RowKit Go.Shelf
theorem cv_any (w : World) (b : Nat) (c : Array Value) (fz : Nat × Nat) (n m : Nat) (h : w.heap[b]? = some (.cells c 5 fz)) : ∃ w' fz', (convert 38 38 (.slice (some ⟨b, 0, none⟩) n m)).run Try.prog w = .ok (.slice (some ⟨b, 0, none⟩) n m) w' ∧ w'.heap.size = w.heap.size ∧ w'.os = w.os ∧ w'.tape = w.tape ∧ w'.output = w.output ∧ w'.heap[b]? = some (.cells c 5 fz') ∧ ∀ k, k ≠ b → w'.heap[k]? = w.heap[k]? := by
  have hsh : w.shape? b = some (5, c.size) := by unfold World.shape?; rw [h]
  obtain ⟨fz', hb⟩ : ∃ fz', (w.freeze ⟨b, c.size, none⟩ 1).heap[b]? = some (.cells c 5 fz') := by
    unfold World.freeze
    rw [if_neg (by decide)]
    obtain ⟨lo, hi⟩ := fz
    simp only [Array.getElem?_modify, if_true, h, Option.map_some]
    exact ⟨_, rfl⟩
  have hrun : (convert 38 38 (.slice (some ⟨b, 0, none⟩) n m)).run Try.prog w = .ok (.slice (some ⟨b, 0, none⟩) n m) (w.freeze ⟨b, c.size, none⟩ 1) := by
    simp [convert, run_underlying Try.underlying38, run_underlying Try.underlying5, markStringish, hsh]
  refine ⟨w.freeze ⟨b, c.size, none⟩ 1, fz', hrun, ?_, ?_, ?_, ?_, hb, fun k hk => ?_⟩
  · unfold World.freeze; simp
  · unfold World.freeze; simp
  · unfold World.freeze; simp
  · unfold World.freeze; simp
  · unfold World.freeze
    rw [if_neg (by decide)]
    simp only [Array.getElem?_modify]
    rw [if_neg (Ne.symm hk)]
def bgT (i : Nat) : Nat := ([120, 97, 97, 97, 98] : List Nat).getD i 0
def bgP : Nat → Bool := fun x => x == 97
theorem c4_bg : C4 bgP 0 8589934592 0 0 :=
  ⟨by decide, by decide, by decide, by decide, by decide +kernel, by decide +kernel, by decide +kernel, by decide +kernel⟩
def bgZ (i : Nat) : Int := ([1] : List Int).getD i 0
theorem bg_age : ageF bgP 2 (among bgZ 1) bgT (-1) 5 = -1 := by decide +kernel
theorem bg_plc : plc (fun j => ageF bgP 2 (among bgZ 1) bgT (-1) j == ((2 : Nat) : Int)) 6 = [3, 4] := by decide +kernel
theorem bg_run (W : World) (b3 b4 : Nat) (h : (∃ fz, W.heap[b3]? = some (.cells #[.int .u8 120, .int .u8 97, .int .u8 97, .int .u8 97, .int .u8 98] 5 fz)) ∧ ∃ fz, W.heap[b4]? = some (.cells #[.int .i64 1] 3 fz)) :
    Calls Try.prog 21 #[.agg #[.int .u64 0, .int .u64 8589934592, .int .u64 0, .int .u64 0, .int .i64 2], .agg #[.int .i64 (-1)], .slice (some ⟨b3, 0, none⟩) 5 5, .slice (some ⟨b4, 0, none⟩) 1 1] W (RetRun W (-1) [3, 4]) := by
  obtain ⟨⟨fz3, h3⟩, fz4, h4⟩ := h
  have hok : okT 0 8589934592 0 0 ((2 : Nat) : Int) = true := by decide
  have := run_t (a := 0) (b := 8589934592) (c := 0) (d := 0) (lo := 2) (a' := 0) (b' := 8589934592) (c' := 0) (d' := 0) (lo' := 2) (-1) W (some ⟨b3, 0, none⟩) 5 5 bgT (some ⟨b4, 0, none⟩) 1 1 bgZ (fun g w => sound_yes g w hok) (fun g w => sound_yes g w hok) c4_bg (by decide)
    ⟨by decide, fun _ => ⟨b3, 0, rfl, (Array.getElem?_eq_some_iff.1 h3).1, fun i hi => by
      rw [Nat.zero_add, cell_of_row W b3 i _ 5 fz3 h3]
      obtain rfl | rfl | rfl | rfl | rfl : i = 0 ∨ i = 1 ∨ i = 2 ∨ i = 3 ∨ i = 4 := by omega
      all_goals rfl⟩⟩ (by decide) (fun _ => ⟨b4, 0, rfl, (Array.getElem?_eq_some_iff.1 h4).1, fun i hi => by
      rw [Nat.zero_add, cell_of_row W b4 i _ 3 fz4 h4]
      obtain rfl : i = 0 := by omega
      rfl⟩) (by decide)
  have e : clS ((2 : Nat) : Int) (-1) = -1 := by decide
  rw [e, bg_age, bg_plc] at this
  exact this
/-- What each operation answers. -/
def V9 (B : Nat) (j : Nat) (g : Nat → Value) (w : World) : Prop :=
  match j with
  | 0 => g 0 = .agg #[.int .u64 0, .int .u64 8589934592, .int .u64 0, .int .u64 0, .int .i64 2]
  | 1 => g 1 = .agg #[.int .i64 (-1)]
  | 2 => ∃ b : Nat, g 2 = .slice (some ⟨b, 0, none⟩) 5 5 ∧ Bk B w b 5 #[.int .u8 120, .int .u8 97, .int .u8 97, .int .u8 97, .int .u8 98]
  | 3 => ∃ b : Nat, g 3 = .slice (some ⟨b, 0, none⟩) 5 5 ∧ Bk B w b 5 #[.int .u8 120, .int .u8 97, .int .u8 97, .int .u8 97, .int .u8 98]
  | 4 => ∃ b : Nat, g 4 = .slice (some ⟨b, 0, none⟩) 1 1 ∧ Bk B w b 3 #[.int .i64 1]
  | 5 => ∃ v : Value, g 5 = .tuple #[.agg #[.int .i64 (-1)], v] ∧ RowL B w v [3, 4]
  | 6 => ∃ v : Value, g 6 = .tuple #[.agg #[.int .i64 (-1)], v] ∧ RowL B w v [3, 4]
  | 7 => g 7 = .agg #[.int .i64 (-1)]
  | 8 => RowL B w (g 8) [3, 4]
  | 9 => ∃ b : Nat, g 9 = .pointer (some ⟨b, 0, none⟩) ∧ Bo B w b 28 1
  | 11 => RowL B w (g 11) [3, 4]
  | _ => True
theorem V9.keep (B : Nat) (j : Nat) (g : Nat → Value) (w w' : World) (hv : V9 B j g w) (h : Gx (fun t => t == 28) (fun t => t == 5) w w') : V9 B j g w' := by
  match j, hv with
  | 0, hv =>
    exact hv
  | 1, hv =>
    exact hv
  | 2, hv =>
    obtain ⟨b, e, hb⟩ := hv
    exact ⟨b, e, hb.keep h rfl⟩
  | 3, hv =>
    obtain ⟨b, e, hb⟩ := hv
    exact ⟨b, e, hb.keep h rfl⟩
  | 4, hv =>
    obtain ⟨b, e, hb⟩ := hv
    exact ⟨b, e, hb.keep h rfl⟩
  | 5, hv =>
    obtain ⟨v, e, hr⟩ := hv
    exact ⟨v, e, ownsRow_gx hr h rfl rfl⟩
  | 6, hv =>
    obtain ⟨v, e, hr⟩ := hv
    exact ⟨v, e, ownsRow_gx hr h rfl rfl⟩
  | 7, hv =>
    exact hv
  | 8, hv =>
    exact ownsRow_gx hv h rfl rfl
  | 9, hv =>
    obtain ⟨b, e, hb⟩ := hv
    exact ⟨b, e, hb.keep h rfl⟩
  | 10, _ => trivial
  | 11, hv =>
    exact ownsRow_gx hv h rfl rfl
  | _ + 12, _ => trivial
theorem V9.same (B : Nat) (j : Nat) (g g' : Nat → Value) (w : World) (h0 : g' j = g j) (hv : V9 B j g w) : V9 B j g' w := by
  match j, hv, h0 with
  | 0, hv, h0 => unfold V9 at hv ⊢; rw [h0]; exact hv
  | 1, hv, h0 => unfold V9 at hv ⊢; rw [h0]; exact hv
  | 2, hv, h0 => unfold V9 at hv ⊢; rw [h0]; exact hv
  | 3, hv, h0 => unfold V9 at hv ⊢; rw [h0]; exact hv
  | 4, hv, h0 => unfold V9 at hv ⊢; rw [h0]; exact hv
  | 5, hv, h0 => unfold V9 at hv ⊢; rw [h0]; exact hv
  | 6, hv, h0 => unfold V9 at hv ⊢; rw [h0]; exact hv
  | 7, hv, h0 => unfold V9 at hv ⊢; rw [h0]; exact hv
  | 8, hv, h0 => unfold V9 at hv ⊢; rw [h0]; exact hv
  | 9, hv, h0 => unfold V9 at hv ⊢; rw [h0]; exact hv
  | 10, _, _ => trivial
  | 11, hv, h0 => unfold V9 at hv ⊢; rw [h0]; exact hv
  | _ + 12, _, _ => trivial
set_option maxRecDepth 100000 in
set_option maxHeartbeats 4000000 in
theorem begun_any (w : World) : Calls Try.prog 9 #[] w fun e w' => e = .returned (.bool true) ∧ Below w.heap.size w w' := by
  have hbit : bits BinOp.or IntKind.u64 0 8589934592 = 8589934592 := by decide
  have hT := TdAt.new w 0 8589934592 0 0 2
  have HT : Hid (TdAt (w.alloc (.cells #[.int .u64 0, .int .u64 8589934592, .int .u64 0, .int .u64 0, .int .i64 2] 26)) w.heap.size 0 8589934592 0 0 2) := hT
  have hB0 : Below w.heap.size w (w.alloc (.cells #[.int .u64 0, .int .u64 8589934592, .int .u64 0, .int .u64 0, .int .i64 2] 26)) := (Below.refl _ _).alloc (Nat.le_refl _) _
  have HR := fun W b3 b4 h => bg_run W b3 b4 h
  clear hT
  go_enter Try.func9, Try.ntmps9
  go_upto_region 3 with fail
  generalize w.alloc (.cells #[.int .u64 0, .int .u64 8589934592, .int .u64 0, .int .u64 0, .int .i64 2] 26) = W at *
  refine wp_region_ops [false, false, true, true, false, false, false, false, false, false, false, true, true, true, true, true, true, true, true, true] 23 (fun w' => Below W.heap.size W w') (V9 W.heap.size) (Gx (fun t => t == 28) (fun t => t == 5)) (by kernel_rfl) rfl (by decide +kernel) (by decide +kernel) (by decide +kernel) ((Below.refl _ _).drew) (V9.keep W.heap.size) (fun j o g g' w _ h0 _ hv => V9.same W.heap.size j g g' w h0 hv) ?step ?done
  case step =>
    intro i o ho u w1 g1 hC hdep
    have hBs := hC.size
    match i, ho with
    | 0, ho =>
      have ho0 := ho
      obtain rfl := Option.some.inj (show some _ = some o from ho)
      clear hdep
      refine op_list ho0 ?_
      clear ho ho0
      simp only [puts, mp, Nat.reduceAdd, Nat.zero_add]
      generalize u 2 = x2 at *
      generalize u 3 = x3 at *
      generalize u 11 = x11 at *
      generalize u 12 = x12 at *
      generalize u 13 = x13 at *
      generalize u 14 = x14 at *
      generalize u 15 = x15 at *
      generalize u 16 = x16 at *
      generalize u 17 = x17 at *
      generalize u 18 = x18 at *
      generalize u 19 = x19 at *
      obtain ⟨⟨c0, c1, c2, c3, c4⟩, -⟩ := (HT.out.below hC).cells
      go_wp2
      exact Ans.mk _ rfl (fun g2 hg => hg) hC (Gx.refl _)
    | 1, ho =>
      have ho0 := ho
      obtain rfl := Option.some.inj (show some _ = some o from ho)
      clear hdep
      refine op_list ho0 ?_
      clear ho ho0
      simp only [puts, mp, Nat.reduceAdd, Nat.zero_add]
      generalize u 2 = x2 at *
      generalize u 3 = x3 at *
      generalize u 11 = x11 at *
      generalize u 12 = x12 at *
      generalize u 13 = x13 at *
      generalize u 14 = x14 at *
      generalize u 15 = x15 at *
      generalize u 16 = x16 at *
      generalize u 17 = x17 at *
      generalize u 18 = x18 at *
      generalize u 19 = x19 at *
      go_wp2_with (go_at_call 14; refine (new_t _).mono ?_; rintro e w2 ⟨rfl, hb⟩)
      exact Ans.mk _ rfl (fun g2 hg => hg) (hC.trans (hb.mono hBs)) (Gx.of_below hb)
    | 2, ho =>
      have ho0 := ho
      obtain rfl := Option.some.inj (show some _ = some o from ho)
      clear hdep
      refine op_list ho0 ?_
      clear ho ho0
      simp only [puts, mp, Nat.reduceAdd, Nat.zero_add]
      generalize u 2 = x2 at *
      generalize u 3 = x3 at *
      generalize u 11 = x11 at *
      generalize u 12 = x12 at *
      generalize u 13 = x13 at *
      generalize u 14 = x14 at *
      generalize u 15 = x15 at *
      generalize u 16 = x16 at *
      generalize u 17 = x17 at *
      generalize u 18 = x18 at *
      generalize u 19 = x19 at *
      go_wp2
      exact Ans.mk _ rfl (fun g2 hg => ⟨w1.heap.size, hg, by omega, (0, 0), heap_alloc_new _ _⟩) (hC.alloc hBs _) (Gx.of_below ((Below.refl _ _).alloc (Nat.le_refl _) _))
    | 3, ho =>
      have ho0 := ho
      obtain rfl := Option.some.inj (show some _ = some o from ho)
      obtain ⟨h2, s2⟩ := hdep ⟨2, .data⟩ (by simp) rfl
      replace s2 : u 14 = g1 2 := s2 _ 14 rfl rfl
      clear hdep
      refine op_list ho0 ?_
      clear ho ho0
      simp only [puts, mp, Nat.reduceAdd, Nat.zero_add]
      generalize u 2 = x2 at *
      generalize u 3 = x3 at *
      generalize u 11 = x11 at *
      generalize u 12 = x12 at *
      generalize u 13 = x13 at *
      generalize u 14 = x14 at *
      generalize u 15 = x15 at *
      generalize u 16 = x16 at *
      generalize u 17 = x17 at *
      generalize u 18 = x18 at *
      generalize u 19 = x19 at *
      obtain ⟨b2, e2, k2⟩ := h2
      rw [e2] at s2
      subst s2
      obtain ⟨hb0, fz, hh⟩ := k2
      obtain ⟨w2, fz2, hrun, hz1, hz2, hz3, hz4, hz5, hz6⟩ := cv_any w1 b2 _ fz 5 5 hh
      go_wp2
      exact Ans.mk _ rfl (fun g2 hg => ⟨b2, hg, hb0, fz2, hz5⟩) ⟨hz2.trans hC.os, hz3.trans hC.tape, hz4.trans hC.output, by rw [hz1]; exact hC.size, fun k hk => (hz6 k (by omega)).trans (hC.block k hk)⟩ (Gx.mark hh hz5 hz6 rfl)
    | 4, ho =>
      have ho0 := ho
      obtain rfl := Option.some.inj (show some _ = some o from ho)
      clear hdep
      refine op_list ho0 ?_
      clear ho ho0
      simp only [puts, mp, Nat.reduceAdd, Nat.zero_add]
      generalize u 2 = x2 at *
      generalize u 3 = x3 at *
      generalize u 11 = x11 at *
      generalize u 12 = x12 at *
      generalize u 13 = x13 at *
      generalize u 14 = x14 at *
      generalize u 15 = x15 at *
      generalize u 16 = x16 at *
      generalize u 17 = x17 at *
      generalize u 18 = x18 at *
      generalize u 19 = x19 at *
      go_wp2
      exact Ans.mk _ rfl (fun g2 hg => ⟨w1.heap.size, hg, by omega, (0, 0), heap_alloc_new _ _⟩) (hC.alloc hBs _) (Gx.of_below ((Below.refl _ _).alloc (Nat.le_refl _) _))
    | 5, ho =>
      have ho0 := ho
      obtain rfl := Option.some.inj (show some _ = some o from ho)
      obtain ⟨h0, s0⟩ := hdep ⟨0, .data⟩ (by simp) rfl
      replace s0 : u 12 = g1 0 := s0 _ 12 rfl rfl
      obtain ⟨h1, s1⟩ := hdep ⟨1, .data⟩ (by simp) rfl
      replace s1 : u 13 = g1 1 := s1 _ 13 rfl rfl
      obtain ⟨h3, s3⟩ := hdep ⟨3, .data⟩ (by simp) rfl
      replace s3 : u 15 = g1 3 := s3 _ 15 rfl rfl
      obtain ⟨h4, s4⟩ := hdep ⟨4, .data⟩ (by simp) rfl
      replace s4 : u 16 = g1 4 := s4 _ 16 rfl rfl
      clear hdep
      refine op_list ho0 ?_
      clear ho ho0
      simp only [puts, mp, Nat.reduceAdd, Nat.zero_add]
      generalize u 2 = x2 at *
      generalize u 3 = x3 at *
      generalize u 11 = x11 at *
      generalize u 12 = x12 at *
      generalize u 13 = x13 at *
      generalize u 14 = x14 at *
      generalize u 15 = x15 at *
      generalize u 16 = x16 at *
      generalize u 17 = x17 at *
      generalize u 18 = x18 at *
      generalize u 19 = x19 at *
      have e0 : g1 0 = _ := h0
      rw [e0] at s0
      subst s0
      have e1 : g1 1 = _ := h1
      rw [e1] at s1
      subst s1
      obtain ⟨b3, e3, k3⟩ := h3
      rw [e3] at s3
      subst s3
      obtain ⟨b4, e4, k4⟩ := h4
      rw [e4] at s4
      subst s4
      go_wp2_with (go_at_call 21; refine (HR _ b3 b4 ⟨k3.2, k4.2⟩).mono ?_; rintro e w2 ⟨v, rfl, hrow, hb⟩)
      exact Ans.mk _ rfl (fun g2 hg => ⟨v, hg, hrow.mono (by omega)⟩) (hC.trans (hb.mono hBs)) (Gx.of_below hb)
    | 6, ho =>
      have ho0 := ho
      obtain rfl := Option.some.inj (show some _ = some o from ho)
      obtain ⟨h5, s5⟩ := hdep ⟨5, .data⟩ (by simp) rfl
      replace s5 : u 17 = g1 5 := s5 _ 17 rfl rfl
      clear hdep
      refine op_list ho0 ?_
      clear ho ho0
      simp only [puts, mp, Nat.reduceAdd, Nat.zero_add]
      generalize u 2 = x2 at *
      generalize u 3 = x3 at *
      generalize u 11 = x11 at *
      generalize u 12 = x12 at *
      generalize u 13 = x13 at *
      generalize u 14 = x14 at *
      generalize u 15 = x15 at *
      generalize u 16 = x16 at *
      generalize u 17 = x17 at *
      generalize u 18 = x18 at *
      generalize u 19 = x19 at *
      obtain ⟨v5, e5, k5⟩ := h5
      rw [e5] at s5
      subst s5
      go_wp2
      exact Ans.mk _ rfl (fun g2 hg => ⟨v5, hg, k5⟩) hC (Gx.refl _)
    | 7, ho =>
      have ho0 := ho
      obtain rfl := Option.some.inj (show some _ = some o from ho)
      obtain ⟨h6, s6⟩ := hdep ⟨6, .data⟩ (by simp) rfl
      replace s6 : u 11 = g1 6 := s6 _ 11 rfl rfl
      clear hdep
      refine op_list ho0 ?_
      clear ho ho0
      simp only [puts, mp, Nat.reduceAdd, Nat.zero_add]
      generalize u 2 = x2 at *
      generalize u 3 = x3 at *
      generalize u 11 = x11 at *
      generalize u 12 = x12 at *
      generalize u 13 = x13 at *
      generalize u 14 = x14 at *
      generalize u 15 = x15 at *
      generalize u 16 = x16 at *
      generalize u 17 = x17 at *
      generalize u 18 = x18 at *
      generalize u 19 = x19 at *
      obtain ⟨v6, e6, k6⟩ := h6
      rw [e6] at s6
      subst s6
      go_wp2
      exact Ans.mk _ rfl (fun g2 hg => hg) hC (Gx.refl _)
    | 8, ho =>
      have ho0 := ho
      obtain rfl := Option.some.inj (show some _ = some o from ho)
      obtain ⟨h6, s6⟩ := hdep ⟨6, .data⟩ (by simp) rfl
      replace s6 : u 11 = g1 6 := s6 _ 11 rfl rfl
      clear hdep
      refine op_list ho0 ?_
      clear ho ho0
      simp only [puts, mp, Nat.reduceAdd, Nat.zero_add]
      generalize u 2 = x2 at *
      generalize u 3 = x3 at *
      generalize u 11 = x11 at *
      generalize u 12 = x12 at *
      generalize u 13 = x13 at *
      generalize u 14 = x14 at *
      generalize u 15 = x15 at *
      generalize u 16 = x16 at *
      generalize u 17 = x17 at *
      generalize u 18 = x18 at *
      generalize u 19 = x19 at *
      obtain ⟨v6, e6, k6⟩ := h6
      rw [e6] at s6
      subst s6
      go_wp2
      exact Ans.mk _ rfl (fun g2 hg => (by show RowL W.heap.size w1 (g2 8) [3, 4]; rw [hg]; exact k6)) hC (Gx.refl _)
    | 9, ho =>
      have ho0 := ho
      obtain rfl := Option.some.inj (show some _ = some o from ho)
      clear hdep
      refine op_list ho0 ?_
      clear ho ho0
      simp only [puts, mp, Nat.reduceAdd, Nat.zero_add]
      generalize u 2 = x2 at *
      generalize u 3 = x3 at *
      generalize u 11 = x11 at *
      generalize u 12 = x12 at *
      generalize u 13 = x13 at *
      generalize u 14 = x14 at *
      generalize u 15 = x15 at *
      generalize u 16 = x16 at *
      generalize u 17 = x17 at *
      generalize u 18 = x18 at *
      generalize u 19 = x19 at *
      go_wp2
      exact Ans.mk _ rfl (fun g2 hg => ⟨w1.heap.size, hg, by omega, #[.int .i64 0], rfl, heap_alloc_new _ _⟩) (hC.alloc hBs _) (Gx.of_below ((Below.refl _ _).alloc (Nat.le_refl _) _))
    | 10, ho =>
      have ho0 := ho
      obtain rfl := Option.some.inj (show some _ = some o from ho)
      obtain ⟨h9, s9⟩ := hdep ⟨9, .data⟩ (by simp) rfl
      replace s9 : u 2 = g1 9 := s9 _ 2 rfl rfl
      obtain ⟨h7, s7⟩ := hdep ⟨7, .data⟩ (by simp) rfl
      replace s7 : u 18 = g1 7 := s7 _ 18 rfl rfl
      clear hdep
      refine op_list ho0 ?_
      clear ho ho0
      simp only [puts, mp, Nat.reduceAdd, Nat.zero_add]
      generalize u 2 = x2 at *
      generalize u 3 = x3 at *
      generalize u 11 = x11 at *
      generalize u 12 = x12 at *
      generalize u 13 = x13 at *
      generalize u 14 = x14 at *
      generalize u 15 = x15 at *
      generalize u 16 = x16 at *
      generalize u 17 = x17 at *
      generalize u 18 = x18 at *
      generalize u 19 = x19 at *
      obtain ⟨b9, e9, k9⟩ := h9
      rw [e9] at s9
      subst s9
      have e7 : g1 7 = _ := h7
      rw [e7] at s7
      subst s7
      obtain ⟨hb9, cs9, hs9, hh9⟩ := k9
      have hc9 : w1.cell? ⟨b9, 0, none⟩ = some (cs9[0]'(by omega)) := by rw [cell_of_row w1 b9 0 cs9 28 (0, 0) hh9]; simp [hs9]
      have hf9 := frozen_of_row w1 b9 0 cs9 28 hh9
      go_wp2
      exact Ans.mk undef rfl (fun g2 hg => trivial) (hC.setCell (p := ⟨b9, 0, none⟩) (show _ ≤ b9 by omega) _) (Gx.set hh9 rfl)
    | 11, ho =>
      have ho0 := ho
      obtain rfl := Option.some.inj (show some _ = some o from ho)
      obtain ⟨h8, s8⟩ := hdep ⟨8, .data⟩ (by simp) rfl
      replace s8 : u 19 = g1 8 := s8 _ 19 rfl rfl
      clear hdep
      refine op_list ho0 ?_
      clear ho ho0
      simp only [puts, mp, Nat.reduceAdd, Nat.zero_add]
      generalize u 2 = x2 at *
      generalize u 3 = x3 at *
      generalize u 11 = x11 at *
      generalize u 12 = x12 at *
      generalize u 13 = x13 at *
      generalize u 14 = x14 at *
      generalize u 15 = x15 at *
      generalize u 16 = x16 at *
      generalize u 17 = x17 at *
      generalize u 18 = x18 at *
      generalize u 19 = x19 at *
      obtain ⟨v8, e8⟩ : ∃ v, g1 8 = v := ⟨_, rfl⟩
      have k8 : RowL W.heap.size w1 v8 [3, 4] := by rw [← e8]; exact h8
      rw [e8] at s8
      subst s8
      go_wp2
      exact Ans.mk _ rfl (fun g2 hg => (by show RowL W.heap.size w1 (g2 11) [3, 4]; rw [hg]; exact k8)) hC (Gx.refl _)
    | _ + 12, ho => cases ho
  case done =>
    intro u w1 g1 hC hu hV
    have h11 := hV 11 _ rfl
    replace h11 : RowL W.heap.size w1 (g1 11) [3, 4] := h11
    have s11 : u 3 = g1 11 := hu 11 _ 3 rfl rfl
    rw [← s11] at h11
    clear hu hV s11
    simp only [puts, mp, Nat.reduceAdd, Nat.zero_add]
    generalize u 3 = x3 at *
    obtain ⟨ao, cap, rfl⟩ := h11.slice
    have hr := h11.rd
    have hB1 := hB0.trans (hC.mono hB0.size)
    have hsz := hB1.size
    have HQ := equalI_same ao (some ⟨w1.heap.size, 0, none⟩) 2 cap 2 (fun i => ([3, 4] : List Int).getD i 0) (w1.alloc (.cells #[.int .i64 3, .int .i64 4] 3)) (hr.below ((Below.refl _ _).alloc (Nat.le_refl _) _)) (rdI_lit w1 3 4) (by decide)
    clear h11 hr hC
    go_wp2_with (go_at_call 23; refine HQ.mono ?_; rintro e w2 ⟨rfl, hb2⟩)
    go_ret
    exact ⟨rfl, (hB1.alloc hsz _).trans (hb2.mono (by simp; omega))⟩
end Go.Proofs.Ytobgmgpclcfkcaa
