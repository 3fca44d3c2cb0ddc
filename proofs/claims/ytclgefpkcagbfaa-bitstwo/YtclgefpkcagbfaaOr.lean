/- Or: the walk. -/
import Derived.Test.YtclgefpkcagbfaaTwo
namespace Go.Proofs.Ytclgefpkcagbfaa
open Go.RowKit
attribute [local go_sem ↓] Go.wp_at_zero Go.wp_at_succ
set_option maxHeartbeats 4000000 in
/-- Or. -/
theorem or_any {w : World} {x y : Value} {n m : Nat} {P Q : Nat → Bool} (h : Arg w x n P) (h2 : Arg w y m Q) :
    Calls Try.prog 21 #[x, y] w (RetSet w n fun i => P i || (Q i && decide (i < n))) := by
  obtain ⟨m1, a1, l1, c1, rfl⟩ := h.shape
  obtain ⟨m2, a2, l2, c2, rfl⟩ := h2.shape
  have hI := Inv.start w (.int .i64 m1) (.slice a1 l1 c1) (.int .i64 m2) (.slice a2 l2 c2)
  go_enter Try.func21, Try.ntmps21
  go_upto_region 1 with fail
  go_cut [5] (fun p wx => Two w n P m Q p wx)
  case first =>
    go_region_with (first
      | (go_at_call 42; refine (copied_inv (x0 := .int .i64 m1) (x1 := .slice a1 l1 c1) (y0 := .int .i64 m2) (y1 := .slice a2 l2 c2) h ?_).mono ?_; (repeat (first | exact hI | refine Inv.drew ?_ | refine Inv.alloc ?_ _)); rintro e w1 ⟨ao, len, cap, f, rfl, ho, hne, hs, hI1, hb1⟩; obtain ⟨k0, k1, k2, k3⟩ := hI1.b1.cells; have kl := hI1.b1.lt; have bq := Box.below (Box.drew (Box.new _ _ _)) hb1; have bql := bq.lt; obtain ⟨q0, q1, q2, q3⟩ := bq.cells; try simp only [World.size_alloc] at q0 q1 q2 q3 bql bq hne)
      | (go_at_call 40; refine (sound_inv (x0 := .int .i64 m1) (x1 := .slice a1 l1 c1) (y0 := .int .i64 m2) (y1 := .slice a2 l2 c2) h2 ?_).mono ?_; (repeat (first | exact hI1 | refine Inv.drew ?_ | refine Inv.alloc ?_ _)); rintro e w2 ⟨ao2, len2, cap2, g, rfl, hr2, hs2, hI2, hb2⟩; obtain ⟨j0, j1, j2, j3⟩ := hI2.b1.cells; have jl := hI2.b1.lt; first | (have bq2 := Box.below (Box.new w1 _ _) hb2; have bql2 := bq2.lt; obtain ⟨r0, r1, r2, r3⟩ := bq2.cells; have ho2 := (ho.alloc _).below hb2) | (have bq2 := Box.below bq hb2; have bql2 := bq2.lt; obtain ⟨r0, r1, r2, r3⟩ := bq2.cells; have ho2 := ho.below hb2)))
    all_goals go_wp2_with fail
    all_goals go_meet
    all_goals first | exact two_new hI2 ho2 hs hr2 hs2 | exact two_set hI2 ho2 hs hr2 hs2 (by omega) bq2 (fun a e => by have := hne a e; simp at this; omega)
  case rest =>
    obtain ⟨bc, ao, len, cap, f, ao2, len2, cap2, g, rfl, hbc, bc1, ho, hne, hs, b1, hr2, hs2, hB, b2⟩ := hcut.ex
    clear hcut h h2 hI
    obtain ⟨p0, p1, p2, p3⟩ := bc1.cells
    have hlm : (len : Int) ≤ 128 := by have := hs.hle; have := hs.hlen; omega
    go_wp2_with fail
    go_loopw [14] (fun i wr => ∃ k : Nat, k ≤ len ∧ i = .int .i64 k ∧ Rel w n m bc ao ao2 len cap len2 cap2 f (fun j => f j ||| wd len2 g j) k wr) (fun i _ => len - (intOf i).toNat)
    case atStart => exact ⟨0, Nat.zero_le _, rfl, Rel.start _ bc1 ho b1 hB b2⟩
    case round =>
      obtain ⟨k, hk, rfl, hrel⟩ := hrel
      by_cases hlt : k < len
      · obtain ⟨b, rfl, hc⟩ := hrel.own.at_ (by omega)
        have hck := hc k hlt
        simp only [Nat.lt_irrefl, if_false] at hck
        have hbl := (hrel.own.lt _ rfl).1
        have t0 := Near.cell hrel.bc1.cells.1 hrel.bc1.lt
        have t1 := Near.cell hrel.bc1.cells.2.1 hrel.bc1.lt
        have t2 := Near.cell hrel.b1.cells.1 hrel.b1.lt
        have t3 := Near.cell hrel.b1.cells.2.1 hrel.b1.lt
        have t4 := Near.cell hck.1 hbl
        have t5 := Near.frozen hck.2 hbl
        have hki : (k : Int) < (len : Int) := by omega
        have hk0 : (0 : Int) ≤ (k : Int) := by omega
        have hrd : ∀ u : World, Rd (near wr u) ao2 len2 g := fun u => hr2.below (hrel.below.trans ((near_below wr u).mono hrel.below.size))
        have hor : Hid (bits .or .u64 (f k : Nat) (wd len2 g k : Nat) = ((f k ||| wd len2 g k : Nat) : Int)) := u64_or_nat _ _ (ho.small k hlt) (wd_lt hr2.small _)
        have hov : Hid (f k ||| wd len2 g k < 18446744073709551616) := or_lt (ho.small k hlt) (wd_lt hr2.small _)
        clear hc hck p0 p1 p2 p3
        go_wp2_with fail
        refine wp_region_quiet_tail 10 (fun w' => ∃ u : World, w' = near wr u) (by kernel_rfl) (by kernel_rfl) (Near.start _) ?_
        simp only [List.take_succ_cons, List.take_zero, List.drop_succ_cons, List.drop_zero]
        repeat (go_big_quiet_step ((go_at_call 45; exact Near.call (wordAt_any _ _ _ _ _ g _ (hrd _)))))
        refine wpQuiet_nil ?_
        rintro _ ⟨u, rfl⟩
        go_wp2
        go_roundw
        case rel => exact ⟨k + 1, by omega, by go_num, by rw [hor.out]; exact hrel.next u hlt rfl hov.out hne⟩
        case measure => simp [intOf]; omega
      · obtain rfl : k = len := by omega
        have ho' := hrel.done
        have hle := hs.hle
        have hlen := hs.hlen
        obtain ⟨q0, q1, q2, q3⟩ := hrel.bc1.cells
        have hB' := hrel.below
        have bc' := hrel.bc1
        have b2' := hrel.b2
        have HL : Hid (k = (n + 63) / 64) := hlen
        clear hlen p0 p1 p2 p3
        go_wp2_with fail
        refine (cut_any ho' hle HL.out).mono ?_
        rintro e w2 ⟨rfl, g2, ho2, hbits, hbut⟩
        have b2'' := b2'.but hbut (fun a e => by have := ho'.lt a e; omega)
        have bc'' := bc'.but hbut hne
        have hB2 : Below w.heap.size w w2 := hB'.trans (hbut.below hB'.size fun a e => by have := ho'.lt a e; omega)
        have hao : ∀ a, ao = some a → a.block ≠ w.heap.size + 2 := fun a e => by have := ho'.lt a e; omega
        have hset : IsSet n k g2 (fun i => P i || (Q i && decide (i < n))) := set_or hs hs2 hbits
        clear q0 q1 q2 q3 hbut hbits hrel bc' b2' ho' hB'
        obtain ⟨q0, q1, q2, q3⟩ := bc''.cells
        obtain ⟨r0, r1, r2, r3⟩ := b2''.cells
        have hne2 : w.heap.size + 2 ≠ bc := by omega
        go_wp2
        refine bodyPost_ret (v := .agg #[.int .i64 n, .slice ao k cap]) (by simp [results, Try.results21, go_sem, r0, r1]) rfl ⟨_, _, _, g2, rfl, (ho2.mono (by omega)).box hao _ _, hset, ?_⟩
        exact (hB2.setCell (p := ⟨w.heap.size + 2, 0, none⟩) (by simp) _).setCell (p := ⟨w.heap.size + 2, 1, none⟩) (by simp) _
end Go.Proofs.Ytclgefpkcagbfaa
