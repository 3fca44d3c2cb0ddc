/- BytesNone: the walk of the law. -/
import Derived.Test.YtnjnaihogbnmaaaNo
namespace Go.Proofs.Ytnjnaihogbnmaaa
open Go.RowKit
/-- Equal of bytes that are the same. -/
theorem equal_same9 {w : World} {ao ax : Option Addr} {n cap cx : Nat} {f : Nat → Nat} (h : Rd w ao n f) (hx : Rd w ax n f) (hn : (n : Int) ≤ 9223372036854775807) :
    Calls Try.prog 12 #[.slice ao n cap, .slice ax n cx] w fun e w' => e = .returned (.bool true) ∧ Below w.heap.size w w' :=
  equal_len9 h rfl (fun _ _ => rfl) hx hn
theorem Rd.news {w : World} {ao : Option Addr} {n : Nat} {f : Nat → Nat} (hr : Rd w ao n f) : ∀ ad, ao = some ad → ∀ j u, (row f n)[j]? = some u → w.cell? (ad.add j) = some u := by
  intro ad e j u hj
  obtain ⟨hjl, rfl⟩ := row_some hj
  obtain ⟨b, off, e', hb, hc⟩ := hr.at_ (by omega)
  rw [e'] at e
  obtain rfl := Option.some.inj e
  have hcj := hc j hjl
  by_cases h0 : j = 0
  · subst h0; simpa [Addr.add] using hcj
  · simpa [Addr.add, h0] using hcj
theorem num_eight {w : World} {ao : Option Addr} {n cap : Nat} {f : Nat → Nat} (hr : Rd w ao n f) (hn : n ≤ 140737488355328) (x : Nat) (hx : x < 18446744073709551616) :
    Calls Try.prog 13 #[.slice ao n cap, .int .i64 8, .slice (some ⟨w.heap.size, 0, none⟩) 1 1] (w.alloc (.cells #[.int .u64 (x : Nat)] 37)) (RetB w (n + 8) (putB n 8 f fun _ => x)) := by
  have hnum := num_any ao n cap f 8 (some ⟨w.heap.size, 0, none⟩) 1 1 (fun _ => x) _ (hr.below ((Below.refl _ w).alloc (Nat.le_refl _) (.cells #[.int .u64 (x : Nat)] 37))) (rdu_one w x hx) (by decide) (by decide) (by rw [show szB 8 = 8 from rfl]; omega) (by decide)
  rw [show szB 8 = 8 from rfl, Nat.mul_one] at hnum
  refine hnum.mono ?_
  rintro e w2 ⟨ao2, cap2, rfl, hown, hb⟩
  exact ⟨ao2, cap2, rfl, hown.mono (by simp), ((Below.refl _ _).alloc (Nat.le_refl _) _).trans (hb.mono (by simp))⟩
theorem one_eight {w : World} {ao : Option Addr} {n cap : Nat} {f : Nat → Nat} (hr : Rd w ao n f) (hn : n + 8 ≤ 140737488355328) (x : Nat) (hx : x < 18446744073709551616) (hnil : (ao = none ∧ n = 0 ∧ cap = 0) ∨ ∃ a, ao = some a) :
    Calls Try.prog 37 #[.slice ao n cap, .int .i64 8, .int .u64 (x : Nat)] w (RetB w (n + 8) (putB n 8 f fun _ => x)) := by
  have := fone_any ao n cap f 8 x w hr hx (by decide) (by decide) hn hnil
  rwa [show szB 8 = 8 from rfl] at this
set_option maxHeartbeats 4000000 in
theorem bytesNone_walk (ao : Option Addr) (n cap : Nat) (f : Nat → Nat) (x : Nat) (w : World) (hr : Rd w ao n f) (hn : n ≤ 140737488351232) (hx : x < 18446744073709551616) (hnil : (ao = none ∧ n = 0 ∧ cap = 0) ∨ ∃ a, ao = some a) :
    Calls Try.prog 8 #[.slice ao n cap, .int .u64 (x : Nat)] w fun e w' => e = .returned (.bool true) ∧ Below w.heap.size w w' := by
  go_enter Try.func8, Try.ntmps8
  go_wp2_with fail
  refine (live_any w).mono ?_
  rintro e w1 ⟨rfl, hb1⟩
  go_wp2_with fail
  have hB0 : Below w.heap.size w ((w1.alloc (.cells #[.slice none 0 0, .int .i64 0, .bool false] 63)).alloc (.cells #[.pointer none, .pointer (some ⟨w1.heap.size, 0, none⟩)] 42)) := (hb1.alloc hb1.size _).alloc (by have := hb1.size; simp; omega) _
  have hel : ∀ k, k < 2 → ∃ r, ((w1.alloc (.cells #[.slice none 0 0, .int .i64 0, .bool false] 63)).alloc (.cells #[.pointer none, .pointer (some ⟨w1.heap.size, 0, none⟩)] 42)).cell? ⟨w1.heap.size + 1, k, none⟩ = some r ∧ Un ((w1.alloc (.cells #[.slice none 0 0, .int .i64 0, .bool false] 63)).alloc (.cells #[.pointer none, .pointer (some ⟨w1.heap.size, 0, none⟩)] 42)) r := by
    intro k hk
    have h1 := heap_alloc_new (w1.alloc (.cells #[.slice none 0 0, .int .i64 0, .bool false] 63)) (.cells #[.pointer none, .pointer (some ⟨w1.heap.size, 0, none⟩)] 42)
    have e1 : (w1.alloc (.cells #[.slice none 0 0, .int .i64 0, .bool false] 63)).heap.size = w1.heap.size + 1 := by simp
    rw [e1] at h1
    rw [cell_of_row _ (w1.heap.size + 1) k _ 42 (0, 0) h1]
    have : k = 0 ∨ k = 1 := by omega
    rcases this with rfl | rfl
    · exact ⟨_, rfl, .inl rfl⟩
    · refine ⟨_, rfl, .inr ⟨w1.heap.size, rfl, ?_⟩⟩
      have h2 := heap_alloc_new w1 (.cells #[.slice none 0 0, .int .i64 0, .bool false] 63)
      rw [((Below.refl _ (w1.alloc (.cells #[.slice none 0 0, .int .i64 0, .bool false] 63))).alloc (Nat.le_refl _) _).block w1.heap.size (by simp)]
      exact h2
  have hlt0 : w1.heap.size + 1 < ((w1.alloc (.cells #[.slice none 0 0, .int .i64 0, .bool false] 63)).alloc (.cells #[.pointer none, .pointer (some ⟨w1.heap.size, 0, none⟩)] 42)).heap.size := by simp
  generalize ((w1.alloc (.cells #[.slice none 0 0, .int .i64 0, .bool false] 63)).alloc (.cells #[.pointer none, .pointer (some ⟨w1.heap.size, 0, none⟩)] 42)) = W at *
  have HEL : Hid (∀ k, k < 2 → ∃ r, W.cell? ⟨w1.heap.size + 1, k, none⟩ = some r ∧ Un W r) := hel
  clear hel
  go_loopw [18] (fun i wr => ∃ k : Nat, k ≤ 2 ∧ i = .int .i64 k ∧ Below W.heap.size W wr) (fun i _ => 2 - (intOf i).toNat)
  case atStart => exact ⟨0, by decide, rfl, Below.refl _ _⟩
  case round =>
    obtain ⟨k, hk, rfl, t⟩ := hrel
    by_cases hlt : k < 2
    · obtain ⟨r, hc0, hun0⟩ := HEL.out k hlt
      have hc : wr.cell? ⟨w1.heap.size + 1, k, none⟩ = some r := by rw [t.cell (p := ⟨w1.heap.size + 1, k, none⟩) hlt0]; exact hc0
      have hki : (k : Int) < 2 := by omega
      have hk0 : (0 : Int) ≤ (k : Int) := by omega
      have hun := hun0.below t
      have HUN : Hid (Un W r) := hun0
      clear hun0 hc0
      go_wp2_with (first
        | (go_at_call 36; refine (fail_un hun _).mono ?_; rintro en w' ⟨rfl, rfl⟩)
        | (go_at_call 31; refine (num_un hun 1 9 (by decide) (by decide)).mono ?_; rintro en w' ⟨rfl, rfl⟩)
        | (go_at_call 32; refine (str_un hun 9).mono ?_; rintro en w' ⟨rfl, rfl⟩)
        | (go_at_call 34; refine (set_un hun 3 1 (by decide) rfl).mono ?_; rintro en w2 ⟨rfl, hb2⟩; replace t := t.trans (hb2.mono t.size); clear hun hb2 hc; have hun := HUN.out.below t)
        | (go_at_call 33; refine (exact_true 0 none none 0 0 0 (fun _ => 0) (fun _ => 0) _ (rdu_none _ _ _) (rdu_none _ _ _) (fun _ _ => rfl) (by decide)).mono ?_; rintro en w3 ⟨rfl, hb3⟩; replace t := t.trans (hb3.mono t.size); clear hun hb3; have hun := HUN.out.below t)
        | (go_at_call 27; refine (left_un hun).mono ?_; rintro en w' ⟨rfl, rfl⟩)
        | (go_at_call 26; refine (err_un hun).mono ?_; rintro en w' ⟨rfl, rfl⟩)
        | (go_at_call 28; refine (done_un hun).mono ?_; rintro en w' ⟨rfl, rfl⟩))
      exact ⟨⟨k + 1, by omega, by go_num, t⟩, by simp [intOf]; omega⟩
    · clear HEL
      have hB1 := hB0.trans (t.mono hB0.size)
      obtain rfl : k = 2 := by omega
      clear t hlt0 hB0 hlt hk hb1
      obtain ⟨i0, hi, hz0, hz1, hz2⟩ := info_parts Try.info5
      have hr1 := hr.below hB1
      have hnone : ao = none → n = 0 ∧ cap = 0 := by
        intro e
        rcases hnil with ⟨_, h2, h3⟩ | ⟨a, h⟩
        · exact ⟨h2, h3⟩
        · rw [e] at h; simp at h
      have hx2 : (x : Int) / 2 = ((x / 2 : Nat) : Int) := by omega
      have hxx : x / 2 < 18446744073709551616 := by omega
      generalize x / 2 = y at *
      go_wp2_with (first
        | (at_make; refine wpList_make_own _ rfl _ _ 22 rfl wr.heap.size 5 i0 (.int .u8 0) 1 Try.underlying22 hi hz0 hz1 .i64 .i64 _ (n + 40) rfl rfl (by simp) (by rw [hz2]; omega) (by unfold maxLen; omega) (Nat.le_refl _) ?_; intro w2 hown2 hgr2; have hb2 : Below wr.heap.size wr w2 := (Below.refl _ _).grown hgr2 (Nat.le_refl _) (by simp))
        | (at_builtin; refine wpList_append_fits_any _ rfl (.tmp 59) (.tmp 60) 22 rfl wr.heap.size 5 i0 1 Try.underlying22 hi hz1 wr.heap.size 0 (n + 40) [] rfl hown2 ao n cap (row f n) rfl (by simp [row_length]) hnone (hr1.below hb2).news (row_one f n) (by omega) ?_; intro w3 hown3 hgr3))
      have hb3 : Below wr.heap.size wr w3 := hb2.grown hgr3 hb2.size (by intro q hq; simp at hq; omega)
      have hroom : Own wr.heap.size w3 (some ⟨wr.heap.size, 0, none⟩) n (n + 40) f := ⟨hr.small, by simpa using hown3⟩
      have hB3 := hB1.trans (hb3.mono hB1.size)
      have hrm := hroom.rd
      clear hown2 hgr2 hb2 hown3 hgr3 hb3 hroom hr1
      refine (num_eight (w := w3) hrm (by omega) x hx).mono ?_
      rintro e w4 ⟨ao4, cap4, rfl, ho4, hb4⟩
      have hB4 := hB3.trans (hb4.mono hB3.size)
      replace hrm := hrm.below hb4
      have hr4 := ho4.rd
      clear ho4
      go_wp2_with fail
      refine (num_eight (w := w4) hrm (by omega) y hxx).mono ?_
      rintro e w5 ⟨ao5, cap5, rfl, ho5, hb5⟩
      have hB5 := hB4.trans (hb5.mono hB4.size)
      replace hrm := hrm.below hb5
      replace hr4 := hr4.below hb5
      have hr5 := ho5.rd
      clear ho5 hb5 hb4 hB4 hB3
      go_wp2_with fail
      refine (str_any none 0 0 (fun _ => 0) _ n (n + 40) f _ (rd_none _ _ _) hrm (by omega) (.inr ⟨_, rfl⟩)).mono ?_
      rintro e w6 ⟨ao6, cap6, rfl, ho6, hb6⟩
      have hnil6 : (ao6 = none ∧ 0 + 4 + n = 0 ∧ cap6 = 0) ∨ ∃ a, ao6 = some a := by
        obtain ⟨g, hg, _⟩ := ho6.head (by omega)
        exact .inr ⟨_, hg⟩
      go_wp2_with fail
      refine (read_any ao6 (0 + 4 + n) cap6 _ _ ho6.rd (by omega) hnil6).mono ?_
      rintro e w7 ⟨b, ao7, cap7, rfl, hR7, hbb, hb7⟩
      have hb57 := hb6.trans (hb7.mono hb6.size)
      have hb5b : w5.heap.size ≤ b := Nat.le_trans hb6.size hbb
      clear ho6 hnil6 hb6 hb7 hbb
      go_wp2_with fail
      refine (str_r hR7 n (by omega)).mono ?_
      rintro e w8 ⟨aox, k, capx, gx, n8, f8, e8, rfl, _, hox, hret8⟩
      have hb58 := hret8.below hb57 hb5b
      have hox5 := hox.mono hb57.size
      have hkm : (k : Int) ≤ 9223372036854775807 := by
        rcases hox.own.2 with ⟨_, h0⟩ | ⟨_, _, _, _, _, _, hkc, hm, _⟩
        · omega
        · unfold maxLen at hm; omega
      clear hret8 hox hR7 hb57 hb5b
      go_wp2_with fail
      go_loopw [79] (fun i wx => ∃ (j : Nat) (g' : Nat → Nat), j ≤ k ∧ i = .int .i64 j ∧ Own w5.heap.size wx aox k capx g' ∧ Below w5.heap.size w5 wx) (fun i _ => k - (intOf i).toNat)
      case atStart => exact ⟨0, gx, Nat.zero_le _, rfl, hox5, hb58⟩
      case round =>
        obtain ⟨j, g', hj, rfl, hog, hbg⟩ := hrel
        clear hox5 hb58
        by_cases hjk : j < k
        · obtain ⟨gg, rfl, hg1, hg2, hg3⟩ := hog.head (by omega)
          obtain ⟨cc, cf⟩ := hog.cell hjk
          have hsm := hog.small j hjk
          have hxr : bits BinOp.xor IntKind.u8 ((g' j : Nat) : Int) 255 = ((g' j ^^^ 255 : Nat) : Int) := u8_xor_nat _ 255 hsm (by decide)
          have hxl : g' j ^^^ 255 < 256 := Nat.xor_lt_two_pow (n := 8) hsm (by decide)
          have hset := hog.set hjk hxl
          have hbset := hbg.setCell (p := ⟨gg, j, none⟩) hg1 (.int .u8 ((g' j ^^^ 255 : Nat)))
          have hji : (j : Int) < (k : Int) := by omega
          have hj0 : (0 : Int) ≤ (j : Int) := by omega
          generalize g' j ^^^ 255 = V at *
          generalize g' j = U at *
          clear hog hbg
          go_wp2
          exact ⟨⟨j + 1, _, by omega, by go_num, hset, hbset⟩, by simp [intOf]; omega⟩
        · obtain rfl : j = k := by omega
          clear hog
          have hBx := hB5.trans (hbg.mono hB5.size)
          have hrx := hr.below hBx
          replace hrm := hrm.below hbg
          replace hr4 := hr4.below hbg
          replace hr5 := hr5.below hbg
          clear hbg hB5 hB1
          go_wp2_with fail
          refine (equal_same9 hrm hrx (by omega)).mono ?_
          rintro e z1 ⟨rfl, c1⟩
          have hBz := hBx.trans (c1.mono hBx.size)
          replace hr4 := hr4.below c1
          replace hr5 := hr5.below c1
          clear c1 hrx hBx hrm
          go_wp2_with fail
          refine (one_eight (hr.below hBz) (by omega) x hx hnil).mono ?_
          rintro e z2 ⟨aq, cq, rfl, hoq, c2⟩
          have hBz2 := hBz.trans (c2.mono hBz.size)
          replace hr4 := hr4.below c2
          replace hr5 := hr5.below c2
          clear c2 hBz
          go_wp2_with fail
          refine (equal_same9 hr4 hoq.rd (by omega)).mono ?_
          rintro e z3 ⟨rfl, c3⟩
          have hBz3 := hBz2.trans (c3.mono hBz2.size)
          replace hr5 := hr5.below c3
          clear c3 hBz2 hr4 hoq
          go_wp2_with fail
          refine (one_eight (hr.below hBz3) (by omega) y hxx hnil).mono ?_
          rintro e z4 ⟨ar, cr, rfl, hor, c4⟩
          have hBz4 := hBz3.trans (c4.mono hBz3.size)
          replace hr5 := hr5.below c4
          clear c4 hBz3
          go_wp2_with fail
          refine (equal_same9 hr5 hor.rd (by omega)).mono ?_
          rintro e z5 ⟨rfl, c5⟩
          have hBz5 := hBz4.trans (c5.mono hBz4.size)
          clear c5 hBz4 hr5 hor
          go_wp2
          go_ret
          exact ⟨rfl, hBz5⟩
end Go.Proofs.Ytnjnaihogbnmaaa
