/- The reference's Sum, number, Str, Set, Seal, Unseal; Set of no set, Unseal of few bytes: the walks. -/
import Derived.Test.YtnjnaihogbnmaaaRk
namespace Go.Proofs.Ytnjnaihogbnmaaa
open Go.RowKit
set_option maxHeartbeats 800000 in
theorem fsum_any (ao : Option Addr) (len cap : Nat) (f : Nat → Nat) (w : World) (hr : Rd w ao len f) (hl : (len : Int) ≤ 9223372036854775807) :
    Calls Try.prog 20 #[.slice ao len cap] w fun e w' => e = .returned (.int .u64 (sumB f len : Nat)) ∧ w' = w := by
  go_enter Try.func20, Try.ntmps20
  go_wp2_with fail
  go_loopw [3, 4, 5] (fun x y i wr => ∃ k : Nat, k ≤ len ∧ i = .int .i64 k ∧ x = .int .u64 (loB f k : Nat) ∧ y = .int .u64 (hiB f k : Nat) ∧ wr = w) (fun _ _ i _ => len - (intOf i).toNat)
  case atStart => exact ⟨0, Nat.zero_le _, rfl, rfl, rfl, rfl⟩
  case round =>
    obtain ⟨k, hk, rfl, rfl, rfl, rfl⟩ := hrel
    have hA := lo_lt f k
    have hB := hi_lt f k
    have eA : loB f (k + 1) = (loB f k + f k) % 4294967291 := rfl
    have eB : hiB f (k + 1) = (hiB f k + loB f (k + 1)) % 4294967291 := rfl
    have eS : sumB f k = hiB f k * 4294967296 + loB f k := rfl
    generalize loB f k = A at *
    generalize hiB f k = B at *
    by_cases hlt : k < len
    · obtain ⟨b, off, rfl, hb, hc⟩ := hr.at_ (by omega)
      have t1 := hc k hlt
      have hki : (k : Int) < (len : Int) := by omega
      have hv := hr.small k hlt
      clear hc
      generalize f k = v at *
      go_wp2
      go_roundw
      case rel => exact ⟨k + 1, by omega, by go_num, by rw [eA, Int.natCast_emod, Int.natCast_add]; rfl, by rw [eB, eA, Int.natCast_emod, Int.natCast_add, Int.natCast_emod, Int.natCast_add]; rfl, trivial⟩
      case measure => simp [intOf]; omega
    · obtain rfl : k = len := by omega
      go_wp2
      go_ret
      rw [eS, Int.natCast_add, Int.natCast_mul]
      exact ⟨rfl, rfl⟩
theorem numB_first (g : Nat → Nat) (m : Nat) : numB g (m + 1) = g 0 + 256 * numB (fun i => g (1 + i)) m := by
  induction m with
  | zero => simp [numB]
  | succ m ih =>
    rw [numB, ih, numB, Nat.mul_add, Nat.pow_succ, show 1 + m = m + 1 by omega]
    have : g (m + 1) * (256 ^ m * 256) = 256 * (g (m + 1) * 256 ^ m) := by
      rw [Nat.mul_comm (256 ^ m) 256, ← Nat.mul_assoc, Nat.mul_comm (g (m + 1)) 256, Nat.mul_assoc]
    omega
set_option maxHeartbeats 800000 in
theorem fnumber_any (ao : Option Addr) (len cap : Nat) (f : Nat → Nat) (w : World) (hr : Rd w ao len f) (hl : len ≤ 8) :
    Calls Try.prog 39 #[.slice ao len cap] w fun e w' => e = .returned (.int .u64 (numB f len : Nat)) ∧ w' = w := by
  go_enter Try.func39, Try.ntmps39
  go_wp2_with fail
  go_loopw [3, 4] (fun x i wr => ∃ (k : Nat) (j : Int) (X : Nat), k ≤ len ∧ i = .int .i64 j ∧ j = (k : Int) - 1 ∧ x = .int .u64 (X : Nat) ∧ X = numB (fun i => f (k + i)) (len - k) ∧ wr = w) (fun _ i _ => ((intOf i) + 1).toNat)
  case atStart => exact ⟨len, (len : Int) - 1, 0, Nat.le_refl _, rfl, rfl, rfl, by simp [numB], rfl⟩
  case round =>
    obtain ⟨k, j, X, hk, rfl, ej, rfl, eX, rfl⟩ := hrel
    have hX : X < 256 ^ (len - k) := by rw [eX]; exact numB_lt fun i hi => hr.small _ (by omega)
    by_cases h0 : 0 < k
    · obtain ⟨b, off, rfl, hb, hc⟩ := hr.at_ (by omega)
      obtain ⟨q, rfl⟩ : ∃ q, k = q + 1 := ⟨k - 1, by omega⟩
      obtain rfl : j = (q : Nat) := by omega
      have t1 := hc q (by omega)
      have hq : (q : Int) < (len : Int) := by omega
      have hv := hr.small q (by omega)
      have hX7 : X < 72057594037927936 := by
        have : (256 : Nat) ^ (len - (q + 1)) ≤ 256 ^ 7 := Nat.pow_le_pow_right (by decide) (by omega)
        have e7 : (256 : Nat) ^ 7 = 72057594037927936 := by decide
        omega
      have HX : Hid (f q + 256 * X = numB (fun i => f (q + i)) (len - q)) := by
        unfold Hid
        rw [show len - q = (len - (q + 1)) + 1 by omega, numB_first, eX]
        simp only [Nat.add_zero]
        congr 2
        apply numB_congr
        intro i _
        rw [show q + (1 + i) = q + 1 + i by omega]
      have hXi : (X : Int) < 72057594037927936 := by omega
      clear hc eX hX ej
      generalize f q = v at *
      go_wp2
      refine ⟨⟨q, (q : Int) - 1, v + 256 * X, by omega, rfl, rfl, ?_, HX.out, trivial⟩, by simp [intOf]⟩
      congr 1
      omega
    · obtain rfl : k = 0 := by omega
      have ejj : j = -1 := by omega
      subst ejj
      have HX : Hid (X = numB f len) := by unfold Hid; rw [eX]; simp
      clear eX hX ej
      go_wp2
      go_ret
      rw [HX.out]
      exact ⟨rfl, rfl⟩
set_option maxHeartbeats 1600000 in
/-- The reference's Str. -/
theorem fstr_any (ao : Option Addr) (n cap : Nat) (f : Nat → Nat) (ax : Option Addr) (lx cx : Nat) (g : Nat → Nat) (w : World) (hr : Rd w ao n f) (hx : Rd w ax lx g) (hm : n + 8 + lx ≤ 140737488355328) (hna : (ao = none ∧ n = 0 ∧ cap = 0) ∨ ∃ a, ao = some a) (hn : (ax = none ∧ lx = 0 ∧ cx = 0) ∨ ∃ a, ax = some a) :
    Calls Try.prog 16 #[.slice ao n cap, .slice ax lx cx] w (RetB w (n + 4 + lx) (strB n lx f g)) := by
  obtain ⟨i0, hi, hz0, hz1, hz2⟩ := info_parts Try.info5
  have hS : lx < 18446744073709551616 := by omega
  have hone := fone_any ao n cap f 4 lx w hr hS (by decide) (by decide) (by omega) hna
  rw [show szB 4 = 4 from rfl] at hone
  go_enter Try.func16, Try.ntmps16
  go_wp2_with fail
  refine hone.mono ?_
  rintro en w2 ⟨ao2, cap2, rfl, hown2, hb2⟩
  clear hone
  obtain ⟨gg, rfl, hg1, hg2, hg3⟩ := hown2.head (by omega)
  have hsm : ∀ i, i < n + 4 + lx → strB n lx f g i < 256 := by
    intro i hi
    unfold strB; split
    · exact putB_lt hr.small i
    · exact hx.small _ (by omega)
  have hrow : row (putB n 4 f fun _ => lx) (n + 4) ++ row g lx = row (strB n lx f g) (n + 4 + lx) := row_app _ _ _ _
  rcases hn with ⟨rfl, rfl, rfl⟩ | ⟨a, rfl⟩
  · go_wp2_with (at_builtin; refine wpList_append_own_none rfl _ _ 22 rfl w.heap.size 5 i0 1 Try.underlying22 hi _ _ _ rfl hown2.own rfl ?_)
    go_ret
    exact ⟨_, _, rfl, hown2.congr fun i hi => by simp [strB, hi], hb2⟩
  · have hnews := (hx.below hb2).news a rfl
    go_wp2_with (at_builtin; refine wpList_append_own _ rfl _ _ 22 rfl w.heap.size 5 i0 (.int .u8 0) 1 1 Try.underlying22 hi hz0 hz1 hz2 rfl (by decide) _ _ _ rfl hown2.own a lx cx (row g lx) rfl (by simp [row_length]) hnews (row_one g lx) (by unfold maxLen; omega) (by omega) (by omega) ?_)
    intro v' w3 hown3 hgr hnn
    have hb3 : Below w.heap.size w w3 := hb2.grown hgr (by have := hb2.size; omega) (by intro k hk; simp [Value.ownBlock] at hk; omega)
    obtain ⟨g3, cap3, rfl, ho3⟩ : ∃ g3 cap3, v' = .slice (some ⟨g3, 0, none⟩) (n + 4 + lx) cap3 ∧ Own w.heap.size w3 (some ⟨g3, 0, none⟩) (n + 4 + lx) cap3 (strB n lx f g) := by
      rcases hown3.2 with ⟨h', _⟩ | ⟨g3, cap3, cur, h', _⟩
      · exact (hnn h').elim
      · exact ⟨g3, cap3, h', hsm, by rw [← h']; exact hown3⟩
    clear hown3 hgr hnn hnews hown2 hrow
    go_wp2
    go_ret
    exact ⟨_, _, rfl, ho3, hb3⟩
set_option maxHeartbeats 1000000 in
theorem fset_ok (ao : Option Addr) (n cap : Nat) (f : Nat → Nat) (m : Int) (ax : Option Addr) (L cx : Nat) (h : Nat → Nat) (w : World) (hr : Rd w ao n f) (hx : RdU w ax L h) (hok : Ok m L h) (hm : n + 8 * L ≤ 140737488355328) (hna : (ao = none ∧ n = 0 ∧ cap = 0) ∨ ∃ a, ao = some a) :
    Calls Try.prog 18 #[.slice ao n cap, .agg #[.int .i64 m, .slice ax L cx]] w (RetB w (n + 8 * L) (putB n 8 f h)) := by
  have ha : Below w.heap.size w (w.alloc (.cells #[.int .i64 m, .slice ax L cx] 25)) := (Below.refl _ _).alloc (Nat.le_refl _) _
  have hL : (L : Int) ≤ 128 := by obtain ⟨h1, h2, h3, _⟩ := hok; omega
  go_enter Try.func18, Try.ntmps18
  go_wp2_with fail
  refine (rcheck_any m ax L cx h _ (hx.below ha)).mono ?_
  rintro en w1 ⟨he, hb⟩
  obtain rfl : en = .returned (.int .i64 0) := by
    rcases he with ⟨_, he⟩ | ⟨hno, _⟩
    · exact he
    · exact absurd hok hno
  clear he
  have hb1 : Below w.heap.size w w1 := ha.trans (hb.mono (by simp))
  have hbox := (Box.new w (.int .i64 m) (.slice ax L cx)).below hb
  obtain ⟨c0, c1, c2, c3⟩ := hbox.cells
  have hnum := fnum_any ao n cap f 8 ax L cx h w1 (hr.below hb1) (hx.below hb1) (by decide) (by decide) (by rw [show szB 8 = 8 from rfl]; omega) (by omega) hna
  rw [show szB 8 = 8 from rfl] at hnum
  go_wp2_with fail
  refine hnum.mono ?_
  rintro en w2 ⟨ao2, cap2, rfl, hown, hb2⟩
  clear hnum c0 c1 c2 c3 hbox
  go_wp2
  go_ret
  exact ⟨_, _, rfl, hown.mono hb1.size, hb1.trans (hb2.mono hb1.size)⟩
set_option maxHeartbeats 1000000 in
theorem fset_bad (ao : Option Addr) (n cap : Nat) (f : Nat → Nat) (m : Int) (ax : Option Addr) (L cx : Nat) (h : Nat → Nat) (w : World) (hr : Rd w ao n f) (hx : RdU w ax L h) (hok : ¬ Ok m L h) (hm : n ≤ 140737488355328) (hna : (ao = none ∧ n = 0 ∧ cap = 0) ∨ ∃ a, ao = some a) :
    Calls Try.prog 18 #[.slice ao n cap, .agg #[.int .i64 m, .slice ax L cx]] w (RetB w n f) := by
  have ha : Below w.heap.size w (w.alloc (.cells #[.int .i64 m, .slice ax L cx] 25)) := (Below.refl _ _).alloc (Nat.le_refl _) _
  go_enter Try.func18, Try.ntmps18
  go_wp2_with fail
  refine (rcheck_any m ax L cx h _ (hx.below ha)).mono ?_
  rintro en w1 ⟨he, hb⟩
  obtain rfl : en = .returned (.int .i64 10) := by
    rcases he with ⟨hyes, _⟩ | ⟨_, he⟩
    · exact absurd hyes hok
    · exact he
  clear he
  have hb1 : Below w.heap.size w w1 := ha.trans (hb.mono (by simp))
  have hnum := fnum_any ao n cap f 8 none 0 0 (fun _ => 0) w1 (hr.below hb1) (rdu_none _ _ _) (by decide) (by decide) (by omega) (by decide) hna
  rw [Nat.mul_zero, Nat.add_zero] at hnum
  go_wp2_with fail
  refine hnum.mono ?_
  rintro en w2 ⟨ao2, cap2, rfl, hown, hb2⟩
  clear hnum
  go_wp2
  go_ret
  exact ⟨_, _, rfl, (hown.mono hb1.size).congr fun i hi => by simp [putB, hi], hb1.trans (hb2.mono hb1.size)⟩
set_option maxHeartbeats 1000000 in
/-- Set of a set that may not be. -/
theorem set_bad (ao : Option Addr) (n cap : Nat) (f : Nat → Nat) (m : Int) (ax : Option Addr) (L cx : Nat) (h : Nat → Nat) (w : World) (hr : Rd w ao n f) (hx : RdU w ax L h) (hok : ¬ Ok m L h) (hm : n ≤ 140737488355328) (hna : (ao = none ∧ n = 0 ∧ cap = 0) ∨ ∃ a, ao = some a) :
    Calls Try.prog 17 #[.slice ao n cap, .agg #[.int .i64 m, .slice ax L cx]] w (RetB w n f) := by
  have ha : Below w.heap.size w (w.alloc (.cells #[.int .i64 m, .slice ax L cx] 25)) := (Below.refl _ _).alloc (Nat.le_refl _) _
  go_enter Try.func17, Try.ntmps17
  go_wp2_with fail
  refine (check_bad m ax L cx h _ (hx.below ha) hok).mono ?_
  rintro en w1 ⟨rfl, hb⟩
  have hb1 : Below w.heap.size w w1 := ha.trans (hb.mono (by simp))
  go_wp2_with fail
  refine (clone_any ao n cap f w1 (hr.below hb1) hm hna).mono ?_
  rintro en w2 ⟨ao2, cap2, rfl, hown, hb2⟩
  go_wp2
  go_ret
  exact ⟨_, _, rfl, hown.mono hb1.size, hb1.trans (hb2.mono hb1.size)⟩
set_option maxHeartbeats 1000000 in
/-- The reference's Seal. -/
theorem fseal_any (ao : Option Addr) (n cap : Nat) (f : Nat → Nat) (w : World) (hr : Rd w ao n f) (hn : n + 8 ≤ 140737488355328) (hna : (ao = none ∧ n = 0 ∧ cap = 0) ∨ ∃ a, ao = some a) :
    Calls Try.prog 22 #[.slice ao n cap] w (RetB w (n + 8) (sealB n f)) := by
  have hone := one_eight (w := w) (cap := cap) hr hn (sumB f n) (sumB_lt f n) hna
  go_enter Try.func22, Try.ntmps22
  go_wp2_with (go_at_call 20; refine (fsum_any ao n cap f _ hr (by omega)).mono ?_; rintro e w1 ⟨rfl, rfl⟩)
  refine hone.mono ?_
  rintro en w2 ⟨ao2, cap2, rfl, hown, hb⟩
  clear hone
  go_wp2
  go_ret
  exact ⟨_, _, rfl, hown, hb⟩
def RetU2 (w : World) (n : Nat) (f : Nat → Nat) (c : Int) (e : Ending) (w' : World) : Prop :=
  ∃ ao cap, e = .returned (.tuple #[.slice ao n cap, .int .i64 c]) ∧ Rd w' ao n f ∧ Below w.heap.size w w'
/-- How many bytes Unseal tells, and with which word. -/
def unN (n : Nat) (f : Nat → Nat) : Nat := if 8 ≤ n ∧ numB (fun i => f (n - 8 + i)) 8 = sumB f (n - 8) then n - 8 else 0
def unC (n : Nat) (f : Nat → Nat) : Int := if n < 8 then 30 else if numB (fun i => f (n - 8 + i)) 8 = sumB f (n - 8) then 0 else 33
set_option maxHeartbeats 800000 in
theorem unseal_short (ao : Option Addr) (n cap : Nat) (w : World) (hn : n < 8) : Calls Try.prog 10 #[.slice ao n cap] w fun e w' => e = .returned (.tuple #[.slice none 0 0, .int .i64 30]) ∧ w' = w := by
  have hd : (n : Int) < 8 := by omega
  go_enter Try.func10, Try.ntmps10
  go_wp2
  exact bodyPost_ret (v := .tuple #[.slice none 0 0, .int .i64 30]) (by simp [results, Try.results10, go_sem]) rfl ⟨rfl, rfl⟩
set_option maxHeartbeats 800000 in
theorem funseal_short (ao : Option Addr) (n cap : Nat) (w : World) (hn : n < 8) : Calls Try.prog 11 #[.slice ao n cap] w fun e w' => e = .returned (.tuple #[.slice none 0 0, .int .i64 30]) ∧ w' = w := by
  have hd : (n : Int) < 8 := by omega
  go_enter Try.func11, Try.ntmps11
  go_wp2
  exact bodyPost_ret (v := .tuple #[.slice none 0 0, .int .i64 30]) (by simp [results, Try.results11, go_sem]) rfl ⟨rfl, rfl⟩
/-- Unseal. -/
theorem unseal_any (ao : Option Addr) (n cap : Nat) (f : Nat → Nat) (w : World) (hr : Rd w ao n f) (hm : n ≤ 140737488355328) (hc : n ≤ cap) : Calls Try.prog 10 #[.slice ao n cap] w (RetU2 w (unN n f) f (unC n f)) := by
  by_cases h8 : n < 8
  · refine (unseal_short ao n cap w h8).mono ?_
    rintro e w' ⟨rfl, rfl⟩
    refine ⟨none, 0, ?_, ?_, Below.refl _ _⟩
    · simp [unN, unC, h8]; omega
    · rw [show unN n f = 0 by simp [unN]; omega]; exact rd_none _ _ _
  · obtain ⟨m, rfl⟩ : ∃ m, n = m + 8 := ⟨n - 8, by omega⟩
    obtain ⟨b, off, rfl, _⟩ := hr.at_ (by omega)
    by_cases hs : numB (fun i => f (m + i)) 8 = sumB f m
    · refine (unseal_ok b off m cap f w hr (by omega) hc hs).mono ?_
      rintro e w' ⟨ao', cap', rfl, ho, hb⟩
      have e1 : unN (m + 8) f = m := by simp [unN, hs]
      have e2 : unC (m + 8) f = 0 := by simp [unC, hs]
      rw [e1, e2]
      exact ⟨ao', cap', rfl, ho.rd, hb⟩
    · refine (unseal_sum b off m cap f w hr (by omega) hc hs).mono ?_
      rintro e w' ⟨rfl, hb⟩
      have e1 : unN (m + 8) f = 0 := by simp [unN, hs]
      have e2 : unC (m + 8) f = 33 := by simp [unC, hs]
      rw [e1, e2]
      exact ⟨none, 0, rfl, rd_none _ _ _, hb⟩
set_option maxHeartbeats 2000000 in
theorem funseal_long (b off m cap : Nat) (f : Nat → Nat) (w : World) (hr : Rd w (some ⟨b, off, none⟩) (m + 8) f) (hm : m ≤ 140737488355328) (hc : m + 8 ≤ cap) :
    Calls Try.prog 11 #[.slice (some ⟨b, off, none⟩) ((m + 8 : Nat)) cap] w (RetU2 w (unN (m + 8) f) f (unC (m + 8) f)) := by
  have h1 := hr.from m 8 rfl
  have h2 := hr.cut m (by omega)
  have hlow := slice_low (some ⟨b, off, none⟩) (m + 8) cap m (by omega)
  have hsl := slice_from b off m cap hc
  by_cases hs : numB (fun i => f (m + i)) 8 = sumB f m
  · have E1 : Hid (unN (m + 8) f = m) := by unfold Hid; simp [unN, hs]
    have E2 : Hid (unC (m + 8) f = 0) := by unfold Hid; simp [unC, hs]
    have HS : Hid (numB (fun i => f (m + i)) 8 = sumB f m) := hs
    clear hs
    go_enter Try.func11, Try.ntmps11
    go_wp2_with (refine append_first rfl (.tmp 8) (.tmp 13) rfl (ao := some ⟨b, off, none⟩) (n := m) (cap := cap) (f := f) rfl rfl h2 hm (.inr ⟨_, rfl⟩) ?_; intro ao1 cap1 w1 hown hbel)
    refine (fnumber_any _ 8 _ _ _ (h1.below hbel) (by decide)).mono ?_
    rintro e w' ⟨rfl, rfl⟩
    rw [HS.out]
    go_wp2_with fail
    refine (fsum_any ao1 m cap1 f _ hown.rd (by omega)).mono ?_
    rintro e w' ⟨rfl, rfl⟩
    have hrd := hown.rd
    clear hown
    generalize sumB f m = S at *
    go_wp2
    refine bodyPost_ret (v := .tuple #[.slice ao1 m cap1, .int .i64 0]) (by simp [results, Try.results11, go_sem]) rfl ?_
    rw [E1.out, E2.out]
    exact ⟨ao1, cap1, rfl, hrd, hbel⟩
  · have E1 : Hid (unN (m + 8) f = 0) := by unfold Hid; simp [unN, hs]
    have E2 : Hid (unC (m + 8) f = 33) := by unfold Hid; simp [unC, hs]
    have hne : ((numB (fun i => f (m + i)) 8 : Nat) : Int) ≠ ((sumB f m : Nat) : Int) := by omega
    have hnb : (((numB (fun i => f (m + i)) 8 : Nat) : Int) != ((sumB f m : Nat) : Int)) = true := by rw [bne_iff_ne]; exact hne
    clear hs hne
    go_enter Try.func11, Try.ntmps11
    go_wp2_with (refine append_first rfl (.tmp 8) (.tmp 13) rfl (ao := some ⟨b, off, none⟩) (n := m) (cap := cap) (f := f) rfl rfl h2 hm (.inr ⟨_, rfl⟩) ?_; intro ao1 cap1 w1 hown hbel)
    refine (fnumber_any _ 8 _ _ _ (h1.below hbel) (by decide)).mono ?_
    rintro e w' ⟨rfl, rfl⟩
    go_wp2_with fail
    refine (fsum_any ao1 m cap1 f _ hown.rd (by omega)).mono ?_
    rintro e w' ⟨rfl, rfl⟩
    clear hown
    generalize sumB f m = S at *
    generalize numB (fun i => f (m + i)) 8 = N at *
    go_wp2
    refine bodyPost_ret (v := .tuple #[.slice none 0 0, .int .i64 33]) (by simp [results, Try.results11, go_sem]) rfl ?_
    rw [E1.out, E2.out]
    exact ⟨none, 0, rfl, rd_none _ _ _, hbel⟩
/-- The reference's Unseal. -/
theorem funseal_any (ao : Option Addr) (n cap : Nat) (f : Nat → Nat) (w : World) (hr : Rd w ao n f) (hm : n ≤ 140737488355328) (hc : n ≤ cap) : Calls Try.prog 11 #[.slice ao n cap] w (RetU2 w (unN n f) f (unC n f)) := by
  by_cases h8 : n < 8
  · refine (funseal_short ao n cap w h8).mono ?_
    rintro e w' ⟨rfl, rfl⟩
    refine ⟨none, 0, ?_, ?_, Below.refl _ _⟩
    · simp [unN, unC, h8]; omega
    · rw [show unN n f = 0 by simp [unN]; omega]; exact rd_none _ _ _
  · obtain ⟨m, rfl⟩ : ∃ m, n = m + 8 := ⟨n - 8, by omega⟩
    obtain ⟨b, off, rfl, _⟩ := hr.at_ (by omega)
    exact funseal_long b off m cap f w hr (by omega) hc
end Go.Proofs.Ytnjnaihogbnmaaa
