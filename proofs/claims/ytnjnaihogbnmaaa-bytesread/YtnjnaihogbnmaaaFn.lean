/- The reference's sized, Num, One: the walks. -/
import Derived.Test.YtnjnaihogbnmaaaEx
namespace Go.Proofs.Ytnjnaihogbnmaaa
open Go.RowKit
set_option maxHeartbeats 800000 in
theorem sized_any (z : Int) (w : World) (h1 : -9223372036854775808 ≤ z) (h2 : z ≤ 9223372036854775807) : Calls Try.prog 41 #[.int .i64 z] w fun e w' => e = .returned (.int .i64 (szB z : Nat)) ∧ w' = w := by
  go_enter Try.func41, Try.ntmps41
  go_wp2
  all_goals go_ret
  all_goals refine ⟨congrArg _ ?_, rfl⟩
  all_goals (show Value.int _ _ = _; congr 1; unfold szB; (repeat' split) <;> omega)
/-- append of bytes to nothing. -/
theorem append_first {w : World} {ops : Array Oper} {rest : List Oper} {o : Oper} {a : Act} {Q : Exit → Act → World → Prop} (hgd : o.guard = none) (s x : Operand)
    (ho : o.op = .call { callee := .builtin .append, args := #[s, x], argTypes := #[22, 22] }) {ao : Option Addr} {n cap : Nat} {f : Nat → Nat} (hs : a.eval s = .slice none 0 0) (hx : a.eval x = .slice ao n cap)
    (hr : Rd w ao n f) (hn : n ≤ 140737488355328) (hnil : (ao = none ∧ n = 0 ∧ cap = 0) ∨ ∃ a, ao = some a)
    (h : ∀ ao' cap' w', Own w.heap.size w' ao' n cap' f → Below w.heap.size w w' → wpList Try.prog ops Q rest (a.put o.dst (.slice ao' n cap')) w') :
    wpList Try.prog ops Q (o :: rest) a w := by
  obtain ⟨i0, hi, hz0, hz1, hz2⟩ := info_parts Try.info5
  rcases hnil with ⟨rfl, rfl, rfl⟩ | ⟨ad, rfl⟩
  · exact wpList_append_own_none hgd s x 22 ho w.heap.size 5 i0 1 Try.underlying22 hi _ _ _ hs (World.ownsRow_nil _ _ _ _) hx (h none 0 w ⟨fun i hi => by omega, World.ownsRow_nil _ _ _ _⟩ (Below.refl _ _))
  · have hnews : ∀ j u, (row f n)[j]? = some u → w.cell? (ad.add j) = some u := by
      intro j u hj
      obtain ⟨hjl, rfl⟩ := row_some hj
      obtain ⟨b, off, e, hb, hc⟩ := hr.at_ (by omega)
      obtain rfl := Option.some.inj e
      have hcj := hc j hjl
      by_cases h0 : j = 0
      · subst h0; simpa [Addr.add] using hcj
      · simpa [Addr.add, h0] using hcj
    refine wpList_append_own w hgd s x 22 ho w.heap.size 5 i0 (.int .u8 0) 1 1 Try.underlying22 hi hz0 hz1 hz2 rfl (by decide) _ _ _ hs (World.ownsRow_nil _ _ _ _) ad n cap (row f n) hx (by simp [row_length]) hnews (row_one f n) (by unfold maxLen; omega) (by omega) (Nat.le_refl _) ?_
    intro v' w2 hown hgr hnn
    have hb2 : Below w.heap.size w w2 := (Below.refl _ _).grown hgr (Nat.le_refl _) (by intro k hk; simp [Value.ownBlock] at hk)
    replace hown : w2.ownsRow w.heap.size 5 1 v' n (row f n) := by simpa using hown
    rcases hown.2 with ⟨h', h0⟩ | ⟨g, c, cur, h', hrest⟩
    · subst h' h0
      exact h none 0 w2 ⟨fun i hi => by omega, hown⟩ hb2
    · subst h'
      exact h _ _ w2 ⟨hr.small, hown⟩ hb2
/-- append of one byte to bytes of its own. -/
theorem append_byte {w W : World} {ops : Array Oper} {rest : List Oper} {o : Oper} {a : Act} {Q : Exit → Act → World → Prop} (hgd : o.guard = none) (s x : Operand)
    (ho : o.op = .call { callee := .builtin .append, args := #[s, x], argTypes := #[22, 22] }) {B : Nat} {ao : Option Addr} {k cap : Nat} {G : Nat → Nat} {v : Int} (hs : a.eval s = .slice ao k cap) (hx : a.eval x = .slice (some ⟨W.heap.size, 0, none⟩) 1 1)
    (hv : v = ((G k : Nat) : Int)) (hG : G k < 256) (hw : w = W.alloc (.cells #[.int .u8 v] 5)) (hown : Own B W ao k cap G) (hB : B ≤ W.heap.size) (hk : k + 1 ≤ 140737488355328)
    (h : ∀ ao' cap' w', Own B w' ao' (k + 1) cap' G → Below B W w' → wpList Try.prog ops Q rest (a.put o.dst (.slice ao' (k + 1) cap')) w') :
    wpList Try.prog ops Q (o :: rest) a w := by
  obtain ⟨i0, hi, hz0, hz1, hz2⟩ := info_parts Try.info5
  subst hw hv
  refine wpList_append_own _ hgd s x 22 ho B 5 i0 (.int .u8 0) 1 1 Try.underlying22 hi hz0 hz1 hz2 rfl (by decide) _ _ _ hs (hown.own.alloc _) _ 1 1 [.int .u8 (G k : Nat)] hx rfl (cell_one_new _ _ _) (by simp [Value.oneCell']) (by unfold maxLen; omega) (by omega) (by simp; omega) ?_
  intro v' w2 ho2 hgr hnn
  have hb2 : Below B W w2 := ((Below.refl _ _).alloc hB _).grown hgr (by simp; omega) (by
    intro q hq
    rcases hown.own.2 with ⟨h', _⟩ | ⟨g, c, cur, h', hg, _⟩
    · rw [h'] at hq; simp [Value.ownBlock] at hq
    · rw [h'] at hq; simp [Value.ownBlock] at hq; omega)
  rcases ho2.2 with ⟨h', h0⟩ | ⟨g, c, cur, h', hrest⟩
  · omega
  · subst h'
    refine h _ _ w2 ⟨fun i hi => ?_, by rw [row_succ]; exact ho2⟩ hb2
    by_cases e : i = k
    · subst e; exact hG
    · exact hown.small i (by omega)
theorem shr_val (x t : Nat) : IntKind.u8.wrap ((x : Int) / 2 ^ (8 * t)) = ((x / 256 ^ t % 256 : Nat) : Int) := by
  have e8 : (2 : Nat) ^ (8 * t) = 256 ^ t := by rw [Nat.pow_mul]
  have e : (x : Int) / 2 ^ (8 * t) = ((x / 256 ^ t : Nat) : Int) := by rw [← e8, Int.natCast_ediv, Int.natCast_pow]; rfl
  rw [e, IntKind.wrap_u8, Int.natCast_emod]; rfl
set_option maxHeartbeats 2000000 in
/-- The reference's Num. -/
theorem fnum_any (ao : Option Addr) (lb cap : Nat) (f : Nat → Nat) (z : Int) (ax : Option Addr) (ll lc : Nat) (xs : Nat → Nat) (w : World) (hr : Rd w ao lb f) (hx : RdU w ax ll xs) (h1 : -9223372036854775808 ≤ z) (h2 : z ≤ 9223372036854775807)
    (hb : lb + szB z * ll ≤ 140737488355328) (hll : (ll : Int) ≤ 9223372036854775807) (hnil : (ao = none ∧ lb = 0 ∧ cap = 0) ∨ ∃ a, ao = some a) :
    Calls Try.prog 14 #[.slice ao lb cap, .int .i64 z, .slice ax ll lc] w (RetB w (lb + szB z * ll) (putB lb (szB z) f xs)) := by
  have hs := szB_le z
  have hsz := fun w => sized_any z w h1 h2
  have HG : Hid (∀ i, putB lb (szB z) f xs i < 256) := putB_lt hr.small
  have HGA : Hid (∀ j i, i < szB z → putB lb (szB z) f xs (lb + (szB z * j + i)) = xs j / 256 ^ i % 256) := fun j i => putB_at j i
  have hG0 : ∀ i, i < lb → f i = putB lb (szB z) f xs i := fun i hi => by simp [putB, hi]
  generalize putB lb (szB z) f xs = G at *
  generalize szB z = s at *
  clear h1 h2
  have HC : Hid (∀ j t : Nat, j < ll → t < s → lb + (s * j + t) + 1 ≤ lb + s * ll) := by
    intro j t hj ht
    have : s * (j + 1) ≤ s * ll := Nat.mul_le_mul_left _ hj
    rw [Nat.mul_succ] at this
    omega
  have HB : Hid (lb + s * ll ≤ 140737488355328) := hb
  have hlb : lb ≤ 140737488355328 := by omega
  clear hb
  go_enter Try.func14, Try.ntmps14
  go_wp2_with (refine append_first rfl (.tmp 10) (.tmp 11) rfl (ao := ao) (n := lb) (cap := cap) (f := f) rfl rfl hr hlb hnil ?_; intro ao1 cap1 w1 hown hbel)
  replace hown := hown.congr hG0
  clear hG0 hr
  go_loopw [7, 8] (fun v i wr => ∃ (j : Nat) (ao' : Option Addr) (cap' : Nat), j ≤ ll ∧ i = .int .i64 j ∧ v = .slice ao' (lb + s * j) cap' ∧ Own w.heap.size wr ao' (lb + s * j) cap' G ∧ Below w.heap.size w wr) (fun _ i _ => ll - (intOf i).toNat)
  case atStart => exact ⟨0, ao1, cap1, Nat.zero_le _, rfl, rfl, hown, hbel⟩
  case round =>
    obtain ⟨j, ao2, cap2, hj, rfl, rfl, hown2, hbel2⟩ := hrel
    clear hown hbel
    by_cases hlt : j < ll
    · obtain ⟨b, off, rfl, hbb, hc⟩ := hx.at_ (by omega)
      have t0 : w.cell? ⟨b, off + j, none⟩ = some (.int .u64 (xs j : Nat)) := hc j hlt
      have hji : (j : Int) < (ll : Int) := by omega
      have hv := hx.small j hlt
      clear hc
      go_wp2_with fail
      go_loopw [7, 9] (fun v i wx => ∃ (t : Nat) (ao' : Option Addr) (cap' : Nat), t ≤ s ∧ i = .int .i64 t ∧ v = .slice ao' (lb + (s * j + t)) cap' ∧ Own w.heap.size wx ao' (lb + (s * j + t)) cap' G ∧ Below w.heap.size w wx) (fun _ i _ => s - (intOf i).toNat)
      case atStart => exact ⟨0, ao2, cap2, Nat.zero_le _, rfl, rfl, hown2, hbel2⟩
      case round =>
        obtain ⟨t, ao3, cap3, ht, rfl, rfl, hown3, hbel3⟩ := hrel
        clear hown2 hbel2
        go_wp2_with fail
        refine (hsz _).mono ?_
        rintro e w' ⟨rfl, rfl⟩
        by_cases hts : t < s
        · have hti : (t : Int) < (s : Int) := by omega
          have ht8 : (t : Int) < 8 := by omega
          have hcap := HC.out j t hlt hts
          have HCP : Hid (lb + (s * j + t) + 1 ≤ 140737488355328) := by have := HB.out; unfold Hid; omega
          have t1 : w'.cell? ⟨b, off + j, none⟩ = some (.int .u64 (xs j : Nat)) := by rw [hbel3.cell (p := ⟨b, off + j, none⟩) hbb]; exact t0
          have hsv : IntKind.u8.wrap ((xs j : Int) / 2 ^ (8 * t)) = ((G (lb + (s * j + t)) : Nat) : Int) := by rw [shr_val, HGA.out j t hts]
          have EK : Hid (lb + (s * j + (t + 1)) = lb + (s * j + t) + 1) := by unfold Hid; omega
          clear hcap
          generalize lb + (s * j + t) = k at *
          go_wp2_with (refine append_byte (W := w') rfl (.tmp 25) (.tmp 35) rfl (B := w.heap.size) (ao := ao3) (k := k) (cap := cap3) (G := G) (v := ((G k : Nat) : Int)) rfl rfl rfl (HG.out k) rfl hown3 hbel3.size HCP.out ?_; intro ao4 cap4 w4 hown4 hb4)
          refine ⟨⟨t + 1, ao4, cap4, by omega, by go_num, by rw [EK.out], ?_, hbel3.trans hb4⟩, by simp [intOf]; omega⟩
          rw [EK.out]
          exact hown4
        · obtain rfl : t = s := by omega
          have ek : lb + (t * j + t) = lb + t * (j + 1) := by rw [Nat.mul_succ]
          rw [ek] at hown3 ⊢
          clear ek
          go_wp2
          exact ⟨⟨j + 1, ao3, cap3, by omega, by go_num, rfl, hown3, hbel3⟩, by simp [intOf]; omega⟩
    · obtain rfl : j = ll := by omega
      go_wp2
      go_ret
      exact ⟨_, _, rfl, hown2, hbel2⟩
set_option maxHeartbeats 800000 in
/-- The reference's One. -/
theorem fone_any (ao : Option Addr) (n cap : Nat) (f : Nat → Nat) (z : Int) (x : Nat) (w : World) (hr : Rd w ao n f) (hx : x < 18446744073709551616) (h1 : -9223372036854775808 ≤ z) (h2 : z ≤ 9223372036854775807) (hn : n + 8 ≤ 140737488355328) (hnil : (ao = none ∧ n = 0 ∧ cap = 0) ∨ ∃ a, ao = some a) :
    Calls Try.prog 37 #[.slice ao n cap, .int .i64 z, .int .u64 (x : Nat)] w (RetB w (n + szB z) (putB n (szB z) f fun _ => x)) := by
  have hs := szB_le z
  have hnum := fnum_any ao n cap f z (some ⟨w.heap.size, 0, none⟩) 1 1 (fun _ => x) _ (hr.below ((Below.refl _ w).alloc (Nat.le_refl _) (.cells #[.int .u64 (x : Nat)] 37))) (rdu_one _ x hx) h1 h2 (by omega) (by decide) hnil
  rw [Nat.mul_one] at hnum
  go_enter Try.func37, Try.ntmps37
  go_wp2_with fail
  refine hnum.mono ?_
  rintro e w2 ⟨ao2, cap2, rfl, hown, hb⟩
  clear hnum
  go_wp2
  go_ret
  exact ⟨_, _, rfl, hown.mono (by simp), ((Below.refl _ _).alloc (Nat.le_refl _) _).trans (hb.mono (by simp))⟩
end Go.Proofs.Ytnjnaihogbnmaaa
