/- Num, Seal: the walks. -/
import Derived.Test.YtnjnaihogbnmaaaEq
import Derived.Maps.AppendAt
namespace Go.Proofs.Ytnjnaihogbnmaaa
open Go.RowKit
theorem own_start {w : World} {g lb C : Nat} {f G : Nat → Nat} {cur : List Value} (B : Nat) (hB : B ≤ g) (hr : ∀ i, i < lb → f i < 256) (he : ∀ i, i < lb → f i = G i) (hlen : cur.length = C) (hC : lb ≤ C) (hm : C ≤ maxLen)
    (h : w.heap[g]? = some (.cells (splice cur 0 (row f lb)).toArray 5 (0, 0))) : Own B w (some ⟨g, 0, none⟩) lb C G := by
  refine Own.congr (f := f) ⟨hr, by simp [row_length], .inr ⟨g, C, _, rfl, hB, h, hC, hm, ?_, ?_⟩⟩ he
  · have := length_splice cur 0 (row f lb) (by rw [row_length]; omega)
    simp [this, hlen]
  · simp [splice, row_length]
theorem own_more {B : Nat} {w : World} {g k C : Nat} {G : Nat → Nat} (hG : ∀ i, G i < 256) (h : w.ownsRow B 5 1 (.slice (some ⟨g, 0, none⟩) (k + 1) C) (k + 1) (row G k ++ [.int .u8 (G k : Nat)])) : Own B w (some ⟨g, 0, none⟩) (k + 1) C G :=
  ⟨fun i _ => hG i, by rw [row_succ]; exact h⟩
/-- The copy of bytes into a new block with room. -/
theorem copy_in {w : World} {ops : Array Oper} {rest : List Oper} {o : Oper} {a : Act} {Q : Exit → Act → World → Prop} (hgd : o.guard = none) (d s : Operand)
    (ho : o.op = .call { callee := .builtin .copy, args := #[d, s], argTypes := #[22, 22] }) {ao : Option Addr} {lb cap C : Nat} {f G : Nat → Nat}
    (hd : a.eval d = .slice (some ⟨w.heap.size, 0, none⟩) lb C) (hs : a.eval s = .slice ao lb cap) (hr : Rd w ao lb f) (he : ∀ i, i < lb → f i = G i) (hC : lb ≤ C) (hm : C ≤ maxLen)
    (h : ∀ w', Own w.heap.size w' (some ⟨w.heap.size, 0, none⟩) lb C G → Below w.heap.size w w' → wpList Try.prog ops Q rest (a.put o.dst (goInt lb)) w') :
    wpList Try.prog ops Q (o :: rest) a (w.alloc (.cells (madeCells #[.int .u8 0] C) 5)) := by
  have hbel : Below w.heap.size w (w.alloc (.cells (madeCells #[.int .u8 0] C) 5)) := (Below.refl _ _).alloc (Nat.le_refl _) _
  have hlen : (madeCells #[Value.int .u8 0] C).toList.length = C := by rw [toList_madeCells_one]; simp
  refine wpList_copy_splice hgd d s 22 22 ho 5 Try.underlying22 Try.size5 _ _ _ _ _ _ hd hs w.heap.size 0 (madeCells #[.int .u8 0] C).toList 5 ?_ (row f lb) (by simp [row_length]) ?_ ?_ (row_one _ _) w.heap.size w hbel (Nat.le_refl _) ?_
  · rw [Array.toArray_toList]; exact heap_alloc_new w _
  · intro hl
    rw [row_length] at hl
    obtain ⟨b, off, e, hb, hc⟩ := hr.at_ hl
    refine ⟨rfl, ⟨b, off, none⟩, e, fun j v hj => ?_⟩
    obtain ⟨hjl, rfl⟩ := row_some hj
    have hcj := hc j hjl
    rw [hbel.cell (by by_cases h0 : j = 0 <;> simpa [Addr.add, h0] using hb)]
    by_cases h0 : j = 0
    · subst h0; simpa [Addr.add] using hcj
    · simpa [Addr.add, h0] using hcj
  · rw [row_length, hlen]; omega
  · intro w' hrow hb'
    rw [row_length]
    exact h w' (own_start w.heap.size (Nat.le_refl _) hr.small he hlen hC hm hrow.out) hb'
set_option maxHeartbeats 2000000 in
/-- Num. -/
theorem num_any (ao : Option Addr) (lb cap : Nat) (f : Nat → Nat) (z : Int) (ax : Option Addr) (ll lc : Nat) (xs : Nat → Nat) (w : World) (hr : Rd w ao lb f) (hx : RdU w ax ll xs) (h1 : -9223372036854775808 ≤ z) (h2 : z ≤ 9223372036854775807)
    (hb : lb + szB z * ll ≤ 281474976710656) (hll : (ll : Int) ≤ 9223372036854775807) :
    Calls Try.prog 13 #[.slice ao lb cap, .int .i64 z, .slice ax ll lc] w (RetB w (lb + szB z * ll) (putB lb (szB z) f xs)) := by
  obtain ⟨i0, hi, hz0, hz1, hz2⟩ := info_parts Try.info5
  have hs := szB_le z
  go_enter Try.func13, Try.ntmps13
  go_wp2_with fail
  refine (sizeOf_any z _ h1 h2).mono ?_
  rintro e w1 ⟨rfl, rfl⟩
  have hG : ∀ i, putB lb (szB z) f xs i < 256 := putB_lt hr.small
  have hGA : ∀ j i, i < szB z → putB lb (szB z) f xs (lb + (szB z * j + i)) = xs j / 256 ^ i % 256 := fun j i => putB_at j i
  have hG0 : ∀ i, i < lb → f i = putB lb (szB z) f xs i := fun i hi => by simp [putB, hi]
  generalize putB lb (szB z) f xs = G at *
  generalize szB z = s at *
  clear h1 h2
  have hm0 : (0 : Int) ≤ (s : Int) * (ll : Int) := Int.mul_nonneg (by omega) (by omega)
  have hm1 : (lb : Int) + (s : Int) * (ll : Int) ≤ 281474976710656 := by
    have : ((lb + s * ll : Nat) : Int) ≤ 281474976710656 := by omega
    simpa using this
  have hmax : lb + s * ll ≤ maxLen := by unfold maxLen; omega
  go_wp2_with (first
    | (at_make; refine wpList_make_room rfl _ _ 22 rfl 5 i0 (.int .u8 0) Try.underlying22 hi hz0 hz1 .i64 .i64 _ _ lb (lb + s * ll) rfl rfl rfl (by simp) (by omega) (by rw [hz2]; omega) (by omega) ?_)
    | (refine copy_in rfl (.tmp 22) (.tmp 23) rfl (ao := ao) (lb := lb) (cap := cap) (C := lb + s * ll) (f := f) (G := G) rfl rfl hr hG0 (by omega) hmax ?_; intro w2 hown hbel))
  clear hb hmax hG0
  have hbel' : Below w1.heap.size w1 w2 := hbel
  have hC : ∀ j t : Nat, j < ll → t < s → lb + (s * j + t) + 1 ≤ lb + s * ll := by
    intro j t hj ht
    have : s * (j + 1) ≤ s * ll := Nat.mul_le_mul_left _ hj
    rw [Nat.mul_succ] at this
    omega
  have HC : Hid (∀ j t : Nat, j < ll → t < s → lb + (s * j + t) + 1 ≤ lb + s * ll) := hC
  have HGA : Hid (∀ j i, i < s → G (lb + (s * j + i)) = xs j / 256 ^ i % 256) := hGA
  have HG : Hid (∀ i, G i < 256) := hG
  clear hC hGA hG hm0 hm1
  go_loopw [7, 27] (fun v i wr => ∃ j : Nat, j ≤ ll ∧ i = .int .i64 j ∧ v = .slice (some ⟨w1.heap.size, 0, none⟩) (lb + s * j) (lb + s * ll) ∧ Own w1.heap.size wr (some ⟨w1.heap.size, 0, none⟩) (lb + s * j) (lb + s * ll) G ∧ Below w1.heap.size w1 wr) (fun _ i _ => ll - (intOf i).toNat)
  case atStart => exact ⟨0, Nat.zero_le _, rfl, rfl, hown, hbel⟩
  case round =>
    obtain ⟨j, hj, rfl, rfl, hown, hbel⟩ := hrel
    by_cases hlt : j < ll
    · obtain ⟨b, off, rfl, hbb, hc⟩ := hx.at_ (by omega)
      have t1 : wr.cell? ⟨b, off + j, none⟩ = some (.int .u64 (xs j : Nat)) := by rw [hbel.cell (p := ⟨b, off + j, none⟩) hbb]; exact hc j hlt
      have hv := hx.small j hlt
      have hji : (j : Int) < (ll : Int) := by omega
      clear hc
      go_wp2_with fail
      go_loopw [7, 9, 32] (fun v x i wx => ∃ t X : Nat, t ≤ s ∧ i = .int .i64 t ∧ X = xs j / 256 ^ t ∧ x = .int .u64 X ∧ v = .slice (some ⟨w1.heap.size, 0, none⟩) (lb + (s * j + t)) (lb + s * ll) ∧ Own w1.heap.size wx (some ⟨w1.heap.size, 0, none⟩) (lb + (s * j + t)) (lb + s * ll) G ∧ Below w1.heap.size w1 wx) (fun _ _ i _ => s - (intOf i).toNat)
      case atStart => exact ⟨0, xs j, Nat.zero_le _, rfl, by simp, rfl, rfl, hown, hbel⟩
      case round =>
        obtain ⟨t, X, ht, rfl, eX, rfl, rfl, hown2, hbel2⟩ := hrel
        have hX : X < 18446744073709551616 := by rw [eX]; exact Nat.lt_of_le_of_lt (Nat.div_le_self _ _) hv
        by_cases hts : t < s
        · have hti : (t : Int) < (s : Int) := by omega
          have hcap := HC.out j t hlt hts
          have eG : G (lb + (s * j + t)) = X % 256 := by rw [HGA.out j t hts, eX]
          have hw8 : IntKind.u8.wrap (X : Int) = ((G (lb + (s * j + t)) : Nat) : Int) := by rw [eG, IntKind.wrap_u8, Int.natCast_emod]; rfl
          have EX : Hid (X = xs j / 256 ^ t) := eX
          clear eX eG
          have ek : lb + (s * j + (t + 1)) = lb + (s * j + t) + 1 := by omega
          have EK : Hid (lb + (s * j + (t + 1)) = lb + (s * j + t) + 1) := ek
          clear ek
          generalize lb + (s * j + t) = k at *
          generalize lb + s * ll = C at *
          go_wp2_with (at_builtin; refine wpList_append_fits _ rfl (.tmp 34) (.tmp 37) 22 rfl w1.heap.size 5 i0 1 Try.underlying22 hi hz1 w1.heap.size k C (row G k) rfl (hown2.own.alloc _) _ 1 1 [.int .u8 (G k : Nat)] rfl rfl (cell_one_new _ _ _) (by simp [Value.oneCell']) hcap ?_; intro w3 hown3 hgr)
          have hb3 : Below w1.heap.size w1 w3 := (hbel2.alloc hbel2.size _).grown hgr (by have := hbel2.size; simp; omega) (by intro q hq; simp at hq; omega)
          refine ⟨⟨t + 1, X / 256, by omega, by go_num, by rw [EX.out, Nat.div_div_eq_div_mul, Nat.pow_succ], by rw [Int.natCast_ediv]; rfl, by rw [EK.out], ?_, hb3⟩, by simp [intOf]; omega⟩
          rw [EK.out]
          exact own_more HG.out hown3
        · obtain rfl : t = s := by omega
          have ek : lb + (t * j + t) = lb + t * (j + 1) := by rw [Nat.mul_succ]
          rw [ek] at hown2 ⊢
          clear ek
          go_wp2
          exact ⟨⟨j + 1, by omega, by go_num, rfl, hown2, hbel2⟩, by simp [intOf]; omega⟩
    · obtain rfl : j = ll := by omega
      go_wp2
      go_ret
      exact ⟨_, _, rfl, hown, hbel⟩
/-- One word in a new block. -/
theorem rdu_one (w : World) (x : Nat) (hx : x < 18446744073709551616) : RdU (w.alloc (.cells #[.int .u64 (x : Nat)] 37)) (some ⟨w.heap.size, 0, none⟩) 1 (fun _ => x) := by
  refine ⟨fun _ _ => hx, fun _ => ⟨w.heap.size, 0, rfl, by simp, fun i hi => ?_⟩⟩
  obtain rfl : i = 0 := by omega
  rw [cell_of_row _ w.heap.size (0 + 0) _ 37 (0, 0) (heap_alloc_new w _)]
  rfl
/-- What is sealed: the bytes, and the sum of them. -/
def sealB (n : Nat) (f : Nat → Nat) : Nat → Nat := putB n 8 f fun _ => sumB f n
theorem sealB_low {n : Nat} {f : Nat → Nat} {i : Nat} (h : i < n) : sealB n f i = f i := by simp [sealB, putB, h]
theorem sealB_high {n : Nat} {f : Nat → Nat} {i : Nat} (h : i < 8) : sealB n f (n + i) = sumB f n / 256 ^ i % 256 := by
  have := putB_at (n := n) (s := 8) (f := f) (xs := fun _ => sumB f n) 0 i h
  simpa [sealB] using this
set_option maxHeartbeats 1000000 in
/-- Seal. -/
theorem seal_any (ao : Option Addr) (n cap : Nat) (f : Nat → Nat) (w : World) (hr : Rd w ao n f) (hn : n ≤ 140737488355328) :
    Calls Try.prog 21 #[.slice ao n cap] w (RetB w (n + 8) (sealB n f)) := by
  have hS := sumB_lt f n
  go_enter Try.func21, Try.ntmps21
  go_wp2_with (go_at_call 19; refine (sum_any ao n cap f _ hr (by omega)).mono ?_; rintro e w1 ⟨rfl, rfl⟩; generalize hSS : sumB f n = S at *)
  have hnum := num_any ao n cap f 8 (some ⟨w1.heap.size, 0, none⟩) 1 1 (fun _ => S) _ (hr.below ((Below.refl _ w1).alloc (Nat.le_refl _) (.cells #[.int .u64 (S : Nat)] 37))) (rdu_one _ S hS) (by decide) (by decide) (by rw [show szB 8 = 8 from rfl]; omega) (by decide)
  rw [show szB 8 = 8 from rfl, Nat.mul_one] at hnum
  refine hnum.mono ?_
  rintro e w2 ⟨ao2, cap2, rfl, hown, hb⟩
  have hb2 : Below w1.heap.size w1 w2 := ((Below.refl _ _).alloc (Nat.le_refl _) _).trans (hb.mono (by simp))
  have hown2 : Own w1.heap.size w2 ao2 (n + 8) cap2 (sealB n f) := by
    have := hown.mono (B' := w1.heap.size) (by simp)
    unfold sealB; rw [hSS]; exact this
  clear hown hb hnum
  go_wp2
  go_ret
  exact ⟨_, _, rfl, hown2, hb2⟩
end Go.Proofs.Ytnjnaihogbnmaaa
