/- Set; BytesOne: the walks. -/
import Derived.Test.YtnjnaihogbnmaaaNe
namespace Go.Proofs.Ytnjnaihogbnmaaa
open Go.RowKit
set_option maxHeartbeats 1000000 in
/-- Set of a set that may be. -/
theorem set_ok (ao : Option Addr) (n cap : Nat) (f : Nat → Nat) (m : Int) (ax : Option Addr) (L cx : Nat) (h : Nat → Nat) (w : World) (hr : Rd w ao n f) (hx : RdU w ax L h) (hok : Ok m L h) (hm : n + 8 * L ≤ 281474976710656) :
    Calls Try.prog 17 #[.slice ao n cap, .agg #[.int .i64 m, .slice ax L cx]] w (RetB w (n + 8 * L) (putB n 8 f h)) := by
  have ha : Below w.heap.size w (w.alloc (.cells #[.int .i64 m, .slice ax L cx] 25)) := (Below.refl _ _).alloc (Nat.le_refl _) _
  have hL : (L : Int) ≤ 128 := by obtain ⟨h1, h2, h3, _⟩ := hok; omega
  go_enter Try.func17, Try.ntmps17
  go_wp2_with fail
  refine (check_ok m ax L cx h _ (hx.below ha) hok).mono ?_
  rintro en w1 ⟨rfl, hb⟩
  have hb1 : Below w.heap.size w w1 := ha.trans (hb.mono (by simp))
  have hbox := (Box.new w (.int .i64 m) (.slice ax L cx)).below hb
  obtain ⟨c0, c1, c2, c3⟩ := hbox.cells
  have hnum := num_any ao n cap f 8 ax L cx h w1 (hr.below hb1) (hx.below hb1) (by decide) (by decide) (by rw [show szB 8 = 8 from rfl]; omega) (by omega)
  rw [show szB 8 = 8 from rfl] at hnum
  go_wp2_with fail
  refine hnum.mono ?_
  rintro en w2 ⟨ao2, cap2, rfl, hown, hb2⟩
  clear hnum c0 c1 c2 c3 hbox
  go_wp2
  go_ret
  exact ⟨_, _, rfl, hown.mono hb1.size, hb1.trans (hb2.mono hb1.size)⟩
/-- The digits of the number of some bytes are they. -/
theorem digit_numB {f : Nat → Nat} {n i : Nat} (h : ∀ j, j < n → f j < 256) (hi : i < n) : numB f n / 256 ^ i % 256 = f i := by
  induction n with
  | zero => omega
  | succ n ih =>
    have hl := numB_lt (f := f) (n := n) fun j hj => h j (by omega)
    rw [numB]
    by_cases e : i = n
    · subst e
      rw [Nat.add_mul_div_right _ _ (Nat.pow_pos (by decide)), Nat.div_eq_of_lt hl, Nat.zero_add, Nat.mod_eq_of_lt (h i (by omega))]
    · have h1 := ih (fun j hj => h j (by omega)) (by omega)
      have e2 : f n * 256 ^ n = f n * 256 ^ (n - i - 1) * 256 * 256 ^ i := by
        rw [Nat.mul_assoc, Nat.mul_assoc, ← Nat.pow_succ', ← Nat.pow_add]
        congr 2
        omega
      rw [e2, Nat.add_mul_div_right _ _ (Nat.pow_pos (by decide)), Nat.add_mul_mod_self_right, h1]
theorem putB_low {n s : Nat} {f xs : Nat → Nat} {i : Nat} (h : i < n) : putB n s f xs i = f i := by unfold putB; rw [if_pos h]
theorem putB_high {n s : Nat} {f xs : Nat → Nat} {i : Nat} (h : ¬ i < n) : putB n s f xs i = xs ((i - n) / s) / 256 ^ ((i - n) % s) % 256 := by unfold putB; rw [if_neg h]
theorem strB_low {n lx : Nat} {f g : Nat → Nat} {i : Nat} (h : i < n + 4) : strB n lx f g i = putB n 4 f (fun _ => lx) i := by unfold strB; rw [if_pos h]
theorem strB_high {n lx : Nat} {f g : Nat → Nat} {i : Nat} (h : ¬ i < n + 4) : strB n lx f g i = g (i - (n + 4)) := by unfold strB; rw [if_neg h]
/-- What is read to the end is what is written. -/
theorem one_same {N : Nat} {f : Nat → Nat} (hf : ∀ i, i < N → f i < 256) {k L : Nat} (hN : N = 2 + 4 + k + 8 * L) (hk : k = numB (fun i => f (2 + i)) 4) (i : Nat) (hi : i < N) :
    putB (2 + 4 + k) 8 (strB 2 k (putB 0 2 (fun _ => 0) fun _ => numB f 2) (fun i => f (2 + (4 + i)))) (wdB (fun i => f (2 + (4 + (k + i))))) i = f i := by
  by_cases h1 : i < 2 + 4 + k
  · rw [putB_low h1]
    by_cases h2 : i < 2 + 4
    · rw [strB_low h2]
      by_cases h3 : i < 2
      · rw [putB_low h3, putB_high (by omega)]
        have e2 : (i - 0) % 2 = i := by omega
        rw [e2]
        exact digit_numB (fun j hj => hf j (by omega)) h3
      · rw [putB_high h3]
        have e2 : (i - 2) % 4 = i - 2 := by omega
        rw [e2, hk, digit_numB (f := fun i => f (2 + i)) (fun j hj => hf _ (by omega)) (show i - 2 < 4 by omega)]
        congr 1
        omega
    · rw [strB_high h2]
      show f (2 + (4 + (i - (2 + 4)))) = f i
      congr 1
      omega
  · rw [putB_high h1]
    have hj : (i - (2 + 4 + k)) % 8 < 8 := Nat.mod_lt _ (by decide)
    unfold wdB
    rw [digit_numB (f := fun i_1 => f (2 + (4 + (k + (8 * ((i - (2 + 4 + k)) / 8) + i_1))))) (fun j hj => hf _ (by omega)) hj]
    congr 1
    omega
end Go.Proofs.Ytnjnaihogbnmaaa
