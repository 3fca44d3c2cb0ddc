/- Sums and numbers of bytes: plain facts, no program in them. -/
import Derived.WalkKit
import Derived.WalkLawsBesides
namespace Go.Proofs.Ytnjnaihogbnmaaa
open Go.RowKit
/-- The lower half of the sum of the first n bytes of f, the upper half, the sum. -/
def loB (f : Nat → Nat) : Nat → Nat
  | 0 => 1
  | n + 1 => (loB f n + f n) % 4294967291
def hiB (f : Nat → Nat) : Nat → Nat
  | 0 => 0
  | n + 1 => (hiB f n + loB f (n + 1)) % 4294967291
def sumB (f : Nat → Nat) (n : Nat) : Nat := hiB f n * 4294967296 + loB f n
theorem lo_lt (f : Nat → Nat) (n : Nat) : loB f n < 4294967291 := by
  cases n with
  | zero => simp [loB]
  | succ n => exact Nat.mod_lt _ (by decide)
theorem hi_lt (f : Nat → Nat) (n : Nat) : hiB f n < 4294967291 := by
  cases n with
  | zero => simp [hiB]
  | succ n => exact Nat.mod_lt _ (by decide)
theorem sumB_lt (f : Nat → Nat) (n : Nat) : sumB f n < 18446744073709551616 := by
  have := lo_lt f n
  have := hi_lt f n
  unfold sumB; omega
theorem sumB_lo (f : Nat → Nat) (n : Nat) : sumB f n % 4294967296 = loB f n := by
  have := lo_lt f n
  unfold sumB; omega
/-- All bytes together. -/
def tot (f : Nat → Nat) : Nat → Nat
  | 0 => 0
  | n + 1 => tot f n + f n
theorem lo_tot (f : Nat → Nat) (n : Nat) : loB f n = (1 + tot f n) % 4294967291 := by
  induction n with
  | zero => rfl
  | succ n ih => rw [loB, ih, tot]; omega
theorem tot_congr {f g : Nat → Nat} {n : Nat} (h : ∀ i, i < n → f i = g i) : tot f n = tot g n := by
  induction n with
  | zero => rfl
  | succ n ih => rw [tot, tot, ih (fun i hi => h i (by omega)), h n (by omega)]
theorem tot_one {f g : Nat → Nat} {n j : Nat} (hj : j < n) (h : ∀ i, i < n → i ≠ j → f i = g i) : tot f n + g j = tot g n + f j := by
  induction n with
  | zero => omega
  | succ n ih =>
    rw [tot, tot]
    by_cases e : j = n
    · subst e
      rw [tot_congr (f := f) (g := g) fun i hi => h i (by omega) (by omega)]; omega
    · have := ih (by omega) (fun i hi hn => h i (by omega) hn)
      have := h n (by omega) (by omega)
      omega
theorem lo_congr {f g : Nat → Nat} {n : Nat} (h : ∀ i, i < n → f i = g i) : loB f n = loB g n := by
  rw [lo_tot, lo_tot, tot_congr h]
theorem hi_congr {f g : Nat → Nat} {n : Nat} (h : ∀ i, i < n → f i = g i) : hiB f n = hiB g n := by
  induction n with
  | zero => rfl
  | succ n ih => rw [hiB, hiB, ih (fun i hi => h i (by omega)), lo_congr h]
theorem sumB_congr {f g : Nat → Nat} {n : Nat} (h : ∀ i, i < n → f i = g i) : sumB f n = sumB g n := by
  unfold sumB; rw [lo_congr h, hi_congr h]
/-- One byte that is another one makes another sum. -/
theorem sumB_one {f g : Nat → Nat} {n j : Nat} (hj : j < n) (h : ∀ i, i < n → i ≠ j → f i = g i) (hf : f j < 256) (hg : g j < 256) (hne : f j ≠ g j) : sumB f n ≠ sumB g n := by
  intro e
  have e2 : loB f n = loB g n := by rw [← sumB_lo, ← sumB_lo, e]
  rw [lo_tot, lo_tot] at e2
  have := tot_one hj h
  omega
/-- The number of n bytes, the lowest one first. -/
def numB (f : Nat → Nat) : Nat → Nat
  | 0 => 0
  | n + 1 => numB f n + f n * 256 ^ n
theorem numB_lt {f : Nat → Nat} {n : Nat} (h : ∀ i, i < n → f i < 256) : numB f n < 256 ^ n := by
  induction n with
  | zero => simp [numB]
  | succ n ih =>
    have h1 := ih fun i hi => h i (by omega)
    have h2 := h n (by omega)
    have h3 : f n * 256 ^ n ≤ 255 * 256 ^ n := Nat.mul_le_mul_right _ (by omega)
    rw [numB, Nat.pow_succ]; omega
theorem numB_congr {f g : Nat → Nat} {n : Nat} (h : ∀ i, i < n → f i = g i) : numB f n = numB g n := by
  induction n with
  | zero => rfl
  | succ n ih => rw [numB, numB, ih (fun i hi => h i (by omega)), h n (by omega)]
theorem numB_digits (x n : Nat) : numB (fun i => x / 256 ^ i % 256) n = x % 256 ^ n := by
  induction n with
  | zero => simp [numB, Nat.mod_one]
  | succ n ih => rw [numB, ih, Nat.pow_succ, Nat.mod_mul, Nat.mul_comm]
theorem numB_inj {f g : Nat → Nat} {n : Nat} (hf : ∀ i, i < n → f i < 256) (hg : ∀ i, i < n → g i < 256) (e : numB f n = numB g n) : ∀ i, i < n → f i = g i := by
  induction n with
  | zero => intro i hi; omega
  | succ n ih =>
    have a1 := numB_lt (f := f) (n := n) fun i hi => hf i (by omega)
    have a2 := numB_lt (f := g) (n := n) fun i hi => hg i (by omega)
    rw [numB, numB] at e
    have hp : 0 < 256 ^ n := Nat.pow_pos (by decide)
    have e1 : f n = g n := by
      have d1 : (numB f n + f n * 256 ^ n) / 256 ^ n = f n := by rw [Nat.add_mul_div_right _ _ hp, Nat.div_eq_of_lt a1, Nat.zero_add]
      have d2 : (numB g n + g n * 256 ^ n) / 256 ^ n = g n := by rw [Nat.add_mul_div_right _ _ hp, Nat.div_eq_of_lt a2, Nat.zero_add]
      rw [← d1, ← d2, e]
    have e2 : numB f n = numB g n := by rw [e1] at e; omega
    intro i hi
    by_cases h : i = n
    · subst h; exact e1
    · exact ih (fun i hi => hf i (by omega)) (fun i hi => hg i (by omega)) e2 i (by omega)
/-- What stands behind n bytes f when the numbers xs of s bytes each are put there. -/
def putB (n s : Nat) (f xs : Nat → Nat) (i : Nat) : Nat := if i < n then f i else xs ((i - n) / s) / 256 ^ ((i - n) % s) % 256
theorem putB_lt {n s : Nat} {f xs : Nat → Nat} (hf : ∀ i, i < n → f i < 256) (i : Nat) : putB n s f xs i < 256 := by
  unfold putB; split
  · exact hf i (by assumption)
  · exact Nat.mod_lt _ (by decide)
theorem putB_at {n s : Nat} {f xs : Nat → Nat} (j i : Nat) (hi : i < s) : putB n s f xs (n + (s * j + i)) = xs j / 256 ^ i % 256 := by
  have e1 : (s * j + i) / s = j := by rw [Nat.mul_add_div (by omega), Nat.div_eq_of_lt hi, Nat.add_zero]
  have e2 : (s * j + i) % s = i := by rw [Nat.mul_add_mod, Nat.mod_eq_of_lt hi]
  unfold putB
  rw [if_neg (by omega), Nat.add_sub_cancel_left, e1, e2]
/-- The size that is meant. -/
def szB (z : Int) : Nat := if z < 1 then 1 else if 8 < z then 8 else z.toNat
theorem szB_le (z : Int) : 1 ≤ szB z ∧ szB z ≤ 8 := by unfold szB; split <;> (try split) <;> omega
/-- x with one bit pattern put over it is another byte, but for none. -/
theorem xor_ne {x y : Nat} (h : y ≠ 0) : x ^^^ y ≠ x := by
  intro e
  apply h
  have : x ^^^ (x ^^^ y) = x ^^^ x := by rw [e]
  rwa [← Nat.xor_assoc, Nat.xor_self, Nat.zero_xor] at this
end Go.Proofs.Ytnjnaihogbnmaaa
