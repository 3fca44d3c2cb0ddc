/- What is written and read again: plain facts, and the reader's calls that don't fail. -/
import Derived.Test.YtnjnaihogbnmaaaFr
namespace Go.Proofs.Ytnjnaihogbnmaaa
open Go.RowKit
theorem num_is {w : World} {b : Nat} {ao : Option Addr} {n cap : Nat} {f : Nat → Nat} (h : Rdr w b ao n cap f 0) (x : Nat) (hn : 8 ≤ n) (hx : numB f 8 = x) :
    Calls Try.prog 31 #[.pointer (some ⟨b, 0, none⟩), .int .i64 8, .int .u64 (x : Nat)] w fun en w' => en = .returned (.int .u64 (x : Nat)) ∧ RetR w b (n - 8) (fun i => f (8 + i)) 0 w' := by
  have h0 := num_r h 8 x (by decide) (by decide)
  rw [show szB 8 = 8 from rfl] at h0
  refine h0.mono ?_
  rintro en w' ⟨y, n', f', e', rfl, hs, hr⟩
  rcases hs with ⟨h1, _⟩ | ⟨_, h1, _⟩ | ⟨_, _, h1, _⟩ | ⟨_, _, _, rfl, rfl, rfl, rfl⟩
  · exact absurd rfl h1
  · omega
  · omega
  · rw [hx]; exact ⟨rfl, hr⟩
def RetStrIs (w : World) (b k n : Nat) (f : Nat → Nat) (en : Ending) (w' : World) : Prop :=
  ∃ ao cap, en = .returned (.slice ao k cap) ∧ Rd w' ao k (fun i => f (4 + i)) ∧ RetR w b (n - 4 - k) (fun i => f (4 + (k + i))) 0 w'
theorem str_is {w : World} {b : Nat} {ao : Option Addr} {n cap : Nat} {f : Nat → Nat} (h : Rdr w b ao n cap f 0) (k : Nat) (hn : 4 ≤ n) (hk : numB f 4 = k) (hm : k ≤ 16777216) (hkn : k ≤ n - 4) (hnm : n ≤ 140737488355328) :
    Calls Try.prog 32 #[.pointer (some ⟨b, 0, none⟩), .int .i64 (k : Nat)] w (RetStrIs w b k n f) := by
  refine (str_r h (k : Int) hnm).mono ?_
  rintro en w' ⟨ao', k', cap', g, n', f', e', rfl, hs, ho, hr⟩
  have hM : strM (k : Int) = k := by unfold strM; split <;> omega
  rw [hM] at hs
  rcases hs with ⟨h1, _⟩ | ⟨_, h1, _⟩ | ⟨_, _, h1, _⟩ | ⟨_, _, _, h1, _⟩ | ⟨_, _, _, _, rfl, rfl, rfl, rfl, rfl⟩
  · exact absurd rfl h1
  · omega
  · omega
  · omega
  · subst hk
    exact ⟨ao', cap', rfl, ho.rd, hr⟩
def RetSetIs (w : World) (b m L n : Nat) (f : Nat → Nat) (en : Ending) (w' : World) : Prop :=
  ∃ ao cap, en = .returned (.agg #[.int .i64 (m : Nat), .slice ao L cap]) ∧ RdU w' ao L (wdB f) ∧ RetR w b (n - 8 * L) (fun i => f (8 * L + i)) 0 w'
theorem set_is {w : World} {b : Nat} {ao : Option Addr} {n cap : Nat} {f : Nat → Nat} (h : Rdr w b ao n cap f 0) (m L : Nat) (hn : 8 * L ≤ n) (hok : Ok m L (wdB f)) :
    Calls Try.prog 34 #[.pointer (some ⟨b, 0, none⟩), .int .i64 (m : Nat)] w (RetSetIs w b m L n f) := by
  have h0 := hok
  obtain ⟨h1, h2, h3, _⟩ := h0
  refine (set_loop h m L (by omega) (by omega)).mono ?_
  rintro en w' ⟨n', f', e', hr, (⟨_, hno⟩ | ⟨ao', cap', rfl, hd, _, _, _, rfl, rfl, rfl⟩)⟩
  · rcases hno with ⟨h1, _⟩ | ⟨_, h1, _⟩ | ⟨_, _, h1, _⟩
    · exact absurd rfl h1
    · omega
    · exact absurd hok h1
  · exact ⟨ao', cap', rfl, hd, hr⟩
/-- All that is written: numbers of eight bytes, a string, words. -/
def allB (l2 l3 : Nat) (f2 f3 f5 : Nat → Nat) : Nat → Nat := putB (8 * l2 + 4 + l3) 8 (strB (8 * l2) l3 (putB 0 8 (fun _ => 0) f2) f3) f5
theorem all_num {l2 l3 : Nat} {f2 f3 f5 : Nat → Nat} {j : Nat} (hj : j < l2) (h : f2 j < 18446744073709551616) : numB (fun i => allB l2 l3 f2 f3 f5 (8 * j + i)) 8 = f2 j := by
  rw [numB_congr (g := fun i => f2 j / 256 ^ i % 256) fun i hi => ?_, numB_digits, Nat.mod_eq_of_lt h]
  unfold allB
  rw [putB_low (by omega), strB_low (by omega), putB_low (by omega)]
  have := putB_at (n := 0) (s := 8) (f := fun _ => 0) (xs := f2) j i hi
  rwa [Nat.zero_add] at this
theorem all_len {l2 l3 : Nat} {f2 f3 f5 : Nat → Nat} (h : l3 ≤ 16777216) : numB (fun i => allB l2 l3 f2 f3 f5 (8 * l2 + i)) 4 = l3 := by
  rw [numB_congr (g := fun i => l3 / 256 ^ i % 256) fun i hi => ?_, numB_digits, Nat.mod_eq_of_lt (by omega)]
  unfold allB
  rw [putB_low (by omega), strB_low (by omega)]
  have := putB_at (n := 8 * l2) (s := 4) (f := putB 0 8 (fun _ => 0) f2) (xs := fun _ => l3) 0 i hi
  rwa [Nat.mul_zero, Nat.zero_add] at this
theorem all_str {l2 l3 : Nat} {f2 f3 f5 : Nat → Nat} {i : Nat} (hi : i < l3) : allB l2 l3 f2 f3 f5 (8 * l2 + (4 + i)) = f3 i := by
  unfold allB
  rw [putB_low (by omega), strB_high (by omega)]
  congr 1
  omega
theorem all_word {l2 l3 : Nat} {f2 f3 f5 : Nat → Nat} {j : Nat} (h : f5 j < 18446744073709551616) : wdB (fun i => allB l2 l3 f2 f3 f5 (8 * l2 + (4 + (l3 + i)))) j = f5 j := by
  unfold wdB
  rw [numB_congr (g := fun i => f5 j / 256 ^ i % 256) fun i hi => ?_, numB_digits, Nat.mod_eq_of_lt h]
  show allB l2 l3 f2 f3 f5 (8 * l2 + (4 + (l3 + (8 * j + i)))) = _
  unfold allB
  have := putB_at (n := 8 * l2 + 4 + l3) (s := 8) (f := strB (8 * l2) l3 (putB 0 8 (fun _ => 0) f2) f3) (xs := f5) j i hi
  rwa [show 8 * l2 + (4 + (l3 + (8 * j + i))) = 8 * l2 + 4 + l3 + (8 * j + i) by omega]
end Go.Proofs.Ytnjnaihogbnmaaa
