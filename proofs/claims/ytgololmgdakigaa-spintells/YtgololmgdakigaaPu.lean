/- Fingerprints of parts: plain. -/
import Derived.Test.YtgololmgdakigaaOf
import Derived.Test.YtgololmgdakigaaCc
namespace Go.Proofs.Ytgololmgdakigaa
theorem q4 (q : Int) : q % 4 = 0 ∨ q % 4 = 1 ∨ q % 4 = 2 ∨ q % 4 = 3 := by omega
theorem tn_pl (p q : Int × Int) (k : Int) : tn (pl p q) k = pl (tn p k) (tn q k) := by
  obtain ⟨x, y⟩ := p
  obtain ⟨s, t⟩ := q
  rcases q4 k with h | h | h | h <;> simp [tn, pl, h, Int.neg_add]
theorem tn_tn (p : Int × Int) (j k : Int) : tn (tn p j) k = tn p (j + k) := by
  obtain ⟨x, y⟩ := p
  rcases q4 j with h | h | h | h <;> rcases q4 k with g | g | g | g
  · have e : (j + k) % 4 = 0 := by omega
    simp [tn, h, g, e]
  · have e : (j + k) % 4 = 1 := by omega
    simp [tn, h, g, e]
  · have e : (j + k) % 4 = 2 := by omega
    simp [tn, h, g, e]
  · have e : (j + k) % 4 = 3 := by omega
    simp [tn, h, g, e]
  · have e : (j + k) % 4 = 1 := by omega
    simp [tn, h, g, e]
  · have e : (j + k) % 4 = 2 := by omega
    simp [tn, h, g, e]
  · have e : (j + k) % 4 = 3 := by omega
    simp [tn, h, g, e]
  · have e : (j + k) % 4 = 0 := by omega
    simp [tn, h, g, e]
  · have e : (j + k) % 4 = 2 := by omega
    simp [tn, h, g, e]
  · have e : (j + k) % 4 = 3 := by omega
    simp [tn, h, g, e]
  · have e : (j + k) % 4 = 0 := by omega
    simp [tn, h, g, e]
  · have e : (j + k) % 4 = 1 := by omega
    simp [tn, h, g, e]
  · have e : (j + k) % 4 = 3 := by omega
    simp [tn, h, g, e]
  · have e : (j + k) % 4 = 0 := by omega
    simp [tn, h, g, e]
  · have e : (j + k) % 4 = 1 := by omega
    simp [tn, h, g, e]
  · have e : (j + k) % 4 = 2 := by omega
    simp [tn, h, g, e]
theorem tn_zero (p : Int × Int) {k : Int} (h : k % 4 = 0) : tn p k = p := by simp [tn, h]
theorem pl_assoc (p q r : Int × Int) : pl (pl p q) r = pl p (pl q r) := by simp [pl, Int.add_assoc]
theorem pl_zero (p : Int × Int) : pl p (0, 0) = p := by simp [pl]
theorem ofL_congr {f g : Nat → Nat} {n : Nat} (h : ∀ i, i < n → f i = g i) : ofL f n = ofL g n := by
  induction n with
  | zero => rfl
  | succ n ih =>
    simp only [ofL]
    rw [ih fun i hi => h i (by omega), h n (by omega)]
theorem ofL_cat (f g : Nat → Nat) (n m : Nat) : ofL (cat2 f n g) (n + m) = pl (ofL f n) (tn (ofL g m) (n : Nat)) := by
  induction m with
  | zero =>
    simp only [Nat.add_zero, ofL]
    rw [ofL_congr (g := f) fun i hi => by simp [cat2, hi]]
    rcases q4 (n : Nat) with h | h | h | h <;> simp [tn, h, pl]
  | succ m ih =>
    rw [← Nat.add_assoc]
    simp only [ofL]
    rw [ih, tn_pl, tn_tn, pl_assoc]
    have e : cat2 f n g (n + m) = g m := by
      unfold cat2
      rw [if_neg (by omega), Nat.add_sub_cancel_left]
    rw [e]
    congr 3
    omega
/-- A window of bytes. -/
theorem ofL_step (z : Nat → Nat) (n : Nat) : ofL z (n + 1) = pl (gs (z 0)) (tn (ofL (fun i => z (i + 1)) n) 1) := by
  have h := ofL_cat z (fun i => z (i + 1)) 1 n
  rw [show 1 + n = n + 1 by omega] at h
  rw [ofL_congr (g := cat2 z 1 fun i => z (i + 1)) (fun i _ => by
    unfold cat2
    split
    · rfl
    · congr 1; omega), h]
  congr 1
  simp [ofL, pl, tn]
/-- Rolled on by a byte. -/
theorem roll_is (z : Nat → Nat) (n : Nat) (hn : 0 < n) : pl (tn ((ofL z n).1 - (gs (z 0)).1, (ofL z n).2 - (gs (z 0)).2) (-1)) (tn (gs (z n)) ((n : Int) - 1)) = ofL (fun i => z (i + 1)) n := by
  obtain ⟨m, rfl⟩ : ∃ m, n = m + 1 := ⟨n - 1, by omega⟩
  have e1 : ((ofL z (m + 1)).1 - (gs (z 0)).1, (ofL z (m + 1)).2 - (gs (z 0)).2) = tn (ofL (fun i => z (i + 1)) m) 1 := by
    rw [ofL_step]
    simp only [pl]
    ext
    · simp only; omega
    · simp only; omega
  rw [e1, tn_tn, tn_zero _ (by decide)]
  simp only [ofL]
  congr 2
  omega
end Go.Proofs.Ytgololmgdakigaa
