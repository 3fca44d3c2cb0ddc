/- BytesSealed: the walk. -/
import Derived.Test.YtnjnaihogbnmaaaLv
namespace Go.Proofs.Ytnjnaihogbnmaaa
open Go.RowKit
theorem sealed_num (n : Nat) (f : Nat → Nat) : numB (fun i => sealB n f (n + i)) 8 = sumB f n := by
  rw [numB_congr (g := fun i => sumB f n / 256 ^ i % 256) fun _ hi => sealB_high hi, numB_digits, Nat.mod_eq_of_lt (sumB_lt f n)]
theorem sealed_sum (n : Nat) (f : Nat → Nat) : sumB (sealB n f) n = sumB f n := sumB_congr fun _ hi => sealB_low hi
/-- One byte of what is sealed turned into another one. -/
theorem sealed_turned {n : Nat} {f : Nat → Nat} (hf : ∀ i, i < n → f i < 256) {j v : Nat} (hj : j < n + 8) (hv : v < 256) (hne : v ≠ sealB n f j) :
    numB (fun i => upd (sealB n f) j v (n + i)) 8 ≠ sumB (upd (sealB n f) j v) n := by
  have hs : ∀ i, sealB n f i < 256 := putB_lt hf
  by_cases h : j < n
  · rw [numB_congr (g := fun i => sealB n f (n + i)) fun i hi => by simp [upd, show n + i ≠ j by omega], sealed_num]
    have h2 := sumB_one (f := sealB n f) (g := upd (sealB n f) j v) (n := n) h (fun i _ hi => by simp [upd, hi]) (hs j) (by simpa [upd] using hv) (by simpa [upd] using hne.symm)
    rw [sealed_sum] at h2
    exact h2
  · rw [sumB_congr (f := upd (sealB n f) j v) (g := sealB n f) fun i hi => by simp [upd, show i ≠ j by omega], sealed_sum]
    intro e
    rw [← sealed_num] at e
    have h3 := numB_inj (fun i _ => by unfold upd; split; exact hv; exact hs _) (fun i _ => hs _) e (j - n) (by omega)
    have e4 : n + (j - n) = j := by omega
    simp only [e4] at h3
    simp [upd] at h3
    exact hne h3
theorem eqW_seal (n : Nat) (f : Nat → Nat) : eqW n (sealB n f) f = true := by
  unfold eqW; rw [decide_eq_true_iff]; exact fun _ hi => sealB_low hi
theorem upd_same (f : Nat → Nat) (j : Nat) : upd f j (f j) = f := by
  funext i; unfold upd; split
  · rename_i h; rw [h]
  · rfl
theorem Own.head {B : Nat} {w : World} {ao : Option Addr} {n cap : Nat} {f : Nat → Nat} (h : Own B w ao n cap f) (hn : 0 < n) :
    ∃ g, ao = some ⟨g, 0, none⟩ ∧ B ≤ g ∧ g < w.heap.size ∧ n ≤ cap := by
  obtain ⟨g, cur, e, h1, h2, _, h3, _⟩ := h.pos hn
  exact ⟨g, e, h1, h2, h3⟩
theorem Own.cell {B : Nat} {w : World} {g n cap : Nat} {f : Nat → Nat} (h : Own B w (some ⟨g, 0, none⟩) n cap f) {i : Nat} (hi : i < n) :
    w.cell? ⟨g, i, none⟩ = some (.int .u8 (f i : Nat)) ∧ w.frozen? ⟨g, i, none⟩ = false := by
  obtain ⟨g', cur, e, h1, h2, hg, h3, _⟩ := h.pos (by omega)
  obtain rfl : g = g' := by simpa using e
  refine ⟨?_, frozen_of_row w g i cur 5 hg⟩
  obtain ⟨b, off, e, _, hc⟩ := h.rd.at_ (by omega)
  simp only [Option.some.injEq, Addr.mk.injEq, and_true] at e
  obtain ⟨rfl, rfl⟩ := e
  have := hc i hi
  rwa [Nat.zero_add] at this
set_option maxHeartbeats 2000000 in
theorem bytesSealed_walk (ao : Option Addr) (n cap : Nat) (f : Nat → Nat) (a v : Nat) (w : World) (hr : Rd w ao n f) (hn : n ≤ 140737488351232) (ha : a < 65536) (hv : v < 256) :
    Calls Try.prog 7 #[.slice ao n cap, .int .u16 (a : Nat), .int .u8 (v : Nat)] w fun e w' => e = .returned (.bool true) ∧ Below w.heap.size w w' := by
  go_enter Try.func7, Try.ntmps7
  go_wp2_with fail
  refine (live_any w).mono ?_
  rintro e w1 ⟨rfl, hb1⟩
  have hr1 := hr.below hb1
  go_wp2_with fail
  refine (seal_any ao n cap f _ hr1 (by omega)).mono ?_
  rintro e w2 ⟨ao2, cap2, rfl, ho2, hb2⟩
  have hB2 := hb1.trans (hb2.mono hb1.size)
  obtain ⟨g, rfl, hg1, hg2, hcap⟩ := ho2.head (by omega)
  go_wp2_with fail
  refine (unseal_ok g 0 n cap2 (sealB n f) _ ho2.rd (by omega) hcap (by rw [sealed_num, sealed_sum])).mono ?_
  rintro e w3 ⟨ao3, cap3, rfl, ho3, hb3⟩
  have hB3 := hB2.trans (hb3.mono hB2.size)
  go_wp2_with fail
  have hq := equal_same ao3 ao n cap3 cap _ _ _ ho3.rd (hr.below hB3) (by omega)
  rw [eqW_seal] at hq
  refine hq.mono ?_
  rintro e w4 ⟨rfl, q, e4⟩
  have hb4 : Below w3.heap.size w3 w4 := by rw [e4]; exact below_drewN (Below.refl _ _) q
  have hB4 := hB3.trans (hb4.mono hB3.size)
  have ho4 := (ho2.below hb3).below hb4
  clear hq e4 ho3 hb4 hb3 hr1 hb2
  go_wp2_with fail
  refine (clone_some ⟨g, 0, none⟩ (n + 8) cap2 _ _ ho4.rd (by omega)).mono ?_
  rintro e w5 ⟨ao5, cap5, rfl, ho5, hb5⟩
  have hB5 := hB4.trans (hb5.mono hB4.size)
  obtain ⟨g5, rfl, hg51, hg52, hcap5⟩ := ho5.head (by omega)
  have hj : a % (n + 8) < n + 8 := Nat.mod_lt _ (by omega)
  obtain ⟨hc5, hf5⟩ := ho5.cell hj
  have hsm := ho5.small _ hj
  have erem : (a : Int) % ((n : Int) + 8) = ((a % (n + 8) : Nat) : Int) := by rw [Int.natCast_emod]; rfl
  have hji : ((a % (n + 8) : Nat) : Int) < (n : Int) + 8 := by omega
  have hx5 : bits BinOp.xor IntKind.u8 ((sealB n f (a % (n + 8)) : Nat) : Int) (v : Int) = ((sealB n f (a % (n + 8)) ^^^ v : Nat) : Int) := u8_xor_nat _ _ hsm hv
  have hxv : sealB n f (a % (n + 8)) ^^^ v < 256 := Nat.xor_lt_two_pow (n := 8) hsm hv
  have ho6 := ho5.set hj hxv
  have hB6 := hB5.setCell (p := ⟨g5, a % (n + 8), none⟩) (by show w.heap.size ≤ g5; have := hB4.size; omega) (.int .u8 ((sealB n f (a % (n + 8)) ^^^ v : Nat)))
  generalize hjj : a % (n + 8) = j at *
  go_wp2_with fail
  clear hc5 hf5 hx5 erem hji hjj ha
  by_cases h0 : v = 0
  · subst h0
    rw [Nat.xor_zero, upd_same] at ho6
    rw [Nat.xor_zero] at hB6 ⊢
    refine (unseal_ok g5 0 n cap5 (sealB n f) _ ho6.rd (by omega) hcap5 (by rw [sealed_num, sealed_sum])).mono ?_
    rintro e w7 ⟨ao7, cap7, rfl, ho7, hb7⟩
    have hB7 := hB6.trans (hb7.mono hB6.size)
    go_wp2
    go_ret
    exact ⟨rfl, hB7⟩
  · have hvi : ¬ (v : Int) = 0 := by omega
    have hvb : ((v : Int) == 0) = false := by simpa using hvi
    refine (unseal_sum g5 0 n cap5 _ _ ho6.rd (by omega) hcap5 (sealed_turned hr.small hj hxv (xor_ne h0))).mono ?_
    rintro e w7 ⟨rfl, hb7⟩
    have hB7 := hB6.trans (hb7.mono hB6.size)
    go_wp2
    go_ret
    exact ⟨rfl, hB7⟩
end Go.Proofs.Ytnjnaihogbnmaaa
