/- The reference's Union; Word, Space: the walks. -/
import Derived.Test.YthgjklhjfpillaaDoorMk
namespace Go.Proofs.YthgjklhjfpillaaDoor
open Go.RowKit
theorem Way2.drew {w wr : World} {p q r s : Nat} (h : Way2 w p q r s wr) : Way2 w p q r s wr.drew := by
  obtain ⟨hx, ⟨a, b, c, d, hy⟩, hb⟩ := h
  exact ⟨hx.drew, ⟨a, b, c, d, hy.drew⟩, hb.drew⟩
set_option maxRecDepth 10000 in
set_option maxHeartbeats 2000000 in
theorem runion_any (ao : Option Addr) (len cap : Nat) (F : Nat → Nat → Nat) (Ps : Nat → Nat → Bool) (w : World) (hr : RdC w ao len F) (hC : ∀ i, i < len → C4 (Ps i) (F i 0) (F i 1) (F i 2) (F i 3)) (hl : (len : Int) ≤ 9223372036854775807) :
    Calls Tryd.prog 28 #[.slice ao len cap] w (RetC w (unN Ps len)) := by
  have hW0 := Way.start w
  go_enter Tryd.func28, Tryd.ntmps28
  go_wp2
  go_loopw [4] (fun i wr => ∃ k : Nat, k ≤ len ∧ i = .int .i64 (k : Nat) ∧ Way w (unN Ps k) wr) (fun i _ => len - (intOf i).toNat)
  case atStart => exact ⟨0, by omega, rfl, hW0⟩
  case round =>
    obtain ⟨k, hk, rfl, hW⟩ := hrel
    obtain ⟨a, b, c, d, h4, hW2⟩ := Way2.of hW
    by_cases hlt : k < len
    · obtain ⟨bb, off, rfl, hbb, hc⟩ := hr.at_ (by omega)
      have hk4 := hC k hlt
      have t0 : w.cell? ⟨bb, off + k * 4, none⟩ = some (.int .u64 (F k 0 : Nat)) := hc k hlt 0 (by decide)
      have t1 : w.cell? ⟨bb, off + k * 4 + 1, none⟩ = some (.int .u64 (F k 1 : Nat)) := hc k hlt 1 (by decide)
      have t2 : w.cell? ⟨bb, off + k * 4 + 2, none⟩ = some (.int .u64 (F k 2 : Nat)) := hc k hlt 2 (by decide)
      have t3 : w.cell? ⟨bb, off + k * 4 + 3, none⟩ = some (.int .u64 (F k 3 : Nat)) := hc k hlt 3 (by decide)
      have hki : (k : Int) < (len : Int) := by omega
      have hk0 : (0 : Int) ≤ (k : Int) := by omega
      clear hc hr hC
      generalize F k 0 = e at *
      generalize F k 1 = f at *
      generalize F k 2 = g at *
      generalize F k 3 = h at *
      have va := u64_or_nat a e h4.la hk4.la
      have vb := u64_or_nat b f h4.lb hk4.lb
      have vc := u64_or_nat c g h4.lc hk4.lc
      have vd := u64_or_nat d h h4.ld hk4.ld
      have HO : Hid (C4 (unN Ps (k + 1)) (a ||| e) (b ||| f) (c ||| g) (d ||| h)) := h4.or hk4
      have HT : Hid (∀ W, Below w.heap.size w W → W.cell? ⟨bb, off + k * 4, none⟩ = some (.int .u64 (e : Nat)) ∧ W.cell? ⟨bb, off + k * 4 + 1, none⟩ = some (.int .u64 (f : Nat)) ∧ W.cell? ⟨bb, off + k * 4 + 2, none⟩ = some (.int .u64 (g : Nat)) ∧ W.cell? ⟨bb, off + k * 4 + 3, none⟩ = some (.int .u64 (h : Nat))) := fun W hb =>
        ⟨by rw [hb.cell (p := ⟨bb, off + k * 4, none⟩) hbb]; exact t0, by rw [hb.cell (p := ⟨bb, off + k * 4 + 1, none⟩) hbb]; exact t1, by rw [hb.cell (p := ⟨bb, off + k * 4 + 2, none⟩) hbb]; exact t2, by rw [hb.cell (p := ⟨bb, off + k * 4 + 3, none⟩) hbb]; exact t3⟩
      clear hW h4 hk4 t0 t1 t2 t3
      go_wp2
      go_loopw [5] (fun i wv => ∃ p q r s : Nat, Way2 w p q r s wv ∧ ((i = .int .i64 0 ∧ p = a ∧ q = b ∧ r = c ∧ s = d) ∨ (i = .int .i64 1 ∧ p = a ||| e ∧ q = b ∧ r = c ∧ s = d) ∨ (i = .int .i64 2 ∧ p = a ||| e ∧ q = b ||| f ∧ r = c ∧ s = d) ∨
        (i = .int .i64 3 ∧ p = a ||| e ∧ q = b ||| f ∧ r = c ||| g ∧ s = d) ∨ (i = .int .i64 4 ∧ p = a ||| e ∧ q = b ||| f ∧ r = c ||| g ∧ s = d ||| h))) (fun i _ => 4 - (intOf i).toNat)
      case atStart => exact ⟨a, b, c, d, hW2, .inl ⟨rfl, rfl, rfl, rfl, rfl⟩⟩
      case round =>
        obtain ⟨p, q, r, s, hV0, hh⟩ := hrel
        have hV := hV0.drew
        obtain ⟨c0, c1, c2, c3, f0, f1, f2, f3⟩ := hV.ex.cells
        obtain ⟨t0, t1, t2, t3⟩ := HT.out _ hV.bel
        rcases hh with ⟨rfl, rfl, rfl, rfl, rfl⟩ | ⟨rfl, rfl, rfl, rfl, rfl⟩ | ⟨rfl, rfl, rfl, rfl, rfl⟩ | ⟨rfl, rfl, rfl, rfl, rfl⟩ | ⟨rfl, rfl, rfl, rfl, rfl⟩
        · have hV' := (hV0.set0 (p ||| e)).drew
          go_wp2_with fail
          go_region
          go_wp2
          exact ⟨⟨_, _, _, _, hV', .inr (.inl ⟨rfl, rfl, rfl, rfl, rfl⟩)⟩, by decide⟩
        · have hV' := (hV0.set1 (q ||| f)).drew
          go_wp2_with fail
          go_region
          go_wp2
          exact ⟨⟨_, _, _, _, hV', .inr (.inr (.inl ⟨rfl, rfl, rfl, rfl, rfl⟩))⟩, by decide⟩
        · have hV' := (hV0.set2 (r ||| g)).drew
          go_wp2_with fail
          go_region
          go_wp2
          exact ⟨⟨_, _, _, _, hV', .inr (.inr (.inr (.inl ⟨rfl, rfl, rfl, rfl, rfl⟩)))⟩, by decide⟩
        · have hV' := (hV0.set3 (s ||| h)).drew
          go_wp2_with fail
          go_region
          go_wp2
          exact ⟨⟨_, _, _, _, hV', .inr (.inr (.inr (.inr ⟨rfl, rfl, rfl, rfl, rfl⟩)))⟩, by decide⟩
        · have hV' : Way w (unN Ps (k + 1)) wr := hV0.way HO.out
          go_wp2
          exact ⟨⟨k + 1, by omega, by go_num, hV'⟩, by simp [intOf]; omega⟩
    · obtain rfl : k = len := by omega
      obtain ⟨p', q', r', s', hy⟩ := hW.res
      obtain ⟨c0, c1, c2, c3, f0, f1, f2, f3⟩ := hW2.ex.cells
      obtain ⟨y0, y1, y2, y3, v0, v1, v2, v3⟩ := hy.cells
      obtain ⟨z0, z1, z2, z3, _⟩ := (hy.set (.int .u64 (a : Nat)) (.int .u64 (b : Nat)) (.int .u64 (c : Nat)) (.int .u64 (d : Nat))).cells
      go_wp2
      exact bodyPost_ret (v := .agg #[.int .u64 (a : Nat), .int .u64 (b : Nat), .int .u64 (c : Nat), .int .u64 (d : Nat)]) (by simp [results, Tryd.results28, go_sem, z0, z1, z2, z3]) rfl ⟨⟨a, b, c, d, rfl, h4⟩, below_put4 hW.bel (Nat.le_refl _) _ _ _ _⟩
end Go.Proofs.YthgjklhjfpillaaDoor
