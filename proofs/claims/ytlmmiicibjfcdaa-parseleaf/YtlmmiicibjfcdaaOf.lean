/- Of: the walk. -/
import Derived.Test.YtlmmiicibjfcdaaBase
namespace Go.Proofs.Ytlmmiicibjfcdaa
open Go.RowKit
/-- The cells of a slice of bytes can be read, and hold z. -/
structure Rd (w : World) (ao : Option Addr) (len : Nat) (z : Nat → Nat) : Prop where
  small : ∀ i, i < len → z i < 256
  at_ : 0 < len → ∃ b off, ao = some ⟨b, off, none⟩ ∧ b < w.heap.size ∧ ∀ i, i < len → w.cell? ⟨b, off + i, none⟩ = some (.int .u8 (z i : Nat))
theorem Rd.below {w w' : World} {ao : Option Addr} {len : Nat} {z : Nat → Nat} (h : Rd w ao len z) (hb : Below w.heap.size w w') : Rd w' ao len z := by
  refine ⟨h.small, fun hl => ?_⟩
  obtain ⟨b, off, e, hlt, hc⟩ := h.at_ hl
  exact ⟨b, off, e, Nat.lt_of_lt_of_le hlt hb.size, fun i hi => by rw [hb.cell (p := ⟨b, off + i, none⟩) hlt]; exact hc i hi⟩
/-- The class of the first n of some bytes. -/
def ofN (z : Nat → Nat) : Nat → Nat → Bool
  | 0 => fun _ => false
  | n + 1 => ins (ofN z n) (z n)
theorem ofN_iff (z : Nat → Nat) (n b : Nat) : ofN z n b = true ↔ ∃ i, i < n ∧ z i = b := by
  induction n with
  | zero => simp [ofN]
  | succ n ih =>
    simp only [ofN, ins, Bool.or_eq_true, ih, beq_iff_eq]
    constructor
    · rintro (⟨i, hi, e⟩ | rfl)
      · exact ⟨i, by omega, e⟩
      · exact ⟨n, by omega, rfl⟩
    · rintro ⟨i, hi, e⟩
      by_cases h : i = n
      · subst h; exact .inr e.symm
      · exact .inl ⟨i, by omega, e⟩
/-- A class on its way: in block c, beside the result's block r. -/
structure Way (w : World) (P : Nat → Bool) (wr : World) : Prop where
  ex : ∃ a b c d, C4 P a b c d ∧ Bx wr (w.heap.size + 1) (.int .u64 (a : Nat)) (.int .u64 (b : Nat)) (.int .u64 (c : Nat)) (.int .u64 (d : Nat))
  res : ∃ a b c d, Bx wr w.heap.size a b c d
  bel : Below w.heap.size w wr
theorem Way.start (w : World) : Way w (fun _ => false) ((w.alloc (.cells #[.int .u64 0, .int .u64 0, .int .u64 0, .int .u64 0] 40)).alloc (.cells #[.int .u64 0, .int .u64 0, .int .u64 0, .int .u64 0] 40)) := by
  refine ⟨⟨_, _, _, _, c4_none, ?_⟩, ⟨_, _, _, _, (Bx.new w _ _ _ _).alloc _⟩, below2 _ _ _⟩
  have := Bx.new (w.alloc (.cells #[.int .u64 0, .int .u64 0, .int .u64 0, .int .u64 0] 40)) (.int .u64 0) (.int .u64 0) (.int .u64 0) (.int .u64 0)
  simpa using this
theorem Way.next {w wr w' : World} {P Q : Nat → Bool} {a b c d : Nat} (h : Way w P wr) (hb : Below wr.heap.size wr w') (hc : C4 Q a b c d) : Way w Q (put4 w' (w.heap.size + 1) (.int .u64 (a : Nat)) (.int .u64 (b : Nat)) (.int .u64 (c : Nat)) (.int .u64 (d : Nat))) := by
  obtain ⟨p, q, r, s, _, hx⟩ := h.ex
  obtain ⟨p', q', r', s', hy⟩ := h.res
  exact ⟨⟨a, b, c, d, hc, (hx.below hb).set _ _ _ _⟩, ⟨p', q', r', s', (hy.below hb).others (by omega) _ _ _ _⟩, below_put4 (h.bel.trans (hb.mono h.bel.size)) (by omega) _ _ _ _⟩
set_option maxRecDepth 10000 in
set_option maxHeartbeats 1000000 in
theorem of_any (ao : Option Addr) (len cap : Nat) (z : Nat → Nat) (w : World) (hr : Rd w ao len z) (hl : (len : Int) ≤ 9223372036854775807) :
    Calls Try.prog 28 #[.slice ao len cap] w (RetC w (ofN z len)) := by
  have hW0 := Way.start w
  go_enter Try.func28, Try.ntmps28
  go_wp2
  go_loopw [8] (fun i wr => ∃ k : Nat, k ≤ len ∧ i = .int .i64 (k : Nat) ∧ Way w (ofN z k) wr) (fun i _ => len - (intOf i).toNat)
  case atStart => exact ⟨0, by omega, rfl, hW0⟩
  case round =>
    obtain ⟨k, hk, rfl, hW⟩ := hrel
    obtain ⟨a, b, c, d, h4, hx⟩ := hW.ex
    obtain ⟨c0, c1, c2, c3, f0, f1, f2, f3⟩ := hx.cells
    by_cases hlt : k < len
    · obtain ⟨bb, off, rfl, hbb, hc⟩ := hr.at_ (by omega)
      have t1 : wr.cell? ⟨bb, off + k, none⟩ = some (.int .u8 (z k : Nat)) := by rw [hW.bel.cell (p := ⟨bb, off + k, none⟩) hbb]; exact hc k hlt
      have hzk := hr.small k hlt
      have hki : (k : Int) < (len : Int) := by omega
      clear hc
      go_wp2_with (go_at_call 55; refine (with_c h4 (z k) _ hzk).mono ?_; rintro e w' ⟨⟨a', b', c', d', rfl, h4'⟩, hb'⟩; have hW' := hW.next hb' h4'; obtain ⟨g0, g1, g2, g3, e0, e1, e2, e3⟩ := (hx.below hb').cells)
      go_roundw
      case rel => exact ⟨k + 1, by omega, by go_num, hW'⟩
      case measure => simp [intOf]; omega
    · obtain rfl : k = len := by omega
      obtain ⟨p', q', r', s', hy⟩ := hW.res
      obtain ⟨y0, y1, y2, y3, v0, v1, v2, v3⟩ := hy.cells
      obtain ⟨z0, z1, z2, z3, _⟩ := (hy.set (.int .u64 (a : Nat)) (.int .u64 (b : Nat)) (.int .u64 (c : Nat)) (.int .u64 (d : Nat))).cells
      go_wp2
      exact bodyPost_ret (v := .agg #[.int .u64 (a : Nat), .int .u64 (b : Nat), .int .u64 (c : Nat), .int .u64 (d : Nat)]) (by simp [results, Try.results28, go_sem, z0, z1, z2, z3]) rfl ⟨⟨a, b, c, d, rfl, h4⟩, below_put4 hW.bel (Nat.le_refl _) _ _ _ _⟩
end Go.Proofs.Ytlmmiicibjfcdaa
