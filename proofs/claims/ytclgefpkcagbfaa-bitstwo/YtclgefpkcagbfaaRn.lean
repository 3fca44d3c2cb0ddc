/- The reference's New: the walk. -/
import Derived.Test.YtclgefpkcagbfaaRh
namespace Go.Proofs.Ytclgefpkcagbfaa
open Go.RowKit
attribute [local go_sem ↓] Go.wp_at_zero Go.wp_at_succ
set_option maxHeartbeats 400000 in
theorem rnew_bad (n : Int) (lo : Option Addr) (ll lc : Nat) (w : World) (hn : n < 0 ∨ 8192 < n) :
    Calls Try.prog 9 #[.int .i64 n, .slice lo ll lc] w fun e w' => e = .returned (.tuple #[.agg #[.int .i64 0, .slice none 0 0], .int .i64 1]) ∧ Below w.heap.size w w' := by
  rcases hn with hn | hn
  · have hd : decide (n < 0) = true := by simpa using hn
    go_enter Try.func9, Try.ntmps9
    go_wp2
    refine bodyPost_ret (v := .tuple #[.agg #[.int .i64 0, .slice none 0 0], .int .i64 1]) (by simp [results, Try.results9, go_sem]) rfl ⟨rfl, (Below.refl _ _).alloc (Nat.le_refl _) _⟩
  · have hd : decide (n < 0) = false := by simp; omega
    have hd2 : decide (8192 < n) = true := by simpa using hn
    go_enter Try.func9, Try.ntmps9
    go_wp2
    refine bodyPost_ret (v := .tuple #[.agg #[.int .i64 0, .slice none 0 0], .int .i64 1]) (by simp [results, Try.results9, go_sem]) rfl ⟨rfl, (Below.refl _ _).alloc (Nat.le_refl _) _⟩
/-- What a call answers that makes a set (in a row that may have room behind it). -/
def RetL (w : World) (n : Nat) (P : Nat → Bool) (e : Ending) (w' : World) : Prop :=
  ∃ ao len cap f, e = .returned (.agg #[.int .i64 (n : Nat), .slice ao len cap]) ∧ OwnL w.heap.size w' ao len f ∧ IsSet n len f P ∧ Below w.heap.size w w'
def RetNewL (w : World) (n : Nat) (P : Nat → Bool) (e : Ending) (w' : World) : Prop :=
  ∃ ao len cap f, e = .returned (.tuple #[.agg #[.int .i64 (n : Nat), .slice ao len cap], .int .i64 0]) ∧ OwnL w.heap.size w' ao len f ∧ IsSet n len f P ∧ Below w.heap.size w w'
structure RelL (w : World) (n bc : Nat) (ao : Option Addr) (len cap : Nat) (P : Nat → Bool) (wr : World) : Prop where
  bc1 : Box wr bc (.int .i64 (n : Nat)) (.slice ao len cap)
  own : ∃ f, OwnL (w.heap.size + 1) wr ao len f ∧ IsSet n len f P
  below : Below w.heap.size w wr
  b2 : Box wr w.heap.size (.int .i64 0) (.slice none 0 0)
theorem RelL.next {w : World} {n bc : Nat} {ao : Option Addr} {len cap : Nat} {P : Nat → Bool} {wr wr' : World} (h : RelL w n bc ao len cap P wr) (hb : Below wr.heap.size wr wr') : RelL w n bc ao len cap P wr' :=
  ⟨h.bc1.below hb, h.own.elim fun f ⟨ho, hs⟩ => ⟨f, ho.below hb, hs⟩, h.below.trans (hb.mono h.below.size), h.b2.below hb⟩
theorem RelL.put {w : World} {n bc : Nat} {ao : Option Addr} {len cap : Nat} {P P' : Nat → Bool} {wr wr' : World} {g : Nat → Nat} (h : RelL w n bc ao len cap P wr) (hb : But ao wr wr') (ho : OwnL (w.heap.size + 1) wr' ao len g) (hs : IsSet n len g P')
    (hao : ∀ a, ao = some a → w.heap.size + 1 ≤ a.block ∧ a.block ≠ bc) : RelL w n bc ao len cap P' wr' :=
  ⟨h.bc1.but hb (fun a e => (hao a e).2), ⟨g, ho, hs⟩, h.below.trans (hb.below h.below.size fun a e => by have := hao a e; omega), h.b2.but hb (fun a e => by have := hao a e; omega)⟩
theorem below_drew' (w : World) : Below w.heap.size w w.drew := (Below.refl _ _).drew
set_option maxHeartbeats 800000 in
/-- New. -/
theorem rnew_any (n : Nat) (lo : Option Addr) (ll lc : Nat) (z : Nat → Int) (w : World) (hn : (n : Int) ≤ 8192) (hr : RdI w lo ll z) (hl : (ll : Int) ≤ 9223372036854775807) :
    Calls Try.prog 9 #[.int .i64 (n : Nat), .slice lo ll lc] w (RetNewL w n (newP n z ll)) := by
  have hd : decide ((n : Int) < 0) = false := by simp
  have hd2 : decide (8192 < (n : Int)) = false := by simp; omega
  go_enter Try.func9, Try.ntmps9
  go_wp2_with fail
  refine (rzero_any n _ hn).mono ?_
  rintro e w1 ⟨ao, len, cap, rfl, ho, hlen, hb⟩
  have b0 := (Box.new w (.int .i64 0) (.slice none 0 0)).below hb
  have hB : Below w.heap.size w w1 := ((Below.refl _ _).alloc (Nat.le_refl _) _).trans (hb.mono (by simp))
  have ho1 : OwnL (w.heap.size + 1) w1 ao len (fun _ => 0) := by simpa using ho
  have hs0 := isSet_empty (show n ≤ 8192 by omega) hlen
  have hlt0 := b0.lt
  have hao : ∀ a, ao = some a → w.heap.size + 1 ≤ a.block ∧ a.block ≠ w1.heap.size := fun a e => ⟨(ho1.lt a e).2, by have := (ho1.lt a e).1; omega⟩
  clear hlen ho hb
  go_wp2_with fail
  go_loopw [7] (fun i wr => ∃ k : Nat, k ≤ ll ∧ i = .int .i64 k ∧ RelL w n w1.heap.size ao len cap (newP n z k) wr) (fun i _ => ll - (intOf i).toNat)
  case atStart => exact ⟨0, Nat.zero_le _, rfl, Box.new _ _ _, ⟨_, ho1.alloc _, hs0⟩, hB.alloc (by omega) _, b0.alloc _⟩
  case round =>
    obtain ⟨k, hk, rfl, hR⟩ := hrel
    by_cases hlt : k < ll
    · obtain ⟨b, off, rfl, hb, hc⟩ := hr (by omega)
      have tz : w.cell? ⟨b, off + k, none⟩ = some (.int .i64 (z k)) := hc k hlt
      have hki : (k : Int) < (ll : Int) := by omega
      have hk0 : (0 : Int) ≤ (k : Int) := by omega
      clear hc
      go_wp2_with fail
      replace hR := hR.next (below_drew' _)
      obtain ⟨f, hof, hsf⟩ := hR.own
      have HZ : Hid (w.cell? ⟨b, off + k, none⟩ = some (.int .i64 (z k))) := tz
      have HSF : Hid (IsSet n len f (newP n z k)) := hsf
      clear tz hsf
      go_region_held3 (fun w' => w'.cell? ⟨w1.heap.size, 0, none⟩ = some (.int .i64 (n : Nat)) ∧ w'.cell? ⟨w1.heap.size, 1, none⟩ = some (.slice ao len cap) ∧ w'.cell? ⟨b, off + k, none⟩ = some (.int .i64 (z k))) (exact ⟨hR.bc1.cells.1, hR.bc1.cells.2.1, by rw [hR.below.cell (p := ⟨b, off + k, none⟩) hb]; exact HZ.out⟩)
        (first | (go_at_call 36; refine (rput_any (z k) hof HSF.out).mono ?_; rintro e w2 ⟨rfl, g, ho2, hs2, hbut⟩; replace hR := hR.put hbut ho2 hs2 hao))
      go_wp2
      go_roundw
      case rel => exact ⟨k + 1, by omega, by go_num, by rw [newP_succ]; exact hR⟩
      case measure => simp [intOf]; omega
    · obtain rfl : k = ll := by omega
      obtain ⟨f, hof, hsf⟩ := hR.own
      obtain ⟨p0, p1, p2, p3⟩ := hR.bc1.cells
      obtain ⟨q0, q1, q2, q3⟩ := hR.b2.cells
      have hB2 := hR.below
      have hne2 : w.heap.size ≠ w1.heap.size := by omega
      go_wp2
      refine bodyPost_ret (v := .tuple #[.agg #[.int .i64 n, .slice ao len cap], .int .i64 0]) (by simp [results, Try.results9, go_sem, q0, q1]) rfl ⟨_, _, _, f, rfl, (hof.mono (by omega)).box (fun a e => by have := hao a e; omega) _ _, hsf, ?_⟩
      exact (hB2.setCell (p := ⟨w.heap.size, 0, none⟩) (by simp) _).setCell (p := ⟨w.heap.size, 1, none⟩) (by simp) _
end Go.Proofs.Ytclgefpkcagbfaa
