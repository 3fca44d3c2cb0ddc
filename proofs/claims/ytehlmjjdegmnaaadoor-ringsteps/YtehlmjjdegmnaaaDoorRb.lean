/- What the reference leans on: a row of words with room behind it; in, put. -/
import Derived.Test.YtehlmjjdegmnaaaDoorHas
namespace Go.Proofs.YtehlmjjdegmnaaaDoor
open Go.RowKit

/-- As Own, but the block may be longer than the slice. -/
structure OwnL (B : Nat) (w : World) (ao : Option Addr) (len : Nat) (f : Nat → Nat) : Prop where
  small : ∀ i, i < len → f i < 18446744073709551616
  lt : ∀ a, ao = some a → a.block < w.heap.size ∧ B ≤ a.block
  row : 0 < len → ∃ b cur, ao = some ⟨b, 0, none⟩ ∧ w.heap[b]? = some (.cells cur 22 (0, 0)) ∧ len ≤ cur.size ∧ ∀ i, i < len → cur[i]? = some (.int .u64 (f i : Nat))
theorem Own.l {B : Nat} {w : World} {ao : Option Addr} {len : Nat} {f : Nat → Nat} (h : Own B w ao len f) : OwnL B w ao len f :=
  ⟨h.small, h.lt, fun hl => by obtain ⟨b, cur, e, hh, hs, hc⟩ := h.row hl; exact ⟨b, cur, e, hh, by omega, hc⟩⟩
theorem OwnL.at_ {B : Nat} {w : World} {ao : Option Addr} {len : Nat} {f : Nat → Nat} (h : OwnL B w ao len f) (hl : 0 < len) :
    ∃ b, ao = some ⟨b, 0, none⟩ ∧ ∀ i, i < len → w.cell? ⟨b, i, none⟩ = some (.int .u64 (f i : Nat)) ∧ w.frozen? ⟨b, i, none⟩ = false := by
  obtain ⟨b, cur, e, hh, _, hc⟩ := h.row hl
  exact ⟨b, e, fun i hi => ⟨by rw [cell_of_row w b i cur 22 (0, 0) hh]; exact hc i hi, frozen_of_row w b i cur 22 hh⟩⟩
theorem OwnL.rd {B : Nat} {w : World} {ao : Option Addr} {len : Nat} {f : Nat → Nat} (h : OwnL B w ao len f) : Rd w ao len f := by
  refine ⟨h.small, fun hl => ?_⟩
  obtain ⟨b, e, hc⟩ := h.at_ hl
  exact ⟨b, 0, e, (h.lt _ e).1, fun i hi => by rw [Nat.zero_add]; exact (hc i hi).1⟩
theorem OwnL.mono {B B' : Nat} {w : World} {ao : Option Addr} {len : Nat} {f : Nat → Nat} (h : OwnL B w ao len f) (hB : B' ≤ B) : OwnL B' w ao len f :=
  ⟨h.small, fun a e => ⟨(h.lt a e).1, Nat.le_trans hB (h.lt a e).2⟩, h.row⟩
theorem OwnL.but {B : Nat} {w w' : World} {ao ax : Option Addr} {len : Nat} {f : Nat → Nat} (h : OwnL B w ao len f) (hb : But ax w w') (hne : ∀ a c, ao = some a → ax = some c → c.block ≠ a.block) : OwnL B w' ao len f := by
  refine ⟨h.small, fun a e => ⟨Nat.lt_of_lt_of_le (h.lt a e).1 hb.size, (h.lt a e).2⟩, fun hl => ?_⟩
  obtain ⟨b, cur, e, hh, hc⟩ := h.row hl
  have hlt := (h.lt _ e).1
  exact ⟨b, cur, e, by rw [hb.block b hlt (fun c ec => by have := hne _ c e ec; exact this)]; exact hh, hc⟩
theorem OwnL.below {B : Nat} {w w' : World} {ao : Option Addr} {len : Nat} {f : Nat → Nat} (h : OwnL B w ao len f) (hb : Below w.heap.size w w') : OwnL B w' ao len f :=
  h.but (ax := none) (But.of_below hb) (fun _ _ _ e => by simp at e)
theorem OwnL.alloc {B : Nat} {w : World} {ao : Option Addr} {len : Nat} {f : Nat → Nat} (h : OwnL B w ao len f) (o : Obj) : OwnL B (w.alloc o) ao len f := h.below ((Below.refl _ _).alloc (Nat.le_refl _) o)
theorem OwnL.drewN {B : Nat} {w : World} {ao : Option Addr} {len : Nat} {f : Nat → Nat} (h : OwnL B w ao len f) (n : Nat) : OwnL B (w.drewN n) ao len f := h.below (below_drewN (Below.refl _ _) n)
theorem OwnL.drew {B : Nat} {w : World} {ao : Option Addr} {len : Nat} {f : Nat → Nat} (h : OwnL B w ao len f) : OwnL B w.drew ao len f := h.below (Below.refl _ _).drew
theorem OwnL.set {B : Nat} {w : World} {ao : Option Addr} {len : Nat} {f : Nat → Nat} (h : OwnL B w ao len f) {b i v : Nat} (e : ao = some ⟨b, 0, none⟩) (hi : i < len) (hv : v < 18446744073709551616) :
    OwnL B (w.setCell ⟨b, i, none⟩ (.int .u64 (v : Nat))) ao len (upd f i v) := by
  refine ⟨fun j hj => ?_, fun a ea => ?_, fun hl => ?_⟩
  · unfold upd; split
    · exact hv
    · exact h.small j hj
  · have := h.lt a ea; simpa [World.setCell] using this
  · obtain ⟨b', cur, e', hh, hsz, hc⟩ := h.row hl
    obtain rfl : b' = b := by rw [e] at e'; simpa using e'.symm
    refine ⟨b', cur.setIfInBounds i (.int .u64 (v : Nat)), e, heap_setCell_same w b' i cur 22 _ hh, by simpa using hsz, fun j hj => ?_⟩
    by_cases hji : j = i
    · subst hji
      have : j < cur.size := by omega
      simp [upd, this]
    · rw [Array.getElem?_setIfInBounds_ne (by omega)]
      simp only [upd, if_neg hji]
      exact hc j hj
theorem OwnL.box {B : Nat} {w : World} {ao : Option Addr} {len : Nat} {f : Nat → Nat} (h : OwnL B w ao len f) {q : Nat} (hne : ∀ a, ao = some a → a.block ≠ q) (u v : Value) :
    OwnL B ((w.setCell ⟨q, 0, none⟩ u).setCell ⟨q, 1, none⟩ v) ao len f := by
  refine OwnL.but (ax := some ⟨q, 0, none⟩) h (((But.refl _ _).setCell (p := ⟨q, 0, none⟩) (.inl ⟨_, rfl, rfl⟩) _).setCell (p := ⟨q, 1, none⟩) (.inl ⟨_, rfl, rfl⟩) _) ?_
  intro a c ea ec
  obtain rfl := Option.some.inj ec
  exact Ne.symm (hne a ea)

set_option maxHeartbeats 400000 in
theorem rin_any (b off len cap k : Nat) (f : Nat → Nat) (w : World) (hk : (k : Int) ≤ 8192) (hl : (k : Int) / 64 < (len : Int)) (hx : Hid (f (k / 64) < 18446744073709551616)) (hc : w.cell? ⟨b, off + k / 64, none⟩ = some (.int .u64 (f (k / 64) : Nat))) :
    Calls Tryd.prog 59 #[.slice (some ⟨b, off, none⟩) len cap, .int .i64 (k : Nat)] w fun e w' => e = .returned (.bool (bitAt f k)) ∧ w' = w := by
  go_enter Tryd.func59, Tryd.ntmps59
  go_wp2
  go_ret
  exact ⟨congrArg (fun b => Ending.returned (Value.bool b)) (has_bit _ _ hx), rfl⟩
/-- in, of a row that can be read. -/
theorem rin_rd {w : World} {ao : Option Addr} {len : Nat} (cap : Nat) {f : Nat → Nat} (hr : Rd w ao len f) (k : Nat) (hk : k < 64 * len) (hk2 : k ≤ 8192) :
    Calls Tryd.prog 59 #[.slice ao len cap, .int .i64 (k : Nat)] w fun e w' => e = .returned (.bool (bitAt f k)) ∧ w' = w := by
  obtain ⟨b, off, rfl, hb, hc⟩ := hr.at_ (by omega)
  exact rin_any b off len cap k f w (by omega) (by omega) (hr.small _ (by omega)) (hc _ (by omega))
set_option maxHeartbeats 400000 in
theorem rput_in (n k b len cap : Nat) (x : Nat) (w : World) (hk : (k : Int) < (n : Int)) (hn : (n : Int) ≤ 8192) (hl : (k : Int) / 64 < (len : Int)) (hx : Hid (x < 18446744073709551616))
    (hc : w.cell? ⟨b, k / 64, none⟩ = some (.int .u64 x)) (hz : w.frozen? ⟨b, k / 64, none⟩ = false) (hb : b < w.heap.size) :
    Calls Tryd.prog 49 #[.agg #[.int .i64 n, .slice (some ⟨b, 0, none⟩) len cap], .int .i64 k] w fun e w' => e = .returned (.tuple #[]) ∧ ∃ o, w' = (w.setCell ⟨b, k / 64, none⟩ (.int .u64 (x ||| 2 ^ (k % 64) : Nat))).alloc o := by
  go_enter Tryd.func49, Tryd.ntmps49
  go_wp2
  go_end0
  rw [or_one x k hx]
  exact ⟨rfl, _, rfl⟩
set_option maxHeartbeats 400000 in
theorem rput_out (n : Nat) (k : Int) (ao : Option Addr) (len cap : Nat) (w : World) (hk : k < 0 ∨ (n : Int) ≤ k) :
    Calls Tryd.prog 49 #[.agg #[.int .i64 n, .slice ao len cap], .int .i64 k] w fun e w' => e = .returned (.tuple #[]) ∧ ∃ o, w' = w.alloc o := by
  rcases hk with hk | hk
  all_goals
    go_enter Tryd.func49, Tryd.ntmps49
    go_wp2
  all_goals try omega
  all_goals
    go_end0
    exact ⟨rfl, _, rfl⟩
/-- put: the number k is in it from now on, if it is from 0 to n - 1; nothing else turns. -/
theorem rput_any {B : Nat} {w : World} {n : Nat} {ao : Option Addr} {len cap : Nat} {f : Nat → Nat} {P : Nat → Bool} (k : Int) (ho : OwnL B w ao len f) (hs : IsSet n len f P) :
    Calls Tryd.prog 49 #[.agg #[.int .i64 (n : Nat), .slice ao len cap], .int .i64 k] w fun e w' => e = .returned (.tuple #[]) ∧
      ∃ g, OwnL B w' ao len g ∧ IsSet n len g (fun i => P i || decide ((i : Int) = k ∧ i < n)) ∧ But ao w w' := by
  by_cases hk : k < 0 ∨ (n : Int) ≤ k
  · refine (rput_out n k ao len cap w hk).mono fun e w' ⟨he, o, hw⟩ => ⟨he, f, ?_, ⟨hs.hle, hs.hlen, fun i hi => ?_, fun i hi => ?_⟩, ?_⟩
    · rw [hw]; exact ho.alloc o
    · rw [hs.hbit i hi, decide_eq_false (by omega), Bool.or_false]
    · rw [hs.hout i hi, decide_eq_false (by omega), Bool.or_false]
    · rw [hw]; exact (But.refl _ _).alloc o
  · obtain ⟨j, rfl⟩ := Int.eq_ofNat_of_zero_le (show 0 ≤ k by omega)
    have hle := hs.hle
    have hlen := hs.hlen
    obtain ⟨b, rfl, hc⟩ := ho.at_ (by omega)
    have hj := hc (j / 64) (by omega)
    have hv : f (j / 64) ||| 2 ^ (j % 64) < 18446744073709551616 := or_lt (ho.small _ (by omega)) (pow_bit_lt (by omega))
    refine (rput_in n j b len cap (f (j / 64)) w (by omega) (by omega) (by omega) (ho.small _ (by omega)) hj.1 hj.2 (ho.lt _ rfl).1).mono fun e w' ⟨he, o, hw⟩ =>
      ⟨he, upd f (j / 64) (f (j / 64) ||| 2 ^ (j % 64)), ?_, ⟨hle, hlen, fun i hi => ?_, fun i hi => ?_⟩, ?_⟩
    · rw [hw]; exact (ho.set rfl (by omega) hv).alloc o
    · rw [bitAt_upd_or, hs.hbit i hi]
      congr 1
      rw [decide_eq_decide]; omega
    · rw [hs.hout i hi, decide_eq_false (by omega), Bool.or_false]
    · rw [hw]; exact ((But.refl _ _).setCell (p := ⟨b, j / 64, none⟩) (.inl ⟨⟨b, 0, none⟩, rfl, rfl⟩) _).alloc o

set_option maxHeartbeats 400000 in
/-- Zero: the empty set of N n. -/
theorem rzero_any (n : Nat) (w : World) (h1 : (n : Int) ≤ 8192) :
    Calls Tryd.prog 28 #[.int .i64 (n : Nat)] w fun e w' => ∃ ao len cap, e = .returned (.agg #[.int .i64 (n : Nat), .slice ao len cap]) ∧ OwnL w.heap.size w' ao len (fun _ => 0) ∧ len = (n + 63) / 64 ∧ Below w.heap.size w w' := by
  obtain ⟨i0, hi, hz0, hz1, hz2⟩ := info_parts Tryd.info46
  go_enter Tryd.func28, Tryd.ntmps28
  go_wp2_with (at_make; refine wpList_make_full _ rfl _ _ 27 rfl w.heap.size 22 i0 (.int .u64 0) 1 Tryd.underlying27 hi hz0 hz1 .i64 .i64 _ _ ((n + 63) / 64) rfl rfl (by omega) (by omega) (by rw [hz2]; omega) (by unfold maxLen; omega) (by simp) ?_)
  intro w2 hown hgr
  have hb : Below _ _ w2 := (Below.refl _ _).grown hgr (Nat.le_refl _) (by simp)
  obtain ⟨hc, hf⟩ := bcell hb
  have hlt : w.heap.size + 1 < w2.heap.size := by have := (hown.lt (w.heap.size + 1) (by simp [Value.ownBlock])).2; exact this
  have ho : Own w.heap.size w2 (some ⟨w.heap.size + 1, 0, none⟩) ((n + 63) / 64) (fun _ => 0) := by
    refine own_made ?_ hlt (by omega)
    simpa using hown
  clear hown hgr
  have HO : Hid (Own w.heap.size w2 (some ⟨w.heap.size + 1, 0, none⟩) ((n + 63) / 64) (fun _ => 0)) := ho
  clear ho
  go_wp2
  refine bodyPost_ret (v := .agg #[.int .i64 n, .slice (some ⟨w.heap.size + 1, 0, none⟩) ((n + 63) / 64) ((n + 63) / 64)]) (by simp [results, Tryd.results28, go_sem, hc]) rfl ⟨_, _, _, rfl, ?_, rfl, ?_⟩
  · exact HO.out.l.box (fun a e => by obtain rfl := Option.some.inj e; simp) _ _
  · have hb' : Below w.heap.size w w2 := ((Below.refl _ _).alloc (Nat.le_refl _) _).trans (hb.mono (by simp))
    exact (hb'.setCell (by simp) _).setCell (by simp) _
end Go.Proofs.YtehlmjjdegmnaaaDoor
