/- BitsTell: the walk of the law. -/
import Derived.Test.YtclgefpkcagbfaaDoorLa
import Derived.Test.YtclgefpkcagbfaaDoorSh
import Derived.Deep.RegionHeld3
namespace Go.Proofs.YtclgefpkcagbfaaDoor
open Go.RowKit
/-- What First answers, told by two values. -/
theorem RetF.vals (P : Nat → Bool) (a : Nat) : ∃ (f : Nat) (b : Bool), ∀ w e w', RetF w P a e w' → e = .returned (.tuple #[.int .i64 (f : Nat), .bool b]) ∧ Below w.heap.size w w' := by
  by_cases h : ∃ k, IsF P a k
  · obtain ⟨k, hk⟩ := h
    refine ⟨k, true, fun w e w' hr => ?_⟩
    obtain ⟨⟨k', he, hk'⟩ | ⟨he, hno⟩, hb⟩ := hr
    · obtain rfl := hk.uniq hk'; exact ⟨he, hb⟩
    · have := hno k hk.le; rw [hk.yes] at this; cases this
  · refine ⟨0, false, fun w e w' hr => ?_⟩
    obtain ⟨⟨k', he, hk'⟩ | ⟨he, hno⟩, hb⟩ := hr
    · exact absurd ⟨k', hk'⟩ h
    · exact ⟨he, hb⟩
/-- What Last answers, told by two values, beside the list of all numbers. -/
theorem RetM.vals (P : Nat → Bool) (n : Nat) (hout : ∀ i, n ≤ i → P i = false) : ∃ (l : Nat) (b : Bool), (∀ w e w', RetM w P n e w' → e = .returned (.tuple #[.int .i64 (l : Nat), .bool b]) ∧ Below w.heap.size w w') ∧
    ((b = true ∧ ∃ L, come P n = L ++ [l]) ∨ (b = false ∧ l = 0 ∧ come P n = [])) := by
  by_cases h : ∃ k, k < n ∧ P k = true ∧ ∀ j, k < j → P j = false
  · obtain ⟨k, hk, hp, hno⟩ := h
    refine ⟨k, true, fun w e w' hr => ?_, .inl ⟨rfl, _, come_last hk hp hno⟩⟩
    obtain ⟨⟨k', he, hk', hp', hno'⟩ | ⟨he, hno'⟩, hb⟩ := hr
    · have e1 : k = k' := by
        rcases Nat.lt_trichotomy k k' with h1 | h1 | h1
        · have := hno k' h1; rw [hp'] at this; cases this
        · exact h1
        · have := hno' k h1; rw [hp] at this; cases this
      subst e1; exact ⟨he, hb⟩
    · have := hno' k; rw [hp] at this; cases this
  · have hall : ∀ j, P j = false := by
      intro j
      cases hp : P j with
      | false => rfl
      | true =>
        exfalso
        have hj : j < n := by
          rcases Nat.lt_or_ge j n with h' | h'
          · exact h'
          · have := hout j h'; rw [hp] at this; cases this
        obtain ⟨k, hk1, hk2, hk3⟩ : ∃ k, k < n ∧ P k = true ∧ ∀ i, k < i → i < n → P i = false := by
          have : ∀ m, m ≤ n → (∃ k, k < m ∧ P k = true) → ∃ k, k < m ∧ P k = true ∧ ∀ i, k < i → i < m → P i = false := by
            intro m
            induction m with
            | zero => rintro _ ⟨k, hk, _⟩; omega
            | succ m ih =>
              intro hm hx
              cases hpm : P m with
              | true => exact ⟨m, by omega, hpm, fun i h1 h2 => by omega⟩
              | false =>
                obtain ⟨k, hk, hpk⟩ := hx
                have hkm : k < m := by
                  by_cases e : k = m
                  · subst e; rw [hpm] at hpk; cases hpk
                  · omega
                obtain ⟨q, h1, h2, h3⟩ := ih (by omega) ⟨k, hkm, hpk⟩
                refine ⟨q, by omega, h2, fun i h4 h5 => ?_⟩
                by_cases e : i = m
                · subst e; exact hpm
                · exact h3 i h4 (by omega)
          exact this n (Nat.le_refl _) ⟨j, hj, hp⟩
        exact h ⟨k, hk1, hk2, fun i hi => by
          rcases Nat.lt_or_ge i n with h' | h'
          · exact hk3 i hi h'
          · exact hout i h'⟩
    refine ⟨0, false, fun w e w' hr => ?_, .inr ⟨rfl, rfl, come_nothing n hall⟩⟩
    obtain ⟨⟨k', he, hk', hp', hno'⟩ | ⟨he, hno'⟩, hb⟩ := hr
    · rw [hall k'] at hp'; cases hp'
    · exact ⟨he, hb⟩
/-- The set's box and the list of its numbers, as they were laid. -/
structure TB (w : World) (x0 x1 : Value) (ao : Option Addr) (N : Nat) (L : List Nat) (W : World) : Prop where
  bel : Below w.heap.size w W
  box : Box W w.heap.size x0 x1
  rd : RdI W ao N (fun i => ((L.getD i 0 : Nat) : Int))
theorem TB.next {w W W' : World} {x0 x1 : Value} {ao : Option Addr} {N : Nat} {L : List Nat} (t : TB w x0 x1 ao N L W) (hb : Below W.heap.size W W') : TB w x0 x1 ao N L W' :=
  ⟨t.bel.trans (hb.mono t.bel.size), t.box.below hb, t.rd.below hb⟩
theorem TB.cells {w W : World} {x0 x1 : Value} {ao : Option Addr} {N : Nat} {L : List Nat} (t : TB w x0 x1 ao N L W) : W.cell? ⟨w.heap.size, 0, none⟩ = some x0 ∧ W.cell? ⟨w.heap.size, 1, none⟩ = some x1 := by
  obtain ⟨c0, c1, _⟩ := t.box.cells
  exact ⟨c0, c1⟩
/-- A list of numbers, of a length with a name. -/
def RetN (w : World) (L : List Nat) (N : Nat) (e : Ending) (w' : World) : Prop := ∃ ao cap, e = .returned (.slice ao N cap) ∧ RdI w' ao N (fun i => ((L.getD i 0 : Nat) : Int)) ∧ Below w.heap.size w w'
theorem retN {w : World} {L : List Nat} {N : Nat} (h : L.length = N) (e : Ending) (w' : World) (hr : RetInts w L e w') : RetN w L N e w' := by subst h; exact hr.out
set_option maxRecDepth 100000 in
set_option maxHeartbeats 4000000 in
theorem bitsTell_walk {w : World} {x : Value} {n : Nat} {P : Nat → Bool} (h : Arg w x n P) (k : Int) (hk1 : -9223372036854775808 ≤ k) (hk2 : k ≤ 9223372036854775807) (hT : Tab w) :
    Calls Tryd.prog 3 #[x, .int .i64 k] w fun e w' => e = .returned (.bool true) ∧ Below w.heap.size w w' := by
  obtain ⟨m, a0, l0, c0, rfl⟩ := h.shape
  have hle := h.le
  obtain ⟨fv, fb, hF⟩ := RetF.vals P k.toNat
  obtain ⟨lv, lb, hM, hL⟩ := RetM.vals P n h.out
  have hlen := come_len P n
  obtain ⟨T, hTd⟩ : ∃ T : Nat → Bool, T = fun i : Nat => decide (0 ≤ (i : Int) - k) && P ((i : Int) - k).toNat && decide (i < n) := ⟨_, rfl⟩
  have H6 : ∀ W, Below w.heap.size w W → Calls Tryd.prog 6 #[.agg #[.int .i64 m, .slice a0 l0 c0]] W (RetInts W (come P n)) := fun W hb => rlist_full (h.below hb)
  have H14 : ∀ W, Below w.heap.size w W → Calls Tryd.prog 14 #[.agg #[.int .i64 m, .slice a0 l0 c0]] W (RetInts W (come P n)) := fun W hb => all_any (h.below hb) (hT.below hb)
  have H15 : ∀ W, Below w.heap.size w W → Calls Tryd.prog 15 #[.agg #[.int .i64 m, .slice a0 l0 c0]] W (RetI W (come P n).length) := fun W hb => count_any (h.below hb)
  have h7 : Hid (∀ W, Below w.heap.size w W → Calls Tryd.prog 7 #[.agg #[.int .i64 m, .slice a0 l0 c0], .int .i64 k] W fun e w' => e = .returned (.tuple #[.int .i64 (fv : Nat), .bool fb]) ∧ Below W.heap.size W w') := fun W hb => (first_any k (h.below hb) (hT.below hb)).mono fun e w' hr => hF W e w' hr
  have h8 : Hid (∀ W, Below w.heap.size w W → Calls Tryd.prog 8 #[.agg #[.int .i64 m, .slice a0 l0 c0], .int .i64 k] W fun e w' => e = .returned (.tuple #[.int .i64 (fv : Nat), .bool fb]) ∧ Below W.heap.size W w') := fun W hb => (rfirst_any k (h.below hb)).mono fun e w' hr => hF W e w' hr
  have h9 : Hid (∀ W, Below w.heap.size w W → Calls Tryd.prog 9 #[.agg #[.int .i64 m, .slice a0 l0 c0]] W fun e w' => e = .returned (.tuple #[.int .i64 (lv : Nat), .bool lb]) ∧ Below W.heap.size W w') := fun W hb => (last_any (h.below hb)).mono fun e w' hr => hM W e w' hr
  have h11 : Hid (∀ W, Below w.heap.size w W → Calls Tryd.prog 11 #[.agg #[.int .i64 m, .slice a0 l0 c0], .int .i64 k] W (RetSet W n T)) := fun W hb => by rw [hTd]; exact shift_any k (h.below hb) hk1 hk2
  have h12 : Hid (∀ W, Below w.heap.size w W → Calls Tryd.prog 12 #[.agg #[.int .i64 m, .slice a0 l0 c0], .int .i64 k] W (RetL W n T)) := fun W hb => by rw [hTd]; exact rshift_any k (h.below hb)
  generalize come P n = L at *
  obtain ⟨N, hN⟩ : ∃ N, L.length = N := ⟨_, rfl⟩
  have h6 : Hid (∀ W, Below w.heap.size w W → Calls Tryd.prog 6 #[.agg #[.int .i64 m, .slice a0 l0 c0]] W (RetN W L N)) := fun W hb => (H6 W hb).mono (retN hN)
  have h14 : Hid (∀ W, Below w.heap.size w W → Calls Tryd.prog 14 #[.agg #[.int .i64 m, .slice a0 l0 c0]] W (RetN W L N)) := fun W hb => (H14 W hb).mono (retN hN)
  have h15 : Hid (∀ W, Below w.heap.size w W → Calls Tryd.prog 15 #[.agg #[.int .i64 m, .slice a0 l0 c0]] W (RetI W N)) := fun W hb => by rw [← hN]; exact H15 W hb
  have hB0 : Below w.heap.size w (w.alloc (.cells #[.int .i64 m, .slice a0 l0 c0] 24)) := (Below.refl _ _).alloc (Nat.le_refl _) _
  have q0 := Box.new w (.int .i64 m) (.slice a0 l0 c0)
  have hN8 : (N : Int) ≤ 8192 := by omega
  have HL : Hid ((lb = true ∧ ∃ L', L = L' ++ [lv]) ∨ (lb = false ∧ lv = 0 ∧ L = [])) := hL
  have HN : Hid (L.length = N) := hN
  clear H6 H14 H15 hF hM hL hlen hTd hN h hle
  go_enter Tryd.func3, Tryd.ntmps3
  go_wp2_with fail
  refine (live_any _).mono ?_
  rintro e w1 ⟨rfl, hb1⟩
  replace q0 := q0.below hb1
  replace hB0 := hB0.trans (hb1.mono hB0.size)
  clear hb1
  obtain ⟨p0, p1, p2, p3⟩ := q0.cells
  go_wp2_with fail
  refine (h6.out _ hB0).mono ?_
  rintro e w2 ⟨ao, cap, rfl, hrd, hb2⟩
  have t : TB w (.int .i64 m) (.slice a0 l0 c0) ao N L w2 := ⟨hB0.trans (hb2.mono hB0.size), q0.below hb2, hrd⟩
  clear hb2 hrd q0 hB0 p0 p1 p2 p3
  obtain ⟨p0, p1⟩ := t.cells
  go_wp2_with fail
  refine (h7.out _ t.bel).mono ?_
  rintro e w3 ⟨rfl, hb3⟩
  replace t := t.next hb3
  clear hb3 p0 p1
  obtain ⟨p0, p1⟩ := t.cells
  go_wp2_with fail
  refine (h8.out _ t.bel).mono ?_
  rintro e w4 ⟨rfl, hb4⟩
  replace t := t.next hb4
  clear hb4 p0 p1
  obtain ⟨p0, p1⟩ := t.cells
  go_wp2_with fail
  refine (h9.out _ t.bel).mono ?_
  rintro e w5 ⟨rfl, hb5⟩
  replace t := t.next hb5
  clear hb5 p0 p1
  go_upto_region 7 with fail
  go_cut [58] from 33 to 58 (fun v wx => v = .bool false ∧ TB w (.int .i64 m) (.slice a0 l0 c0) ao N L wx)
  case first =>
    rcases HL.out with ⟨rfl, L', e⟩ | ⟨rfl, rfl, e⟩
    · have hNp : 0 < N := by rw [← HN.out, e]; simp
      obtain ⟨b, off, rfl, hb, hc⟩ := t.rd hNp
      have hcl := hc (N - 1) (by omega)
      have ev : L.getD (N - 1) 0 = lv := by
        rw [← HN.out, e]
        simp
      simp only [ev] at hcl
      have hNi : (0 : Int) < (N : Int) := by omega
      have hi1 : (0 : Int) ≤ (N : Int) - 1 := by omega
      have hi2 : (N : Int) - 1 < (N : Int) := by omega
      have hi3 : ((N : Int) - 1).toNat = N - 1 := by omega
      have hne : ((lv : Int) != (lv : Int)) = false := by simp
      clear hc
      have HT : Hid (TB w (.int .i64 m) (.slice a0 l0 c0) (some ⟨b, off, none⟩) N L w5) := t
      clear t
      go_wp2_with fail
      go_meet
      exact ⟨rfl, HT.out⟩
    · have hN0 : N = 0 := by rw [← HN.out, e]; rfl
      have HT : Hid (TB w (.int .i64 m) (.slice a0 l0 c0) ao N L w5) := t
      clear t
      subst hN0
      go_wp2_with fail
      go_meet
      exact ⟨rfl, HT.out⟩
  case rest =>
    clear t
    obtain ⟨rfl, t⟩ := hcut
    go_wp2_with fail
    replace t := t.next (Below.refl _ _).drew
    have hc := t.cells
    have hff : ((fv : Int) == (fv : Int)) = true := by simp
    have hNN : ((N : Int) == (N : Int)) = true := by simp
    have hbb : (fb == fb) = true := by simp
    have h13 : Hid (∀ W bo cb, RdI W ao N (fun i => ((L.getD i 0 : Nat) : Int)) → RdI W bo N (fun i => ((L.getD i 0 : Nat) : Int)) → Calls Tryd.prog 13 #[.slice bo N cb, .slice ao N cap] W fun e w' => e = .returned (.bool true) ∧ Below W.heap.size W w') := fun W bo cb h1 h2 => equalI_same bo ao N cb cap _ W h2 h1 (by omega)
    clear h6 h7 h8 h9 HL
    go_region_held3 (fun w' => w'.cell? ⟨w.heap.size, 0, none⟩ = some (.int .i64 m) ∧ w'.cell? ⟨w.heap.size, 1, none⟩ = some (.slice a0 l0 c0)) (exact hc)
      (first
        | (go_at_call 11; refine (h11.out _ t.bel).mono ?_; rintro en v1 ⟨ao1, len1, cap1, f1, rfl, ho1, hs1, q⟩; have g1 : Hid (SetAt v1 (.agg #[.int .i64 (n : Nat), .slice ao1 len1 cap1]) n T) := ⟨ao1, len1, cap1, f1, rfl, ho1.rd, hs1⟩; replace t := t.next q; clear q hc ho1 hs1; have hc := t.cells)
        | (go_at_call 12; refine (h12.out _ t.bel).mono ?_; rintro en v2 ⟨ao2, len2, cap2, f2, rfl, ho2, hs2, q⟩; have g2 : Hid (SetAt v2 (.agg #[.int .i64 (n : Nat), .slice ao2 len2 cap2]) n T) := ⟨ao2, len2, cap2, f2, rfl, ho2.rd, hs2⟩; replace g1 : Hid (SetAt v2 (.agg #[.int .i64 (n : Nat), .slice ao1 len1 cap1]) n T) := g1.out.below q; replace t := t.next q; clear q hc ho2 hs2; have hc := t.cells)
        | (go_at_call 10; refine (exact_same g1.out g2.out (fun _ => rfl)).mono ?_; rintro en v3 ⟨rfl, q⟩; replace t := t.next q; clear q hc g1 g2; have hc := t.cells)
        | (go_at_call 14; refine (h14.out _ t.bel).mono ?_; rintro en v4 ⟨bo, cb, rfl, r2, q⟩; replace t := t.next q; clear q hc; have hc := t.cells)
        | (go_at_call 13; refine (h13.out _ _ _ t.rd r2).mono ?_; rintro en v5 ⟨rfl, q⟩; replace t := t.next q; clear q hc r2; have hc := t.cells)
        | (go_at_call 15; refine (h15.out _ t.bel).mono ?_; rintro en v6 ⟨rfl, q⟩; replace t := t.next q; clear q hc; have hc := t.cells))
    all_goals
      go_wp2
      go_ret
      exact ⟨rfl, t.bel⟩
end Go.Proofs.YtclgefpkcagbfaaDoor
