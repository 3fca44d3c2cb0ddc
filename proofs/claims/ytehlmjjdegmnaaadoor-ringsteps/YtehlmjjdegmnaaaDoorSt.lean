/- ring.noneOf, stateOf: the walks. -/
import Derived.Test.YtehlmjjdegmnaaaDoorEb
import Derived.Test.YtehlmjjdegmnaaaDoorShf
namespace Go.Proofs.YtehlmjjdegmnaaaDoor
open Go.RowKit
/-- What a call answers that makes a state: a set that can be read. -/
def RetSt (w : World) (n : Nat) (P : Nat → Bool) (e : Ending) (w' : World) : Prop := ∃ ao len cap f, e = .returned (.agg #[.int .i64 (n : Nat), .slice ao len cap]) ∧ Rd w' ao len f ∧ IsSet n len f P ∧ Below w.heap.size w w'
/-- The same in fresh memory. -/
def RetFr (w : World) (n : Nat) (P : Nat → Bool) (e : Ending) (w' : World) : Prop := ∃ ao len cap f, e = .returned (.agg #[.int .i64 (n : Nat), .slice ao len cap]) ∧ Rd w' ao len f ∧ (∀ q, ao = some q → w.heap.size ≤ q.block) ∧ IsSet n len f P ∧ Below w.heap.size w w'
theorem RetFr.st {w w' : World} {n : Nat} {P : Nat → Bool} {e : Ending} (h : RetFr w n P e w') : RetSt w n P e w' := by
  obtain ⟨ao, len, cap, f, he, hr, _, hs, hb⟩ := h
  exact ⟨ao, len, cap, f, he, hr, hs, hb⟩
theorem RetFr.congr {w w' : World} {n : Nat} {P Q : Nat → Bool} {e : Ending} (h : RetFr w n P e w') (hpq : ∀ i, P i = Q i) : RetFr w n Q e w' := by
  obtain rfl : P = Q := funext hpq
  exact h
theorem RetSt.congr {w w' : World} {n : Nat} {P Q : Nat → Bool} {e : Ending} (h : RetSt w n P e w') (hpq : ∀ i, P i = Q i) : RetSt w n Q e w' := by
  obtain rfl : P = Q := funext hpq
  exact h
/-- Any value of type Bits as a state of N ages. -/
def Sta (w : World) (x : Value) (n : Nat) (P : Nat → Bool) : Prop :=
  ∃ (m : Int) (ao : Option Addr) (len cap : Nat) (f : Nat → Nat), x = .agg #[.int .i64 m, .slice ao len cap] ∧ Rd w ao len f ∧ ((m = n ∧ IsSet n len f P) ∨ (¬ (m = n ∧ Ok m len f) ∧ P = fun _ => false))
theorem Sta.below {w w' : World} {x : Value} {n : Nat} {P : Nat → Bool} (h : Sta w x n P) (hb : Below w.heap.size w w') : Sta w' x n P := by
  obtain ⟨m, ao, len, cap, f, e, hr, h⟩ := h
  exact ⟨m, ao, len, cap, f, e, hr.below hb, h⟩
theorem sta_of {w : World} {m : Int} {ao : Option Addr} {len cap : Nat} {f : Nat → Nat} (n : Nat) (h : Rd w ao len f) : ∃ P, Sta w (.agg #[.int .i64 m, .slice ao len cap]) n P := by
  by_cases hc : m = n ∧ Ok m len f
  · obtain ⟨m', e, hs⟩ := hc.2.isSet
    obtain rfl : m' = n := by omega
    exact ⟨_, m, ao, len, cap, f, rfl, h, .inl ⟨e, hs⟩⟩
  · exact ⟨_, m, ao, len, cap, f, rfl, h, .inr ⟨hc, rfl⟩⟩
theorem RetSt.sta {w w' : World} {n : Nat} {P : Nat → Bool} {e : Ending} (h : RetSt w n P e w') : ∃ ao len cap, e = .returned (.agg #[.int .i64 (n : Nat), .slice ao len cap]) ∧ Sta w' (.agg #[.int .i64 (n : Nat), .slice ao len cap]) n P ∧ SetAt w' (.agg #[.int .i64 (n : Nat), .slice ao len cap]) n P ∧ Below w.heap.size w w' := by
  obtain ⟨ao, len, cap, f, he, hr, hs, hb⟩ := h
  exact ⟨ao, len, cap, he, ⟨n, ao, len, cap, f, rfl, hr, .inl ⟨rfl, hs⟩⟩, ⟨ao, len, cap, f, rfl, hr, hs⟩, hb⟩
theorem Rd.setO {w : World} {ao : Option Addr} {len p i : Nat} {f : Nat → Nat} (h : Rd w ao len f) (hne : ∀ q, ao = some q → 0 < len → q.block ≠ p) (v : Value) : Rd (w.setCell ⟨p, i, none⟩ v) ao len f := by
  refine ⟨h.small, fun hl => ?_⟩
  obtain ⟨b, off, e, hlt, hc⟩ := h.at_ hl
  have hbp : b ≠ p := hne _ e hl
  refine ⟨b, off, e, by simpa using hlt, fun j hj => ?_⟩
  rw [World.cell?_of_block (w := w) (Below.heap_setCell _ _ _ _ hbp)]
  exact hc j hj
theorem Rd.set2 {w : World} {ao : Option Addr} {len p : Nat} {f : Nat → Nat} (h : Rd w ao len f) (hne : ∀ q, ao = some q → 0 < len → q.block ≠ p) (u v : Value) : Rd ((w.setCell ⟨p, 0, none⟩ u).setCell ⟨p, 1, none⟩ v) ao len f := (h.setO hne u).setO hne v
theorem Rd.lo {w : World} {ao : Option Addr} {len : Nat} {f : Nat → Nat} (h : Rd w ao len f) : ∀ q, ao = some q → 0 < len → q.block < w.heap.size := by
  intro q e hl
  obtain ⟨b, off, e', hlt, _⟩ := h.at_ hl
  rw [e] at e'
  obtain rfl := Option.some.inj e'
  exact hlt
theorem newP_none (n : Nat) (z : Nat → Int) : newP n z 0 = fun _ => false := by
  funext i
  simp [newP, among]
set_option maxHeartbeats 1000000 in
/-- noneOf. -/
theorem none_any {a b c d lo hi : Nat} (w : World) (hhi : hi ≤ 1000) : Calls Tryd.prog 27 #[rgV a b c d lo hi] w (RetFr w (hi + 1) (fun _ => false)) := by
  have hB0 := below_two w (.cells #[.int .u64 (a : Nat), .int .u64 (b : Nat), .int .u64 (c : Nat), .int .u64 (d : Nat), .int .i64 lo, .int .i64 hi] 26) (.cells #[.int .i64 0, .slice none 0 0] 29)
  have b1 := Box.new1 w (.cells #[.int .u64 (a : Nat), .int .u64 (b : Nat), .int .u64 (c : Nat), .int .u64 (d : Nat), .int .i64 lo, .int .i64 hi] 26) (.int .i64 0) (.slice none 0 0)
  have HN := new_any (hi + 1) none 0 0 (fun _ => 0) ((w.alloc (.cells #[.int .u64 (a : Nat), .int .u64 (b : Nat), .int .u64 (c : Nat), .int .u64 (d : Nat), .int .i64 lo, .int .i64 hi] 26)).alloc (.cells #[.int .i64 0, .slice none 0 0] 29)) (by omega) (fun h => by omega) (by decide)
  rw [newP_none] at HN
  have hcast : ((hi + 1 : Nat) : Int) = (hi : Int) + 1 := by omega
  unfold RetNew at HN
  rw [hcast] at HN
  unfold rgV
  go_enter Tryd.func27, Tryd.ntmps27
  go_wp2_with (go_at_call 46; refine HN.mono ?_; rintro e w1 ⟨ao, len, cap, f, rfl, ho, hs, hb⟩; have hB1 := hB0.trans (hb.mono (by simp; omega)); have b1' := (b1.below hb).alloc (.cells #[.int .i64 ((hi : Int) + 1), .slice ao len cap] 29); clear HN hb b1 hB0; obtain ⟨c10, c11, f10, f11⟩ := b1'.cells)
  have hsz := hB1.size
  have ho2 : Own (w.heap.size + 2) w1 ao len f := by simpa using ho
  have b2 := b1'.set (.int .i64 ((hi : Int) + 1)) (.slice ao len cap)
  obtain ⟨k0, k1, -, -⟩ := b2.cells
  have hao : ∀ a, ao = some a → w.heap.size + 2 ≤ a.block := fun a e => (ho2.lt a e).2
  refine bodyPost_ret (v := .agg #[.int .i64 ((hi + 1 : Nat) : Int), .slice ao len cap]) (by simp [results, Tryd.results27, go_sem, k0, k1, hcast]) rfl ⟨_, _, _, f, rfl, ?_, fun q e => by have := hao q e; omega, hs, ?_⟩
  · exact ((ho2.alloc _).rd).set2 (fun q e _ => by have := hao q e; omega) _ _
  · exact ((hB1.alloc hsz _).setCell (p := ⟨w.heap.size + 1, 0, none⟩) (by simp) _).setCell (p := ⟨w.heap.size + 1, 1, none⟩) (by simp) _
/-- Three blocks laid. -/
theorem below3 (w : World) (o o' o'' : Obj) : Below w.heap.size w (((w.alloc o).alloc o').alloc o'') := (((Below.refl _ _).alloc (Nat.le_refl _) _).alloc (by simp) _).alloc (by simp; omega) _
theorem RgAt.new3 (w : World) (a b c d : Nat) (lo hi : Int) (o' o'' : Obj) : RgAt (((w.alloc (.cells #[.int .u64 (a : Nat), .int .u64 (b : Nat), .int .u64 (c : Nat), .int .u64 (d : Nat), .int .i64 lo, .int .i64 hi] 26)).alloc o').alloc o'') w.heap.size a b c d lo hi :=
  ((RgAt.new w a b c d lo hi).below ((Below.refl _ _).alloc (Nat.le_refl _) o')).below ((Below.refl _ _).alloc (Nat.le_refl _) o'')
theorem Box.new2' (w : World) (o o' : Obj) (x y : Value) : Box (((w.alloc o).alloc o').alloc (.cells #[x, y] 29)) (w.heap.size + 1 + 1) x y := Box.new2 w o o' x y
set_option maxHeartbeats 1000000 in
/-- stateOf. -/
theorem state_any {a b c d lo hi : Nat} {x : Value} {P : Nat → Bool} (w : World) (hhi : hi ≤ 1000) (h : Sta w x (hi + 1) P) : Calls Tryd.prog 23 #[rgV a b c d lo hi, x] w (RetSt w (hi + 1) P) := by
  obtain ⟨m, ao, len, cap, f, rfl, hr, h⟩ := h
  have hB0 := below3 w (.cells #[.int .u64 (a : Nat), .int .u64 (b : Nat), .int .u64 (c : Nat), .int .u64 (d : Nat), .int .i64 lo, .int .i64 hi] 26) (.cells #[.int .i64 m, .slice ao len cap] 29) (.cells #[.int .i64 0, .slice none 0 0] 29)
  have r0 := RgAt.new3 w a b c d lo hi (.cells #[.int .i64 m, .slice ao len cap] 29) (.cells #[.int .i64 0, .slice none 0 0] 29)
  have b1 := (Box.new1 w (.cells #[.int .u64 (a : Nat), .int .u64 (b : Nat), .int .u64 (c : Nat), .int .u64 (d : Nat), .int .i64 lo, .int .i64 hi] 26) (.int .i64 m) (.slice ao len cap)).alloc (.cells #[.int .i64 0, .slice none 0 0] 29)
  have b2 := Box.new2' w (.cells #[.int .u64 (a : Nat), .int .u64 (b : Nat), .int .u64 (c : Nat), .int .u64 (d : Nat), .int .i64 lo, .int .i64 hi] 26) (.cells #[.int .i64 m, .slice ao len cap] 29) (.int .i64 0) (.slice none 0 0)
  have hcast : ((hi + 1 : Nat) : Int) = (hi : Int) + 1 := by omega
  have hr0 := hr.below hB0
  have hlo := hr.lo
  rcases h with ⟨hm, hs⟩ | ⟨hno, rfl⟩
  · have HC := check_ok m ao len cap f _ hr0 (by rw [hm]; exact hs.ok)
    rw [hcast] at hm
    have hne : (m != (hi : Int) + 1) = false := by simpa using hm
    have HM : Hid (m = (hi : Int) + 1) := hm
    clear hm hr
    unfold rgV
    go_enter Tryd.func23, Tryd.ntmps23
    go_wp2_with (go_at_call 42; refine HC.mono ?_; rintro e w1 ⟨rfl, hb⟩; have hB1 := hB0.trans (hb.mono (by simp; omega)); have b1' := b1.below hb; have b2' := b2.below hb; have hr1 := hr0.below hb; clear HC hb b1 b2 hB0 r0 hr0; obtain ⟨c10, c11, f10, f11⟩ := b1'.cells; obtain ⟨c20, c21, f20, f21⟩ := b2'.cells)
    have b3 := b2'.set (.int .i64 m) (.slice ao len cap)
    obtain ⟨k0, k1, -, -⟩ := b3.cells
    rw [HM.out] at k0 k1
    rw [HM.out]
    refine bodyPost_ret (v := .agg #[.int .i64 ((hi + 1 : Nat) : Int), .slice ao len cap]) (by simp [results, Tryd.results23, go_sem, k0, k1, hcast]) rfl ⟨_, _, _, f, rfl, ?_, hs, ?_⟩
    · exact hr1.set2 (fun q e h0 => by have := hlo q e h0; omega) _ _
    · exact (hB1.setCell (p := ⟨w.heap.size + 1 + 1, 0, none⟩) (by simp; omega) _).setCell (p := ⟨w.heap.size + 1 + 1, 1, none⟩) (by simp; omega) _
  · unfold rgV
    by_cases hm : m = ((hi + 1 : Nat) : Int)
    · have HC := check_bad m ao len cap f _ hr0 (fun hk => hno ⟨hm, hk⟩)
      rw [hcast] at hm
      have hne : (m != (hi : Int) + 1) = false := by simpa using hm
      clear hm hr hno
      go_enter Tryd.func23, Tryd.ntmps23
      go_wp2_with (first
        | (go_at_call 42; refine HC.mono ?_; rintro e w1 ⟨rfl, hb⟩; have hB1 := hB0.trans (hb.mono (by simp; omega)); have r1 := r0.below hb; have b2' := b2.below hb; clear HC hb b1 b2 hB0 r0 hr0; obtain ⟨⟨g0, g1, g2, g3, g4, g5⟩, -⟩ := r1.cells)
        | (go_at_call 27; refine (none_any w1 hhi).mono ?_; rintro e w2 ⟨ao2, len2, cap2, f2, rfl, hr2, hq2, hs2, hb2⟩; have hB2 := hB1.trans (hb2.mono hB1.size); have b3 := b2'.below hb2; clear g0 g1 g2 g3 g4 g5; obtain ⟨c20, c21, f20, f21⟩ := b3.cells))
      have b4 := b3.set (.int .i64 ((hi : Int) + 1)) (.slice ao2 len2 cap2)
      obtain ⟨k0, k1, -, -⟩ := b4.cells
      have hszz := b2'.lt
      refine bodyPost_ret (v := .agg #[.int .i64 ((hi + 1 : Nat) : Int), .slice ao2 len2 cap2]) (by simp [results, Tryd.results23, go_sem, k0, k1, hcast]) rfl ⟨_, _, _, f2, rfl, ?_, hs2, ?_⟩
      · exact hr2.set2 (fun q e h0 => by have := hq2 q e; omega) _ _
      · exact (hB2.setCell (p := ⟨w.heap.size + 1 + 1, 0, none⟩) (by simp; omega) _).setCell (p := ⟨w.heap.size + 1 + 1, 1, none⟩) (by simp; omega) _
    · rw [hcast] at hm
      have hne : (m != (hi : Int) + 1) = true := by simpa using hm
      clear hm hr hno b1
      obtain ⟨⟨g0, g1, g2, g3, g4, g5⟩, -⟩ := r0.cells
      obtain ⟨W0, hW0⟩ : ∃ W0, W0 = ((w.alloc (.cells #[.int .u64 (a : Nat), .int .u64 (b : Nat), .int .u64 (c : Nat), .int .u64 (d : Nat), .int .i64 lo, .int .i64 hi] 26)).alloc (.cells #[.int .i64 m, .slice ao len cap] 29)).alloc (.cells #[.int .i64 0, .slice none 0 0] 29) := ⟨_, rfl⟩
      have HN := none_any (a := a) (b := b) (c := c) (d := d) (lo := lo) (hi := hi) (((w.alloc (.cells #[.int .u64 (a : Nat), .int .u64 (b : Nat), .int .u64 (c : Nat), .int .u64 (d : Nat), .int .i64 lo, .int .i64 hi] 26)).alloc (.cells #[.int .i64 m, .slice ao len cap] 29)).alloc (.cells #[.int .i64 0, .slice none 0 0] 29)) hhi
      unfold rgV at HN
      have b2' := b2
      clear hW0 W0
      go_enter Tryd.func23, Tryd.ntmps23
      go_wp2_with (go_at_call 27; refine HN.mono ?_; rintro e w2 ⟨ao2, len2, cap2, f2, rfl, hr2, hq2, hs2, hb2⟩; have hB2 := hB0.trans (hb2.mono (by simp; omega)); have b3 := b2.below hb2; clear g0 g1 g2 g3 g4 g5; obtain ⟨c20, c21, f20, f21⟩ := b3.cells)
      have b4 := b3.set (.int .i64 ((hi : Int) + 1)) (.slice ao2 len2 cap2)
      obtain ⟨k0, k1, -, -⟩ := b4.cells
      have hszz := b2'.lt
      refine bodyPost_ret (v := .agg #[.int .i64 ((hi + 1 : Nat) : Int), .slice ao2 len2 cap2]) (by simp [results, Tryd.results23, go_sem, k0, k1, hcast]) rfl ⟨_, _, _, f2, rfl, ?_, hs2, ?_⟩
      · exact hr2.set2 (fun q e h0 => by have := hq2 q e; omega) _ _
      · exact (hB2.setCell (p := ⟨w.heap.size + 1 + 1, 0, none⟩) (by simp; omega) _).setCell (p := ⟨w.heap.size + 1 + 1, 1, none⟩) (by simp; omega) _
end Go.Proofs.YtehlmjjdegmnaaaDoor
