/- Ported: Kb. -/
import Derived.Test.YthbmfnibgjlkhaaDoorKa
namespace Go.Proofs.YthbmfnibgjlkhaaDoor.K
open Go.RowKit
theorem idx0 (x y z t : Value) (w : World) : (Instr.index 24 (.agg #[x, y, z, t]) (.int .i64 0)).run Tryd.prog w = .ok x w := by kernel_rfl
theorem idx1 (x y z t : Value) (w : World) : (Instr.index 24 (.agg #[x, y, z, t]) (.int .i64 1)).run Tryd.prog w = .ok y w := by kernel_rfl
theorem idx2 (x y z t : Value) (w : World) : (Instr.index 24 (.agg #[x, y, z, t]) (.int .i64 2)).run Tryd.prog w = .ok z w := by kernel_rfl
theorem idx3 (x y z t : Value) (w : World) : (Instr.index 24 (.agg #[x, y, z, t]) (.int .i64 3)).run Tryd.prog w = .ok t w := by kernel_rfl
/-- The cells of a slice of classes can be read, and hold the words F. -/
structure RdC (w : World) (ao : Option Addr) (len : Nat) (F : Nat → Nat → Nat) : Prop where
  at_ : 0 < len → ∃ b off, ao = some ⟨b, off, none⟩ ∧ b < w.heap.size ∧ ∀ i, i < len → ∀ j, j < 4 → w.cell? ⟨b, off + i * 4 + j, none⟩ = some (.int .u64 (F i j : Nat))
theorem RdC.below {w w' : World} {ao : Option Addr} {len : Nat} {F : Nat → Nat → Nat} (h : RdC w ao len F) (hb : Below w.heap.size w w') : RdC w' ao len F := by
  refine ⟨fun hl => ?_⟩
  obtain ⟨b, off, e, hlt, hc⟩ := h.at_ hl
  exact ⟨b, off, e, Nat.lt_of_lt_of_le hlt hb.size, fun i hi j hj => by rw [hb.cell (p := ⟨b, off + i * 4 + j, none⟩) hlt]; exact hc i hi j hj⟩
/-- What is in one of the first n classes. -/
def unN (Ps : Nat → Nat → Bool) : Nat → Nat → Bool
  | 0 => fun _ => false
  | n + 1 => fun x => unN Ps n x || Ps n x
/-- Two classes on their way: the one in block n + 1, beside the result's block n. -/
structure Way2 (w : World) (p q r s : Nat) (wr : World) : Prop where
  ex : Bx wr (w.heap.size + 1) (.int .u64 (p : Nat)) (.int .u64 (q : Nat)) (.int .u64 (r : Nat)) (.int .u64 (s : Nat))
  res : ∃ a b c d, Bx wr w.heap.size a b c d
  bel : Below w.heap.size w wr
section
variable {w wr : World} {p q r s : Nat}
theorem Way2.alloc (h : Way2 w p q r s wr) (o : Obj) : Way2 w p q r s (wr.alloc o) := by
  obtain ⟨hx, ⟨a, b, c, d, hy⟩, hb⟩ := h
  exact ⟨hx.alloc o, ⟨a, b, c, d, hy.alloc o⟩, hb.alloc hb.size o⟩
theorem Way2.set0 (h : Way2 w p q r s wr) (u : Nat) : Way2 w u q r s (wr.setCell ⟨w.heap.size + 1, 0, none⟩ (.int .u64 (u : Nat))) := by
  obtain ⟨hx, ⟨a, b, c, d, hy⟩, hb⟩ := h
  exact ⟨hx.set0 _, ⟨a, b, c, d, hy.other (p := ⟨w.heap.size + 1, 0, none⟩) (by simp) _⟩, hb.setCell (p := ⟨w.heap.size + 1, 0, none⟩) (by simp) _⟩
theorem Way2.set1 (h : Way2 w p q r s wr) (u : Nat) : Way2 w p u r s (wr.setCell ⟨w.heap.size + 1, 1, none⟩ (.int .u64 (u : Nat))) := by
  obtain ⟨hx, ⟨a, b, c, d, hy⟩, hb⟩ := h
  exact ⟨hx.set1 _, ⟨a, b, c, d, hy.other (p := ⟨w.heap.size + 1, 1, none⟩) (by simp) _⟩, hb.setCell (p := ⟨w.heap.size + 1, 1, none⟩) (by simp) _⟩
theorem Way2.set2 (h : Way2 w p q r s wr) (u : Nat) : Way2 w p q u s (wr.setCell ⟨w.heap.size + 1, 2, none⟩ (.int .u64 (u : Nat))) := by
  obtain ⟨hx, ⟨a, b, c, d, hy⟩, hb⟩ := h
  exact ⟨hx.set2 _, ⟨a, b, c, d, hy.other (p := ⟨w.heap.size + 1, 2, none⟩) (by simp) _⟩, hb.setCell (p := ⟨w.heap.size + 1, 2, none⟩) (by simp) _⟩
theorem Way2.set3 (h : Way2 w p q r s wr) (u : Nat) : Way2 w p q r u (wr.setCell ⟨w.heap.size + 1, 3, none⟩ (.int .u64 (u : Nat))) := by
  obtain ⟨hx, ⟨a, b, c, d, hy⟩, hb⟩ := h
  exact ⟨hx.set3 _, ⟨a, b, c, d, hy.other (p := ⟨w.heap.size + 1, 3, none⟩) (by simp) _⟩, hb.setCell (p := ⟨w.heap.size + 1, 3, none⟩) (by simp) _⟩
end
theorem Way2.of {w wr : World} {P : Nat → Bool} (h : Way w P wr) : ∃ p q r s, C4 P p q r s ∧ Way2 w p q r s wr := by
  obtain ⟨⟨p, q, r, s, h4, hx⟩, hy, hb⟩ := h
  exact ⟨p, q, r, s, h4, hx, hy, hb⟩
theorem Way2.way {w wr : World} {P : Nat → Bool} {p q r s : Nat} (h : Way2 w p q r s wr) (h4 : C4 P p q r s) : Way w P wr := ⟨⟨p, q, r, s, h4, h.ex⟩, h.res, h.bel⟩
set_option maxRecDepth 10000 in
set_option maxHeartbeats 2000000 in
theorem union_any (ao : Option Addr) (len cap : Nat) (F : Nat → Nat → Nat) (Ps : Nat → Nat → Bool) (w : World) (hr : RdC w ao len F) (hC : ∀ i, i < len → C4 (Ps i) (F i 0) (F i 1) (F i 2) (F i 3)) (hl : (len : Int) ≤ 9223372036854775807) :
    Calls Tryd.prog 89 #[.slice ao len cap] w (RetC w (unN Ps len)) := by
  have hW0 := Way.start w
  go_enter Tryd.func89, Tryd.ntmps89
  go_wp2
  go_loopw [10] (fun i wr => ∃ k : Nat, k ≤ len ∧ i = .int .i64 (k : Nat) ∧ Way w (unN Ps k) wr) (fun i _ => len - (intOf i).toNat)
  case atStart => exact ⟨0, by omega, rfl, hW0⟩
  case round =>
    obtain ⟨k, hk, rfl, hW⟩ := hrel
    obtain ⟨a, b, c, d, h4, hW2⟩ := Way2.of hW
    by_cases hlt : k < len
    · obtain ⟨bb, off, rfl, hbb, hc⟩ := hr.at_ (by omega)
      have hk4 := hC k hlt
      have t0 : wr.cell? ⟨bb, off + k * 4, none⟩ = some (.int .u64 (F k 0 : Nat)) := by rw [hW.bel.cell (p := ⟨bb, off + k * 4, none⟩) hbb]; exact hc k hlt 0 (by decide)
      have t1 : wr.cell? ⟨bb, off + k * 4 + 1, none⟩ = some (.int .u64 (F k 1 : Nat)) := by rw [hW.bel.cell (p := ⟨bb, off + k * 4 + 1, none⟩) hbb]; exact hc k hlt 1 (by decide)
      have t2 : wr.cell? ⟨bb, off + k * 4 + 2, none⟩ = some (.int .u64 (F k 2 : Nat)) := by rw [hW.bel.cell (p := ⟨bb, off + k * 4 + 2, none⟩) hbb]; exact hc k hlt 2 (by decide)
      have t3 : wr.cell? ⟨bb, off + k * 4 + 3, none⟩ = some (.int .u64 (F k 3 : Nat)) := by rw [hW.bel.cell (p := ⟨bb, off + k * 4 + 3, none⟩) hbb]; exact hc k hlt 3 (by decide)
      have hki : (k : Int) < (len : Int) := by omega
      clear hc hr hC
      generalize F k 0 = e at *
      generalize F k 1 = f at *
      generalize F k 2 = g at *
      generalize F k 3 = h at *
      have i0 := idx0 (.int .u64 (e : Nat)) (.int .u64 (f : Nat)) (.int .u64 (g : Nat)) (.int .u64 (h : Nat))
      have i1 := idx1 (.int .u64 (e : Nat)) (.int .u64 (f : Nat)) (.int .u64 (g : Nat)) (.int .u64 (h : Nat))
      have i2 := idx2 (.int .u64 (e : Nat)) (.int .u64 (f : Nat)) (.int .u64 (g : Nat)) (.int .u64 (h : Nat))
      have i3 := idx3 (.int .u64 (e : Nat)) (.int .u64 (f : Nat)) (.int .u64 (g : Nat)) (.int .u64 (h : Nat))
      have va := u64_or_nat a e h4.la hk4.la
      have vb := u64_or_nat b f h4.lb hk4.lb
      have vc := u64_or_nat c g h4.lc hk4.lc
      have vd := u64_or_nat d h h4.ld hk4.ld
      have HO : Hid (C4 (unN Ps (k + 1)) (a ||| e) (b ||| f) (c ||| g) (d ||| h)) := h4.or hk4
      clear hW h4 hk4
      go_wp2
      go_loopw [15] (fun i wv => ∃ p q r s : Nat, Way2 w p q r s wv ∧ ((i = .int .i64 0 ∧ p = a ∧ q = b ∧ r = c ∧ s = d) ∨ (i = .int .i64 1 ∧ p = a ||| e ∧ q = b ∧ r = c ∧ s = d) ∨ (i = .int .i64 2 ∧ p = a ||| e ∧ q = b ||| f ∧ r = c ∧ s = d) ∨
        (i = .int .i64 3 ∧ p = a ||| e ∧ q = b ||| f ∧ r = c ||| g ∧ s = d) ∨ (i = .int .i64 4 ∧ p = a ||| e ∧ q = b ||| f ∧ r = c ||| g ∧ s = d ||| h))) (fun i _ => 4 - (intOf i).toNat)
      case atStart => exact ⟨a, b, c, d, hW2.alloc _, .inl ⟨rfl, rfl, rfl, rfl, rfl⟩⟩
      case round =>
        obtain ⟨p, q, r, s, hV, hh⟩ := hrel
        obtain ⟨c0, c1, c2, c3, f0, f1, f2, f3⟩ := hV.ex.cells
        rcases hh with ⟨rfl, rfl, rfl, rfl, rfl⟩ | ⟨rfl, rfl, rfl, rfl, rfl⟩ | ⟨rfl, rfl, rfl, rfl, rfl⟩ | ⟨rfl, rfl, rfl, rfl, rfl⟩ | ⟨rfl, rfl, rfl, rfl, rfl⟩
        · have hV' := hV.set0 (p ||| e)
          go_wp2
          go_roundw
          case rel => exact ⟨_, _, _, _, hV', .inr (.inl ⟨rfl, rfl, rfl, rfl, rfl⟩)⟩
          case measure => decide
        · have hV' := hV.set1 (q ||| f)
          go_wp2
          go_roundw
          case rel => exact ⟨_, _, _, _, hV', .inr (.inr (.inl ⟨rfl, rfl, rfl, rfl, rfl⟩))⟩
          case measure => decide
        · have hV' := hV.set2 (r ||| g)
          go_wp2
          go_roundw
          case rel => exact ⟨_, _, _, _, hV', .inr (.inr (.inr (.inl ⟨rfl, rfl, rfl, rfl, rfl⟩)))⟩
          case measure => decide
        · have hV' := hV.set3 (s ||| h)
          go_wp2
          go_roundw
          case rel => exact ⟨_, _, _, _, hV', .inr (.inr (.inr (.inr ⟨rfl, rfl, rfl, rfl, rfl⟩)))⟩
          case measure => decide
        · have hV' : Way w (unN Ps (k + 1)) wr := hV.way HO.out
          go_wp2
          go_roundw
          case rel => exact ⟨k + 1, by omega, by go_num, hV'⟩
          case measure => simp [intOf]; omega
    · obtain rfl : k = len := by omega
      obtain ⟨p', q', r', s', hy⟩ := hW.res
      obtain ⟨c0, c1, c2, c3, f0, f1, f2, f3⟩ := hW2.ex.cells
      obtain ⟨y0, y1, y2, y3, v0, v1, v2, v3⟩ := hy.cells
      obtain ⟨z0, z1, z2, z3, _⟩ := (hy.set (.int .u64 (a : Nat)) (.int .u64 (b : Nat)) (.int .u64 (c : Nat)) (.int .u64 (d : Nat))).cells
      go_wp2
      exact bodyPost_ret (v := .agg #[.int .u64 (a : Nat), .int .u64 (b : Nat), .int .u64 (c : Nat), .int .u64 (d : Nat)]) (by simp [results, Tryd.results89, go_sem, z0, z1, z2, z3]) rfl ⟨⟨a, b, c, d, rfl, h4⟩, below_put4 hW.bel (Nat.le_refl _) _ _ _ _⟩

section
variable {P : Program} {ops : Array Oper} {md : Region.Mode} {C : World → Prop}

end
/-- u, but all that was there in W is as it was. -/
def near (W u : World) : World := { u with os := W.os, tape := W.tape, output := W.output, heap := W.heap ++ u.heap.extract W.heap.size }
theorem near_below (W u : World) : Below W.heap.size W (near W u) := by
  refine ⟨rfl, rfl, rfl, ?_, fun k hk => ?_⟩
  · show W.heap.size ≤ (W.heap ++ u.heap.extract W.heap.size).size
    rw [Array.size_append]; omega
  · show (W.heap ++ u.heap.extract W.heap.size)[k]? = _
    rw [Array.getElem?_append_left hk]
theorem near_self {W w : World} (h : Below W.heap.size W w) : near W w = w := by
  have e : W.heap ++ w.heap.extract W.heap.size = w.heap := by
    apply Array.ext_getElem?
    intro i
    by_cases hi : i < W.heap.size
    · rw [Array.getElem?_append_left hi, h.block i hi]
    · rw [Array.getElem?_append_right (by omega), Array.getElem?_extract]
      have := h.size
      by_cases h2 : i < w.heap.size
      · rw [if_pos (by omega), show W.heap.size + (i - W.heap.size) = i by omega]
      · rw [if_neg (by omega), Array.getElem?_eq_none (by omega)]
  unfold near
  rw [e, ← h.os, ← h.tape, ← h.output]
theorem Near.cell {W : World} {b o : Nat} {v : Value} (hc : W.cell? ⟨b, o, none⟩ = some v) (hb : b < W.heap.size) : ∀ u : World, (near W u).cell? ⟨b, o, none⟩ = some v := fun u => by
  rw [(near_below W u).cell (p := ⟨b, o, none⟩) hb]; exact hc
theorem Near.frozen {W : World} {b o : Nat} {v : Bool} (hc : W.frozen? ⟨b, o, none⟩ = v) (hb : b < W.heap.size) : ∀ u : World, (near W u).frozen? ⟨b, o, none⟩ = v := fun u => by
  rw [(near_below W u).frozen (p := ⟨b, o, none⟩) hb]; exact hc
theorem Near.start (W : World) : ∃ u : World, { W with drawn := W.drawn + 1 } = near W u := ⟨W.drew, (near_self (Below.refl _ _).drew).symm⟩
theorem Near.call {P : Program} {f : FuncId} {args : Array Value} {W : World} {u : World} {v : Value} (h : Calls P f args (near W u) fun e w' => e = .returned v ∧ Below (near W u).heap.size (near W u) w') :
    Calls P f args (near W u) fun e w' => e = .returned v ∧ ∃ u' : World, w' = near W u' :=
  h.mono fun _ w' h => ⟨h.1, w', (near_self ((near_below W u).trans (h.2.mono (near_below W u).size))).symm⟩
theorem Near.same {P : Program} {f : FuncId} {args : Array Value} {W : World} {u : World} {v : Value} (h : Calls P f args (near W u) fun e w' => e = .returned v ∧ w' = near W u) :
    Calls P f args (near W u) fun e w' => e = .returned v ∧ ∃ u' : World, w' = near W u' :=
  h.mono fun _ _ h => ⟨h.1, u, h.2⟩
def debr : List Int := [0, 1, 56, 2, 57, 49, 28, 3, 61, 58, 42, 50, 38, 29, 17, 4, 62, 47, 59, 36, 45, 43, 51, 22, 53, 39, 33, 30, 24, 18, 12, 5, 63, 55, 48, 27, 60, 41, 37, 16, 46, 35, 44, 21, 52, 32, 23, 11, 54, 26, 40, 15, 34, 20, 31, 10, 25, 14, 19, 9, 13, 8, 7, 6]
/-- The listed table lies as it was laid. -/
structure Tab (w : World) : Prop where
  lt : 0 < w.heap.size
  cell : ∀ i, i < 64 → w.cell? ⟨0, i, none⟩ = some (.int .u8 (debr.getD i 0))
theorem Tab.below {w w' : World} (h : Tab w) (hb : Below w.heap.size w w') : Tab w' :=
  ⟨Nat.lt_of_lt_of_le h.lt hb.size, fun i hi => by rw [hb.cell (p := ⟨0, i, none⟩) h.lt]; exact h.cell i hi⟩
theorem debr_at : ∀ k : Nat, k < 64 → (2 ^ k * 285870213051353865 % 18446744073709551616) / 288230376151711744 < 64 ∧ debr.getD ((2 ^ k * 285870213051353865 % 18446744073709551616) / 288230376151711744) 0 = (k : Int) := by decide +kernel

/-- k is the least bit of x. -/
structure Low (x k : Nat) : Prop where
  yes : x.testBit k = true
  no : ∀ j, j < k → x.testBit j = false
theorem low_ex : ∀ (n x : Nat), x < 2 ^ n → x ≠ 0 → ∃ k, k < n ∧ Low x k := by
  intro n
  induction n with
  | zero => intro x h h0; simp at h; omega
  | succ n ih =>
    intro x h h0
    cases hb : x.testBit 0 with
    | true => exact ⟨0, by omega, hb, fun j hj => by omega⟩
    | false =>
      have he : x % 2 = 0 := by
        rw [Nat.testBit_zero] at hb
        have := of_decide_eq_false hb
        omega
      obtain ⟨k, hk, hl⟩ := ih (x / 2) (by rw [Nat.pow_succ] at h; omega) (by omega)
      refine ⟨k + 1, by omega, ?_, fun j hj => ?_⟩
      · rw [Nat.testBit_succ]; exact hl.yes
      · cases j with
        | zero => exact hb
        | succ j => rw [Nat.testBit_succ]; exact hl.no j (by omega)
theorem pred_bit {x k : Nat} (h : Low x k) (j : Nat) : (x - 1).testBit j = (decide (j < k) || (decide (k < j) && x.testBit j)) := by
  have h0 : x % 2 ^ k = 0 := by
    apply Nat.eq_of_testBit_eq
    intro j
    rw [Nat.testBit_mod_two_pow, Nat.zero_testBit]
    by_cases hj : j < k
    · rw [h.no j hj, Bool.and_false]
    · simp [hj]
  have ha : x = 2 ^ k * (x / 2 ^ k) := by
    have := Nat.div_add_mod x (2 ^ k)
    omega
  have hodd : (x / 2 ^ k) % 2 = 1 := by
    have := h.yes
    rw [Nat.testBit_eq_decide_div_mod_eq] at this
    exact of_decide_eq_true this
  have hpos : 0 < 2 ^ k := Nat.two_pow_pos k
  generalize hm : x / 2 ^ k = a at *
  obtain ⟨m, rfl⟩ : ∃ m, a = 2 * m + 1 := ⟨a / 2, by omega⟩
  have e : x - 1 = 2 ^ k * (2 * m) + (2 ^ k - 1) := by rw [ha, Nat.mul_add, Nat.mul_one]; omega
  rw [e, Nat.testBit_two_pow_mul_add _ (by omega)]
  by_cases hj : j < k
  · rw [if_pos hj, Nat.testBit_two_pow_sub_one]; simp [hj]
  · rw [if_neg hj, decide_eq_false hj, Bool.false_or]
    by_cases hk : k < j
    · rw [decide_eq_true hk, Bool.true_and]
      have e2 : x = 2 ^ k * (2 * m + 1) + 0 := by omega
      rw [e2, Nat.testBit_two_pow_mul_add _ hpos, if_neg hj]
      obtain ⟨i, hi⟩ : ∃ i, j - k = i + 1 := ⟨j - k - 1, by omega⟩
      rw [hi, Nat.testBit_succ, Nat.testBit_succ]
      congr 1
      omega
    · obtain rfl : j = k := by omega
      rw [Nat.sub_self, Nat.testBit_zero]
      simp
theorem low_pow {x k : Nat} (h : Low x k) (hx : x < 18446744073709551616) : x &&& (18446744073709551616 - x) = 2 ^ k := by
  have h0 : x ≠ 0 := by rintro rfl; have := h.yes; simp at this
  have hk : k < 64 := by
    rcases Nat.lt_or_ge k 64 with h' | h'
    · exact h'
    · have := testBit_lt hx h'; rw [h.yes] at this; cases this
  have e : 18446744073709551616 - x = 18446744073709551615 - (x - 1) := by omega
  rw [e]
  apply Nat.eq_of_testBit_eq
  intro j
  rw [Nat.testBit_and, not_bit _ (by omega), pred_bit h, Nat.testBit_two_pow]
  by_cases hj : j < k
  · have : k ≠ j := by omega
    rw [h.no j hj, decide_eq_false this]; rfl
  · by_cases hkj : k < j
    · have : k ≠ j := by omega
      rw [decide_eq_false this]
      simp [hj, hkj]
      intro h1 _; exact h1
    · obtain rfl : j = k := by omega
      simp [h.yes, hk]
theorem low_val {x k : Nat} (h : Low x k) (hx : x < 18446744073709551616) : bits BinOp.and .u64 (x : Int) (IntKind.u64.wrap (-(x : Int))) = ((2 ^ k : Nat) : Int) := by
  have h0 : x ≠ 0 := by rintro rfl; have := h.yes; simp at this
  have e : IntKind.u64.wrap (-(x : Int)) = ((18446744073709551616 - x : Nat) : Int) := by
    rw [IntKind.wrap_u64]; omega
  rw [e, u64_and_nat _ _ hx (by omega), low_pow h hx]
theorem mul_val' (a C : Nat) (Cz : Int) (h : Cz = (C : Int)) : IntKind.u64.wrap ((a : Int) * Cz) = ((a * C % 18446744073709551616 : Nat) : Int) := by
  rw [h, IntKind.wrap_u64, Int.natCast_emod, Int.natCast_mul]; rfl
theorem mul_val (k : Nat) : IntKind.u64.wrap (((2 ^ k : Nat) : Int) * 285870213051353865) = ((2 ^ k * 285870213051353865 % 18446744073709551616 : Nat) : Int) :=
  mul_val' (2 ^ k) 285870213051353865 285870213051353865 (by decide)
theorem shr_val (a : Nat) : ((a : Nat) : Int) / 288230376151711744 = ((a / 288230376151711744 : Nat) : Int) := by
  rw [Int.natCast_ediv]; rfl
theorem wrap64_nat (k : Nat) (h : k < 9223372036854775808) : wrap64 (k : Int) = k := by unfold wrap64; omega

set_option maxRecDepth 10000 in
set_option maxHeartbeats 400000 in
theorem tz_walk (x y z v : Int) (i : Nat) (w : World) (hn : (x == 0) = false) (hA : bits BinOp.and .u64 x (IntKind.u64.wrap (-x)) = y) (hM : IntKind.u64.wrap (y * 285870213051353865) = z)
    (hS : z / 288230376151711744 = (i : Nat)) (hi : (i : Int) < 64) (hc : w.cell? ⟨0, i, none⟩ = some (.int .u8 v)) :
    Calls Tryd.prog 64 #[.int .u64 x] w fun e w' => e = .returned (.int .i64 (wrap64 v)) ∧ w' = w := by
  go_enter Tryd.func64, Tryd.ntmps64
  go_wp2
  go_ret
  exact ⟨rfl, rfl⟩
/-- TrailingZeros64. -/
theorem tz_any (x k : Nat) (w : World) (hT : Tab w) (h : Low x k) (hx : x < 18446744073709551616) :
    Calls Tryd.prog 64 #[.int .u64 (x : Nat)] w fun e w' => e = .returned (.int .i64 (k : Nat)) ∧ w' = w := by
  have h0 : x ≠ 0 := by rintro rfl; have := h.yes; simp at this
  have hk : k < 64 := by
    rcases Nat.lt_or_ge k 64 with h' | h'
    · exact h'
    · have := testBit_lt hx h'; rw [h.yes] at this; cases this
  obtain ⟨d1, d2⟩ := debr_at k hk
  have := tz_walk (x : Int) _ _ _ _ w (by simpa using h0) (low_val h hx) (mul_val k) (shr_val _) (by omega) (hT.cell _ d1)
  rwa [d2, wrap64_nat k (by omega)] at this
/-- What First answers. -/
def RetF (w : World) (P : Nat → Bool) (e : Ending) (w' : World) : Prop :=
  ((∃ k : Nat, k < 256 ∧ e = .returned (.tuple #[.int .u8 (k : Nat), .bool true]) ∧ P k = true ∧ ∀ j, j < k → P j = false) ∨ (e = .returned (.tuple #[.int .u8 0, .bool false]) ∧ ∀ j, j < 256 → P j = false)) ∧ Below w.heap.size w w'
theorem Low.lt {x k : Nat} (h : Low x k) (hx : x < 18446744073709551616) : k < 64 := by
  rcases Nat.lt_or_ge k 64 with h' | h'
  · exact h'
  · have := testBit_lt hx h'; rw [h.yes] at this; cases this
theorem C4.low0 {P : Nat → Bool} {a b c d k : Nat} (h : C4 P a b c d)  (hl : Low a k) : P (0 + k) = true ∧ ∀ j, j < 0 + k → P j = false := by
  have hk := hl.lt h.la
  refine ⟨by have := h.ha k hk; rw [hl.yes] at this; rw [Nat.zero_add]; exact this.symm, fun j hj => ?_⟩
  have := h.ha (j - 0) (by omega)
  rw [hl.no _ (by omega), show j - 0 = j by omega] at this
  exact this.symm
theorem C4.low1 {P : Nat → Bool} {a b c d k : Nat} (h : C4 P a b c d) (za : a = 0) (hl : Low b k) : P (64 + k) = true ∧ ∀ j, j < 64 + k → P j = false := by
  have hk := hl.lt h.lb
  refine ⟨by have := h.hb k hk; rw [hl.yes] at this; exact this.symm, fun j hj => ?_⟩
  by_cases h0 : j < 64
  · have := h.ha (j - 0) (by omega)
    rw [za, Nat.zero_testBit, show j - 0 = j by omega] at this
    exact this.symm
  have := h.hb (j - 64) (by omega)
  rw [hl.no _ (by omega), show 64 + (j - 64) = j by omega] at this
  exact this.symm
theorem C4.low2 {P : Nat → Bool} {a b c d k : Nat} (h : C4 P a b c d) (za : a = 0) (zb : b = 0) (hl : Low c k) : P (128 + k) = true ∧ ∀ j, j < 128 + k → P j = false := by
  have hk := hl.lt h.lc
  refine ⟨by have := h.hc k hk; rw [hl.yes] at this; exact this.symm, fun j hj => ?_⟩
  by_cases h0 : j < 64
  · have := h.ha (j - 0) (by omega)
    rw [za, Nat.zero_testBit, show j - 0 = j by omega] at this
    exact this.symm
  by_cases h1 : j < 128
  · have := h.hb (j - 64) (by omega)
    rw [zb, Nat.zero_testBit, show 64 + (j - 64) = j by omega] at this
    exact this.symm
  have := h.hc (j - 128) (by omega)
  rw [hl.no _ (by omega), show 128 + (j - 128) = j by omega] at this
  exact this.symm
theorem C4.low3 {P : Nat → Bool} {a b c d k : Nat} (h : C4 P a b c d) (za : a = 0) (zb : b = 0) (zc : c = 0) (hl : Low d k) : P (192 + k) = true ∧ ∀ j, j < 192 + k → P j = false := by
  have hk := hl.lt h.ld
  refine ⟨by have := h.hd k hk; rw [hl.yes] at this; exact this.symm, fun j hj => ?_⟩
  by_cases h0 : j < 64
  · have := h.ha (j - 0) (by omega)
    rw [za, Nat.zero_testBit, show j - 0 = j by omega] at this
    exact this.symm
  by_cases h1 : j < 128
  · have := h.hb (j - 64) (by omega)
    rw [zb, Nat.zero_testBit, show 64 + (j - 64) = j by omega] at this
    exact this.symm
  by_cases h2 : j < 192
  · have := h.hc (j - 128) (by omega)
    rw [zc, Nat.zero_testBit, show 128 + (j - 128) = j by omega] at this
    exact this.symm
  have := h.hd (j - 192) (by omega)
  rw [hl.no _ (by omega), show 192 + (j - 192) = j by omega] at this
  exact this.symm
theorem C4.zero {P : Nat → Bool} {a b c d : Nat} (h : C4 P a b c d) (za : a = 0) (zb : b = 0) (zc : c = 0) (zd : d = 0) : ∀ j, j < 256 → P j = false := by
  intro j hj
  by_cases h0 : j < 64
  · have := h.ha j h0; rw [za, Nat.zero_testBit] at this; exact this.symm
  by_cases h1 : j < 128
  · have := h.hb (j - 64) (by omega)
    rw [zb, Nat.zero_testBit, show 64 + (j - 64) = j by omega] at this; exact this.symm
  by_cases h2 : j < 192
  · have := h.hc (j - 128) (by omega)
    rw [zc, Nat.zero_testBit, show 128 + (j - 128) = j by omega] at this; exact this.symm
  · have := h.hd (j - 192) (by omega)
    rw [zd, Nat.zero_testBit, show 192 + (j - 192) = j by omega] at this; exact this.symm
set_option maxRecDepth 10000 in
set_option maxHeartbeats 2000000 in
theorem first_c {P : Nat → Bool} {a b c d : Nat} (h4 : C4 P a b c d) (w : World) (hT : Tab w) : Calls Tryd.prog 35 #[.agg #[.int .u64 (a : Nat), .int .u64 (b : Nat), .int .u64 (c : Nat), .int .u64 (d : Nat)]] w (RetF w P) := by
  have hB : Below w.heap.size w (w.alloc (.cells #[.int .u64 (a : Nat), .int .u64 (b : Nat), .int .u64 (c : Nat), .int .u64 (d : Nat)] 24)) := (Below.refl _ _).alloc (Nat.le_refl _) _
  have hT1 := hT.below hB
  have i0 := idx0 (.int .u64 (a : Nat)) (.int .u64 (b : Nat)) (.int .u64 (c : Nat)) (.int .u64 (d : Nat))
  have i1 := idx1 (.int .u64 (a : Nat)) (.int .u64 (b : Nat)) (.int .u64 (c : Nat)) (.int .u64 (d : Nat))
  have i2 := idx2 (.int .u64 (a : Nat)) (.int .u64 (b : Nat)) (.int .u64 (c : Nat)) (.int .u64 (d : Nat))
  have i3 := idx3 (.int .u64 (a : Nat)) (.int .u64 (b : Nat)) (.int .u64 (c : Nat)) (.int .u64 (d : Nat))
  go_enter Tryd.func35, Tryd.ntmps35
  go_wp2
  go_loopw [7] (fun i wr => wr = w.alloc (.cells #[.int .u64 (a : Nat), .int .u64 (b : Nat), .int .u64 (c : Nat), .int .u64 (d : Nat)] 24) ∧ ((i = .int .i64 0) ∨ (i = .int .i64 1 ∧ Hid (a = 0)) ∨ (i = .int .i64 2 ∧ Hid (a = 0) ∧ Hid (b = 0)) ∨ (i = .int .i64 3 ∧ Hid (a = 0) ∧ Hid (b = 0) ∧ Hid (c = 0)) ∨ (i = .int .i64 4 ∧ Hid (a = 0) ∧ Hid (b = 0) ∧ Hid (c = 0) ∧ Hid (d = 0)))) (fun i _ => 4 - (intOf i).toNat)
  case atStart => exact ⟨rfl, .inl rfl⟩
  case round =>
    obtain ⟨rfl, hh⟩ := hrel
    rcases hh with rfl | ⟨rfl, za⟩ | ⟨rfl, za, zb⟩ | ⟨rfl, za, zb, zc⟩ | ⟨rfl, za, zb, zc, zd⟩
    · by_cases h0 : a = 0
      · have za : Hid (a = 0) := h0
        have hz : ((a : Int) != 0) = false := by simp [h0]
        clear h0
        go_wp2
        go_roundw
        case rel => exact ⟨trivial, .inr (.inl ⟨rfl, za⟩)⟩
        case measure => decide
      · obtain ⟨k, hk, hlow⟩ := low_ex 64 a h4.la h0
        have HL : Hid _ := h4.low0  hlow
        have hnz : ((a : Int) != 0) = true := by simpa using h0
        have hc : ((0 + k : Nat) : Int) = k := by omega
        have hki : (k : Int) < 64 := by omega
        have htz := tz_any a k _ hT1 hlow h4.la
        clear hlow h4 hT
        go_wp2_with (go_at_call 64; refine htz.mono ?_; rintro e w' ⟨rfl, rfl⟩)
        exact bodyPost_ret (v := .tuple #[.int .u8 ((0 + k : Nat) : Int), .bool true]) (by rw [hc]; simp [results, Tryd.results35, go_sem]) rfl ⟨.inl ⟨0 + k, by omega, rfl, HL.out.1, HL.out.2⟩, hB⟩
    · by_cases h0 : b = 0
      · have zb : Hid (b = 0) := h0
        have hz : ((b : Int) != 0) = false := by simp [h0]
        clear h0
        go_wp2
        go_roundw
        case rel => exact ⟨trivial, .inr (.inr (.inl ⟨rfl, za, zb⟩))⟩
        case measure => decide
      · obtain ⟨k, hk, hlow⟩ := low_ex 64 b h4.lb h0
        have HL : Hid _ := h4.low1 za hlow
        have hnz : ((b : Int) != 0) = true := by simpa using h0
        have hc : ((64 + k : Nat) : Int) = (64 : Int) + k := by omega
        have hki : (k : Int) < 64 := by omega
        have htz := tz_any b k _ hT1 hlow h4.lb
        clear hlow h4 hT
        go_wp2_with (go_at_call 64; refine htz.mono ?_; rintro e w' ⟨rfl, rfl⟩)
        exact bodyPost_ret (v := .tuple #[.int .u8 ((64 + k : Nat) : Int), .bool true]) (by rw [hc]; simp [results, Tryd.results35, go_sem]) rfl ⟨.inl ⟨64 + k, by omega, rfl, HL.out.1, HL.out.2⟩, hB⟩
    · by_cases h0 : c = 0
      · have zc : Hid (c = 0) := h0
        have hz : ((c : Int) != 0) = false := by simp [h0]
        clear h0
        go_wp2
        go_roundw
        case rel => exact ⟨trivial, .inr (.inr (.inr (.inl ⟨rfl, za, zb, zc⟩)))⟩
        case measure => decide
      · obtain ⟨k, hk, hlow⟩ := low_ex 64 c h4.lc h0
        have HL : Hid _ := h4.low2 za zb hlow
        have hnz : ((c : Int) != 0) = true := by simpa using h0
        have hc : ((128 + k : Nat) : Int) = (128 : Int) + k := by omega
        have hki : (k : Int) < 64 := by omega
        have htz := tz_any c k _ hT1 hlow h4.lc
        clear hlow h4 hT
        go_wp2_with (go_at_call 64; refine htz.mono ?_; rintro e w' ⟨rfl, rfl⟩)
        exact bodyPost_ret (v := .tuple #[.int .u8 ((128 + k : Nat) : Int), .bool true]) (by rw [hc]; simp [results, Tryd.results35, go_sem]) rfl ⟨.inl ⟨128 + k, by omega, rfl, HL.out.1, HL.out.2⟩, hB⟩
    · by_cases h0 : d = 0
      · have zd : Hid (d = 0) := h0
        have hz : ((d : Int) != 0) = false := by simp [h0]
        clear h0
        go_wp2
        go_roundw
        case rel => exact ⟨trivial, .inr (.inr (.inr (.inr ⟨rfl, za, zb, zc, zd⟩)))⟩
        case measure => decide
      · obtain ⟨k, hk, hlow⟩ := low_ex 64 d h4.ld h0
        have HL : Hid _ := h4.low3 za zb zc hlow
        have hnz : ((d : Int) != 0) = true := by simpa using h0
        have hc : ((192 + k : Nat) : Int) = (192 : Int) + k := by omega
        have hki : (k : Int) < 64 := by omega
        have htz := tz_any d k _ hT1 hlow h4.ld
        clear hlow h4 hT
        go_wp2_with (go_at_call 64; refine htz.mono ?_; rintro e w' ⟨rfl, rfl⟩)
        exact bodyPost_ret (v := .tuple #[.int .u8 ((192 + k : Nat) : Int), .bool true]) (by rw [hc]; simp [results, Tryd.results35, go_sem]) rfl ⟨.inl ⟨192 + k, by omega, rfl, HL.out.1, HL.out.2⟩, hB⟩
    · have HN : Hid _ := h4.zero za zb zc zd
      go_wp2
      exact bodyPost_ret (v := .tuple #[.int .u8 0, .bool false]) (by simp [results, Tryd.results35, go_sem]) rfl ⟨.inr ⟨rfl, HN.out⟩, hB⟩
theorem part0 (x y z t : Value) (w : World) : (part 22 #[x, y, z, t] (0 * Tryd.prog.cellsOf 22)).run Tryd.prog w = .ok x w := by kernel_rfl
theorem part1 (x y z t : Value) (w : World) : (part 22 #[x, y, z, t] (1 * Tryd.prog.cellsOf 22)).run Tryd.prog w = .ok y w := by kernel_rfl
theorem part2 (x y z t : Value) (w : World) : (part 22 #[x, y, z, t] (2 * Tryd.prog.cellsOf 22)).run Tryd.prog w = .ok z w := by kernel_rfl
theorem part3 (x y z t : Value) (w : World) : (part 22 #[x, y, z, t] (3 * Tryd.prog.cellsOf 22)).run Tryd.prog w = .ok t w := by kernel_rfl
theorem eq24 (m : Nat) (x y : Int) (w : World) : (Op.equalIn (m + 1) 22 (.int .u64 x) (.int .u64 y)).run Tryd.prog w = .ok (x == y) w := by
  simp [Op.equalIn, run_underlying Tryd.underlying22]
/-- Two arrays held against each other. -/
theorem eql4 (a b c d a' b' c' d' : Int) (w : World) : (Go.binOp .eql 24 (.agg #[.int .u64 a, .int .u64 b, .int .u64 c, .int .u64 d]) (.agg #[.int .u64 a', .int .u64 b', .int .u64 c', .int .u64 d'])).run Tryd.prog w = .ok (.bool (a == a' && b == b' && c == c' && d == d')) w := by
  obtain ⟨j, hj, _⟩ := Option.map_eq_some_iff.1 (show (Tryd.prog.info? 22).map (·.size) = some 1 by kernel_rfl)
  have h : (Op.equalIn (9999 + 1) 24 (.agg #[.int .u64 a, .int .u64 b, .int .u64 c, .int .u64 d]) (.agg #[.int .u64 a', .int .u64 b', .int .u64 c', .int .u64 d'])).run Tryd.prog w = .ok (a == a' && b == b' && c == c' && d == d') w := by
    rw [run_equalIn_array w 9999 _ _ Tryd.underlying24 hj, show List.range 4 = [0, 1, 2, 3] from rfl]
    simp only [Op.eqItems, Sem.run_bind, part0, Result.andThen_ok, eq24 9998]
    cases a == a'
    · simp only [Bool.not_false, if_true, Sem.run_pure, Bool.false_and]
    simp only [Bool.not_true, Bool.false_eq_true, if_false, Sem.run_bind, part1, Result.andThen_ok, eq24 9998, Bool.true_and]
    cases b == b'
    · simp only [Bool.not_false, if_true, Sem.run_pure, Bool.false_and]
    simp only [Bool.not_true, Bool.false_eq_true, if_false, Sem.run_bind, part2, Result.andThen_ok, eq24 9998, Bool.true_and]
    cases c == c'
    · simp only [Bool.not_false, if_true, Sem.run_pure, Bool.false_and]
    simp only [Bool.not_true, Bool.false_eq_true, if_false, Sem.run_bind, part3, Result.andThen_ok, eq24 9998, Bool.true_and]
    cases d == d'
    · simp only [Bool.not_false, if_true, Sem.run_pure]
    simp only [Bool.not_true, Bool.false_eq_true, if_false, Sem.run_pure]
  simp only [binOp]
  simp only [Op.equal, Op.maxDepth, Sem.run_bind, h, Result.andThen_ok]
  simp
/-- Whether two classes have the same bytes. -/
def eqC (P Q : Nat → Bool) : Bool := (List.range 256).all fun x => P x == Q x
theorem eqC_iff (P Q : Nat → Bool) : eqC P Q = true ↔ ∀ x, x < 256 → P x = Q x := by
  unfold eqC
  simp
theorem eq4_iff {P Q : Nat → Bool} {a b c d a' b' c' d' : Nat} (h : C4 P a b c d) (k : C4 Q a' b' c' d') : ((a : Int) == a' && (b : Int) == b' && (c : Int) == c' && (d : Int) == d') = eqC P Q := by
  rw [Bool.eq_iff_iff, eqC_iff]
  simp only [Bool.and_eq_true, beq_iff_eq, Int.ofNat_inj]
  constructor
  · rintro ⟨⟨⟨rfl, rfl⟩, rfl⟩, rfl⟩ x hx
    by_cases h0 : x < 64
    · rw [← h.ha x h0, k.ha x h0]
    by_cases h1 : x < 128
    · have e : 64 + (x - 64) = x := by omega
      rw [← e, ← h.hb (x - 64) (by omega), k.hb (x - 64) (by omega)]
    by_cases h2 : x < 192
    · have e : 128 + (x - 128) = x := by omega
      rw [← e, ← h.hc (x - 128) (by omega), k.hc (x - 128) (by omega)]
    · have e : 192 + (x - 192) = x := by omega
      rw [← e, ← h.hd (x - 192) (by omega), k.hd (x - 192) (by omega)]
  · intro e
    obtain ⟨h1, h2, h3, h4⟩ := (h.congr e).uniq k
    exact ⟨⟨⟨h1, h2⟩, h3⟩, h4⟩
end Go.Proofs.YthbmfnibgjlkhaaDoor.K
