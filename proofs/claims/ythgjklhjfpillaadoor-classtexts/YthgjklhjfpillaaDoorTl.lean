/- ClassTells: the walk of the law. -/
import Derived.Test.YthgjklhjfpillaaDoorRw
import Derived.Test.YthgjklhjfpillaaDoorEr
import Derived.Test.YthgjklhjfpillaaDoorTo
import Derived.Test.YthgjklhjfpillaaDoorHa
import Derived.Deep.RegionHeld3
namespace Go.Proofs.YthgjklhjfpillaaDoor
open Go.RowKit
theorem row52_below {B : Nat} {w w' : World} {v : Value} {n : Nat} {xs : List Value} (h : w.ownsRow B 52 2 v n xs) (hb : Below w.heap.size w w') : w'.ownsRow B 52 2 v n xs := by
  refine ⟨h.1, ?_⟩
  rcases h.2 with h' | ⟨g, cap, cur, e, hg, hh, r⟩
  · exact .inl h'
  · exact .inr ⟨g, cap, cur, e, hg, by rw [hb.block g (Array.getElem?_eq_some_iff.1 hh).1]; exact hh, r⟩
theorem row52_cap {B : Nat} {w : World} {ao : Option Addr} {n cap : Nat} {xs : List Value} (h : w.ownsRow B 52 2 (.slice ao n cap) n xs) : n ≤ cap := by
  rcases h.2 with ⟨h', h0⟩ | ⟨g, cap', cur, e, _, _, hc, _⟩
  · omega
  · obtain ⟨-, -, rfl⟩ : ao = some ⟨g, 0, none⟩ ∧ n = n ∧ cap = cap' := by simpa using e
    exact hc
theorem low43 (ao : Option Addr) (n cap x : Nat) (hx : x ≤ cap) (w : World) : (Instr.slice 43 (.slice ao n cap) none (some (.int .i64 (x : Nat))) none).run Tryd.prog w = .ok (.slice ao x cap) w := by
  have hxc : (x : Int) ≤ (cap : Int) := by omega
  have hs : ∀ w, (Go.sizeOf 52).run Tryd.prog w = .ok 2 w := fun w => by kernel_rfl
  by_cases h : cap = 0
  · subst h
    obtain rfl : x = 0 := by omega
    simp [go_sem, Tryd.underlying43, hs]
  · simp [go_sem, Tryd.underlying43, hxc, h, hs]
theorem min_tells (n x k : Nat) (h : k = min n x) (w : World) : (Builtin.min_ #[3, 3] 3 #[.int .i64 (n : Nat), .int .i64 (x : Nat)]).run Tryd.prog w = .ok (.int .i64 (k : Nat)) w := by
  rw [run_min_int2]
  subst h
  congr 2
  split <;> omega
theorem conv53 (x : Nat) (hx : x < 256) (W : World) : (convert 5 3 (.int .u8 (x : Nat))).run Tryd.prog W = .ok (.int .i64 (x : Nat)) W := by
  have hk : Tryd.prog.intKind 3 = .i64 := by kernel_rfl
  rw [run_convert_int W 5 3 .u8 _ (by rw [Tryd.underlying5]; rfl) (by rw [hk]; exact Tryd.underlying3), hk]
  rw [show IntKind.i64.wrap (x : Int) = (x : Int) by rw [IntKind.wrap_i64]; omega]
theorem row_convert {B : Nat} {w : World} {ao : Option Addr} {n cap : Nat} {l : List Nat} (h : w.ownsRow B 5 1 (.slice ao n cap) n (byt l)) (hl : l.length = n) : (convert 22 9 (.slice ao n cap)).run Tryd.prog w = .ok (.string (strOfNums (l.map Int.ofNat))) w := by
  rcases h.2 with ⟨h', h0⟩ | ⟨g, cap', cur, e, _⟩
  · obtain ⟨rfl, rfl, rfl⟩ : ao = none ∧ n = 0 ∧ cap = 0 := by simpa using h'
    obtain rfl : l = [] := List.eq_nil_of_length_eq_zero hl
    rw [run_convert_bytes_nil w 22 5 Tryd.underlying22 Tryd.underlying5 0 0 9 Tryd.underlying9]
    rfl
  · obtain ⟨rfl, -, rfl⟩ : ao = some ⟨g, 0, none⟩ ∧ n = n ∧ cap = cap' := by simpa using e
    refine run_convert_bytes_arg w 22 5 Tryd.underlying22 Tryd.underlying5 g 0 n cap _ (by simpa using hl) (fun i hi => ?_) 9 Tryd.underlying9
    rw [Nat.zero_add, h.cellAt i (by omega)]
    simp [byt, List.getElem?_eq_getElem (show i < l.length by omega), List.getD]
/-- A list of bytes, of a length with a name. -/
def RetB2 (w : World) (l : List Nat) (n : Nat) (e : Ending) (w' : World) : Prop := ∃ ao cap, e = .returned (.slice ao n cap) ∧ w'.ownsRow w.heap.size 5 1 (.slice ao n cap) n (byt l) ∧ Below w.heap.size w w'
def RetR2 (w : World) (l : List (Nat × Nat)) (n : Nat) (e : Ending) (w' : World) : Prop := ∃ ao cap, e = .returned (.slice ao n cap) ∧ w'.ownsRow w.heap.size 52 2 (.slice ao n cap) n (runV l) ∧ Below w.heap.size w w'
theorem retB2 {w : World} {l : List Nat} {n : Nat} (h : l.length = n) (e : Ending) (w' : World) (hr : RetBs w l e w') : RetB2 w l n e w' := by subst h; exact hr
theorem retR2 {w : World} {l : List (Nat × Nat)} {n : Nat} (h : l.length = n) (e : Ending) (w' : World) (hr : RetRn w l e w') : RetR2 w l n e w' := by subst h; exact hr
/-- The box of a class and the list of its runs, as they were laid. -/
structure T6 (w : World) (a b c d : Nat) (v : Value) (n : Nat) (l : List (Nat × Nat)) (W : World) : Prop where
  bel : Below w.heap.size w W
  b0 : Bx W w.heap.size (.int .u64 (a : Nat)) (.int .u64 (b : Nat)) (.int .u64 (c : Nat)) (.int .u64 (d : Nat))
  own : W.ownsRow w.heap.size 52 2 v n (runV l)
theorem T6.next {w W W' : World} {a b c d : Nat} {v : Value} {n : Nat} {l : List (Nat × Nat)} (t : T6 w a b c d v n l W) (hb : Below W.heap.size W W') : T6 w a b c d v n l W' :=
  ⟨t.bel.trans (hb.mono t.bel.size), t.b0.below hb, row52_below t.own hb⟩
theorem T6.cells {w W : World} {a b c d : Nat} {v : Value} {n : Nat} {l : List (Nat × Nat)} (t : T6 w a b c d v n l W) : W.cell? ⟨w.heap.size, 0, none⟩ = some (.int .u64 (a : Nat)) ∧ W.cell? ⟨w.heap.size, 1, none⟩ = some (.int .u64 (b : Nat)) ∧ W.cell? ⟨w.heap.size, 2, none⟩ = some (.int .u64 (c : Nat)) ∧ W.cell? ⟨w.heap.size, 3, none⟩ = some (.int .u64 (d : Nat)) := by
  obtain ⟨c0, c1, c2, c3, _⟩ := t.b0.cells
  exact ⟨c0, c1, c2, c3⟩
theorem below_drewN (w : World) (q : Nat) : Below w.heap.size w (w.drewN q) := by
  induction q with
  | zero => exact Below.refl _ _
  | succ q ih => exact ih.drew
theorem eq36 {W : World} {B1 B2 : Nat} {ao1 ao2 : Option Addr} {c1 c2 n : Nat} {l : List Nat} (hl : l.length = n) (h1 : W.ownsRow B1 5 1 (.slice ao1 n c1) n (byt l)) (h2 : W.ownsRow B2 5 1 (.slice ao2 n c2) n (byt l)) :
    Calls Tryd.prog 36 #[.slice ao1 n c1, .slice ao2 n c2] W fun e w' => e = .returned (.bool true) ∧ w' = W := by
  refine (Tryd.bytes_Equal _ _ _ _ W (row_convert h1 hl) (row_convert h2 hl)).mono ?_
  rintro e w' ⟨rfl, rfl⟩
  exact ⟨by simp, rfl⟩
theorem eq39 {W : World} {B1 B2 : Nat} {ao1 ao2 : Option Addr} {c1 c2 n k : Nat} {l l' : List (Nat × Nat)} (hl : l.length = n) (hl' : l'.length = k) (hp : l' = l.take k) (hn : n ≤ 257) (h1 : W.ownsRow B1 52 2 (.slice ao1 k c1) k (runV l')) (h2 : W.ownsRow B2 52 2 (.slice ao2 n c2) n (runV l)) :
    Calls Tryd.prog 39 #[.slice ao1 k c1, .slice ao2 k c2] W fun e w' => e = .returned (.bool true) ∧ Below W.heap.size W w' := by
  have hk : k ≤ n := by rw [← hl', hp, List.length_take, ← hl]; omega
  have r1 := RdR.own h1 k (Nat.le_refl _) hl'
  have r2 := RdR.own h2 k hk hl
  have r3 : RdR W ao2 k (fun j => (l'.getD j (0, 0)).1) (fun j => (l'.getD j (0, 0)).2) := by
    refine ⟨fun h0 => ?_⟩
    obtain ⟨g, e, hg, hc⟩ := r2.at_ h0
    refine ⟨g, e, hg, fun j hj => ?_⟩
    have e2 : l'.getD j (0, 0) = l.getD j (0, 0) := by
      rw [hp]; simp [List.getD, hj]
    rw [e2]
    exact hc j hj
  refine (equalR_same ao1 ao2 k c1 c2 _ _ W r1 r3 (by omega)).mono ?_
  rintro e w' ⟨rfl, q, rfl⟩
  exact ⟨rfl, below_drewN _ _⟩
set_option maxRecDepth 100000 in
set_option maxHeartbeats 8000000 in
theorem classTells_walk {P : Nat → Bool} {a b c d : Nat} (hA : C4 P a b c d) (x : Nat) (hx : x < 256) (w : World) (hT : Tab w) :
    Calls Tryd.prog 6 #[.agg #[.int .u64 (a : Nat), .int .u64 (b : Nat), .int .u64 (c : Nat), .int .u64 (d : Nat)], .int .u8 (x : Nat)] w fun en w' => en = .returned (.bool true) ∧ Below w.heap.size w w' := by
  have hlen := rs_len P 257
  have H35 : ∀ W, Calls Tryd.prog 35 #[.agg #[.int .u64 (a : Nat), .int .u64 (b : Nat), .int .u64 (c : Nat), .int .u64 (d : Nat)]] W (RetRn W (rs P 257).1) := fun W => rruns_c hA W
  have H37 : ∀ bc W, Bx W bc (.int .u64 (a : Nat)) (.int .u64 (b : Nat)) (.int .u64 (c : Nat)) (.int .u64 (d : Nat)) → Calls Tryd.prog 37 #[.func (.func 53) #[] #[.pointer (some ⟨bc, 0, none⟩)]] W (RetBs W (come P 256)) := fun bc W h => told_c hA bc W h
  have H22 : ∀ W, Calls Tryd.prog 22 #[.agg #[.int .u64 (a : Nat), .int .u64 (b : Nat), .int .u64 (c : Nat), .int .u64 (d : Nat)]] W (RetBs W (come P 256)) := fun W => rbytes_c hA W
  have H40 : ∀ bc W q, Bx W bc (.int .u64 (a : Nat)) (.int .u64 (b : Nat)) (.int .u64 (c : Nat)) (.int .u64 (d : Nat)) → Calls Tryd.prog 40 #[.func (.func 54) #[] #[.pointer (some ⟨bc, 0, none⟩)], .int .i64 (q : Nat)] W (RetRn W ((rs P 257).1.take q)) := fun bc W q h => runs_c hA bc q W h
  have H38 : ∀ W, Calls Tryd.prog 38 #[.agg #[.int .u64 (a : Nat), .int .u64 (b : Nat), .int .u64 (c : Nat), .int .u64 (d : Nat)]] W _ := fun W => all_mk a b c d W
  generalize (rs P 257).1 = R at *
  generalize come P 256 = L at *
  obtain ⟨N, hN⟩ : ∃ N, R.length = N := ⟨_, rfl⟩
  obtain ⟨M, hM⟩ : ∃ M, L.length = M := ⟨_, rfl⟩
  obtain ⟨K, hK⟩ : ∃ K, K = min N x := ⟨_, rfl⟩
  obtain ⟨Q, hQ⟩ : ∃ Q, Q = R.take K := ⟨_, rfl⟩
  have hQl : Q.length = K := by rw [hQ, List.length_take, hN]; omega
  have hQx : R.take x = Q := by
    rw [hQ, hK]
    by_cases h : x ≤ N
    · rw [Nat.min_eq_right h]
    · rw [Nat.min_eq_left (by omega), ← hN, List.take_length, List.take_of_length_le (by omega)]
  have hRR : R = R.take N := by rw [← hN, List.take_length]
  have hR300 : R.take 300 = R := List.take_of_length_le (by omega)
  have h37 : Hid (∀ bc W, Bx W bc (.int .u64 (a : Nat)) (.int .u64 (b : Nat)) (.int .u64 (c : Nat)) (.int .u64 (d : Nat)) → Calls Tryd.prog 37 #[.func (.func 53) #[] #[.pointer (some ⟨bc, 0, none⟩)]] W (RetB2 W L M)) := fun bc W h => (H37 bc W h).mono (retB2 hM)
  have h22 : Hid (∀ W, Calls Tryd.prog 22 #[.agg #[.int .u64 (a : Nat), .int .u64 (b : Nat), .int .u64 (c : Nat), .int .u64 (d : Nat)]] W (RetB2 W L M)) := fun W => (H22 W).mono (retB2 hM)
  have h40 : Hid (∀ bc W, Bx W bc (.int .u64 (a : Nat)) (.int .u64 (b : Nat)) (.int .u64 (c : Nat)) (.int .u64 (d : Nat)) → Calls Tryd.prog 40 #[.func (.func 54) #[] #[.pointer (some ⟨bc, 0, none⟩)], .int .i64 300] W (RetR2 W R N)) := fun bc W h => by
    have := H40 bc W 300 h
    rw [hR300] at this
    exact this.mono (retR2 hN)
  have h40' : Hid (∀ bc W, Bx W bc (.int .u64 (a : Nat)) (.int .u64 (b : Nat)) (.int .u64 (c : Nat)) (.int .u64 (d : Nat)) → Calls Tryd.prog 40 #[.func (.func 54) #[] #[.pointer (some ⟨bc, 0, none⟩)], .int .i64 (x : Nat)] W (RetR2 W Q K)) := fun bc W h => by
    have := H40 bc W x h
    rw [hQx] at this
    exact this.mono (retR2 hQl)
  have h36 : Hid (∀ W B1 B2 ao1 ao2 c1 c2, W.ownsRow B1 5 1 (.slice ao1 M c1) M (byt L) → W.ownsRow B2 5 1 (.slice ao2 M c2) M (byt L) → Calls Tryd.prog 36 #[.slice ao1 M c1, .slice ao2 M c2] W fun e w' => e = .returned (.bool true) ∧ w' = W) := fun W B1 B2 ao1 ao2 c1 c2 h1 h2 => eq36 hM h1 h2
  have h39 : Hid (∀ W B1 B2 ao1 ao2 c1 c2, W.ownsRow B1 52 2 (.slice ao1 N c1) N (runV R) → W.ownsRow B2 52 2 (.slice ao2 N c2) N (runV R) → Calls Tryd.prog 39 #[.slice ao1 N c1, .slice ao2 N c2] W fun e w' => e = .returned (.bool true) ∧ Below W.heap.size W w') := fun W B1 B2 ao1 ao2 c1 c2 h1 h2 => eq39 hN hN hRR (by omega) h1 h2
  have h39' : Hid (∀ W B1 B2 ao1 ao2 c1 c2, W.ownsRow B1 52 2 (.slice ao1 K c1) K (runV Q) → W.ownsRow B2 52 2 (.slice ao2 N c2) N (runV R) → Calls Tryd.prog 39 #[.slice ao1 K c1, .slice ao2 K c2] W fun e w' => e = .returned (.bool true) ∧ Below W.heap.size W w') := fun W B1 B2 ao1 ao2 c1 c2 h1 h2 => eq39 hN hQl hQ (by omega) h1 h2
  have hmin := min_tells N x K hK
  have hKN : K ≤ N := by omega
  have h35 : Hid (∀ W, Calls Tryd.prog 35 #[.agg #[.int .u64 (a : Nat), .int .u64 (b : Nat), .int .u64 (c : Nat), .int .u64 (d : Nat)]] W (RetR2 W R N)) := fun W => (H35 W).mono (retR2 hN)
  clear H35 H37 H22 H40 H38 hQx hRR hR300 hQl hQ hK hN hM hlen
  have hcv := conv53 x hx
  have hB0 : Below w.heap.size w (w.alloc (.cells #[.int .u64 (a : Nat), .int .u64 (b : Nat), .int .u64 (c : Nat), .int .u64 (d : Nat)] 26)) := (Below.refl _ _).alloc (Nat.le_refl _) _
  have q0 := Bx.new w (.int .u64 (a : Nat)) (.int .u64 (b : Nat)) (.int .u64 (c : Nat)) (.int .u64 (d : Nat))
  obtain ⟨p0, p1, p2, p3, _⟩ := q0.cells
  go_enter Tryd.func6, Tryd.ntmps6
  go_wp2_with fail
  refine (h35.out _).mono ?_
  rintro e w1 ⟨ao, cap, rfl, hown, hb⟩
  have t : T6 w a b c d (.slice ao N cap) N R w1 := ⟨hB0.trans (hb.mono hB0.size), q0.below hb, row2_mono hown (by simp)⟩
  have hcap := row52_cap hown
  have hsl := low43 ao N cap K (by omega)
  clear hb hown p0 p1 p2 p3 q0 hB0 hcap h35
  go_wp2_with fail
  replace t := t.next (Below.refl _ _).drew
  have hc := t.cells
  have m1 : Hid True := trivial
  have m2 : Hid True := trivial
  go_region_held3 (fun w' => w'.cell? ⟨w.heap.size, 0, none⟩ = some (.int .u64 (a : Nat)) ∧ w'.cell? ⟨w.heap.size, 1, none⟩ = some (.int .u64 (b : Nat)) ∧ w'.cell? ⟨w.heap.size, 2, none⟩ = some (.int .u64 (c : Nat)) ∧ w'.cell? ⟨w.heap.size, 3, none⟩ = some (.int .u64 (d : Nat))) (exact hc)
    (first
      | (go_at_call 9; refine (begun_any _ (hT.below t.bel)).mono ?_; rintro en v0 ⟨rfl, q⟩; replace t := t.next q; clear q hc; have hc := t.cells)
      | (go_at_call 38; refine (all_mk a b c d _).mono ?_; rintro en v1 ⟨rfl, hx1, q⟩; replace t := t.next q; clear q hc; have hc := t.cells)
      | (go_at_call 37; refine (h37.out _ _ hx1).mono ?_; clear hx1; rintro en v2 ⟨ao1, cap1, rfl, o1, q⟩; replace t := t.next q; clear q hc; have hc := t.cells)
      | (go_at_call 22; refine (h22.out _).mono ?_; rintro en v3 ⟨ao2, cap2, rfl, o2, q⟩; replace o1 := row_below o1 q; replace t := t.next q; clear q hc; have hc := t.cells)
      | (go_at_call 36; refine (h36.out _ _ _ _ _ _ _ o1 o2).mono ?_; clear o1 o2; rintro en v4 ⟨rfl, rfl⟩)
      | (go_at_call 41; refine (runs_mk a b c d _).mono ?_; rintro en v5 ⟨rfl, hx1, q⟩; replace t := t.next q; clear q hc; have hc := t.cells)
      | (go_at_call 40; (first | (clear m1; refine (h40.out _ _ hx1).mono ?_) | refine (h40'.out _ _ hx1).mono ?_); clear hx1; rintro en v6 ⟨ao3, cap3, rfl, o3, q⟩; replace t := t.next q; clear q hc; have hc := t.cells)
      | (go_at_call 39; (first | (clear m2; refine (h39.out _ _ _ _ _ _ _ o3 t.own).mono ?_) | refine (h39'.out _ _ _ _ _ _ _ o3 t.own).mono ?_); clear o3; rintro en v7 ⟨rfl, q⟩; replace t := t.next q; clear q hc; have hc := t.cells))
  all_goals
    go_wp2
    go_ret
    exact ⟨rfl, t.bel⟩
end Go.Proofs.YthgjklhjfpillaaDoor
