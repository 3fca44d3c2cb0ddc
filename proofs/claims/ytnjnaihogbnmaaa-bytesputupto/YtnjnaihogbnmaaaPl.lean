/- BytesPut: the walk of the law. -/
import Derived.Test.YtnjnaihogbnmaaaFr
namespace Go.Proofs.Ytnjnaihogbnmaaa
open Go.RowKit
/-- The box of what is to be written. -/
def PB (w : World) (b : Nat) (x0 x1 x2 x3 x4 x5 : Value) : Prop := w.heap[b]? = some (.cells #[x0, x1, x2, x3, x4, x5] 27 (0, 0))
theorem PB.below {w w' : World} {b : Nat} {x0 x1 x2 x3 x4 x5 : Value} (h : PB w b x0 x1 x2 x3 x4 x5) (hb : Below w.heap.size w w') : PB w' b x0 x1 x2 x3 x4 x5 := by
  unfold PB; rw [hb.block b (Array.getElem?_eq_some_iff.1 h).1]; exact h
theorem PB.lt {w : World} {b : Nat} {x0 x1 x2 x3 x4 x5 : Value} (h : PB w b x0 x1 x2 x3 x4 x5) : b < w.heap.size := (Array.getElem?_eq_some_iff.1 h).1
theorem PB.cells {w : World} {b : Nat} {x0 x1 x2 x3 x4 x5 : Value} (h : PB w b x0 x1 x2 x3 x4 x5) :
    w.cell? ⟨b, 0, none⟩ = some x0 ∧ w.cell? ⟨b, 1, none⟩ = some x1 ∧ w.cell? ⟨b, 2, none⟩ = some x2 ∧ w.cell? ⟨b, 3, none⟩ = some x3 ∧ w.cell? ⟨b, 4, none⟩ = some x4 ∧ w.cell? ⟨b, 5, none⟩ = some x5 :=
  ⟨cell_of_row w b 0 _ 27 (0, 0) h, cell_of_row w b 1 _ 27 (0, 0) h, cell_of_row w b 2 _ 27 (0, 0) h, cell_of_row w b 3 _ 27 (0, 0) h, cell_of_row w b 4 _ 27 (0, 0) h, cell_of_row w b 5 _ 27 (0, 0) h⟩
theorem PB.new (w : World) (x0 x1 x2 x3 x4 x5 : Value) : PB (w.alloc (.cells #[x0, x1, x2, x3, x4, x5] 27)) w.heap.size x0 x1 x2 x3 x4 x5 := heap_alloc_new w _
theorem Rd.room_nil {w : World} {ao : Option Addr} {n cap : Nat} {f : Nat → Nat} (h : Own w.heap.size w ao n cap f) : n ≤ cap := by
  rcases h.own.2 with ⟨_, h0⟩ | ⟨_, _, _, h', _, _, hc, _⟩
  · omega
  · simp only [Value.slice.injEq] at h'
    obtain ⟨_, _, rfl⟩ := h'
    exact hc
theorem below_drew3 (w : World) : Below w.heap.size w w.drew := (Below.refl _ _).drew
/-- Set, whether the set may be or not. -/
theorem set_any (ao : Option Addr) (n cap : Nat) (f : Nat → Nat) (m : Int) (ax : Option Addr) (L cx : Nat) (h : Nat → Nat) : ∃ N F, N ≤ n + 1024 ∧ ∀ w, Rd w ao n f → RdU w ax L h → n ≤ 4194304 → ((ao = none ∧ n = 0 ∧ cap = 0) ∨ ∃ a, ao = some a) →
    Calls Try.prog 17 #[.slice ao n cap, .agg #[.int .i64 m, .slice ax L cx]] w (RetB w N F) ∧ Calls Try.prog 18 #[.slice ao n cap, .agg #[.int .i64 m, .slice ax L cx]] w (RetB w N F) := by
  by_cases hok : Ok m L h
  · have hL : L ≤ 128 := by obtain ⟨h1, h2, h3, _⟩ := hok; omega
    exact ⟨n + 8 * L, putB n 8 f h, by omega, fun w hr hx hn hna => ⟨set_ok ao n cap f m ax L cx h w hr hx hok (by omega), fset_ok ao n cap f m ax L cx h w hr hx hok (by omega) hna⟩⟩
  · exact ⟨n, f, by omega, fun w hr hx hn hna => ⟨set_bad ao n cap f m ax L cx h w hr hx hok (by omega) hna, fset_bad ao n cap f m ax L cx h w hr hx hok (by omega) hna⟩⟩
set_option maxRecDepth 10000 in
set_option maxHeartbeats 4000000 in
theorem bytesPut_walk (a0 a2 a3 a5 : Option Addr) (l0 c0 l2 c2 l3 c3 l5 c5 : Nat) (z m : Int) (f0 f2 f3 f5 : Nat → Nat) (w : World) (r0 : Rd w a0 l0 f0) (r2 : RdU w a2 l2 f2) (r3 : Rd w a3 l3 f3) (r5 : RdU w a5 l5 f5)
    (b0 : l0 ≤ 1048576) (b2 : l2 ≤ 1048576) (b3 : l3 ≤ 1048576) (k3 : l3 ≤ c3) (z1 : -9223372036854775808 ≤ z) (z2 : z ≤ 9223372036854775807)
    (n0 : (a0 = none ∧ l0 = 0 ∧ c0 = 0) ∨ ∃ a, a0 = some a) (n3 : (a3 = none ∧ l3 = 0 ∧ c3 = 0) ∨ ∃ a, a3 = some a) :
    Calls Try.prog 3 #[.agg #[.slice a0 l0 c0, .int .i64 z, .slice a2 l2 c2, .slice a3 l3 c3, .int .i64 m, .slice a5 l5 c5]] w fun e w' => e = .returned (.bool true) ∧ Below w.heap.size w w' := by
  have t : Below w.heap.size w (w.alloc (.cells #[.slice a0 l0 c0, .int .i64 z, .slice a2 l2 c2, .slice a3 l3 c3, .int .i64 m, .slice a5 l5 c5] 27)) := (Below.refl _ _).alloc (Nat.le_refl _) _
  have bx := PB.new w (.slice a0 l0 c0) (.int .i64 z) (.slice a2 l2 c2) (.slice a3 l3 c3) (.int .i64 m) (.slice a5 l5 c5)
  have sz := szB_le z
  have bz : l0 + szB z * l2 ≤ 140737488355328 := by
    have : szB z * l2 ≤ 8 * l2 := Nat.mul_le_mul_right _ sz.2
    omega
  obtain ⟨N, F, hN, hset⟩ := set_any a0 l0 c0 f0 m a5 l5 c5 f5
  have hU := fun w (h : Rd w a3 l3 f3) => unseal_any a3 l3 c3 f3 w h (by omega) k3
  have hV := fun w (h : Rd w a3 l3 f3) => funseal_any a3 l3 c3 f3 w h (by omega) k3
  have hUN : unN l3 f3 ≤ l3 := by unfold unN; split <;> omega
  generalize unN l3 f3 = UN at *
  generalize unC l3 f3 = UC at *
  have hP := fun w (h : Rd w a0 l0 f0) (g : RdU w a2 l2 f2) => num_any a0 l0 c0 f0 z a2 l2 c2 f2 w h g z1 z2 (by omega) (by omega)
  have hQ := fun w (h : Rd w a0 l0 f0) (g : RdU w a2 l2 f2) => fnum_any a0 l0 c0 f0 z a2 l2 c2 f2 w h g z1 z2 bz (by omega) n0
  generalize hNP : l0 + szB z * l2 = NP at *
  generalize putB l0 (szB z) f0 f2 = FP at *
  have hSS := fun w (h : Rd w a3 l3 f3) => sum_any a3 l3 c3 f3 w h (by omega)
  have hST := fun w (h : Rd w a3 l3 f3) => fsum_any a3 l3 c3 f3 w h (by omega)
  have hSe := fun w (h : Rd w a3 l3 f3) => seal_any a3 l3 c3 f3 w h (by omega)
  have hSf := fun w (h : Rd w a3 l3 f3) => fseal_any a3 l3 c3 f3 w h (by omega) n3
  generalize sumB f3 l3 = S at *
  generalize sealB l3 f3 = FS at *
  have hTr := fun w (h : Rd w a0 l0 f0) (g : Rd w a3 l3 f3) => str_any a0 l0 c0 f0 a3 l3 c3 f3 w h g (by omega) n3
  have hTf := fun w (h : Rd w a0 l0 f0) (g : Rd w a3 l3 f3) => fstr_any a0 l0 c0 f0 a3 l3 c3 f3 w h g (by omega) n0 n3
  generalize strB l0 l3 f0 f3 = FT at *
  generalize hNT : l0 + 4 + l3 = NT at hTr hTf
  generalize hNS : l3 + 8 = NS at hSe hSf
  have HBI : (NP : Int) ≤ 9223372036854775807 := by omega
  have HBT : (NT : Int) ≤ 9223372036854775807 := by omega
  have HB0 : l0 ≤ 4194304 := by omega
  have HBN : (N : Int) ≤ 9223372036854775807 := by omega
  have HBS : (NS : Int) ≤ 9223372036854775807 := by omega
  have HBU : (UN : Int) ≤ 9223372036854775807 := by omega
  clear sz bz hNP hN hUN hNT hNS
  go_enter Try.func3, Try.ntmps3
  obtain ⟨k0, k1, k2, k3', k4, k5⟩ := bx.cells
  go_wp2_with fail
  refine (live_any _).mono ?_
  rintro e w1 ⟨rfl, q1⟩
  replace t := t.trans (q1.mono t.size)
  replace bx := bx.below q1
  clear q1 k0 k1 k2 k3' k4 k5
  obtain ⟨k0, k1, k2, k3', k4, k5⟩ := bx.cells
  go_wp2_with fail
  refine (hU _ (r3.below t)).mono ?_
  rintro e w2 ⟨x1, y1, rfl, g1, q2⟩
  replace t := t.trans (q2.mono t.size)
  replace bx := bx.below q2
  clear q2 k0 k1 k2 k3' k4 k5
  obtain ⟨k0, k1, k2, k3', k4, k5⟩ := bx.cells
  go_wp2_with fail
  refine (hV _ (r3.below t)).mono ?_
  rintro e w3 ⟨x2, y2, rfl, g2, q3⟩
  replace t := t.trans (q3.mono t.size)
  replace g1 := g1.below q3
  replace bx := bx.below q3
  clear q3 k0 k1 k2 k3' k4 k5
  obtain ⟨k0, k1, k2, k3', k4, k5⟩ := bx.cells
  have hc := (bx.below (below_drew3 w3)).cells
  replace bx := bx.below (below_drew3 w3)
  replace t := t.trans ((below_drew3 w3).mono t.size)
  replace g1 := g1.below (below_drew3 w3)
  replace g2 := g2.below (below_drew3 w3)
  clear k0 k1 k2 k3' k4 k5
  go_wp2_with fail
  simp only [List.append]
  go_region_held3 (fun w' => w'.cell? ⟨w.heap.size, 0, none⟩ = some (.slice a0 l0 c0) ∧ w'.cell? ⟨w.heap.size, 1, none⟩ = some (.int .i64 z) ∧ w'.cell? ⟨w.heap.size, 2, none⟩ = some (.slice a2 l2 c2) ∧ w'.cell? ⟨w.heap.size, 3, none⟩ = some (.slice a3 l3 c3) ∧ w'.cell? ⟨w.heap.size, 4, none⟩ = some (.int .i64 m) ∧ w'.cell? ⟨w.heap.size, 5, none⟩ = some (.slice a5 l5 c5)) (exact hc)
    (first
      | (go_at_call 13; refine (hP _ (r0.below t) (r2.below t)).mono ?_; rintro e v3 ⟨x3, y3, rfl, g3, q⟩; replace g3 := g3.rd; replace t := t.trans (q.mono t.size); replace bx := bx.below q; clear hc; have hc := bx.cells; replace g1 := g1.below q; replace g2 := g2.below q; clear q)
      | (go_at_call 14; refine (hQ _ (r0.below t) (r2.below t)).mono ?_; rintro e v4 ⟨x4, y4, rfl, g4, q⟩; replace g4 := g4.rd; replace t := t.trans (q.mono t.size); replace bx := bx.below q; clear hc; have hc := bx.cells; replace g1 := g1.below q; replace g2 := g2.below q; replace g3 := g3.below q; clear q)
      | (go_at_call_of 12 (Value.slice x3 NP y3); refine (equal_same9 g3 g4 HBI).mono ?_; rintro e v4' ⟨rfl, q⟩; clear g3 g4; replace t := t.trans (q.mono t.size); replace bx := bx.below q; clear hc; have hc := bx.cells; replace g1 := g1.below q; replace g2 := g2.below q; clear q)
      | (go_at_call 15; refine (hTr _ (r0.below t) (r3.below t)).mono ?_; rintro e v5 ⟨x5, y5, rfl, g5, q⟩; replace g5 := g5.rd; replace t := t.trans (q.mono t.size); replace bx := bx.below q; clear hc; have hc := bx.cells; replace g1 := g1.below q; replace g2 := g2.below q; clear q)
      | (go_at_call 16; refine (hTf _ (r0.below t) (r3.below t)).mono ?_; rintro e v6 ⟨x6, y6, rfl, g6, q⟩; replace g6 := g6.rd; replace t := t.trans (q.mono t.size); replace bx := bx.below q; clear hc; have hc := bx.cells; replace g1 := g1.below q; replace g2 := g2.below q; replace g5 := g5.below q; clear q)
      | (go_at_call_of 12 (Value.slice x5 NT y5); refine (equal_same9 g5 g6 HBT).mono ?_; rintro e v6' ⟨rfl, q⟩; clear g5 g6; replace t := t.trans (q.mono t.size); replace bx := bx.below q; clear hc; have hc := bx.cells; replace g1 := g1.below q; replace g2 := g2.below q; clear q)
      | (go_at_call 17; refine ((hset _ (r0.below t) (r5.below t) HB0 n0).1).mono ?_; rintro e v7 ⟨x7, y7, rfl, g7, q⟩; replace g7 := g7.rd; replace t := t.trans (q.mono t.size); replace bx := bx.below q; clear hc; have hc := bx.cells; replace g1 := g1.below q; replace g2 := g2.below q; clear q)
      | (go_at_call 18; refine ((hset _ (r0.below t) (r5.below t) HB0 n0).2).mono ?_; rintro e v8 ⟨x8, y8, rfl, g8, q⟩; replace g8 := g8.rd; replace t := t.trans (q.mono t.size); replace bx := bx.below q; clear hc; have hc := bx.cells; replace g1 := g1.below q; replace g2 := g2.below q; replace g7 := g7.below q; clear q)
      | (go_at_call_of 12 (Value.slice x7 N y7); refine (equal_same9 g7 g8 HBN).mono ?_; rintro e v8' ⟨rfl, q⟩; clear g7 g8; replace t := t.trans (q.mono t.size); replace bx := bx.below q; clear hc; have hc := bx.cells; replace g1 := g1.below q; replace g2 := g2.below q; clear q)
      | (go_at_call 19; refine (hSS _ (r3.below t)).mono ?_; rintro e v19 ⟨rfl, rfl⟩)
      | (go_at_call 20; refine (hST _ (r3.below t)).mono ?_; rintro e v20 ⟨rfl, rfl⟩)
      | (go_at_call 21; refine (hSe _ (r3.below t)).mono ?_; rintro e v9 ⟨x9, y9, rfl, g9, q⟩; replace g9 := g9.rd; replace t := t.trans (q.mono t.size); replace bx := bx.below q; clear hc; have hc := bx.cells; replace g1 := g1.below q; replace g2 := g2.below q; clear q)
      | (go_at_call 22; refine (hSf _ (r3.below t)).mono ?_; rintro e v10 ⟨x10, y10, rfl, g10, q⟩; replace g10 := g10.rd; replace t := t.trans (q.mono t.size); replace bx := bx.below q; clear hc; have hc := bx.cells; replace g1 := g1.below q; replace g2 := g2.below q; replace g9 := g9.below q; clear q)
      | (go_at_call_of 12 (Value.slice x9 NS y9); refine (equal_same9 g9 g10 HBS).mono ?_; rintro e v10' ⟨rfl, q⟩; clear g9 g10; replace t := t.trans (q.mono t.size); replace bx := bx.below q; clear hc; have hc := bx.cells; replace g1 := g1.below q; replace g2 := g2.below q; clear q)
      | (go_at_call_of 12 (Value.slice x1 UN y1); refine (equal_same9 g1 g2 HBU).mono ?_; rintro e v12 ⟨rfl, q⟩; clear g1 g2; replace t := t.trans (q.mono t.size); replace bx := bx.below q; clear hc; have hc := bx.cells; clear q))
  go_wp2
  go_ret
  exact ⟨rfl, t⟩
end Go.Proofs.Ytnjnaihogbnmaaa
