/- parse: pairs: its frame, its memory, its ways. parse: pairs as a whole. -/
import Derived.Deep.AppendLies
import Derived.Deep.RegionLaw
import Derived.WalkSmall
import Derived.Test.YtlmmiicibjfcdaaQ16
import Derived.Test.YtlmmiicibjfcdaaQ09
import Derived.Test.YtlmmiicibjfcdaaQ17
namespace Go.Proofs.Ytlmmiicibjfcdaa
open Go.RowKit
/-- pairs' frame. -/
def fr21 (ao : Option Addr) (n cap N : Nat) (ov : Value) (ah : Int) (i : Nat) (u : Nat → Value) : Array Value := #[.slice ao n cap, u 1, .slice none 0 0, .int .i64 0, .int .i64 0, .slice (some ⟨N, 0, none⟩) n n, ov, .int .i64 ah, .int .i64 (i : Nat), u 9, u 10, u 11, u 12, u 13, u 14, u 15, u 16, u 17, u 18, u 19, u 20, u 21, u 22, u 23, u 24, u 25, u 26, u 27, u 28, u 29, u 30, u 31, u 32, u 33, u 34, u 35, u 36, u 37, u 38, u 39, u 40, u 41, u 42, u 43, u 44, u 45, u 46, u 47, u 48, u 49, u 50, u 51, u 52, u 53, u 54, u 55, u 56, u 57, u 58, u 59, u 60, u 61, u 62, u 63, u 64, u 65, u 66, u 67, u 68, u 69, u 70, u 71, u 72, u 73, u 74, u 75, u 76, u 77, u 78, u 79, u 80, u 81, u 82, u 83, u 84, u 85, u 86]
def Fr21 (ao : Option Addr) (n cap N : Nat) (ov : Value) (ah : Int) (i : Nat) (tm : Array Value) : Prop := ∃ u, tm = fr21 ao n cap N ov ah i u
theorem Fr21.of {ao : Option Addr} {n cap N : Nat} {ov : Value} {ah : Int} {i : Nat} (tm : Array Value) (h : tm = fr21 ao n cap N ov ah i (nth tm.toList)) : Fr21 ao n cap N ov ah i tm := ⟨_, h⟩
/-- Which token closes which, as cells; the open ones. -/
def clC (c : Nat → Int) (n : Nat) : List Value := (List.range n).map fun j => Value.int .i64 (c j)
def opC (l : List Nat) : List Value := l.reverse.map fun o => Value.int .i64 (o : Nat)
theorem opC_len (l : List Nat) : (opC l).length = l.length * 1 := by simp [opC]
theorem opC_cons (o : Nat) (l : List Nat) : opC (o :: l) = opC l ++ [.int .i64 (o : Nat)] := by simp [opC]
/-- pairs' memory. -/
structure PI (w : World) (n : Nat) (s : Ps) (ov : Value) (W : World) : Prop where
  bel : Below w.heap.size w W
  cl : Cl W w.heap.size 3 (clC s.cl n)
  row : W.ownsRow (w.heap.size + 1) 3 1 ov s.op.length (opC s.op)
theorem PI.below {w W W' : World} {n : Nat} {s : Ps} {ov : Value} (h : PI w n s ov W) (hb : Below W.heap.size W W') : PI w n s ov W' :=
  ⟨h.bel.trans (hb.mono h.bel.size), h.cl.below hb, own_at h.row fun _ hg => hb.block _ (own_block h.row hg).2.1⟩
theorem PI.ah {w W : World} {n : Nat} {s : Ps} {ov : Value} (h : PI w n s ov W) (a : Int) : PI w n ⟨s.op, a, s.cl⟩ ov W := ⟨h.bel, h.cl, h.row⟩
theorem clC_set (c : Nat → Int) (n o : Nat) (v : Int) : (clC c n).set o (.int .i64 v) = clC (fun j => if j = o then v else c j) n := by
  apply List.ext_getElem?
  intro j
  rw [List.getElem?_set]
  by_cases hj : j < n
  · simp [clC, hj]
    by_cases e : o = j
    · subst e; simp [hj]
    · simp [e, Ne.symm e]
  · simp [clC, hj]
    intro e
    omega
theorem b_int : (Try.prog.info? 3).map (fun i => (i.zero, i.size, i.bytes)) = some (some (.int .i64 0), 1, 8) := by kernel_rfl
theorem slice_in (ao : Option Addr) (n cap x : Nat) (hx : x ≤ cap) (w : World) : (Instr.slice 55 (.slice ao n cap) none (some (.int .i64 (x : Nat))) none).run Try.prog w = .ok (.slice ao x cap) w := by
  have hxc : (x : Int) ≤ (cap : Int) := by omega
  by_cases h : cap = 0
  · subst h
    obtain rfl : x = 0 := by omega
    simp [go_sem, Try.underlying55]
  · simp [go_sem, Try.underlying55, hxc, h]
/-- One more is open. -/
theorem PI.push {w V w2 : World} {n : Nat} {s : Ps} {ov : Value} (h : PI w n s ov V) (i : Nat) {g2 c2 : Nat} (hown : w2.ownsRow (w.heap.size + 1) 3 1 (.slice (some ⟨g2, 0, none⟩) (s.op.length + 1) c2) (s.op.length + 1) (opC s.op ++ [.int .i64 (i : Nat)])) (hg : V.grownBy w2 ov.ownBlock) :
    PI w n ⟨i :: s.op, 0, s.cl⟩ (.slice (some ⟨g2, 0, none⟩) (s.op.length + 1) c2) w2 := by
  have hb : w2.heap[w.heap.size]? = V.heap[w.heap.size]? := hg.block _ h.cl.lt fun e => by
    have := (own_block h.row e.symm).1
    omega
  refine ⟨h.bel.grown hg h.bel.size fun q hq => by have := (own_block h.row hq).1; omega, ?_, ?_⟩
  · unfold Cl; rw [hb]; exact h.cl
  · show w2.ownsRow _ _ _ _ (s.op.length + 1) (opC (i :: s.op))
    rw [opC_cons]
    exact hown
/-- The inmost is closed. -/
theorem PI.close {w W : World} {n : Nat} {s : Ps} {o : Nat} {r : List Nat} {g cap : Nat} (i : Nat) (ho : s.op = o :: r) (h : PI w n s (.slice (some ⟨g, 0, none⟩) s.op.length cap) W) :
    PI w n ⟨r, 2, fun j => if j = o then (i : Int) else s.cl j⟩ (.slice (some ⟨g, 0, none⟩) r.length cap) (W.setCell ⟨w.heap.size, o, none⟩ (.int .i64 (i : Nat))) := by
  have hg := own_block h.row (g := g) rfl
  refine ⟨h.bel.setCell (p := ⟨w.heap.size, o, none⟩) (Nat.le_refl _) _, ?_, ?_⟩
  · have := h.cl.set o (.int .i64 (i : Nat))
    rw [clC_set] at this
    exact this
  · have hr := h.row
    rw [ho, opC_cons] at hr
    have := ownsRow_pop (opC_len r) hr
    exact own_at this fun k hk => by
      cases hk
      exact Below.heap_setCell _ _ _ _ (show g ≠ w.heap.size by omega)
/-- A token that is looked at, and what Check says of it. -/
structure At21 (bb off n i : Nat) (x : TkR) (v : Int) (W : World) : Prop where
  hi : i < n
  cs : W.cell? ⟨bb, off + i * 11, none⟩ = some (.int .i64 x.k) ∧ W.cell? ⟨bb, off + i * 11 + 1, none⟩ = some (.int .u8 (x.b : Nat)) ∧ W.cell? ⟨bb, off + i * 11 + 2, none⟩ = some (.int .u64 (x.a0 : Nat)) ∧ W.cell? ⟨bb, off + i * 11 + 3, none⟩ = some (.int .u64 (x.a1 : Nat)) ∧ W.cell? ⟨bb, off + i * 11 + 4, none⟩ = some (.int .u64 (x.a2 : Nat)) ∧ W.cell? ⟨bb, off + i * 11 + 5, none⟩ = some (.int .u64 (x.a3 : Nat)) ∧ W.cell? ⟨bb, off + i * 11 + 6, none⟩ = some (.bool x.nt) ∧ W.cell? ⟨bb, off + i * 11 + 7, none⟩ = some (.int .i64 x.l) ∧ W.cell? ⟨bb, off + i * 11 + 8, none⟩ = some (.int .i64 x.m) ∧ W.cell? ⟨bb, off + i * 11 + 9, none⟩ = some (.bool x.lz) ∧ W.cell? ⟨bb, off + i * 11 + 10, none⟩ = some (.int .i64 x.t)
  ck : Calls Try.prog 42 #[.agg #[.int .i64 x.k, .int .u8 (x.b : Nat), .int .u64 (x.a0 : Nat), .int .u64 (x.a1 : Nat), .int .u64 (x.a2 : Nat), .int .u64 (x.a3 : Nat), .bool x.nt, .int .i64 x.l, .int .i64 x.m, .bool x.lz, .int .i64 x.t]] W fun e w' => e = .returned (.int .i64 v) ∧ Below W.heap.size W w'
  lt : bb < W.heap.size
section
variable {K : Nat → Act → World → Prop} {Q : Exit → Act → World → Prop} {R : Ending → World → Prop} (ao : Option Addr) (bb off n cap : Nat) (u : Nat → Value) {w W : World} {s : Ps} {ov : Value} {i : Nat} {x : TkR}
set_option maxRecDepth 10000 in
set_option maxHeartbeats 1000000 in
theorem pr_n (hi : i = n) (hK : Hid (∀ tm, Fr21 ao n cap w.heap.size ov s.ah i tm → K 0 ⟨tm, []⟩ W)) : Code.wp Try.prog (labelIn Try.f21 1) (jumps K Q) ⟨fr21 ao n cap w.heap.size ov s.ah i u, []⟩ W := by
  subst hi
  unfold fr21
  conv => arg 2; whnf
  go_wp2_with fail
  go_step3
  exact hK.out _ (Fr21.of _ rfl)
set_option maxRecDepth 10000 in
set_option maxHeartbeats 1000000 in
theorem pr_6 (hA : At21 bb off n i x 0 W) (hI : PI w n s ov W) (hn : n ≤ 3000) (k4 : (x.k == 4) = false) (k6 : (x.k == 6) = true) (hK : Hid (∀ tm W', Fr21 (some ⟨bb, off, none⟩) n cap w.heap.size ov 0 (i + 1) tm → PI w n ⟨s.op, 0, s.cl⟩ ov W' → K 1 ⟨tm, []⟩ W')) : Code.wp Try.prog (labelIn Try.f21 1) (jumps K Q) ⟨fr21 (some ⟨bb, off, none⟩) n cap w.heap.size ov s.ah i u, []⟩ W := by
  obtain ⟨hi, ⟨c0, c1, c2, c3, c4, c5, c6, c7, c8, c9, c10⟩, HC, hlt⟩ := hA
  have h1 : ((i : Int) == (n : Int)) = false := by simp; omega
  have h2 : (i : Int) < (n : Int) := by omega
  have HN : Hid (∀ W1, Below W.heap.size W W1 → PI w n s ov W1 ∧ W1.cell? ⟨bb, off + i * 11, none⟩ = some (.int .i64 x.k) ∧ W1.cell? ⟨bb, off + i * 11 + 10, none⟩ = some (.int .i64 x.t)) := fun W1 hb => ⟨hI.below hb, by rw [hb.cell (p := ⟨bb, off + i * 11, none⟩) hlt]; exact c0, by rw [hb.cell (p := ⟨bb, off + i * 11 + 10, none⟩) hlt]; exact c10⟩
  have wi : IntKind.i64.wrap ((i : Int) + 1) = ((i + 1 : Nat) : Int) := by rw [IntKind.wrap_i64]; omega
  clear hI hlt hi
  unfold fr21
  conv => arg 2; whnf
  go_wp2_with fail
  refine HC.mono ?_
  rintro e W1 ⟨rfl, hb⟩
  obtain ⟨hP, d0, d10⟩ := HN.out W1 hb
  have HP : Hid (PI w n s ov W1) := hP
  clear HC HN hb hP c0 c1 c2 c3 c4 c5 c6 c7 c8 c9 c10
  go_wp2_with fail
  go_step3
  exact hK.out _ _ (Fr21.of _ (by rfl)) (HP.out.ah _)
set_option maxRecDepth 10000 in
set_option maxHeartbeats 1000000 in
theorem pr_7 (hA : At21 bb off n i x 0 W) (hI : PI w n s ov W) (hn : n ≤ 3000) (k4 : (x.k == 4) = false) (k6 : (x.k == 6) = false) (k5 : (x.k == 5) = false) (k7 : (x.k == 7) = true) (ha : (s.ah == 2) = true) (hK : Hid (∀ tm W', Fr21 (some ⟨bb, off, none⟩) n cap w.heap.size ov 3 (i + 1) tm → PI w n ⟨s.op, 3, s.cl⟩ ov W' → K 1 ⟨tm, []⟩ W')) : Code.wp Try.prog (labelIn Try.f21 1) (jumps K Q) ⟨fr21 (some ⟨bb, off, none⟩) n cap w.heap.size ov s.ah i u, []⟩ W := by
  obtain ⟨hi, ⟨c0, c1, c2, c3, c4, c5, c6, c7, c8, c9, c10⟩, HC, hlt⟩ := hA
  have h1 : ((i : Int) == (n : Int)) = false := by simp; omega
  have h2 : (i : Int) < (n : Int) := by omega
  have HN : Hid (∀ W1, Below W.heap.size W W1 → PI w n s ov W1 ∧ W1.cell? ⟨bb, off + i * 11, none⟩ = some (.int .i64 x.k) ∧ W1.cell? ⟨bb, off + i * 11 + 10, none⟩ = some (.int .i64 x.t)) := fun W1 hb => ⟨hI.below hb, by rw [hb.cell (p := ⟨bb, off + i * 11, none⟩) hlt]; exact c0, by rw [hb.cell (p := ⟨bb, off + i * 11 + 10, none⟩) hlt]; exact c10⟩
  have wi : IntKind.i64.wrap ((i : Int) + 1) = ((i + 1 : Nat) : Int) := by rw [IntKind.wrap_i64]; omega
  clear hI hlt hi
  unfold fr21
  conv => arg 2; whnf
  go_wp2_with fail
  refine HC.mono ?_
  rintro e W1 ⟨rfl, hb⟩
  obtain ⟨hP, d0, d10⟩ := HN.out W1 hb
  have HP : Hid (PI w n s ov W1) := hP
  clear HC HN hb hP c0 c1 c2 c3 c4 c5 c6 c7 c8 c9 c10
  have ha' : (s.ah != 2) = false := by simpa using ha
  go_wp2_with fail
  go_step3
  exact hK.out _ _ (Fr21.of _ (by rfl)) (HP.out.ah _)
set_option maxRecDepth 10000 in
set_option maxHeartbeats 1000000 in
theorem pr_8 (hA : At21 bb off n i x 0 W) (hI : PI w n s ov W) (hn : n ≤ 3000) (k4 : (x.k == 4) = false) (k6 : (x.k == 6) = false) (k5 : (x.k == 5) = false) (k7 : (x.k == 7) = false) (k8 : (x.k == 8) = true) (hK : Hid (∀ tm W', Fr21 (some ⟨bb, off, none⟩) n cap w.heap.size ov 1 (i + 1) tm → PI w n ⟨s.op, 1, s.cl⟩ ov W' → K 1 ⟨tm, []⟩ W')) : Code.wp Try.prog (labelIn Try.f21 1) (jumps K Q) ⟨fr21 (some ⟨bb, off, none⟩) n cap w.heap.size ov s.ah i u, []⟩ W := by
  obtain ⟨hi, ⟨c0, c1, c2, c3, c4, c5, c6, c7, c8, c9, c10⟩, HC, hlt⟩ := hA
  have h1 : ((i : Int) == (n : Int)) = false := by simp; omega
  have h2 : (i : Int) < (n : Int) := by omega
  have HN : Hid (∀ W1, Below W.heap.size W W1 → PI w n s ov W1 ∧ W1.cell? ⟨bb, off + i * 11, none⟩ = some (.int .i64 x.k) ∧ W1.cell? ⟨bb, off + i * 11 + 10, none⟩ = some (.int .i64 x.t)) := fun W1 hb => ⟨hI.below hb, by rw [hb.cell (p := ⟨bb, off + i * 11, none⟩) hlt]; exact c0, by rw [hb.cell (p := ⟨bb, off + i * 11 + 10, none⟩) hlt]; exact c10⟩
  have wi : IntKind.i64.wrap ((i : Int) + 1) = ((i + 1 : Nat) : Int) := by rw [IntKind.wrap_i64]; omega
  clear hI hlt hi
  unfold fr21
  conv => arg 2; whnf
  go_wp2_with fail
  refine HC.mono ?_
  rintro e W1 ⟨rfl, hb⟩
  obtain ⟨hP, d0, d10⟩ := HN.out W1 hb
  have HP : Hid (PI w n s ov W1) := hP
  clear HC HN hb hP c0 c1 c2 c3 c4 c5 c6 c7 c8 c9 c10
  go_wp2_with fail
  go_step3
  exact hK.out _ _ (Fr21.of _ (by rfl)) (HP.out.ah _)
set_option maxRecDepth 10000 in
set_option maxHeartbeats 1000000 in
theorem pr_9 (hA : At21 bb off n i x 0 W) (hI : PI w n s ov W) (hn : n ≤ 3000) (k4 : (x.k == 4) = false) (k6 : (x.k == 6) = false) (k5 : (x.k == 5) = false) (k7 : (x.k == 7) = false) (k8 : (x.k == 8) = false) (k9 : (x.k == 9) = true) (hK : Hid (∀ tm W', Fr21 (some ⟨bb, off, none⟩) n cap w.heap.size ov 1 (i + 1) tm → PI w n ⟨s.op, 1, s.cl⟩ ov W' → K 1 ⟨tm, []⟩ W')) : Code.wp Try.prog (labelIn Try.f21 1) (jumps K Q) ⟨fr21 (some ⟨bb, off, none⟩) n cap w.heap.size ov s.ah i u, []⟩ W := by
  obtain ⟨hi, ⟨c0, c1, c2, c3, c4, c5, c6, c7, c8, c9, c10⟩, HC, hlt⟩ := hA
  have h1 : ((i : Int) == (n : Int)) = false := by simp; omega
  have h2 : (i : Int) < (n : Int) := by omega
  have HN : Hid (∀ W1, Below W.heap.size W W1 → PI w n s ov W1 ∧ W1.cell? ⟨bb, off + i * 11, none⟩ = some (.int .i64 x.k) ∧ W1.cell? ⟨bb, off + i * 11 + 10, none⟩ = some (.int .i64 x.t)) := fun W1 hb => ⟨hI.below hb, by rw [hb.cell (p := ⟨bb, off + i * 11, none⟩) hlt]; exact c0, by rw [hb.cell (p := ⟨bb, off + i * 11 + 10, none⟩) hlt]; exact c10⟩
  have wi : IntKind.i64.wrap ((i : Int) + 1) = ((i + 1 : Nat) : Int) := by rw [IntKind.wrap_i64]; omega
  clear hI hlt hi
  unfold fr21
  conv => arg 2; whnf
  go_wp2_with fail
  refine HC.mono ?_
  rintro e W1 ⟨rfl, hb⟩
  obtain ⟨hP, d0, d10⟩ := HN.out W1 hb
  have HP : Hid (PI w n s ov W1) := hP
  clear HC HN hb hP c0 c1 c2 c3 c4 c5 c6 c7 c8 c9 c10
  go_wp2_with fail
  go_step3
  exact hK.out _ _ (Fr21.of _ (by rfl)) (HP.out.ah _)
set_option maxRecDepth 10000 in
set_option maxHeartbeats 1000000 in
theorem pr_d (hA : At21 bb off n i x 0 W) (hI : PI w n s ov W) (hn : n ≤ 3000) (k4 : (x.k == 4) = false) (k6 : (x.k == 6) = false) (k5 : (x.k == 5) = false) (k7 : (x.k == 7) = false) (k8 : (x.k == 8) = false) (k9 : (x.k == 9) = false) (hK : Hid (∀ tm W', Fr21 (some ⟨bb, off, none⟩) n cap w.heap.size ov 2 (i + 1) tm → PI w n ⟨s.op, 2, s.cl⟩ ov W' → K 1 ⟨tm, []⟩ W')) : Code.wp Try.prog (labelIn Try.f21 1) (jumps K Q) ⟨fr21 (some ⟨bb, off, none⟩) n cap w.heap.size ov s.ah i u, []⟩ W := by
  obtain ⟨hi, ⟨c0, c1, c2, c3, c4, c5, c6, c7, c8, c9, c10⟩, HC, hlt⟩ := hA
  have h1 : ((i : Int) == (n : Int)) = false := by simp; omega
  have h2 : (i : Int) < (n : Int) := by omega
  have HN : Hid (∀ W1, Below W.heap.size W W1 → PI w n s ov W1 ∧ W1.cell? ⟨bb, off + i * 11, none⟩ = some (.int .i64 x.k) ∧ W1.cell? ⟨bb, off + i * 11 + 10, none⟩ = some (.int .i64 x.t)) := fun W1 hb => ⟨hI.below hb, by rw [hb.cell (p := ⟨bb, off + i * 11, none⟩) hlt]; exact c0, by rw [hb.cell (p := ⟨bb, off + i * 11 + 10, none⟩) hlt]; exact c10⟩
  have wi : IntKind.i64.wrap ((i : Int) + 1) = ((i + 1 : Nat) : Int) := by rw [IntKind.wrap_i64]; omega
  clear hI hlt hi
  unfold fr21
  conv => arg 2; whnf
  go_wp2_with fail
  refine HC.mono ?_
  rintro e W1 ⟨rfl, hb⟩
  obtain ⟨hP, d0, d10⟩ := HN.out W1 hb
  have HP : Hid (PI w n s ov W1) := hP
  clear HC HN hb hP c0 c1 c2 c3 c4 c5 c6 c7 c8 c9 c10
  go_wp2_with fail
  go_step3
  exact hK.out _ _ (Fr21.of _ (by rfl)) (HP.out.ah _)
set_option maxRecDepth 10000 in
set_option maxHeartbeats 1000000 in
theorem pr_bad (hA : At21 bb off n i x 45 W) (hI : PI w n s ov W) (hR : Hid (∀ W', Below w.heap.size w W' → R (.returned (.tuple #[.slice none 0 0, .int .i64 0, .int .i64 45])) W')) : Code.wp Try.prog (labelIn Try.f21 1) (jumps K (bodyPost Try.prog Try.f21 R)) ⟨fr21 (some ⟨bb, off, none⟩) n cap w.heap.size ov s.ah i u, []⟩ W := by
  obtain ⟨hi, ⟨c0, c1, c2, c3, c4, c5, c6, c7, c8, c9, c10⟩, HC, hlt⟩ := hA
  have h1 : ((i : Int) == (n : Int)) = false := by simp; omega
  have h2 : (i : Int) < (n : Int) := by omega
  have HN : Hid (∀ W1, Below W.heap.size W W1 → PI w n s ov W1 ∧ W1.cell? ⟨bb, off + i * 11, none⟩ = some (.int .i64 x.k) ∧ W1.cell? ⟨bb, off + i * 11 + 10, none⟩ = some (.int .i64 x.t)) := fun W1 hb => ⟨hI.below hb, by rw [hb.cell (p := ⟨bb, off + i * 11, none⟩) hlt]; exact c0, by rw [hb.cell (p := ⟨bb, off + i * 11 + 10, none⟩) hlt]; exact c10⟩
  clear hI hlt hi
  unfold fr21
  conv => arg 2; whnf
  obtain ⟨Q0, hQ0⟩ : ∃ Q0, Q0 = bodyPost Try.prog Try.f21 R := ⟨_, rfl⟩
  rw [← hQ0]
  have HQ0 : Hid (Q0 = bodyPost Try.prog Try.f21 R) := hQ0
  clear hQ0
  go_wp2_with fail
  refine HC.mono ?_
  rintro e W1 ⟨rfl, hb⟩
  obtain ⟨hP, d0, d10⟩ := HN.out W1 hb
  have HP : Hid (PI w n s ov W1) := hP
  clear HC HN hb hP c0 c1 c2 c3 c4 c5 c6 c7 c8 c9 c10
  go_wp2_with fail
  rw [jumps_ret, HQ0.out]
  exact bodyPost_ret (v := .tuple #[.slice none 0 0, .int .i64 0, .int .i64 45]) (by simp [results, Try.results21, go_sem]) rfl (hR.out _ HP.out.bel)
set_option maxRecDepth 10000 in
set_option maxHeartbeats 1000000 in
theorem pr_7b (hA : At21 bb off n i x 0 W) (hI : PI w n s ov W)  (k4 : (x.k == 4) = false) (k6 : (x.k == 6) = false) (k5 : (x.k == 5) = false) (k7 : (x.k == 7) = true) (ha : (s.ah == 2) = false) (hR : Hid (∀ W', Below w.heap.size w W' → R (.returned (.tuple #[.slice none 0 0, .int .i64 x.t, .int .i64 60])) W')) : Code.wp Try.prog (labelIn Try.f21 1) (jumps K (bodyPost Try.prog Try.f21 R)) ⟨fr21 (some ⟨bb, off, none⟩) n cap w.heap.size ov s.ah i u, []⟩ W := by
  obtain ⟨hi, ⟨c0, c1, c2, c3, c4, c5, c6, c7, c8, c9, c10⟩, HC, hlt⟩ := hA
  have h1 : ((i : Int) == (n : Int)) = false := by simp; omega
  have h2 : (i : Int) < (n : Int) := by omega
  have HN : Hid (∀ W1, Below W.heap.size W W1 → PI w n s ov W1 ∧ W1.cell? ⟨bb, off + i * 11, none⟩ = some (.int .i64 x.k) ∧ W1.cell? ⟨bb, off + i * 11 + 10, none⟩ = some (.int .i64 x.t)) := fun W1 hb => ⟨hI.below hb, by rw [hb.cell (p := ⟨bb, off + i * 11, none⟩) hlt]; exact c0, by rw [hb.cell (p := ⟨bb, off + i * 11 + 10, none⟩) hlt]; exact c10⟩
  clear hI hlt hi
  unfold fr21
  conv => arg 2; whnf
  obtain ⟨Q0, hQ0⟩ : ∃ Q0, Q0 = bodyPost Try.prog Try.f21 R := ⟨_, rfl⟩
  rw [← hQ0]
  have HQ0 : Hid (Q0 = bodyPost Try.prog Try.f21 R) := hQ0
  clear hQ0
  go_wp2_with fail
  refine HC.mono ?_
  rintro e W1 ⟨rfl, hb⟩
  obtain ⟨hP, d0, d10⟩ := HN.out W1 hb
  have HP : Hid (PI w n s ov W1) := hP
  clear HC HN hb hP c0 c1 c2 c3 c4 c5 c6 c7 c8 c9 c10
  have ha' : (s.ah != 2) = true := by simpa using ha
  have HD : Hid (∀ q, Below w.heap.size w (W1.drewN q)) := fun q => below_drewN HP.out.bel q
  clear HP
  go_wp2_with fail
  refine wp_then_only ?_
  go_quiet (fail)
  go_wp2_with fail
  rw [jumps_ret, HQ0.out]
  exact bodyPost_ret (v := .tuple #[.slice none 0 0, .int .i64 x.t, .int .i64 60]) (by simp [results, Try.results21, go_sem]) rfl (hR.out _ (HD.out _))
set_option maxRecDepth 10000 in
set_option maxHeartbeats 1000000 in
theorem pr_5e (hA : At21 bb off n i x 0 W) (hI : PI w n s ov W)  (k4 : (x.k == 4) = false) (k6 : (x.k == 6) = false) (k5 : (x.k == 5) = true) (ho : s.op = []) (hR : Hid (∀ W', Below w.heap.size w W' → R (.returned (.tuple #[.slice none 0 0, .int .i64 x.t, .int .i64 62])) W')) : Code.wp Try.prog (labelIn Try.f21 1) (jumps K (bodyPost Try.prog Try.f21 R)) ⟨fr21 (some ⟨bb, off, none⟩) n cap w.heap.size ov s.ah i u, []⟩ W := by
  obtain ⟨hi, ⟨c0, c1, c2, c3, c4, c5, c6, c7, c8, c9, c10⟩, HC, hlt⟩ := hA
  have h1 : ((i : Int) == (n : Int)) = false := by simp; omega
  have h2 : (i : Int) < (n : Int) := by omega
  have HN : Hid (∀ W1, Below W.heap.size W W1 → PI w n s ov W1 ∧ W1.cell? ⟨bb, off + i * 11, none⟩ = some (.int .i64 x.k) ∧ W1.cell? ⟨bb, off + i * 11 + 10, none⟩ = some (.int .i64 x.t)) := fun W1 hb => ⟨hI.below hb, by rw [hb.cell (p := ⟨bb, off + i * 11, none⟩) hlt]; exact c0, by rw [hb.cell (p := ⟨bb, off + i * 11 + 10, none⟩) hlt]; exact c10⟩
  clear hI hlt hi
  unfold fr21
  conv => arg 2; whnf
  obtain ⟨Q0, hQ0⟩ : ∃ Q0, Q0 = bodyPost Try.prog Try.f21 R := ⟨_, rfl⟩
  rw [← hQ0]
  have HQ0 : Hid (Q0 = bodyPost Try.prog Try.f21 R) := hQ0
  clear hQ0
  go_wp2_with fail
  refine HC.mono ?_
  rintro e W1 ⟨rfl, hb⟩
  obtain ⟨hP, d0, d10⟩ := HN.out W1 hb
  have HP : Hid (PI w n s ov W1) := hP
  clear HC HN hb hP c0 c1 c2 c3 c4 c5 c6 c7 c8 c9 c10
  have HD : Hid (∀ q, Below w.heap.size w (W1.drewN q)) := fun q => below_drewN HP.out.bel q
  obtain ⟨oo, oc, rfl⟩ : ∃ oo oc, ov = .slice oo 0 oc := by
    have hr := HP.out.row
    rw [ho] at hr
    rcases hr.2 with ⟨hv, _⟩ | ⟨g, cp, cur, hv, _⟩
    · exact ⟨none, 0, hv⟩
    · exact ⟨_, cp, hv⟩
  clear HP
  go_wp2_with fail
  refine wp_then_only ?_
  go_quiet (fail)
  go_wp2_with fail
  rw [jumps_ret, HQ0.out]
  exact bodyPost_ret (v := .tuple #[.slice none 0 0, .int .i64 x.t, .int .i64 62]) (by simp [results, Try.results21, go_sem]) rfl (hR.out _ (HD.out _))
set_option maxRecDepth 10000 in
set_option maxHeartbeats 1000000 in
theorem pr_4 (hA : At21 bb off n i x 0 W) (hI : PI w n s ov W) (hn : n ≤ 3000) (hop : s.op.length ≤ i) (k4 : (x.k == 4) = true) (hK : Hid (∀ tm W' ov', Fr21 (some ⟨bb, off, none⟩) n cap w.heap.size ov' 0 (i + 1) tm → PI w n ⟨i :: s.op, 0, s.cl⟩ ov' W' → K 1 ⟨tm, []⟩ W')) : Code.wp Try.prog (labelIn Try.f21 1) (jumps K Q) ⟨fr21 (some ⟨bb, off, none⟩) n cap w.heap.size ov s.ah i u, []⟩ W := by
  obtain ⟨hi, ⟨c0, c1, c2, c3, c4, c5, c6, c7, c8, c9, c10⟩, HC, hlt⟩ := hA
  have h1 : ((i : Int) == (n : Int)) = false := by simp; omega
  have h2 : (i : Int) < (n : Int) := by omega
  have HN : Hid (∀ W1, Below W.heap.size W W1 → PI w n s ov W1 ∧ W1.cell? ⟨bb, off + i * 11, none⟩ = some (.int .i64 x.k) ∧ W1.cell? ⟨bb, off + i * 11 + 10, none⟩ = some (.int .i64 x.t)) := fun W1 hb => ⟨hI.below hb, by rw [hb.cell (p := ⟨bb, off + i * 11, none⟩) hlt]; exact c0, by rw [hb.cell (p := ⟨bb, off + i * 11 + 10, none⟩) hlt]; exact c10⟩
  have wi : IntKind.i64.wrap ((i : Int) + 1) = ((i + 1 : Nat) : Int) := by rw [IntKind.wrap_i64]; omega
  have hin : i ≤ 3000 := by omega
  clear hI hlt hi
  unfold fr21
  conv => arg 2; whnf
  go_wp2_with fail
  refine HC.mono ?_
  rintro e W1 ⟨rfl, hb⟩
  obtain ⟨hP, d0, d10⟩ := HN.out W1 hb
  have HP : Hid (PI w n s ov W1) := hP
  clear HC HN hb hP c0 c1 c2 c3 c4 c5 c6 c7 c8 c9 c10
  obtain ⟨i0, hi, hz0, hz1, hz2⟩ := info_parts b_int
  obtain ⟨oo, oc, rfl⟩ : ∃ oo oc, ov = .slice oo s.op.length oc := by
    rcases HP.out.row.2 with ⟨hv, h0⟩ | ⟨g, cp, cur, hv, _⟩
    · exact ⟨none, 0, by rw [hv, h0]⟩
    · exact ⟨_, cp, hv⟩
  have hPA := HP.out.below (bel1 W1 (.cells #[.int .i64 (i : Nat)] 3))
  have hrow := hPA.row
  have hnc := new_cells W1 3 [.int .i64 (i : Nat)]
  have hsb : w.heap.size + 1 ≤ (W1.alloc (.cells #[.int .i64 (i : Nat)] 3)).heap.size := by have := hPA.cl.lt; omega
  have HX : Hid (∀ g2 c2 w2, w2.ownsRow (w.heap.size + 1) 3 1 (.slice (some ⟨g2, 0, none⟩) (s.op.length + 1) c2) (s.op.length + 1) (opC s.op ++ [.int .i64 (i : Nat)]) → (W1.alloc (.cells #[.int .i64 (i : Nat)] 3)).grownBy w2 (Value.slice oo s.op.length oc).ownBlock → PI w n ⟨i :: s.op, 0, s.cl⟩ (.slice (some ⟨g2, 0, none⟩) (s.op.length + 1) c2) w2) := fun g2 c2 w2 ho hg => hPA.push i ho hg
  clear HP hPA
  generalize s.op.length = ol at *
  go_wp2_with (at_builtin; refine wpList_append_lies _ rfl _ _ 55 rfl (w.heap.size + 1) 3 i0 _ 1 8 Try.underlying55 hi hz0 hz1 hz2 rfl (by decide) _ _ _ rfl hrow ⟨W1.heap.size, 0, none⟩ 1 1 [.int .i64 (i : Nat)] rfl rfl hnc (by simp [Value.oneCell']) (by decide) (by unfold maxLen; omega) (by omega) hsb _ rfl ?_; intro g9 c9 w4 hown hgr _ _; have HY : Hid _ := HX.out g9 c9 w4 hown hgr; clear hown hgr)
  go_step3
  exact hK.out _ _ _ (Fr21.of _ (by rfl)) HY.out
set_option maxRecDepth 10000 in
set_option maxHeartbeats 1000000 in
theorem pr_5 (hA : At21 bb off n i x 0 W) (hI : PI w n s ov W) (hn : n ≤ 3000) {oq : Nat} {r : List Nat} (ho : s.op = oq :: r) (hoi : oq < n) (hop : s.op.length ≤ i) (k4 : (x.k == 4) = false) (k6 : (x.k == 6) = false) (k5 : (x.k == 5) = true) (hK : Hid (∀ tm W' ov', Fr21 (some ⟨bb, off, none⟩) n cap w.heap.size ov' 2 (i + 1) tm → PI w n ⟨r, 2, fun j => if j = oq then (i : Int) else s.cl j⟩ ov' W' → K 1 ⟨tm, []⟩ W')) : Code.wp Try.prog (labelIn Try.f21 1) (jumps K Q) ⟨fr21 (some ⟨bb, off, none⟩) n cap w.heap.size ov s.ah i u, []⟩ W := by
  obtain ⟨hi, ⟨c0, c1, c2, c3, c4, c5, c6, c7, c8, c9, c10⟩, HC, hlt⟩ := hA
  have h1 : ((i : Int) == (n : Int)) = false := by simp; omega
  have h2 : (i : Int) < (n : Int) := by omega
  have HN : Hid (∀ W1, Below W.heap.size W W1 → PI w n s ov W1 ∧ W1.cell? ⟨bb, off + i * 11, none⟩ = some (.int .i64 x.k) ∧ W1.cell? ⟨bb, off + i * 11 + 10, none⟩ = some (.int .i64 x.t)) := fun W1 hb => ⟨hI.below hb, by rw [hb.cell (p := ⟨bb, off + i * 11, none⟩) hlt]; exact c0, by rw [hb.cell (p := ⟨bb, off + i * 11 + 10, none⟩) hlt]; exact c10⟩
  have wi : IntKind.i64.wrap ((i : Int) + 1) = ((i + 1 : Nat) : Int) := by rw [IntKind.wrap_i64]; omega
  have hin : i ≤ 3000 := by omega
  clear hI hlt hi
  unfold fr21
  conv => arg 2; whnf
  go_wp2_with fail
  refine HC.mono ?_
  rintro e W1 ⟨rfl, hb⟩
  obtain ⟨hP, d0, d10⟩ := HN.out W1 hb
  have HP : Hid (PI w n s ov W1) := hP
  clear HC HN hb hP c0 c1 c2 c3 c4 c5 c6 c7 c8 c9 c10
  obtain ⟨g, oc, rfl⟩ : ∃ g oc, ov = .slice (some ⟨g, 0, none⟩) s.op.length oc := by
    rcases HP.out.row.2 with ⟨hv, h0⟩ | ⟨g, cp, cur, hv, _⟩
    · rw [ho] at h0; cases h0
    · exact ⟨g, cp, hv⟩
  have hcap : s.op.length ≤ oc := by
    rcases HP.out.row.2 with ⟨hv, _⟩ | ⟨g', cap', cur, hv, _, _, hn', _⟩
    · cases hv
    · cases hv; exact hn'
  have HX : Hid (PI w n ⟨r, 2, fun j => if j = oq then (i : Int) else s.cl j⟩ (.slice (some ⟨g, 0, none⟩) r.length oc) (W1.setCell ⟨w.heap.size, oq, none⟩ (.int .i64 (i : Nat)))) := HP.out.close i ho
  have hlo : s.op.length = r.length + 1 := by rw [ho]; simp
  have t1 : W1.cell? ⟨g, r.length, none⟩ = some (.int .i64 (oq : Nat)) := by
    rw [HP.out.row.cellAt _ (by omega), ho, opC_cons, List.getElem?_append_right (by rw [opC_len]; omega), opC_len]
    simp
  have e1 : W1.cell? ⟨w.heap.size, oq, none⟩ = some (.int .i64 (s.cl oq)) := HP.out.cl.cell oq (by simp [clC, hoi])
  have e2 := HP.out.cl.frozen oq
  have hoq : (oq : Int) < (n : Int) := by omega
  obtain ⟨L, hL⟩ : ∃ L, s.op.length = L := ⟨_, rfl⟩
  obtain ⟨q, hq⟩ : ∃ q, r.length = q := ⟨_, rfl⟩
  rw [hL] at hcap hlo
  rw [hL]
  rw [hq] at t1 HX hlo
  have wq : IntKind.i64.wrap ((L : Int) - 1) = (q : Nat) := by rw [IntKind.wrap_i64]; omega
  have hql : (q : Int) < (L : Int) := by omega
  have hL0 : ((L : Int) == 0) = false := by simp; omega
  have hsl := fun W => slice_in (some ⟨g, 0, none⟩) L oc q (by omega) W
  clear HP hL hq hlo hcap ho hop hoi
  go_wp2_with fail
  go_step3
  exact hK.out _ _ _ (Fr21.of _ (by rfl)) HX.out
set_option maxRecDepth 10000 in
set_option maxHeartbeats 1000000 in
theorem pr_0 (hI : PI w n s ov W) (ho : s.op = []) (hR : Hid (R (.returned (.tuple #[.slice (some ⟨w.heap.size, 0, none⟩) n n, .int .i64 0, .int .i64 0])) W)) : Code.wp Try.prog (labelIn Try.f21 0) (jumps K (bodyPost Try.prog Try.f21 R)) ⟨fr21 ao n cap w.heap.size ov s.ah i u, []⟩ W := by
  obtain ⟨oo, oc, rfl⟩ : ∃ oo oc, ov = .slice oo 0 oc := by
    have hr := hI.row
    rw [ho] at hr
    rcases hr.2 with ⟨hv, _⟩ | ⟨g, cp, cur, hv, _⟩
    · exact ⟨none, 0, hv⟩
    · exact ⟨_, cp, hv⟩
  clear hI ho
  unfold fr21
  conv => arg 2; whnf
  obtain ⟨Q0, hQ0⟩ : ∃ Q0, Q0 = bodyPost Try.prog Try.f21 R := ⟨_, rfl⟩
  rw [← hQ0]
  have HQ0 : Hid (Q0 = bodyPost Try.prog Try.f21 R) := hQ0
  clear hQ0
  go_wp2_with fail
  rw [jumps_ret, HQ0.out]
  exact bodyPost_ret (v := .tuple #[.slice (some ⟨w.heap.size, 0, none⟩) n n, .int .i64 0, .int .i64 0]) (by simp [results, Try.results21, go_sem]) rfl hR.out
set_option maxRecDepth 10000 in
set_option maxHeartbeats 1000000 in
theorem pr_0b (hn : n ≤ 3000) (hI : PI w n s ov W) {oq : Nat} {r : List Nat} (ho : s.op = oq :: r) (hol : s.op.length ≤ n) (hoi : oq < n) (tv : Int) (hc : W.cell? ⟨bb, off + oq * 11 + 10, none⟩ = some (.int .i64 tv)) (hR : Hid (∀ q, R (.returned (.tuple #[.slice none 0 0, .int .i64 tv, .int .i64 61])) (W.drewN q))) : Code.wp Try.prog (labelIn Try.f21 0) (jumps K (bodyPost Try.prog Try.f21 R)) ⟨fr21 (some ⟨bb, off, none⟩) n cap w.heap.size ov s.ah i u, []⟩ W := by
  obtain ⟨g, oc, rfl⟩ : ∃ g oc, ov = .slice (some ⟨g, 0, none⟩) s.op.length oc := by
    rcases hI.row.2 with ⟨hv, h0⟩ | ⟨g, cp, cur, hv, _⟩
    · rw [ho] at h0; cases h0
    · exact ⟨g, cp, hv⟩
  have hlo : s.op.length = r.length + 1 := by rw [ho]; simp
  have t1 : W.cell? ⟨g, r.length, none⟩ = some (.int .i64 (oq : Nat)) := by
    rw [hI.row.cellAt _ (by omega), ho, opC_cons, List.getElem?_append_right (by rw [opC_len]; omega), opC_len]
    simp
  have hoq : (oq : Int) < (n : Int) := by omega
  obtain ⟨L, hL⟩ : ∃ L, s.op.length = L := ⟨_, rfl⟩
  obtain ⟨q, hq⟩ : ∃ q, r.length = q := ⟨_, rfl⟩
  rw [hL] at hlo hol
  rw [hL]
  rw [hq] at t1 hlo
  have wq : IntKind.i64.wrap ((L : Int) - 1) = (q : Nat) := by rw [IntKind.wrap_i64]; omega
  have hql : (q : Int) < (L : Int) := by omega
  have hL0 : (0 : Int) < (L : Int) := by omega
  clear hI hL hq hlo ho hoi hol
  unfold fr21
  conv => arg 2; whnf
  obtain ⟨Q0, hQ0⟩ : ∃ Q0, Q0 = bodyPost Try.prog Try.f21 R := ⟨_, rfl⟩
  rw [← hQ0]
  have HQ0 : Hid (Q0 = bodyPost Try.prog Try.f21 R) := hQ0
  clear hQ0
  go_wp2_with fail
  refine wp_then_only ?_
  go_quiet (fail)
  go_wp2_with fail
  rw [jumps_ret, HQ0.out]
  exact bodyPost_ret (v := .tuple #[.slice none 0 0, .int .i64 tv, .int .i64 61]) (by simp [results, Try.results21, go_sem]) rfl (hR.out _)
end
end Go.Proofs.Ytlmmiicibjfcdaa
namespace Go.Proofs.Ytlmmiicibjfcdaa
open Go.RowKit
theorem runP_err {X : Nat → Tp} {i : Nat} {e : Int × Int} (h : runP X i = .error e) : ∀ n, i ≤ n → runP X n = .error e := by
  intro n hn
  induction hn with
  | refl => exact h
  | step _ ih => rw [runP, ih]
theorem prsE_err {X : Nat → Tp} {i n : Nat} {e : Int × Int} (h : runP X i = .error e) (hn : i ≤ n) : prsE X n = .error e := by
  unfold prsE
  rw [runP_err h n hn]
theorem step_err {X : Nat → Tp} {i : Nat} {s : Ps} {e : Int × Int} (h : runP X i = .ok s) (hs : stepP X s i = .error e) : runP X (i + 1) = .error e := by rw [runP, h]; exact hs
theorem step_ok {X : Nat → Tp} {i : Nat} {s q : Ps} (h : runP X i = .ok s) (hs : stepP X s i = .ok q) : runP X (i + 1) = .ok q := by rw [runP, h]; exact hs
/-- What pairs answers. -/
def RetPs (w : World) (n : Nat) (E : Except (Int × Int) (Nat → Int)) (e : Ending) (w' : World) : Prop :=
  (∀ c, E = .error c → e = .returned (.tuple #[.slice none 0 0, .int .i64 c.1, .int .i64 c.2]) ∧ Below w.heap.size w w') ∧
  (∀ c, E = .ok c → e = .returned (.tuple #[.slice (some ⟨w.heap.size, 0, none⟩) n n, .int .i64 0, .int .i64 0]) ∧ Cl w' w.heap.size 3 (clC c n) ∧ Below w.heap.size w w')
theorem ret_err {w : World} {n : Nat} {E : Except (Int × Int) (Nat → Int)} {a b : Int} (h : E = .error (a, b)) {W' : World} (hb : Below w.heap.size w W') : RetPs w n E (.returned (.tuple #[.slice none 0 0, .int .i64 a, .int .i64 b])) W' := by
  refine ⟨fun c hc => ?_, fun c hc => ?_⟩
  · rw [h] at hc; cases hc; exact ⟨rfl, hb⟩
  · rw [h] at hc; cases hc
/-- What holds at pairs' jumps. -/
def PrJ (w : World) (ao : Option Addr) (n cap : Nat) (X : Nat → Tp) (l m : Nat) (a : Act) (W : World) : Prop :=
  (l = 1 ∧ ∃ u i s ov, m = (n - i) + 1 ∧ a = ⟨fr21 ao n cap w.heap.size ov s.ah i u, []⟩ ∧ PI w n s ov W ∧ i ≤ n ∧ runP X i = .ok s)
  ∨ (l = 0 ∧ ∃ u s ov, m = 0 ∧ a = ⟨fr21 ao n cap w.heap.size ov s.ah n u, []⟩ ∧ PI w n s ov W ∧ runP X n = .ok s)
theorem pr21_0 : findLabel (scopeIn Try.f21) 0 = some (Code.skip.seq (labelIn Try.f21 0)) := by kernel_rfl
theorem pr21_1 : findLabel (scopeIn Try.f21) 1 = some (Code.skip.seq (labelIn Try.f21 1)) := by kernel_rfl
theorem pr_pass (ao : Option Addr) (n cap : Nat) (F : Nat → TkR) (fl : Fg) (w : World) (hr : RdK w ao n F) (hn : n ≤ 3000) {W : World} {u : Nat → Value} {i : Nat} {s : Ps} {ov : Value} (hI : PI w n s ov W) (hi : i ≤ n) (hs : runP (fun i => (F i).tp fl) i = .ok s) :
    Code.wp Try.prog (labelIn Try.f21 1) (jumps (fun l' a' w' => ∃ m', m' < (n - i) + 1 ∧ PrJ w ao n cap (fun i => (F i).tp fl) l' m' a' w') (bodyPost Try.prog Try.f21 (RetPs w n (prsE (fun i => (F i).tp fl) n)))) ⟨fr21 ao n cap w.heap.size ov s.ah i u, []⟩ W := by
  by_cases hin : i = n
  · refine pr_n ao n cap u hin (fun tm hfr => ?_)
    obtain ⟨u', rfl⟩ := hfr
    subst hin
    exact ⟨0, by omega, .inr ⟨rfl, u', s, ov, rfl, rfl, hI, hs⟩⟩
  have hlt : i < n := by omega
  obtain ⟨bb, off, rfl, hbb, hc⟩ := hr.at_ (by omega)
  have hok := hr.ok i hlt
  have hcs := hc i hlt
  have hop := runP_op hs
  have hbW := Nat.lt_of_lt_of_le hbb hI.bel.size
  obtain ⟨c0, c1, c2, c3, c4, c5, c6, c7, c8, c9, c10⟩ := hcs
  rw [← hI.bel.cell (p := ⟨bb, off + i * 11, none⟩) hbb] at c0
  rw [← hI.bel.cell (p := ⟨bb, off + i * 11 + 1, none⟩) hbb] at c1
  rw [← hI.bel.cell (p := ⟨bb, off + i * 11 + 2, none⟩) hbb] at c2
  rw [← hI.bel.cell (p := ⟨bb, off + i * 11 + 3, none⟩) hbb] at c3
  rw [← hI.bel.cell (p := ⟨bb, off + i * 11 + 4, none⟩) hbb] at c4
  rw [← hI.bel.cell (p := ⟨bb, off + i * 11 + 5, none⟩) hbb] at c5
  rw [← hI.bel.cell (p := ⟨bb, off + i * 11 + 6, none⟩) hbb] at c6
  rw [← hI.bel.cell (p := ⟨bb, off + i * 11 + 7, none⟩) hbb] at c7
  rw [← hI.bel.cell (p := ⟨bb, off + i * 11 + 8, none⟩) hbb] at c8
  rw [← hI.bel.cell (p := ⟨bb, off + i * 11 + 9, none⟩) hbb] at c9
  rw [← hI.bel.cell (p := ⟨bb, off + i * 11 + 10, none⟩) hbb] at c10
  have HC := check_all (F i).k (F i).b (F i).a0 (F i).a1 (F i).a2 (F i).a3 (F i).nt (F i).l (F i).m (F i).lz (F i).t W hok.h4
  have hA : At21 bb off n i (F i) (erV (chk (F i).k (F i).b (F i).P (F i).nt (F i).l (F i).m (F i).lz (F i).t)) W := ⟨hlt, ⟨c0, c1, c2, c3, c4, c5, c6, c7, c8, c9, c10⟩, HC, hbW⟩
  clear HC c0 c1 c2 c3 c4 c5 c6 c7 c8 c9 c10 hc
  have hX : ((F i).tp fl).ok = chk (F i).k (F i).b (F i).P (F i).nt (F i).l (F i).m (F i).lz (F i).t := rfl
  have hstep : stepP (fun i => (F i).tp fl) s i = stepP (fun i => (F i).tp fl) s i := rfl
  conv at hstep => rhs; unfold stepP
  have goon : ∀ q, stepP (fun i => (F i).tp fl) s i = .ok q → ∀ tm W' ov', Fr21 (some ⟨bb, off, none⟩) n cap w.heap.size ov' q.ah (i + 1) tm → PI w n q ov' W' → ∃ m', m' < (n - i) + 1 ∧ PrJ w (some ⟨bb, off, none⟩) n cap (fun i => (F i).tp fl) 1 m' ⟨tm, []⟩ W' := by
    rintro q hq tm W' ov' ⟨u', rfl⟩ hP
    exact ⟨(n - (i + 1)) + 1, by omega, .inl ⟨rfl, u', i + 1, q, ov', rfl, rfl, hP, by omega, step_ok hs hq⟩⟩
  have stop : ∀ a b, stepP (fun i => (F i).tp fl) s i = .error (a, b) → ∀ W', Below w.heap.size w W' → RetPs w n (prsE (fun i => (F i).tp fl) n) (.returned (.tuple #[.slice none 0 0, .int .i64 a, .int .i64 b])) W' := fun a b hq W' hb => ret_err (prsE_err (step_err hs hq) (by omega)) hb
  cases hck : chk (F i).k (F i).b (F i).P (F i).nt (F i).l (F i).m (F i).lz (F i).t with
  | false =>
    rw [hck] at hA hX
    rw [if_pos hX] at hstep
    exact pr_bad bb off n cap u hA hI (stop _ _ hstep)
  | true =>
    rw [hck] at hA hX
    rw [if_neg (by rw [hX]; decide)] at hstep
    have hk : ((fun i => (F i).tp fl) i).k = (F i).k := rfl
    rw [hk] at hstep
    cases k4 : ((F i).k == 4) with
    | true =>
      rw [if_pos (by simpa using k4)] at hstep
      exact pr_4 bb off n cap u hA hI hn hop.1 k4 (fun tm W' ov' hf hP => goon _ hstep tm W' ov' hf hP)
    | false =>
    rw [if_neg (by simpa using k4)] at hstep
    cases k6 : ((F i).k == 6) with
    | true =>
      rw [if_pos (by simpa using k6)] at hstep
      exact pr_6 bb off n cap u hA hI hn k4 k6 (fun tm W' hf hP => goon _ hstep tm W' ov hf hP)
    | false =>
    rw [if_neg (by simpa using k6)] at hstep
    cases k5 : ((F i).k == 5) with
    | true =>
      rw [if_pos (by simpa using k5)] at hstep
      cases ho : s.op with
      | nil =>
        rw [ho] at hstep
        exact pr_5e bb off n cap u hA hI k4 k6 k5 ho (stop _ _ hstep)
      | cons oq r =>
        rw [ho] at hstep
        have hoi := hop.2 oq (by rw [ho]; simp)
        exact pr_5 bb off n cap u hA hI hn ho (by omega) hop.1 k4 k6 k5 (fun tm W' ov' hf hP => goon _ hstep tm W' ov' hf hP)
    | false =>
    rw [if_neg (by simpa using k5)] at hstep
    cases k7 : ((F i).k == 7) with
    | true =>
      rw [if_pos (by simpa using k7)] at hstep
      cases ha : (s.ah == 2) with
      | true =>
        rw [if_pos (by simpa using ha)] at hstep
        exact pr_7 bb off n cap u hA hI hn k4 k6 k5 k7 ha (fun tm W' hf hP => goon _ hstep tm W' ov hf hP)
      | false =>
        rw [if_neg (by simpa using ha)] at hstep
        exact pr_7b bb off n cap u hA hI k4 k6 k5 k7 ha (stop _ _ hstep)
    | false =>
    rw [if_neg (by simpa using k7)] at hstep
    cases k8 : ((F i).k == 8) with
    | true =>
      rw [if_pos (.inl (by simpa using k8))] at hstep
      exact pr_8 bb off n cap u hA hI hn k4 k6 k5 k7 k8 (fun tm W' hf hP => goon _ hstep tm W' ov hf hP)
    | false =>
    cases k9 : ((F i).k == 9) with
    | true =>
      rw [if_pos (.inr (by simpa using k9))] at hstep
      exact pr_9 bb off n cap u hA hI hn k4 k6 k5 k7 k8 k9 (fun tm W' hf hP => goon _ hstep tm W' ov hf hP)
    | false =>
      rw [if_neg (by simp at k8 k9; simp [k8, k9])] at hstep
      exact pr_d bb off n cap u hA hI hn k4 k6 k5 k7 k8 k9 (fun tm W' hf hP => goon _ hstep tm W' ov hf hP)
theorem pr_labels (ao : Option Addr) (n cap : Nat) (F : Nat → TkR) (fl : Fg) (w : World) (hr : RdK w ao n F) (hn : n ≤ 3000) (l m : Nat) (a : Act) (W : World) (hJ : PrJ w ao n cap (fun i => (F i).tp fl) l m a W) :
    ∃ rest, findLabel (scopeIn Try.f21) l = some rest ∧ rest.wp Try.prog (jumps (fun l' a' w' => ∃ m', m' < m ∧ PrJ w ao n cap (fun i => (F i).tp fl) l' m' a' w') (bodyPost Try.prog Try.f21 (RetPs w n (prsE (fun i => (F i).tp fl) n)))) a W := by
  rcases hJ with ⟨rfl, u, i, s, ov, rfl, rfl, hI, hi, hs⟩ | ⟨rfl, u, s, ov, rfl, rfl, hI, hs⟩
  · exact ⟨_, pr21_1, wp_skip_seq (pr_pass ao n cap F fl w hr hn hI hi hs)⟩
  · refine ⟨_, pr21_0, wp_skip_seq ?_⟩
    have hop := runP_op hs
    have hE : prsE (fun i => (F i).tp fl) n = match s.op with
      | [] => .ok s.cl
      | o :: _ => .error (((fun i => (F i).tp fl) o).t, 61) := by
      unfold prsE
      rw [hs]
      cases h : s.op <;> simp [h]
    cases ho : s.op with
    | nil =>
      rw [ho] at hE
      refine pr_0 ao n cap u hI ho ⟨fun c hc => ?_, fun c hc => ?_⟩
      · rw [hE] at hc; cases hc
      · rw [hE] at hc; cases hc; exact ⟨rfl, hI.cl, hI.bel⟩
    | cons oq r =>
      rw [ho] at hE
      have hoi := hop.2 oq (by rw [ho]; simp)
      obtain ⟨bb, off, rfl, hbb, hc⟩ := hr.at_ (by omega)
      have c10 := (hc oq hoi).2.2.2.2.2.2.2.2.2.2
      rw [← hI.bel.cell (p := ⟨bb, off + oq * 11 + 10, none⟩) hbb] at c10
      exact pr_0b bb off n cap u hn hI ho hop.1 hoi _ c10 (fun q => ret_err hE (below_drewN hI.bel q))
theorem make_in (n : Nat) (hn : n ≤ 3000) (w : World) : (Instr.makeSlice 55 (.int .i64 (n : Nat)) (.int .i64 (n : Nat))).run Try.prog w = .ok (.slice (some ⟨w.heap.size, 0, none⟩) n n) (w.alloc (.cells (clC (fun _ => 0) n).toArray 3)) := by
  obtain ⟨i, hi, hz', hs, hbt⟩ := info_parts b_int
  have := run_make (P := Try.prog) w 55 3 i _ Try.underlying55 hi hz' .i64 .i64 (n : Int) (n : Int) (by omega) (by omega) (by rw [hbt]; omega) (by omega)
  rw [this, hs]
  have e : madeCells #[Value.int .i64 0] n = (clC (fun _ => 0) n).toArray := by
    apply Array.ext_getElem?
    intro q
    by_cases hq : q < n
    · have hs : q < (madeCells #[Value.int .i64 0] n).size := by rw [size_madeCells]; exact hq
      rw [Array.getElem?_eq_getElem hs]
      simp [madeCells, Array.getElem_map, Nat.mod_one, clC, hq]
    · rw [Array.getElem?_eq_none (by rw [size_madeCells]; omega), Array.getElem?_eq_none (by simp [clC]; omega)]
  simp [Value.cells, e]
set_option maxRecDepth 20000 in
set_option maxHeartbeats 4000000 in
theorem pairs_any (ao : Option Addr) (n cap : Nat) (F : Nat → TkR) (fl : Fg) (w : World) (hr : RdK w ao n F) (hn : n ≤ 3000) : Calls Try.prog 21 #[.slice ao n cap] w (RetPs w n (prsE (fun i => (F i).tp fl) n)) := by
  have HL : Hid (∀ l m a W, PrJ w ao n cap (fun i => (F i).tp fl) l m a W → _) := fun l m a W hJ => pr_labels ao n cap F fl w hr hn l m a W hJ
  have hmk := make_in n hn w
  have hI : PI w n ⟨[], 0, fun _ => 0⟩ (.slice none 0 0) (w.alloc (.cells (clC (fun _ => 0) n).toArray 3)) := ⟨bel1 w _, Cl.new w 3 _, World.ownsRow_nil _ _ _ _⟩
  have HP : Hid (∀ (tm : Array Value), Fr21 ao n cap w.heap.size (.slice none 0 0) 0 0 tm → Code.wp Try.prog (labelIn Try.f21 1) (jumps (fun l' a' w' => ∃ m', m' < (n - 0) + 1 ∧ PrJ w ao n cap (fun i => (F i).tp fl) l' m' a' w') (bodyPost Try.prog Try.f21 (RetPs w n (prsE (fun i => (F i).tp fl) n)))) ⟨tm, []⟩ (w.alloc (.cells (clC (fun _ => 0) n).toArray 3))) := fun tm ⟨u, e⟩ => e ▸ pr_pass ao n cap F fl w hr hn hI (Nat.zero_le _) rfl
  clear hr hI
  generalize prsE (fun i => (F i).tp fl) n = E at *
  generalize w.alloc (.cells (clC (fun _ => 0) n).toArray 3) = V at *
  go_enter Try.func21, Try.ntmps21
  go_wp2_with fail
  refine wp_scope_labels (PrJ w ao n cap (fun i => (F i).tp fl)) ?_ (fun l m a W hJ => HL.out l m a W hJ)
  go_wp2_with fail
  go_step3
  rename_i K hK
  refine hK _ _ ?_
  clear hK
  refine Code.wp_mono (jumps_mono (fun l a w hq => ?_)) (HP.out _ (Fr21.of _ rfl))
  obtain ⟨m, _, hm⟩ := hq
  exact ⟨m, hm⟩
end Go.Proofs.Ytlmmiicibjfcdaa
