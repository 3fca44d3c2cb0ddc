/- BytesBack: the walk of the law. -/
import Derived.Test.YtnjnaihogbnmaaaBk
import Derived.Deep.RegionHeld3
namespace Go.Proofs.Ytnjnaihogbnmaaa
open Go.RowKit
/-- The box of what is to be written. -/
def QB (w : World) (b : Nat) (x0 x1 x2 x3 x4 x5 : Value) : Prop := w.heap[b]? = some (.cells #[x0, x1, x2, x3, x4, x5] 27 (0, 0))
theorem QB.lt {w : World} {b : Nat} {x0 x1 x2 x3 x4 x5 : Value} (h : QB w b x0 x1 x2 x3 x4 x5) : b < w.heap.size := (Array.getElem?_eq_some_iff.1 h).1
theorem QB.below {w w' : World} {b : Nat} {x0 x1 x2 x3 x4 x5 : Value} (h : QB w b x0 x1 x2 x3 x4 x5) (hb : Below w.heap.size w w') : QB w' b x0 x1 x2 x3 x4 x5 := by
  unfold QB; rw [hb.block b h.lt]; exact h
theorem QB.but {w w' : World} {b q : Nat} {x0 x1 x2 x3 x4 x5 : Value} (h : QB w b x0 x1 x2 x3 x4 x5) (hb : But (some ⟨q, 0, none⟩) w w') (hne : q ≠ b) : QB w' b x0 x1 x2 x3 x4 x5 := by
  unfold QB; rw [hb.block b h.lt (fun a ea => by obtain rfl := Option.some.inj ea; exact hne)]; exact h
theorem QB.cells {w : World} {b : Nat} {x0 x1 x2 x3 x4 x5 : Value} (h : QB w b x0 x1 x2 x3 x4 x5) :
    w.cell? ⟨b, 0, none⟩ = some x0 ∧ w.cell? ⟨b, 1, none⟩ = some x1 ∧ w.cell? ⟨b, 2, none⟩ = some x2 ∧ w.cell? ⟨b, 3, none⟩ = some x3 ∧ w.cell? ⟨b, 4, none⟩ = some x4 ∧ w.cell? ⟨b, 5, none⟩ = some x5 :=
  ⟨cell_of_row w b 0 _ 27 (0, 0) h, cell_of_row w b 1 _ 27 (0, 0) h, cell_of_row w b 2 _ 27 (0, 0) h, cell_of_row w b 3 _ 27 (0, 0) h, cell_of_row w b 4 _ 27 (0, 0) h, cell_of_row w b 5 _ 27 (0, 0) h⟩
theorem QB.new (w : World) (x0 x1 x2 x3 x4 x5 : Value) : QB (w.alloc (.cells #[x0, x1, x2, x3, x4, x5] 27)) w.heap.size x0 x1 x2 x3 x4 x5 := heap_alloc_new w _
theorem done0 : doneE 0 0 = 0 := rfl
theorem below_drew4 (w : World) : Below w.heap.size w w.drew := (Below.refl _ _).drew
theorem Own.nils {B : Nat} {w : World} {ao : Option Addr} {n cap : Nat} {f : Nat → Nat} (h : Own B w ao n cap f) : (ao = none ∧ n = 0 ∧ cap = 0) ∨ ∃ a, ao = some a := by
  rcases h.own.2 with ⟨h', _⟩ | ⟨_, _, _, h', _⟩
  · simp only [Value.slice.injEq] at h'
    exact .inl h'
  · simp only [Value.slice.injEq] at h'
    exact .inr ⟨_, h'.1⟩
set_option maxRecDepth 10000 in
set_option maxHeartbeats 4000000 in
theorem bytesBack_walk (a0 a2 a3 a5 : Option Addr) (l0 c0 l2 c2 l3 c3 l5 c5 : Nat) (z M : Int) (f2 f3 f5 : Nat → Nat) (w : World) (r2 : RdU w a2 l2 f2) (r3 : Rd w a3 l3 f3) (r5 : RdU w a5 l5 f5)
    (b2 : l2 ≤ 1048576) (b3 : l3 ≤ 1048576) (n3 : (a3 = none ∧ l3 = 0 ∧ c3 = 0) ∨ ∃ a, a3 = some a) :
    Calls Try.prog 5 #[.agg #[.slice a0 l0 c0, .int .i64 z, .slice a2 l2 c2, .slice a3 l3 c3, .int .i64 M, .slice a5 l5 c5]] w fun e w' => e = .returned (.bool true) ∧ Below w.heap.size w w' := by
  have t : Below w.heap.size w (w.alloc (.cells #[.slice a0 l0 c0, .int .i64 z, .slice a2 l2 c2, .slice a3 l3 c3, .int .i64 M, .slice a5 l5 c5] 27)) := (Below.refl _ _).alloc (Nat.le_refl _) _
  have bx := QB.new w (.slice a0 l0 c0) (.int .i64 z) (.slice a2 l2 c2) (.slice a3 l3 c3) (.int .i64 M) (.slice a5 l5 c5)
  have hsmall : ¬ (16777216 : Int) < (l3 : Int) := by omega
  go_enter Try.func5, Try.ntmps5
  go_wp2_with fail
  refine (live_any _).mono ?_
  rintro e w1 ⟨rfl, q⟩
  replace t := t.trans (q.mono t.size)
  replace bx := bx.below q
  clear q
  obtain ⟨k0, k1, k2, k3, k4, k5⟩ := bx.cells
  have hch := rcheck_any M a5 l5 c5 f5 w1 (r5.below t)
  go_wp2_with fail
  refine hch.mono ?_
  rintro e w2 ⟨he, q⟩
  replace t := t.trans (q.mono t.size)
  replace bx := bx.below q
  clear q hch k0 k1 k2 k3 k4 k5
  rcases he with ⟨hok, rfl⟩ | ⟨_, rfl⟩
  case inr =>
    go_wp2
    go_ret
    exact ⟨rfl, t⟩
  obtain ⟨m, rfl⟩ := Int.eq_ofNat_of_zero_le hok.1
  obtain ⟨k0, k1, k2, k3, k4, k5⟩ := bx.cells
  have hL5 : l5 ≤ 128 := by obtain ⟨h1, h2, h3, _⟩ := hok; omega
  have HOK : Hid (Ok m l5 f5) := hok
  clear hok
  have hwlt := bx.lt
  go_wp2_with fail
  have hnum := fun W (g : RdU W a2 l2 f2) => num_any none 0 0 (fun _ => 0) 8 a2 l2 c2 f2 W (rd_none _ _ _) g (by decide) (by decide) (by rw [show szB 8 = 8 from rfl]; omega) (by omega)
  rw [show szB 8 = 8 from rfl, Nat.zero_add] at hnum
  replace bx := bx.below (below_drew4 w2)
  replace t := t.trans ((below_drew4 w2).mono t.size)
  clear k0 k1 k2 k3 k4 k5
  have hc := bx.cells
  have hlen1 : 8 * l2 + 4 + l3 ≤ 140737488355328 := by omega
  have hlen2 : 8 * l2 + 4 + l3 + 8 * l5 ≤ 140737488355328 := by omega
  have hlen3 : 8 * l2 + 4 + l3 + 8 * l5 ≤ 281474976710656 := by omega
  have ht0 : w.heap.size ≤ w2.heap.size := t.size
  have T2 : Below w2.heap.size w2 w2.drew := below_drew4 w2
  go_region_held3 (fun w' => w'.cell? ⟨w.heap.size, 0, none⟩ = some (.slice a0 l0 c0) ∧ w'.cell? ⟨w.heap.size, 1, none⟩ = some (.int .i64 z) ∧ w'.cell? ⟨w.heap.size, 2, none⟩ = some (.slice a2 l2 c2) ∧ w'.cell? ⟨w.heap.size, 3, none⟩ = some (.slice a3 l3 c3) ∧ w'.cell? ⟨w.heap.size, 4, none⟩ = some (.int .i64 (m : Nat)) ∧ w'.cell? ⟨w.heap.size, 5, none⟩ = some (.slice a5 l5 c5)) (exact hc)
    (first
      | (go_at_call 13; refine (hnum _ (r2.below t)).mono ?_; rintro e v1 ⟨x1, y1, rfl, g1, q⟩; replace g1 := g1.rd; replace t := t.trans (q.mono t.size); replace T2 := T2.trans (q.mono T2.size); replace bx := bx.below q; clear hc; have hc := bx.cells; clear q)
        | (go_at_call 15; refine (str_any x1 (8 * l2) y1 _ a3 l3 c3 f3 _ g1 (r3.below t) hlen1 n3).mono ?_; rintro e v2 ⟨x2, y2, rfl, g2, q⟩; replace g2 := g2.rd; replace t := t.trans (q.mono t.size); replace T2 := T2.trans (q.mono T2.size); replace bx := bx.below q; clear hc; have hc := bx.cells; clear q g1)
        | (go_at_call 17; refine (set_ok x2 (8 * l2 + 4 + l3) y2 _ m a5 l5 c5 f5 _ g2 (r5.below t) HOK.out hlen3).mono ?_; rintro e v3 ⟨x3, y3, rfl, g3, q⟩; have n33 := g3.nils; replace g3 := g3.rd; replace t := t.trans (q.mono t.size); replace T2 := T2.trans (q.mono T2.size); replace bx := bx.below q; clear hc; have hc := bx.cells; clear q g2)
        | (go_at_call 23; refine (read_any x3 (8 * l2 + 4 + l3 + 8 * l5) y3 _ _ g3 hlen2 n33).mono ?_; rintro e v4 ⟨b, x4, y4, rfl, hR, hbb, q⟩; have hb2 := Nat.le_trans T2.size hbb; replace t := t.trans (q.mono t.size); replace T2 := T2.trans (q.mono T2.size); replace bx := bx.below q; clear hc; have hc := bx.cells; clear q g3 n33))
  have hwb : w.heap.size ≤ b := Nat.le_trans ht0 hb2
  have hne : b ≠ w.heap.size := by omega
  clear hc hnum hlen1 hlen3 T2
  have hNN : 8 * l2 + 4 + l3 + 8 * l5 = 8 * l2 + 4 + l3 + 8 * l5 := rfl
  obtain ⟨k0, k1, k2, k3, k4, k5⟩ := bx.cells
  have HR : Hid (Rdr v4 b x4 (8 * l2 + 4 + l3 + 8 * l5) y4 (allB l2 l3 f2 f3 f5) 0) := hR
  clear hR hNN
  go_wp2_with fail
  clear k0 k1 k2 k3 k4 k5
  go_loopw [31] (fun i wx => ∃ j : Nat, j ≤ l2 ∧ i = .int .i64 j ∧ (∃ ao cap, Rdr wx b ao (8 * l2 + 4 + l3 + 8 * l5 - 8 * j) cap (fun i => allB l2 l3 f2 f3 f5 (8 * j + i)) 0) ∧ QB wx w.heap.size (.slice a0 l0 c0) (.int .i64 z) (.slice a2 l2 c2) (.slice a3 l3 c3) (.int .i64 (m : Nat)) (.slice a5 l5 c5) ∧ Below w.heap.size w wx) (fun i _ => l2 - (intOf i).toNat)
  case atStart => exact ⟨0, Nat.zero_le _, rfl, ⟨_, _, by simpa using HR.out⟩, bx, t⟩
  case round =>
    obtain ⟨j, hj, rfl, ⟨ao, cap, hR⟩, hbx, ht⟩ := hrel
    clear HR bx t
    by_cases hlt : j < l2
    · obtain ⟨bb, off, rfl, hbb, hcc⟩ := r2.at_ (by omega)
      have t1 : wr.cell? ⟨bb, off + j, none⟩ = some (.int .u64 (f2 j : Nat)) := by rw [ht.cell (p := ⟨bb, off + j, none⟩) hbb]; exact hcc j hlt
      have hji : (j : Int) < (l2 : Int) := by omega
      have hv := r2.small j hlt
      have hrd := num_is hR (f2 j) (by omega) (all_num hlt hv)
      clear hcc
      generalize f2 j = x at *
      go_wp2_with fail
      refine hrd.mono ?_
      rintro e w5 ⟨rfl, ⟨ao5, cap5, hR5⟩, hB5⟩
      have hbx5 := hbx.but hB5 hne
      have ht5 : Below w.heap.size w w5 := ht.trans (hB5.below ht.size fun a ea => by obtain rfl := Option.some.inj ea; exact hwb)
      have hR6 : Rdr w5 b ao5 (8 * l2 + 4 + l3 + 8 * l5 - 8 * (j + 1)) cap5 (fun i => allB l2 l3 f2 f3 f5 (8 * (j + 1) + i)) 0 := by
        have e1 : 8 * l2 + 4 + l3 + 8 * l5 - 8 * (j + 1) = 8 * l2 + 4 + l3 + 8 * l5 - 8 * j - 8 := by omega
        have e2 : (fun i => allB l2 l3 f2 f3 f5 (8 * (j + 1) + i)) = (fun i => (fun i => allB l2 l3 f2 f3 f5 (8 * j + i)) (8 + i)) := by funext i; show _ = allB l2 l3 f2 f3 f5 (8 * j + (8 + i)); congr 1; omega
        rw [e1, e2]; exact hR5
      clear hrd hR5 hB5 hR hbx ht
      go_wp2
      exact ⟨⟨j + 1, by omega, by go_num, ⟨_, _, hR6⟩, hbx5, ht5⟩, by simp [intOf]; omega⟩
    · obtain rfl : l2 = j := by omega
      have hl3 : l3 ≤ 16777216 := by omega
      have hN4 : 4 ≤ 8 * l2 + 4 + l3 + 8 * l5 - 8 * l2 := by omega
      have hN5 : l3 ≤ 8 * l2 + 4 + l3 + 8 * l5 - 8 * l2 - 4 := by omega
      have hN6 : 8 * l2 + 4 + l3 + 8 * l5 - 8 * l2 ≤ 140737488355328 := by omega
      have HOK2 : Hid (Ok m l5 (wdB fun i => (fun i => allB l2 l3 f2 f3 f5 (8 * l2 + i)) (4 + (l3 + i)))) := (ok_congr (n := m) (L := l5) (h := f5) (fun q hq => (all_word (l2 := l2) (l3 := l3) (f2 := f2) (f3 := f3) (f5 := f5) (r5.small q hq)).symm)).1 HOK.out
      have HN7 : Hid (8 * l5 ≤ 8 * l2 + 4 + l3 + 8 * l5 - 8 * l2 - 4 - l3) := by unfold Hid; omega
      have HN8 : Hid (8 * l2 + 4 + l3 + 8 * l5 - 8 * l2 - 4 - l3 - 8 * l5 = 0) := by unfold Hid; omega
      replace hR := hR.below (below_drew4 wr)
      replace hbx := hbx.below (below_drew4 wr)
      replace ht := ht.trans ((below_drew4 wr).mono ht.size)
      have hc := hbx.cells
      have hstr := str_is hR l3 hN4 (all_len hl3) hl3 hN5 hN6
      have hl3i : (l3 : Int) ≤ 9223372036854775807 := by omega
      have hl5i : (l5 : Int) ≤ 9223372036854775807 := by omega
      clear hN4 hN5 hN6 hR
      go_wp2_with fail
      go_region_held3 (fun w' => w'.cell? ⟨w.heap.size, 0, none⟩ = some (.slice a0 l0 c0) ∧ w'.cell? ⟨w.heap.size, 1, none⟩ = some (.int .i64 z) ∧ w'.cell? ⟨w.heap.size, 2, none⟩ = some (.slice a2 l2 c2) ∧ w'.cell? ⟨w.heap.size, 3, none⟩ = some (.slice a3 l3 c3) ∧ w'.cell? ⟨w.heap.size, 4, none⟩ = some (.int .i64 (m : Nat)) ∧ w'.cell? ⟨w.heap.size, 5, none⟩ = some (.slice a5 l5 c5)) (exact hc)
        (first
          | (go_at_call 32; refine hstr.mono ?_; rintro e v5 ⟨x5, y5, rfl, g5, ⟨ao5, cap5, hR5⟩, hB5⟩; replace hbx := hbx.but hB5 hne; replace ht := ht.trans (hB5.below ht.size (fun a ea => (by obtain rfl := Option.some.inj ea; exact hwb))); clear hc hB5; have hc := hbx.cells; replace g5 := Rd.congr (g := f3) g5 (fun i hi => all_str hi))
          | (go_at_call 12; refine (equal_same9 g5 (r3.below ht) hl3i).mono ?_; rintro e v6 ⟨rfl, q⟩; replace hR5 := hR5.below q; replace ht := ht.trans (q.mono ht.size); replace hbx := hbx.below q; clear hc g5 q; have hc := hbx.cells)
          | (go_at_call 34; refine (set_is hR5 m l5 HN7.out HOK2.out).mono ?_; rintro e v7 ⟨x7, y7, rfl, g7, ⟨ao7, cap7, hR7⟩, hB7⟩; replace hbx := hbx.but hB7 hne; replace ht := ht.trans (hB7.below ht.size (fun a ea => (by obtain rfl := Option.some.inj ea; exact hwb))); clear hc hB7 hR5; have hc := hbx.cells)
          | (go_at_call 33; refine (exact_true m x7 a5 l5 y7 c5 _ f5 _ g7 (r5.below ht) (fun q hq => all_word (r5.small q hq)) hl5i).mono ?_; rintro e v8 ⟨rfl, q⟩; replace hR7 := hR7.below q; replace ht := ht.trans (q.mono ht.size); replace hbx := hbx.below q; clear hc g7 q; have hc := hbx.cells)
          | (go_at_call 28; refine (done_any hR7).mono ?_; rintro e v9 ⟨rfl, rfl⟩; rw [HN8.out, done0]))
      go_wp2
      go_ret
      exact ⟨rfl, ht⟩
end Go.Proofs.Ytnjnaihogbnmaaa
