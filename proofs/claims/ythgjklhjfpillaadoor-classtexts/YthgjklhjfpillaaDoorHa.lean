/- ClassHas: the walk of the law. -/
import Derived.Test.YthgjklhjfpillaaDoorBy
import Derived.Test.YthgjklhjfpillaaDoorRf
import Derived.Deep.RegionHeld3
namespace Go.Proofs.YthgjklhjfpillaaDoor
open Go.RowKit
/-- The box of a class and the list of its bytes, as they were laid. -/
structure T1 (w : World) (a b c d : Nat) (v : Value) (n : Nat) (l : List Nat) (W : World) : Prop where
  bel : Below w.heap.size w W
  b0 : Bx W w.heap.size (.int .u64 (a : Nat)) (.int .u64 (b : Nat)) (.int .u64 (c : Nat)) (.int .u64 (d : Nat))
  own : W.ownsRow w.heap.size 5 1 v n (byt l)
theorem T1.next {w W W' : World} {a b c d : Nat} {v : Value} {n : Nat} {l : List Nat} (t : T1 w a b c d v n l W) (hb : Below W.heap.size W W') : T1 w a b c d v n l W' :=
  ⟨t.bel.trans (hb.mono t.bel.size), t.b0.below hb, row_below t.own hb⟩
theorem T1.cells {w W : World} {a b c d : Nat} {v : Value} {n : Nat} {l : List Nat} (t : T1 w a b c d v n l W) : W.cell? ⟨w.heap.size, 0, none⟩ = some (.int .u64 (a : Nat)) ∧ W.cell? ⟨w.heap.size, 1, none⟩ = some (.int .u64 (b : Nat)) ∧ W.cell? ⟨w.heap.size, 2, none⟩ = some (.int .u64 (c : Nat)) ∧ W.cell? ⟨w.heap.size, 3, none⟩ = some (.int .u64 (d : Nat)) := by
  obtain ⟨c0, c1, c2, c3, _⟩ := t.b0.cells
  exact ⟨c0, c1, c2, c3⟩
theorem come_none {P : Nat → Bool} (n : Nat) (h : ∀ j, j < n → P j = false) : come P n = [] := by
  induction n with
  | zero => rfl
  | succ n ih => rw [come_no (h n (by omega)), ih fun j hj => h j (by omega)]
theorem come_head {P : Nat → Bool} {k : Nat} (hk : P k = true) (hl : ∀ j, j < k → P j = false) (n : Nat) (h : k < n) : ∃ l, come P n = k :: l := by
  induction n with
  | zero => omega
  | succ n ih =>
    by_cases e : k = n
    · subst e
      exact ⟨[], by rw [come_yes hk, come_none k hl]; rfl⟩
    · obtain ⟨l, hl⟩ := ih (by omega)
      cases hn : P n
      · exact ⟨l, by rw [come_no hn, hl]⟩
      · exact ⟨l ++ [n], by rw [come_yes hn, hl]; rfl⟩
theorem row_head {B : Nat} {w : World} {ao : Option Addr} {n cap : Nat} {k : Nat} {l : List Nat} (h : w.ownsRow B 5 1 (.slice ao n cap) n (byt (k :: l))) : ∃ g, ao = some ⟨g, 0, none⟩ ∧ w.cell? ⟨g, 0, none⟩ = some (.int .u8 (k : Nat)) := by
  have hn : 0 < n := by have := h.1; simp [byt] at this; omega
  rcases h.2 with ⟨h', h0⟩ | ⟨g, cap', cur, h', _⟩
  · omega
  · obtain ⟨rfl, -, rfl⟩ : ao = some ⟨g, 0, none⟩ ∧ n = n ∧ cap = cap' := by simpa using h'
    exact ⟨g, rfl, by rw [h.cellAt 0 (by omega)]; rfl⟩
set_option maxRecDepth 100000 in
set_option maxHeartbeats 8000000 in
theorem classHas_walk {P : Nat → Bool} {a b c d : Nat} (hA : C4 P a b c d) (x : Nat) (hx : x < 256) (w : World) (hT : Tab w) :
    Calls Tryd.prog 4 #[.agg #[.int .u64 (a : Nat), .int .u64 (b : Nat), .int .u64 (c : Nat), .int .u64 (d : Nat)], .int .u8 (x : Nat)] w fun en w' => en = .returned (.bool true) ∧ Below w.heap.size w w' := by
  have hB0 : Below w.heap.size w (w.alloc (.cells #[.int .u64 (a : Nat), .int .u64 (b : Nat), .int .u64 (c : Nat), .int .u64 (d : Nat)] 26)) := (Below.refl _ _).alloc (Nat.le_refl _) _
  have q0 := Bx.new w (.int .u64 (a : Nat)) (.int .u64 (b : Nat)) (.int .u64 (c : Nat)) (.int .u64 (d : Nat))
  obtain ⟨p0, p1, p2, p3, _⟩ := q0.cells
  go_enter Tryd.func4, Tryd.ntmps4
  go_wp2_with fail
  refine (rbytes_c hA _).mono ?_
  rintro e w1 ⟨ao, cap, rfl, hown, hb⟩
  have hcn := cnt_come P 256
  have hle := come_len P 256
  generalize hN : (come P 256).length = N at *
  have HN : Hid ((come P 256).length = N) := hN
  have t : T1 w a b c d (.slice ao N cap) N (come P 256) w1 := ⟨hB0.trans (hb.mono hB0.size), q0.below hb, row_mono hown (by simp)⟩
  have hC := fun W => count_c hA W
  rw [hcn] at hC
  have HC : Hid _ := hC
  clear hb hown p0 p1 p2 p3 q0 hB0 hN hC hcn
  obtain ⟨p0, p1, p2, p3⟩ := t.cells
  go_wp2_with fail
  refine (first_c hA _ (hT.below t.bel)).mono ?_
  rintro e w2 ⟨hh, hb⟩
  replace t := t.next hb
  clear hb p0 p1 p2 p3
  have hnn : ((N : Int) != (N : Int)) = false := by simp
  have hbb : (P x != P x) = false := by simp
  rcases hh with ⟨k, hk, rfl, hPk, hlow⟩ | ⟨rfl, hno⟩
  · obtain ⟨l, hl⟩ := come_head hPk hlow 256 hk
    have hn : 0 < N := by have := HN.out; rw [hl] at this; simp at this; omega
    have hni : (0 : Int) < (N : Int) := by omega
    rw [hl] at t
    obtain ⟨g, rfl, _⟩ := row_head t.own
    have hc := t.cells
    clear hl hPk hlow HN
    go_wp2_with fail
    go_cut [39] (fun v wx => v = .bool false ∧ T1 w a b c d (.slice (some ⟨g, 0, none⟩) N cap) N (k :: l) wx)
    case first =>
      replace t := t.next (Below.refl _ _).drew
      clear hc
      have hc := t.cells
      go_region_held3 (fun w' => w'.cell? ⟨w.heap.size, 0, none⟩ = some (.int .u64 (a : Nat)) ∧ w'.cell? ⟨w.heap.size, 1, none⟩ = some (.int .u64 (b : Nat)) ∧ w'.cell? ⟨w.heap.size, 2, none⟩ = some (.int .u64 (c : Nat)) ∧ w'.cell? ⟨w.heap.size, 3, none⟩ = some (.int .u64 (d : Nat))) (exact hc)
        (first
          | (go_at_call 9; refine (begun_any _ (hT.below t.bel)).mono ?_; rintro en v0 ⟨rfl, q⟩; replace t := t.next q; clear q hc; have hc := t.cells)
          | (go_at_call 24; refine (has_c hA x _ hx).mono ?_; rintro en v1 ⟨rfl, q⟩; replace t := t.next q; clear q hc; have hc := t.cells)
          | (go_at_call 25; refine (rhas_c hA x _ hx).mono ?_; rintro en v2 ⟨rfl, q⟩; replace t := t.next q; clear q hc; have hc := t.cells)
          | (go_at_call 26; refine (HC.out _).mono ?_; rintro en v3 ⟨rfl, q⟩; replace t := t.next q; clear q hc; have hc := t.cells))
      go_wp2_with fail
      go_meet
      exact ⟨rfl, t⟩
    case rest =>
      obtain ⟨rfl, t1⟩ := hcut
      obtain ⟨g1, e1, hcell⟩ := row_head t1.own
      obtain rfl : g = g1 := by simpa using e1
      have hbel := t1.bel
      have hkk : ((k : Int) == (k : Int)) = true := by simp
      clear t1 t hc e1
      go_wp2
      go_ret
      exact ⟨rfl, hbel⟩
  · have hl := come_none 256 hno
    obtain rfl : N = 0 := by have := HN.out; rw [hl] at this; simpa using this.symm
    rw [hl] at t
    have hc := t.cells
    clear hl hno HN hnn
    go_wp2_with fail
    go_cut [39] (fun v wx => v = .bool false ∧ T1 w a b c d (.slice ao 0 cap) 0 [] wx)
    case first =>
      replace t := t.next (Below.refl _ _).drew
      clear hc
      have hc := t.cells
      go_region_held3 (fun w' => w'.cell? ⟨w.heap.size, 0, none⟩ = some (.int .u64 (a : Nat)) ∧ w'.cell? ⟨w.heap.size, 1, none⟩ = some (.int .u64 (b : Nat)) ∧ w'.cell? ⟨w.heap.size, 2, none⟩ = some (.int .u64 (c : Nat)) ∧ w'.cell? ⟨w.heap.size, 3, none⟩ = some (.int .u64 (d : Nat))) (exact hc)
        (first
          | (go_at_call 9; refine (begun_any _ (hT.below t.bel)).mono ?_; rintro en v0 ⟨rfl, q⟩; replace t := t.next q; clear q hc; have hc := t.cells)
          | (go_at_call 24; refine (has_c hA x _ hx).mono ?_; rintro en v1 ⟨rfl, q⟩; replace t := t.next q; clear q hc; have hc := t.cells)
          | (go_at_call 25; refine (rhas_c hA x _ hx).mono ?_; rintro en v2 ⟨rfl, q⟩; replace t := t.next q; clear q hc; have hc := t.cells)
          | (go_at_call 26; refine (HC.out _).mono ?_; rintro en v3 ⟨rfl, q⟩; replace t := t.next q; clear q hc; have hc := t.cells))
      go_wp2_with fail
      go_meet
      exact ⟨rfl, t⟩
    case rest =>
      obtain ⟨rfl, t1⟩ := hcut
      have hbel := t1.bel
      clear t1 t hc
      go_wp2
      go_ret
      exact ⟨rfl, hbel⟩
end Go.Proofs.YthgjklhjfpillaaDoor
