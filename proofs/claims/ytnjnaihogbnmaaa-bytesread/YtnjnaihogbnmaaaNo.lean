/- Set of a reader that no call made: the walk. -/
import Derived.Test.YtnjnaihogbnmaaaFn
namespace Go.Proofs.Ytnjnaihogbnmaaa
open Go.RowKit
/-- The loop of Set: the set on its way, the result's box. -/
structure UnI (w : World) (v : Value) (bs n L : Nat) (ao : Option Addr) (cap : Nat) (wr : World) : Prop where
  un : Un wr v
  box : Box wr bs (.int .i64 (n : Nat)) (.slice ao L cap)
  own : ∃ h, OwnU (w.heap.size + 1) wr ao L h
  res : Box wr w.heap.size (.int .i64 0) (.slice none 0 0)
  bel : Below w.heap.size w wr
theorem UnI.store {w : World} {v : Value} {bs n L g cap : Nat} {wr : World} (hv : Un w v) (t : UnI w v bs n L (some ⟨g, 0, none⟩) cap wr) {k : Nat} (hg : w.heap.size < g) (hgb : g ≠ bs) (hk : k < L) :
    UnI w v bs n L (some ⟨g, 0, none⟩) cap (wr.setCell ⟨g, k, none⟩ (.int .u64 (0 : Nat))) := by
  have hB := t.bel.setCell (p := ⟨g, k, none⟩) (by show w.heap.size ≤ g; omega) (.int .u64 (0 : Nat))
  obtain ⟨h, ho⟩ := t.own
  exact ⟨hv.below hB, t.box.other (p := ⟨g, k, none⟩) hgb _, ⟨_, ho.set rfl hk (by decide)⟩, t.res.other (p := ⟨g, k, none⟩) (by show g ≠ _; omega) _, hB⟩
set_option maxHeartbeats 3000000 in
theorem set_un {w : World} {v : Value} (hv : Un w v) (n L : Nat) (hn : n ≤ 8192) (hLL : (n + 63) / 64 = L) :
    Calls Try.prog 34 #[v, .int .i64 (n : Nat)] w fun en w' => en = .returned (.agg #[.int .i64 0, .slice none 0 0]) ∧ Below w.heap.size w w' := by
  have hnew := new_noneL n L (w.alloc (.cells #[.int .i64 0, .slice none 0 0] 25)) hn hLL
  have hL : (L : Int) ≤ 128 := by omega
  clear hLL
  go_enter Try.func34, Try.ntmps34
  go_wp2_with fail
  refine wp_scope_once 0 rfl ?_
  go_wp2_with fail
  refine hnew.mono ?_
  rintro en w1 ⟨ao1, cap1, rfl, ho1, hb1⟩
  have res1 := (Box.new w (.int .i64 0) (.slice none 0 0)).below hb1
  have hb : Below w.heap.size w w1 := ((Below.refl _ _).alloc (Nat.le_refl _) _).trans (hb1.mono (by simp))
  have ho1' : OwnU (w.heap.size + 1) w1 ao1 L (fun _ => 0) := by simpa using ho1
  have hlt1 : w.heap.size < w1.heap.size := res1.lt
  have hb2 : Below w.heap.size w (w1.alloc (.cells #[.int .i64 (n : Nat), .slice ao1 L cap1] 25)) := hb.alloc hb.size _
  have hI : UnI w v w1.heap.size n L ao1 cap1 (w1.alloc (.cells #[.int .i64 (n : Nat), .slice ao1 L cap1] 25)) :=
    ⟨hv.below hb2, Box.new _ _ _, ⟨_, ho1'.alloc _⟩, res1.alloc _, hb2⟩
  have hao : ∀ a, ao1 = some a → w.heap.size + 1 ≤ a.block ∧ a.block < w1.heap.size := fun a e => ⟨(ho1'.lt a e).2, (ho1'.lt a e).1⟩
  clear ho1 res1 hb1 ho1' hb2
  obtain ⟨c0, c1, c2, c3⟩ := hI.box.cells
  have hne : w.heap.size ≠ w1.heap.size := by omega
  go_wp2_with fail
  clear c0 c1 c2 c3
  go_loopw [18] (fun i wr => ∃ k : Nat, k ≤ L ∧ i = .int .i64 k ∧ UnI w v w1.heap.size n L ao1 cap1 wr) (fun i _ => L - (intOf i).toNat)
  case atStart => exact ⟨0, Nat.zero_le _, rfl, hI⟩
  case round =>
    obtain ⟨k, hk, rfl, t⟩ := hrel
    clear hI
    by_cases hlk : k < L
    · obtain ⟨hh, hoh⟩ := t.own
      obtain ⟨g, rfl, hcc⟩ := hoh.at_ (by omega)
      have hg := hao _ rfl
      have hg1 : w.heap.size + 1 ≤ g := hg.1
      have hg2 : g < w1.heap.size := hg.2
      have hgne : g ≠ w1.heap.size := by omega
      have hki : (k : Int) < (L : Int) := by omega
      have hk0 : (0 : Int) ≤ (k : Int) := by omega
      clear hg hao
      obtain ⟨cc, cf⟩ := hcc k hlk
      have hglt : g < wr.heap.size := (hoh.lt _ rfl).1
      clear hcc hoh
      go_wp2_with fail
      have HBX : Hid (∀ {W : World} {x y : Value}, Box W w1.heap.size x y → W.cell? ⟨w1.heap.size, 0, none⟩ = some x ∧ W.cell? ⟨w1.heap.size, 1, none⟩ = some y) := fun hx => ⟨hx.cells.1, hx.cells.2.1⟩
      have t0 : UnI w v w1.heap.size n L (some ⟨g, 0, none⟩) cap1 wr.drew := ⟨t.un.below (Below.refl _ _).drew, t.box.drew, t.own.elim fun h ho => ⟨h, ho.drew⟩, t.res.drew, t.bel.drew⟩
      clear t
      have hc := HBX.out t0.box
      have hnum := num_un t0.un 8 18446744073709551615 (by decide) (by decide)
      have cc2 : wr.drew.cell? ⟨g, k, none⟩ = some (.int .u64 (hh k : Nat)) := cc
      have cf2 : wr.drew.frozen? ⟨g, k, none⟩ = false := cf
      have hst := t0.store hv (k := k) (by omega) hgne hlk
      have HST : Hid (UnI w v w1.heap.size n L (some ⟨g, 0, none⟩) cap1 (wr.drew.setCell ⟨g, k, none⟩ (.int .u64 (0 : Nat)))) := hst
      clear hst
      go_region_held3 (fun w' => w'.cell? ⟨w1.heap.size, 0, none⟩ = some (.int .i64 (n : Nat)) ∧ w'.cell? ⟨w1.heap.size, 1, none⟩ = some (.slice (some ⟨g, 0, none⟩) L cap1)) (first | exact hc | exact HBX.out (t0.box.other (p := ⟨g, k, none⟩) hgne _))
        (first | (go_at_call 31; refine hnum.mono ?_; rintro en w2 ⟨rfl, rfl⟩))
      go_wp2
      exact ⟨⟨k + 1, by omega, by go_num, HST.out⟩, by simp [intOf]; omega⟩
    · obtain rfl : k = L := by omega
      obtain ⟨p0, p1, p2, p3⟩ := t.box.cells
      have hres := t.res
      have hne2 : w.heap.size ≠ w1.heap.size := by omega
      obtain ⟨q0, q1, q2, q3⟩ := hres.cells
      have hrlt := hres.lt
      have hun := t.un
      have hbel := t.bel
      obtain ⟨r0, r1, r2, r3⟩ := (hres.set (.int .i64 0) (.slice none 0 0)).cells
      go_wp2_with (go_at_call 26; refine (err_un hun).mono ?_; rintro en w' ⟨rfl, rfl⟩)
      go_step3
      refine And.intro rfl ?_
      go_wp2_with (go_at_call 36; refine (fail_un hun _).mono ?_; rintro en w' ⟨rfl, rfl⟩)
      rw [Exit.noGoto_ret]
      exact bodyPost_ret (v := .agg #[.int .i64 0, .slice none 0 0]) (by simp [results, Try.results34, go_sem, r0, r1]) rfl ⟨rfl, (hbel.setCell (p := ⟨w.heap.size, 0, none⟩) (by simp) _).setCell (p := ⟨w.heap.size, 1, none⟩) (by simp) _⟩
end Go.Proofs.Ytnjnaihogbnmaaa
