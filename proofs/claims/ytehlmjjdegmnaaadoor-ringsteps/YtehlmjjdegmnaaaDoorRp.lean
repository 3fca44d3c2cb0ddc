/- The reference's Copy and With: the walks. -/
import Derived.Test.YtehlmjjdegmnaaaDoorRn
import Derived.Deep.AppendLies
namespace Go.Proofs.YtehlmjjdegmnaaaDoor
open Go.RowKit
attribute [local go_sem ↓] Go.wp_at_zero Go.wp_at_succ
theorem rd_news {w : World} {b off len : Nat} {f : Nat → Nat} (hc : ∀ i, i < len → w.cell? ⟨b, off + i, none⟩ = some (.int .u64 (f i : Nat))) :
    ∀ j u, ((List.range len).map fun i => Value.int .u64 (f i : Nat))[j]? = some u → w.cell? ((⟨b, off, none⟩ : Addr).add j) = some u := by
  intro j u hj
  have hjl : j < len := by
    by_cases h : j < len
    · exact h
    · rw [List.getElem?_eq_none (by simp; omega)] at hj; simp at hj
  simp only [List.getElem?_map, List.getElem?_range hjl, Option.map_some, Option.some.injEq] at hj
  subst hj
  have hcj := hc j hjl
  by_cases h0 : j = 0
  · subst h0; simpa [Addr.add] using hcj
  · simpa [Addr.add, h0] using hcj
theorem ownL_of_row {B : Nat} {w : World} {g len cap : Nat} {f : Nat → Nat} (h : w.ownsRow B 22 1 (.slice (some ⟨g, 0, none⟩) len cap) len ((List.range len).map fun i => Value.int .u64 (f i : Nat))) (hs : ∀ i, i < len → f i < 18446744073709551616) (hlt : g < w.heap.size) (hB : B ≤ g) :
    OwnL B w (some ⟨g, 0, none⟩) len f := by
  refine ⟨hs, fun a e => ?_, fun hl => ?_⟩
  · obtain rfl := Option.some.inj e; exact ⟨hlt, hB⟩
  · rcases h.2 with ⟨h', _⟩ | ⟨g', cap', cur, h', _, hg, hnc, _, hsz, htake⟩
    · simp at h'
    · simp only [Value.slice.injEq, Option.some.injEq, Addr.mk.injEq, and_true, true_and] at h'
      obtain ⟨rfl, rfl⟩ := h'
      refine ⟨g, cur, rfl, hg, by omega, fun i hi => ?_⟩
      have e : cur.toList[i]? = ((List.range len).map fun i => Value.int .u64 (f i : Nat))[i]? := by
        rw [← htake, List.getElem?_take, if_pos (by omega)]
      rw [← Array.getElem?_toList, e]
      simp [hi]

/-- An append of nothing to a nil slice, at a step of a region. -/
theorem step_append_nothing {w : World} {ops : Array Oper} {o : Oper} {a : Act} {K : Act → World → Prop} {Q : Exit → Act → World → Prop} {E : Prop} (hgd : o.guard = none) (s x : Operand)
    (ho : o.op = .call { callee := .builtin .append, args := #[s, x], argTypes := #[27, 27] }) (hs : a.eval s = .slice none 0 0) (ad : Addr) (c : Nat) (hx : a.eval x = .slice (some ad) 0 c)
    (h : ∀ w', w.grownBy w' none → K (a.put o.dst (.slice none 0 0)) w') :
    if Region.wanted o (yielded ops a.tmps) = true then Oper.wp Tryd.prog o a w K Q else E := by
  have hw : Region.wanted o (yielded ops a.tmps) = true := by simp [Region.wanted, hgd]
  rw [if_pos hw]
  obtain ⟨i0, hi, hz0, hz1, hz2⟩ := info_parts Tryd.info46
  refine wp_append_own w s x 27 ho w.heap.size 22 i0 (.int .u64 0) 1 8 Tryd.underlying27 hi hz0 hz1 hz2 rfl (by decide) (.slice none 0 0) 0 [] hs (World.ownsRow_nil _ _ _ _) ad 0 c [] hx rfl (fun j u hj => by simp at hj) (fun u hu => by simp at hu) (by unfold maxLen; omega) (by omega) (Nat.le_refl _) ?_
  intro v' w' _ hgr hiff
  rw [hiff.2 ⟨rfl, rfl⟩]
  exact h w' hgr

set_option maxHeartbeats 800000 in
/-- Copy. -/
theorem rcopy_any {w : World} {x : Value} {n : Nat} {P : Nat → Bool} (h : Arg w x n P) : Calls Tryd.prog 36 #[x] w (RetL w n P) := by
  obtain ⟨m, a0, l0, c0, rfl⟩ := h.shape
  obtain ⟨i0, hi, hz0, hz1, hz2⟩ := info_parts Tryd.info46
  have hB0 : Below w.heap.size w ((w.alloc (.cells #[.int .i64 m, .slice a0 l0 c0] 29)).alloc (.cells #[.int .i64 0, .slice none 0 0] 29)) := ((Below.refl _ _).alloc (Nat.le_refl _) _).alloc (by simp) _
  go_enter Tryd.func36, Tryd.ntmps36
  go_wp2_with fail
  refine (may_any h hB0).mono ?_
  rintro e w1 ⟨ao, len, cap, f, rfl, hr, hs, hb⟩
  clear h
  have b1 := ((Box.new w (.int .i64 m) (.slice a0 l0 c0)).alloc (.cells #[.int .i64 0, .slice none 0 0] 29)).below hb
  have b2 := (Box.new1 w (.cells #[.int .i64 m, .slice a0 l0 c0] 29) (.int .i64 0) (.slice none 0 0)).below hb
  have hB1 : Below w.heap.size w w1 := hB0.trans (hb.mono (by simp; omega))
  clear hB0 hb
  obtain ⟨c10, c11, f10, f11⟩ := b1.cells
  go_wp2_with fail
  have b1' := b1.set (.int .i64 (n : Nat)) (.slice ao len cap)
  have b2' := (b2.other (p := ⟨w.heap.size, 0, none⟩) (by simp) (.int .i64 (n : Nat))).other (p := ⟨w.heap.size, 1, none⟩) (by simp) (.slice ao len cap)
  have hB2 := (hB1.setCell (p := ⟨w.heap.size, 0, none⟩) (by simp) (.int .i64 (n : Nat))).setCell (p := ⟨w.heap.size, 1, none⟩) (by simp) (.slice ao len cap)
  clear c10 c11 f10 f11 b1 b2 hB1
  generalize (w1.setCell ⟨w.heap.size, 0, none⟩ (.int .i64 (n : Nat))).setCell ⟨w.heap.size, 1, none⟩ (.slice ao len cap) = wA at *
  have hr1 := hr.below hB2
  have hlen := hs.hlen
  have hle := hs.hle
  have hd := below_drew' wA
  replace b1' := b1'.below hd
  replace b2' := b2'.below hd
  have hlt1 := b2'.lt
  by_cases h0 : len = 0
  · subst h0
    have hn0 : n = 0 := by omega
    obtain ⟨k0, k1, k2, k3⟩ := b1'.cells
    obtain ⟨j0, j1, j2, j3⟩ := b2'.cells
    have HL : Hid (0 = (n + 63) / 64) := hlen
    have HN : Hid (n = 0) := hn0
    clear hlen hn0
    cases ao with
    | none =>
        obtain ⟨g0, g1, g2, g3⟩ := (show Box wA (w.heap.size + 1) (.int .i64 0) (.slice none 0 0) from b2').cells
        go_region_held3 (fun w' => w'.cell? ⟨w.heap.size, 0, none⟩ = some (.int .i64 (n : Nat)) ∧ w'.cell? ⟨w.heap.size, 1, none⟩ = some (.slice none 0 cap)) (first | exact ⟨b1'.cells.1, b1'.cells.2.1⟩ | exact ⟨((b1'.other (p := ⟨w.heap.size + 1, 0, none⟩) (by simp) _).other (p := ⟨w.heap.size + 1, 1, none⟩) (by simp) _).cells.1, ((b1'.other (p := ⟨w.heap.size + 1, 0, none⟩) (by simp) _).other (p := ⟨w.heap.size + 1, 1, none⟩) (by simp) _).cells.2.1⟩ | go_keep)
          (fail)
        have bR := ((show Box wA (w.heap.size + 1) (.int .i64 0) (.slice none 0 0) from b2').set (.int .i64 (n : Nat)) (.slice none 0 0)).cells
        go_wp2
        refine bodyPost_ret (v := .agg #[.int .i64 n, .slice none 0 0]) (by simp [results, Tryd.results36, go_sem, bR.1, bR.2.1]) rfl ⟨_, _, _, f, rfl, ⟨fun i hi => absurd hi (by omega), fun a e => by simp at e, fun hl => absurd hl (by omega)⟩, hs, ?_⟩
        exact ((hB2.setCell (p := ⟨w.heap.size + 1, 0, none⟩) (by simp) _).setCell (p := ⟨w.heap.size + 1, 1, none⟩) (by simp) _).drew
    | some ad =>
        go_region_held3 (fun w' => w'.cell? ⟨w.heap.size, 0, none⟩ = some (.int .i64 (n : Nat)) ∧ w'.cell? ⟨w.heap.size, 1, none⟩ = some (.slice (some ad) 0 cap)) (first | exact ⟨b1'.cells.1, b1'.cells.2.1⟩ | exact ⟨((b1'.other (p := ⟨w.heap.size + 1, 0, none⟩) (by simp) _).other (p := ⟨w.heap.size + 1, 1, none⟩) (by simp) _).cells.1, ((b1'.other (p := ⟨w.heap.size + 1, 0, none⟩) (by simp) _).other (p := ⟨w.heap.size + 1, 1, none⟩) (by simp) _).cells.2.1⟩ | go_keep)
          ((refine step_append_nothing (by rfl) _ _ (by rfl) (by rfl) ad cap (by rfl) ?_; intro w2 hgrow; have hb2 : Below _ _ w2 := (Below.refl _ _).grown hgrow (Nat.le_refl _) (by intro k hk; simp at hk); replace b1' := b1'.below hb2; replace b2' := b2'.below hb2; obtain ⟨k0, k1, k2, k3⟩ := b1'.cells; obtain ⟨j0, j1, j2, j3⟩ := b2'.cells))
        have hB3 := (hB2.trans (hd.mono hB2.size)).trans (hb2.mono (Nat.le_trans hB2.size hd.size))
        have bR := (b2'.set (.int .i64 (n : Nat)) (.slice none 0 0)).cells
        go_wp2
        refine bodyPost_ret (v := .agg #[.int .i64 n, .slice none 0 0]) (by simp [results, Tryd.results36, go_sem, bR.1, bR.2.1]) rfl ⟨_, _, _, f, rfl, ⟨fun i hi => absurd hi (by omega), fun a e => by simp at e, fun hl => absurd hl (by omega)⟩, hs, ?_⟩
        exact (hB3.setCell (p := ⟨w.heap.size + 1, 0, none⟩) (by simp) _).setCell (p := ⟨w.heap.size + 1, 1, none⟩) (by simp) _
  · obtain ⟨b, off, rfl, hbw, hc⟩ := hr.at_ (by omega)
    have hcA : ∀ i, i < len → wA.drew.cell? ⟨b, off + i, none⟩ = some (.int .u64 (f i : Nat)) := fun i hi => by rw [hd.cell (p := ⟨b, off + i, none⟩) (Nat.lt_of_lt_of_le hbw hB2.size), hB2.cell (p := ⟨b, off + i, none⟩) hbw]; exact hc i hi
    have hnews := rd_news hcA
    have HL : Hid (len = (n + 63) / 64) := hlen
    have HN : Hid (∀ j u, ((List.range len).map fun i => Value.int .u64 (f i : Nat))[j]? = some u → wA.drew.cell? ((⟨b, off, none⟩ : Addr).add j) = some u) := hnews
    have hl128 : len ≤ 128 := by omega
    have hpos : 0 < len := by omega
    clear hnews hcA hc hlen hr1
    go_region_held3 (fun w' => w'.cell? ⟨w.heap.size, 0, none⟩ = some (.int .i64 (n : Nat)) ∧ w'.cell? ⟨w.heap.size, 1, none⟩ = some (.slice (some ⟨b, off, none⟩) len cap)) (first | exact ⟨b1'.cells.1, b1'.cells.2.1⟩ | exact ⟨((b1'.other (p := ⟨w.heap.size + 1, 0, none⟩) (by simp) _).other (p := ⟨w.heap.size + 1, 1, none⟩) (by simp) _).cells.1, ((b1'.other (p := ⟨w.heap.size + 1, 0, none⟩) (by simp) _).other (p := ⟨w.heap.size + 1, 1, none⟩) (by simp) _).cells.2.1⟩ | go_keep)
      ((refine step_append_lies _ (by rfl) _ _ 27 (by rfl) w.heap.size 22 i0 (.int .u64 0) 1 8 Tryd.underlying27 hi hz0 hz1 hz2 (by rfl) (by decide) (.slice none 0 0) 0 [] (by rfl) (World.ownsRow_nil _ _ _ _) ⟨b, off, none⟩ len cap ((List.range len).map fun i => Value.int .u64 (f i : Nat)) (by rfl) (by simp) HN.out (by intro v hv; simp only [List.mem_map] at hv; obtain ⟨i, _, rfl⟩ := hv; rfl) hpos (by unfold maxLen; omega) (by omega) (by omega) _ rfl ?_; intro g cap2 w2 hown hgrow hat hlt; have hb2 : Below _ _ w2 := (Below.refl _ _).grown hgrow (Nat.le_refl _) (by intro k hk; simp [Value.ownBlock] at hk); replace b1' := b1'.below hb2; replace b2' := b2'.below hb2; obtain ⟨k0, k1, k2, k3⟩ := b1'.cells; obtain ⟨j0, j1, j2, j3⟩ := b2'.cells))
    have hg : g = wA.drew.heap.size := by
      rcases hat with h | h
      · simp [Value.ownBlock] at h
      · exact h
    simp only [Nat.zero_add, List.nil_append] at hown
    have hgs : w.heap.size + 2 ≤ g := by rw [hg]; omega
    have ho := ownL_of_row hown hr.small hlt (by omega)
    have hB3 := (hB2.trans (hd.mono hB2.size)).trans (hb2.mono (Nat.le_trans hB2.size hd.size))
    have bR := (b2'.set (.int .i64 (n : Nat)) (.slice (some ⟨g, 0, none⟩) len cap2)).cells
    clear hown hgrow hat HN hg
    go_wp2
    refine bodyPost_ret (v := .agg #[.int .i64 n, .slice (some ⟨g, 0, none⟩) len cap2]) (by simp [results, Tryd.results36, go_sem, bR.1, bR.2.1]) rfl ⟨_, _, _, f, rfl, ho.box (fun a e => by obtain rfl := Option.some.inj e; show g ≠ _; omega) _ _, hs, ?_⟩
    exact (hB3.setCell (p := ⟨w.heap.size + 1, 0, none⟩) (by simp) _).setCell (p := ⟨w.heap.size + 1, 1, none⟩) (by simp) _

set_option maxHeartbeats 400000 in
/-- With. -/
theorem rwith_any {w : World} {x : Value} {n : Nat} {P : Nat → Bool} (k : Int) (h : Arg w x n P) :
    Calls Tryd.prog 31 #[x, .int .i64 k] w (RetL w n fun i => P i || decide ((i : Int) = k ∧ i < n)) := by
  obtain ⟨m, a0, l0, c0, rfl⟩ := h.shape
  have hB0 : Below w.heap.size w ((w.alloc (.cells #[.int .i64 m, .slice a0 l0 c0] 29)).alloc (.cells #[.int .i64 0, .slice none 0 0] 29)) := ((Below.refl _ _).alloc (Nat.le_refl _) _).alloc (by simp) _
  go_enter Tryd.func31, Tryd.ntmps31
  go_wp2_with fail
  refine (rcopy_any (h.below hB0)).mono ?_
  rintro e w1 ⟨ao, len, cap, f, rfl, ho, hs, hb⟩
  clear h
  have b2 := (Box.new1 w (.cells #[.int .i64 m, .slice a0 l0 c0] 29) (.int .i64 0) (.slice none 0 0)).below hb
  have hB1 : Below w.heap.size w w1 := hB0.trans (hb.mono (by simp; omega))
  have ho1 : OwnL (w.heap.size + 2) w1 ao len f := by simpa using ho
  clear hB0 hb ho
  have hlt1 : w.heap.size + 1 < w1.heap.size := b2.lt
  go_wp2_with fail
  refine (rput_any k (ho1.alloc _) hs).mono ?_
  rintro e w2 ⟨rfl, g, ho2, hs2, hbut⟩
  have b2' := (b2.alloc _).but hbut (fun a e => by have := ho1.lt a e; omega)
  have b3' := (Box.new w1 _ _).but hbut (fun a e => by have := ho1.lt a e; omega)
  have hB2 : Below w.heap.size w w2 := (hB1.alloc (by omega) _).trans (hbut.below (by simp; omega) fun a e => by have := ho1.lt a e; omega)
  have hao : ∀ a, ao = some a → w.heap.size + 2 ≤ a.block := fun a e => (ho1.lt a e).2
  clear hbut hs b2 hB1 ho1
  obtain ⟨c20, c21, f20, f21⟩ := b2'.cells
  obtain ⟨c30, c31, f30, f31⟩ := b3'.cells
  have hne2 : w.heap.size + 1 ≠ w1.heap.size := by omega
  go_wp2
  refine bodyPost_ret (v := .agg #[.int .i64 n, .slice ao len cap]) (by simp [results, Tryd.results31, go_sem, c20, c21]) rfl ⟨_, _, _, g, rfl, (ho2.mono (by omega)).box (fun a e => by have := hao a e; omega) _ _, hs2, ?_⟩
  exact (hB2.setCell (p := ⟨w.heap.size + 1, 0, none⟩) (by simp) _).setCell (p := ⟨w.heap.size + 1, 1, none⟩) (by simp) _
end Go.Proofs.YtehlmjjdegmnaaaDoor
