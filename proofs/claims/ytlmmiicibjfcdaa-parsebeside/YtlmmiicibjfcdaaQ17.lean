/- parse: the builder's top, put, join, open: the walks. parse: the builder's put, join, open, endItem, endSequence: the walks. parse: the builder's open, endItem, endSequence: the walks. parse: the builder's endSequence: the walk. -/
import Derived.Deep.DeepCutAuto
import Derived.Deep.RegionHeld3
import Derived.Test.YtlmmiicibjfcdaaQ13
import Derived.Test.YtlmmiicibjfcdaaQ03
namespace Go.Proofs.Ytlmmiicibjfcdaa
open Go.RowKit
/-- The builder's address. -/
abbrev bP (bp : Nat) : Value := .pointer (some ⟨bp, 0, none⟩)
set_option maxRecDepth 10000 in
set_option maxHeartbeats 2000000 in
theorem top_any {X w W : World} {bp : Nat} {fl : Fg} {s : Bs} {no : Option Addr} {nc g lc : Nat} (h : BM X w bp fl s no nc g lc W) (hl : s.lv ≠ []) :
    Calls Try.prog 66 #[bP bp] W fun e W' => e = .returned (.pointer (some ⟨g, (s.lv.length - 1) * 3, none⟩)) ∧ BM X w bp fl s no nc g lc W' ∧ Below W.heap.size W W' := by
  obtain ⟨_, _, _, c7⟩ := h.cells
  have hlx := h.lx
  have hpos := ne_len.1 hl
  obtain ⟨m, hm⟩ : ∃ m, s.lv.length = m + 1 := ⟨s.lv.length - 1, by omega⟩
  have HB : Hid (∀ q, BM X w bp fl s no nc g lc (W.drewN q) ∧ Below W.heap.size W (W.drewN q)) := fun q => ⟨h.below (below_drewN (Below.refl _ _) q), below_drewN (Below.refl _ _) q⟩
  rw [hm] at c7 hlx ⊢
  have e1 : IntKind.i64.wrap (((m + 1 : Nat) : Int) - 1) = (m : Nat) := by rw [IntKind.wrap_i64]; omega
  have e2 : ((m : Nat) : Int) < ((m + 1 : Nat) : Int) := by omega
  clear h hm hl hpos
  go_enter Try.func66, Try.ntmps66
  go_wp2_with fail
  go_quiet (fail)
  go_wp2_with fail
  go_ret
  exact ⟨rfl, HB.out _⟩
theorem b_node : (Try.prog.info? 44).map (fun i => (i.zero, i.size, i.bytes)) = some (some (.agg #[.int .i64 0, .int .u64 0, .int .u64 0, .int .u64 0, .int .u64 0, .int .i64 0, .int .i64 0, .int .i64 0, .int .i64 0, .bool false]), 10, 80) := by kernel_rfl
theorem b_level : (Try.prog.info? 104).map (fun i => (i.zero, i.size, i.bytes)) = some (some (.agg #[.int .i64 0, .int .i64 0, .int .i64 0]), 3, 24) := by kernel_rfl
theorem new_cells (w : World) (t : TypeId) (vs : List Value) : ∀ j u, vs[j]? = some u → (w.alloc (.cells vs.toArray t)).cell? (Addr.add ⟨w.heap.size, 0, none⟩ j) = some u := by
  intro j u hj
  have := (Cl.new w t vs).cell j hj
  by_cases h0 : j = 0
  · subst h0; simpa [Addr.add] using this
  · simpa [Addr.add, h0] using this
theorem ndL_one (x : Nd) : ∀ u ∈ ndL x, u.oneCell' = true := by
  intro u hu
  simp only [ndL, List.mem_cons, List.not_mem_nil, or_false] at hu
  rcases hu with rfl | rfl | rfl | rfl | rfl | rfl | rfl | rfl | rfl | rfl <;> rfl
/-- A node is put behind the others: what is there then, step by step. -/
theorem BM.grown {X w V w2 : World} {bp : Nat} {fl : Fg} {s : Bs} {no : Option Addr} {nc g lc : Nat} (h : BM X w bp fl s no nc g lc V) (x : Nd) (hm : s.many < 2048) {g2 c2 : Nat}
    (hown : w2.ownsRow w.heap.size 44 10 (.slice (some ⟨g2, 0, none⟩) (s.ns.length + 1) c2) (s.ns.length + 1) (ndsL s.ns ++ ndL x)) (hg : V.grownBy w2 (Value.slice no s.ns.length nc).ownBlock) :
    (w2.cell? ⟨bp, 5, none⟩ = some (.slice no s.ns.length nc) ∧ w2.frozen? ⟨bp, 5, none⟩ = false) ∧
    ((w2.setCell ⟨bp, 5, none⟩ (.slice (some ⟨g2, 0, none⟩) (s.ns.length + 1) c2)).cell? ⟨bp, 6, none⟩ = some (.int .i64 (s.many : Nat)) ∧ (w2.setCell ⟨bp, 5, none⟩ (.slice (some ⟨g2, 0, none⟩) (s.ns.length + 1) c2)).frozen? ⟨bp, 6, none⟩ = false) ∧
    ((w2.setCell ⟨bp, 5, none⟩ (.slice (some ⟨g2, 0, none⟩) (s.ns.length + 1) c2)).setCell ⟨bp, 6, none⟩ (.int .i64 ((s.many : Nat) + 1 : Int))).cell? ⟨bp, 6, none⟩ = some (.int .i64 ((s.many : Nat) + 1 : Int)) ∧
    BM X w bp fl (s.put x) (some ⟨g2, 0, none⟩) c2 g lc ((w2.setCell ⟨bp, 5, none⟩ (.slice (some ⟨g2, 0, none⟩) (s.ns.length + 1) c2)).setCell ⟨bp, 6, none⟩ (.int .i64 ((s.many : Nat) + 1 : Int))) := by
  have hrow : ∀ k, (Value.slice no s.ns.length nc).ownBlock = some k → k ≠ bp ∧ k ≠ g := by
    intro k hk
    obtain ⟨_, _, cur, hc⟩ := own_block h.nrow hk
    refine ⟨?_, ?_⟩
    · rintro rfl
      have := h.cl
      unfold Cl at this
      rw [hc] at this
      cases this
    · rintro rfl
      obtain ⟨_, _, cur', hc'⟩ := own_block h.lrow (g := k) rfl
      rw [hc] at hc'
      cases hc'
  have hbp : w2.heap[bp]? = V.heap[bp]? := hg.block bp h.cl.lt fun e => (hrow bp e.symm).1 rfl
  have hgl := own_block h.lrow (g := g) rfl
  have hgg : w2.heap[g]? = V.heap[g]? := hg.block g hgl.2.1 fun e => (hrow g e.symm).2 rfl
  have k2 : Cl w2 bp 80 (bC fl s (.slice no s.ns.length nc) (.slice (some ⟨g, 0, none⟩) s.lv.length lc)) := by unfold Cl; rw [hbp]; exact h.cl
  have k3 := k2.set 5 (.slice (some ⟨g2, 0, none⟩) (s.ns.length + 1) c2)
  have k4 := k3.set 6 (.int .i64 ((s.many : Nat) + 1 : Int))
  have hg2 := own_block hown (g := g2) rfl
  have hg2b : g2 ≠ bp := by
    rintro rfl
    obtain ⟨_, _, cur, hc⟩ := hg2
    unfold Cl at k2
    rw [hc] at k2
    cases k2
  have hgb : g ≠ bp := by
    rintro rfl
    obtain ⟨_, _, cur, hc⟩ := hgl
    have := h.cl
    unfold Cl at this
    rw [hc] at this
    cases this
  have hsame : ∀ b, b ≠ bp → ((w2.setCell ⟨bp, 5, none⟩ (.slice (some ⟨g2, 0, none⟩) (s.ns.length + 1) c2)).setCell ⟨bp, 6, none⟩ (.int .i64 ((s.many : Nat) + 1 : Int))).heap[b]? = w2.heap[b]? := fun b hb => by
    rw [Below.heap_setCell _ _ _ _ hb, Below.heap_setCell _ _ _ _ hb]
  have hlen : (s.put x).ns = s.ns ++ [x] := by unfold Bs.put; simp [hm]
  have hlen' : (s.put x).ns.length = s.ns.length + 1 := by rw [hlen]; simp
  have hB2 : Below w.heap.size w w2 := h.bel.grown hg h.bel.size fun q hq => (own_block h.nrow hq).1
  refine ⟨⟨k2.cell 5 rfl, k2.frozen 5⟩, ⟨k3.cell 6 rfl, k3.frozen 6⟩, k4.cell 6 rfl, ?_⟩
  refine ⟨(hB2.setCell (p := ⟨bp, 5, none⟩) h.lo _).setCell (p := ⟨bp, 6, none⟩) h.lo _, h.lo, ?_, ?_, ?_, ?_, ?_, h.lx, ?_⟩
  · rw [hlen']
    exact k4
  · rw [hlen']
    have e : ndsL (s.put x).ns = ndsL s.ns ++ ndL x := by rw [hlen]; simp [ndsL]
    rw [e]
    exact own_at hown fun k hk => by cases hk; exact hsame g2 hg2b
  · exact own_at h.lrow fun k hk => by cases hk; rw [hsame g hgb]; exact hgg
  · rw [hlen']
    have := h.ln
    show _ = min (s.many + 1) 2048
    omega
  · show s.many + 1 ≤ _
    omega
  · have hk1 : Kp V w2 := Kp.grown hg fun b hb => by
      obtain ⟨_, _, cur, hc⟩ := own_block h.nrow hb
      exact ⟨cur, 44, (0, 0), hc, .inr (.inl rfl)⟩
    exact ((h.kp.trans hk1).trans (Kp.set k2 (.inl rfl) _ _)).trans (Kp.set k3 (.inl rfl) _ _)
set_option maxRecDepth 10000 in
set_option maxHeartbeats 4000000 in
theorem put_low {X w W : World} {bp : Nat} {fl : Fg} {s : Bs} {no : Option Addr} {nc g lc : Nat} (h : BM X w bp fl s no nc g lc W) (hm : s.many < 2048) (x : Nd) :
    Calls Try.prog 67 #[bP bp, ndV x] W fun e W' => e = .returned (.int .i64 (s.many : Nat)) ∧ ∃ no' nc', BM X w bp fl (s.put x) no' nc' g lc W' := by
  have h1 := h.below (bel1 W (.cells #[.int .i64 x.k, .int .u64 x.c0, .int .u64 x.c1, .int .u64 x.c2, .int .u64 x.c3, .int .i64 x.a, .int .i64 x.b, .int .i64 x.l, .int .i64 x.m, .bool x.z] 44))
  have kb := Cl.new W 44 [.int .i64 x.k, .int .u64 x.c0, .int .u64 x.c1, .int .u64 x.c2, .int .u64 x.c3, .int .i64 x.a, .int .i64 x.b, .int .i64 x.l, .int .i64 x.m, .bool x.z]
  obtain ⟨_, c5, c6, _⟩ := h1.cells
  have hmi : ((s.many : Nat) : Int) < 2048 := by omega
  have hnl := h1.ln
  have hwm : IntKind.i64.wrap ((s.many : Int) + 1) = (s.many : Int) + 1 := by rw [IntKind.wrap_i64]; omega
  have hwm2 : IntKind.i64.wrap ((s.many : Int) + 1 - 1) = (s.many : Int) := by rw [IntKind.wrap_i64]; omega
  obtain ⟨i0, hi, hz0, hz1, hz2⟩ := info_parts b_node
  unfold ndV
  go_enter Try.func67, Try.ntmps67
  go_wp2_with fail
  generalize hV : W.alloc (.cells #[.int .i64 x.k, .int .u64 x.c0, .int .u64 x.c1, .int .u64 x.c2, .int .u64 x.c3, .int .i64 x.a, .int .i64 x.b, .int .i64 x.l, .int .i64 x.m, .bool x.z] 44) = V at *
  clear hV c5 c6
  have hD := h1.below (Below.refl V.heap.size V).drew
  have kD := kb.drew
  have hDA := hD.below (bel1 V.drew (.cells #[.int .i64 x.k, .int .u64 x.c0, .int .u64 x.c1, .int .u64 x.c2, .int .u64 x.c3, .int .i64 x.a, .int .i64 x.b, .int .i64 x.l, .int .i64 x.m, .bool x.z] 44))
  have kDA := kD.alloc (.cells #[.int .i64 x.k, .int .u64 x.c0, .int .u64 x.c1, .int .u64 x.c2, .int .u64 x.c3, .int .i64 x.a, .int .i64 x.b, .int .i64 x.l, .int .i64 x.m, .bool x.z] 44)
  obtain ⟨_, c5, _, _⟩ := hD.cells
  obtain ⟨_, c5', _, _⟩ := hDA.cells
  have c5'' : (V.alloc (.cells #[.int .i64 x.k, .int .u64 x.c0, .int .u64 x.c1, .int .u64 x.c2, .int .u64 x.c3, .int .i64 x.a, .int .i64 x.b, .int .i64 x.l, .int .i64 x.m, .bool x.z] 44)).cell? ⟨bp, 5, none⟩ = some (.slice no s.ns.length nc) := (h1.below (bel1 V (.cells #[.int .i64 x.k, .int .u64 x.c0, .int .u64 x.c1, .int .u64 x.c2, .int .u64 x.c3, .int .i64 x.a, .int .i64 x.b, .int .i64 x.l, .int .i64 x.m, .bool x.z] 44))).cells.2.1
  have x0 := kD.cell 0 rfl
  have x1 := kD.cell 1 rfl
  have x2 := kD.cell 2 rfl
  have x3 := kD.cell 3 rfl
  have x4 := kD.cell 4 rfl
  have x5 := kD.cell 5 rfl
  have x6 := kD.cell 6 rfl
  have x7 := kD.cell 7 rfl
  have x8 := kD.cell 8 rfl
  have x9 := kD.cell 9 rfl
  have hown0 := hDA.nrow
  have hsb := hDA.bel.size
  have HG : Hid (∀ w2 g2 c2, w2.ownsRow w.heap.size 44 10 (.slice (some ⟨g2, 0, none⟩) (s.ns.length + 1) c2) (s.ns.length + 1) (ndsL s.ns ++ ndL x) → (V.drew.alloc (.cells #[.int .i64 x.k, .int .u64 x.c0, .int .u64 x.c1, .int .u64 x.c2, .int .u64 x.c3, .int .i64 x.a, .int .i64 x.b, .int .i64 x.l, .int .i64 x.m, .bool x.z] 44)).grownBy w2 (Value.slice no s.ns.length nc).ownBlock → _) := fun w2 g2 c2 ho hg => hDA.grown x hm ho hg
  have hnc := new_cells V.drew 44 [.int .i64 x.k, .int .u64 x.c0, .int .u64 x.c1, .int .u64 x.c2, .int .u64 x.c3, .int .i64 x.a, .int .i64 x.b, .int .i64 x.l, .int .i64 x.m, .bool x.z]
  have h1c := ndL_one x
  clear h h1 hD kb kD kDA hDA
  have hl20 : s.ns.length ≤ 2048 := by omega
  clear hnl
  go_region_law
    (refine step_append_lies _ (by rfl) _ _ 26 (by rfl) w.heap.size 44 i0 _ 10 80 Try.underlying26 hi hz0 hz1 hz2 (by rfl) (by decide) (.slice no s.ns.length nc) s.ns.length (ndsL s.ns) (by rfl) hown0 _ 1 1 (ndL x) (by rfl) (by rfl) hnc h1c (by decide) (by unfold maxLen; omega) (by omega) hsb _ rfl ?_; intro g9 c9 w4 hown hgr _ _; obtain ⟨⟨d5, e5⟩, ⟨d6, e6⟩, d7, hB⟩ := HG.out w4 g9 c9 hown hgr; have HB : Hid _ := hB; clear hB hown hgr)
  all_goals
    go_wp2_with fail
    go_ret
    exact ⟨rfl, _, _, HB.out⟩
end Go.Proofs.Ytlmmiicibjfcdaa
namespace Go.Proofs.Ytlmmiicibjfcdaa
open Go.RowKit
set_option maxRecDepth 10000 in
set_option maxHeartbeats 2000000 in
theorem put_high {X w W : World} {bp : Nat} {fl : Fg} {s : Bs} {no : Option Addr} {nc g lc : Nat} (h : BM X w bp fl s no nc g lc W) (hm : ¬ s.many < 2048) (hmx : s.many < 100000) (x : Nd) :
    Calls Try.prog 67 #[bP bp, ndV x] W fun e W' => e = .returned (.int .i64 (s.many : Nat)) ∧ ∃ no' nc', BM X w bp fl (s.put x) no' nc' g lc W' := by
  have h1 := h.below (bel1 W (.cells #[.int .i64 x.k, .int .u64 x.c0, .int .u64 x.c1, .int .u64 x.c2, .int .u64 x.c3, .int .i64 x.a, .int .i64 x.b, .int .i64 x.l, .int .i64 x.m, .bool x.z] 44))
  obtain ⟨_, _, c6, _⟩ := h1.cells
  have f6 := h1.cl.frozen 6
  have hmi : ¬ ((s.many : Nat) : Int) < 2048 := by omega
  have hwm : IntKind.i64.wrap ((s.many : Int) + 1) = (s.many : Int) + 1 := by rw [IntKind.wrap_i64]; omega
  have hwm2 : IntKind.i64.wrap ((s.many : Int) + 1 - 1) = (s.many : Int) := by rw [IntKind.wrap_i64]; omega
  have k4 := h1.cl.set 6 (.int .i64 ((s.many : Nat) + 1 : Int))
  have d6 := k4.cell 6 rfl
  have HB : Hid (BM X w bp fl (s.put x) no nc g lc ((W.alloc (.cells #[.int .i64 x.k, .int .u64 x.c0, .int .u64 x.c1, .int .u64 x.c2, .int .u64 x.c3, .int .i64 x.a, .int .i64 x.b, .int .i64 x.l, .int .i64 x.m, .bool x.z] 44)).setCell ⟨bp, 6, none⟩ (.int .i64 ((s.many : Nat) + 1 : Int)))) := by
    have hns : (s.put x).ns = s.ns := by unfold Bs.put; simp [hm]
    have hrow : ∀ e xs sz v n, (W.alloc (.cells #[.int .i64 x.k, .int .u64 x.c0, .int .u64 x.c1, .int .u64 x.c2, .int .u64 x.c3, .int .i64 x.a, .int .i64 x.b, .int .i64 x.l, .int .i64 x.m, .bool x.z] 44)).ownsRow w.heap.size e sz v n xs → e ≠ 80 → ((W.alloc (.cells #[.int .i64 x.k, .int .u64 x.c0, .int .u64 x.c1, .int .u64 x.c2, .int .u64 x.c3, .int .i64 x.a, .int .i64 x.b, .int .i64 x.l, .int .i64 x.m, .bool x.z] 44)).setCell ⟨bp, 6, none⟩ (.int .i64 ((s.many : Nat) + 1 : Int))).ownsRow w.heap.size e sz v n xs := by
      intro e xs sz v n ho he
      refine own_at ho fun k hk => Below.heap_setCell _ _ _ _ ?_
      rintro rfl
      obtain ⟨_, _, cur, hc⟩ := own_block ho hk
      have := h1.cl
      unfold Cl at this
      rw [hc] at this
      cases this
      exact he rfl
    refine ⟨h1.bel.setCell (p := ⟨bp, 6, none⟩) h1.lo _, h1.lo, ?_, ?_, ?_, ?_, ?_, h1.lx, h1.kp.trans (Kp.set h1.cl (.inl rfl) _ _)⟩
    · rw [hns]; exact k4
    · rw [hns]; exact hrow _ _ _ _ _ h1.nrow (by decide)
    · exact hrow _ _ _ _ _ h1.lrow (by decide)
    · rw [hns]
      have := h.ln
      show _ = min (s.many + 1) 2048
      omega
    · show s.many + 1 ≤ _
      omega
  unfold ndV
  clear h h1 k4
  go_enter Try.func67, Try.ntmps67
  go_wp2_with fail
  go_ret
  exact ⟨rfl, _, _, HB.out⟩
theorem put_any {X w W : World} {bp : Nat} {fl : Fg} {s : Bs} {no : Option Addr} {nc g lc : Nat} (h : BM X w bp fl s no nc g lc W) (hmx : s.many < 100000) (x : Nd) :
    Calls Try.prog 67 #[bP bp, ndV x] W fun e W' => e = .returned (.int .i64 (s.many : Nat)) ∧ ∃ no' nc', BM X w bp fl (s.put x) no' nc' g lc W' := by
  by_cases hm : s.many < 2048
  · exact put_low h hm x
  · exact put_high h hm hmx x
set_option maxRecDepth 10000 in
theorem join_any {X w W : World} {bp : Nat} {fl : Fg} {s : Bs} {no : Option Addr} {nc g lc : Nat} (h : BM X w bp fl s no nc g lc W) (hmx : s.many < 100000) (k ah la : Int) :
    Calls Try.prog 68 #[bP bp, .int .i64 k, .int .i64 ah, .int .i64 la] W fun e W' => e = .returned (.int .i64 (s.joinV ah la)) ∧ ∃ no' nc', BM X w bp fl (s.join k ah la) no' nc' g lc W' := by
  by_cases ha : ah = -1
  · have ha' : (ah == -1) = true := by simpa using ha
    have HB : Hid (BM X w bp fl s no nc g lc W) := h
    unfold Bs.joinV Bs.join
    rw [if_pos ha, if_pos ha]
    clear h ha
    go_enter Try.func68, Try.ntmps68
    go_wp2_with fail
    go_ret
    exact ⟨rfl, _, _, HB.out⟩
  · have ha' : (ah == -1) = false := by simpa using ha
    have HP := put_any h hmx (nd2 k ah la)
    unfold Bs.joinV Bs.join
    rw [if_neg ha, if_neg ha]
    unfold ndV nd2 at HP
    dsimp only at HP
    clear h ha
    go_enter Try.func68, Try.ntmps68
    go_wp2_with fail
    refine HP.mono ?_
    rintro e W' ⟨rfl, no', nc', h2⟩
    have HB : Hid (BM X w bp fl (s.put (nd2 k ah la)) no' nc' g lc W') := h2
    clear h2 HP
    go_wp2_with fail
    go_ret
    exact ⟨rfl, _, _, HB.out⟩
end Go.Proofs.Ytlmmiicibjfcdaa
namespace Go.Proofs.Ytlmmiicibjfcdaa
open Go.RowKit
theorem join_top (s : Bs) (k a b : Int) : (s.join k a b).top = s.top := by unfold Bs.top; rw [join_lv]
theorem put_top (s : Bs) (n : Nd) : (s.put n).top = s.top := rfl
theorem setTop_top (s : Bs) (x : Int × Int × Int) : (s.setTop x).top = x := rfl
theorem setTop_two (s : Bs) (x y : Int × Int × Int) : (s.setTop x).setTop y = s.setTop y := by unfold Bs.setTop; rfl
theorem join_many (s : Bs) (k a b : Int) : (s.join k a b).many ≤ s.many + 1 := by
  unfold Bs.join Bs.put
  split
  · omega
  · exact Nat.le_refl _
/-- Whatever a group's level: a new one behind it. -/
theorem open_grown {X w V w2 : World} {bp : Nat} {fl : Fg} {s : Bs} {no lo : Option Addr} {nc lc : Nat} (hkp : Kp X V) (hbel : Below w.heap.size w V) (hlo : w.heap.size ≤ bp) (hcl : Cl V bp 80 (bC fl s (.slice no s.ns.length nc) (.slice lo s.lv.length lc)))
    (hn : V.ownsRow w.heap.size 44 10 (.slice no s.ns.length nc) s.ns.length (ndsL s.ns)) (hl : V.ownsRow w.heap.size 104 3 (.slice lo s.lv.length lc) s.lv.length (lvC s.lv)) (hln : s.ns.length = min s.many 2048) (hmx : s.many ≤ 100000) (hlx : s.lv.length < 100000) {g2 c2 : Nat}
    (hown : w2.ownsRow w.heap.size 104 3 (.slice (some ⟨g2, 0, none⟩) (s.lv.length + 1) c2) (s.lv.length + 1) (lvC s.lv ++ lvL (-1, -1, -1))) (hg : V.grownBy w2 (Value.slice lo s.lv.length lc).ownBlock) :
    (w2.cell? ⟨bp, 7, none⟩ = some (.slice lo s.lv.length lc) ∧ w2.frozen? ⟨bp, 7, none⟩ = false) ∧ BM X w bp fl s.open_ no nc g2 c2 (w2.setCell ⟨bp, 7, none⟩ (.slice (some ⟨g2, 0, none⟩) (s.lv.length + 1) c2)) := by
  have hrow : ∀ k, (Value.slice lo s.lv.length lc).ownBlock = some k → k ≠ bp ∧ ∀ k', (Value.slice no s.ns.length nc).ownBlock = some k' → k ≠ k' := by
    intro k hk
    obtain ⟨_, _, cur, hc⟩ := own_block hl hk
    refine ⟨?_, fun k' hk' => ?_⟩
    · rintro rfl
      unfold Cl at hcl
      rw [hc] at hcl
      cases hcl
    · rintro rfl
      obtain ⟨_, _, cur', hc'⟩ := own_block hn hk'
      rw [hc] at hc'
      cases hc'
  have hbp : w2.heap[bp]? = V.heap[bp]? := hg.block bp hcl.lt fun e => (hrow bp e.symm).1 rfl
  have k2 : Cl w2 bp 80 (bC fl s (.slice no s.ns.length nc) (.slice lo s.lv.length lc)) := by unfold Cl; rw [hbp]; exact hcl
  have k3 := k2.set 7 (.slice (some ⟨g2, 0, none⟩) (s.lv.length + 1) c2)
  have hg2 := own_block hown (g := g2) rfl
  have hg2b : g2 ≠ bp := by
    rintro rfl
    obtain ⟨_, _, cur, hc⟩ := hg2
    unfold Cl at k2
    rw [hc] at k2
    cases k2
  have hsame : ∀ b, b ≠ bp → (w2.setCell ⟨bp, 7, none⟩ (.slice (some ⟨g2, 0, none⟩) (s.lv.length + 1) c2)).heap[b]? = w2.heap[b]? := fun b hb => Below.heap_setCell _ _ _ _ hb
  have hB2 : Below w.heap.size w w2 := hbel.grown hg hbel.size fun q hq => (own_block hl hq).1
  refine ⟨⟨k2.cell 7 rfl, k2.frozen 7⟩, hB2.setCell (p := ⟨bp, 7, none⟩) hlo _, hlo, k3, ?_, ?_, hln, hmx, by show s.lv.length + 1 ≤ _; omega, ?_⟩
  · refine own_at hn fun k hk => ?_
    have hkb : k ≠ bp := by
      rintro rfl
      obtain ⟨_, _, cur, hc⟩ := own_block hn hk
      unfold Cl at hcl
      rw [hc] at hcl
      cases hcl
    rw [hsame k hkb]
    exact hg.block k (own_block hn hk).2.1 fun e => (hrow k e.symm).2 k hk rfl
  · have e : lvC s.open_.lv = lvC s.lv ++ lvL (-1, -1, -1) := lvC_cons _ _
    rw [e]
    exact own_at hown fun k hk => by cases hk; exact hsame g2 hg2b
  · have hk1 : Kp V w2 := Kp.grown hg fun b hb => by
      obtain ⟨_, _, cur, hc⟩ := own_block hl hb
      exact ⟨cur, 104, (0, 0), hc, .inr (.inr rfl)⟩
    exact (hkp.trans hk1).trans (Kp.set k2 (.inl rfl) _ _)
theorem lvL_one (x : Int × Int × Int) : ∀ u ∈ lvL x, u.oneCell' = true := by
  intro u hu
  simp only [lvL, List.mem_cons, List.not_mem_nil, or_false] at hu
  rcases hu with rfl | rfl | rfl <;> rfl
set_option maxRecDepth 10000 in
set_option maxHeartbeats 2000000 in
theorem open_gen {X w W : World} {bp : Nat} {fl : Fg} {s : Bs} {no lo : Option Addr} {nc lc : Nat} (hkp : Kp X W) (hbel : Below w.heap.size w W) (hlo : w.heap.size ≤ bp) (hcl : Cl W bp 80 (bC fl s (.slice no s.ns.length nc) (.slice lo s.lv.length lc)))
    (hn : W.ownsRow w.heap.size 44 10 (.slice no s.ns.length nc) s.ns.length (ndsL s.ns)) (hl : W.ownsRow w.heap.size 104 3 (.slice lo s.lv.length lc) s.lv.length (lvC s.lv)) (hln : s.ns.length = min s.many 2048) (hmx : s.many ≤ 100000) (hlx : s.lv.length < 100000) :
    Calls Try.prog 43 #[bP bp] W fun e W' => e = .returned (.tuple #[]) ∧ ∃ g lc', BM X w bp fl s.open_ no nc g lc' W' := by
  have hb1 := bel1 W (.cells #[.int .i64 (-1), .int .i64 (-1), .int .i64 (-1)] 104)
  have c7 := hcl.cell 7 rfl
  have hl1 := own_at hl (W' := W.alloc (.cells #[.int .i64 (-1), .int .i64 (-1), .int .i64 (-1)] 104)) fun _ hg => hb1.block _ (own_block hl hg).2.1
  have hn1 := own_at hn (W' := W.alloc (.cells #[.int .i64 (-1), .int .i64 (-1), .int .i64 (-1)] 104)) fun _ hg => hb1.block _ (own_block hn hg).2.1
  have hbe1 := hbel.trans (hb1.mono hbel.size)
  obtain ⟨i0, hi, hz0, hz1, hz2⟩ := info_parts b_level
  have HG : Hid (∀ w2 g2 c2, w2.ownsRow w.heap.size 104 3 (.slice (some ⟨g2, 0, none⟩) (s.lv.length + 1) c2) (s.lv.length + 1) (lvC s.lv ++ lvL (-1, -1, -1)) → (W.alloc (.cells #[.int .i64 (-1), .int .i64 (-1), .int .i64 (-1)] 104)).grownBy w2 (Value.slice lo s.lv.length lc).ownBlock → _) := fun w2 g2 c2 ho hg => open_grown (hkp.trans (Kp.below hb1)) hbe1 hlo (hcl.below hb1) hn1 hl1 hln hmx hlx ho hg
  have hnc := new_cells W 104 [.int .i64 (-1), .int .i64 (-1), .int .i64 (-1)]
  have h1c := lvL_one (-1, -1, -1)
  have hsb := hbe1.size
  clear hn hl hcl hn1 hbe1 hb1 hln hmx hbel hlo hkp
  go_enter Try.func43, Try.ntmps43
  go_wp2_with (at_builtin; refine wpList_append_lies _ rfl _ _ 78 rfl w.heap.size 104 i0 _ 3 24 Try.underlying78 hi hz0 hz1 hz2 rfl (by decide) _ _ _ rfl hl1 ⟨W.heap.size, 0, none⟩ 1 1 (lvL (-1, -1, -1)) rfl rfl hnc h1c (by decide) (by unfold maxLen; omega) (by omega) hsb _ rfl ?_; intro g9 c9 w4 hown hgr _ _; obtain ⟨⟨d7, e7⟩, hB⟩ := HG.out w4 g9 c9 hown hgr; have HB : Hid _ := hB; clear hB hown hgr)
  exact bodyPost_end (v := .tuple #[]) (by simp [results, Try.results43, go_sem]) rfl ⟨rfl, _, _, HB.out⟩
theorem bopen_any {X w W : World} {bp : Nat} {fl : Fg} {s : Bs} {no : Option Addr} {nc g lc : Nat} (h : BM X w bp fl s no nc g lc W) (hlx : s.lv.length < 100000) :
    Calls Try.prog 43 #[bP bp] W fun e W' => e = .returned (.tuple #[]) ∧ ∃ g lc', BM X w bp fl s.open_ no nc g lc' W' := open_gen h.kp h.bel h.lo h.cl h.nrow h.lrow h.ln h.mx hlx
set_option maxRecDepth 10000 in
set_option maxHeartbeats 4000000 in
theorem endItem_any {X w W : World} {bp : Nat} {fl : Fg} {s : Bs} {no : Option Addr} {nc g lc : Nat} (h : BM X w bp fl s no nc g lc W) (hl : s.lv ≠ []) (hmx : s.many < 100000) :
    Calls Try.prog 65 #[bP bp] W fun e W' => e = .returned (.tuple #[]) ∧ ∃ no' nc', BM X w bp fl s.endItem no' nc' g lc W' := by
  go_enter Try.func65, Try.ntmps65
  go_wp2_with fail
  refine (top_any h hl).mono ?_
  rintro e W1 ⟨rfl, h1, _⟩
  clear h
  obtain ⟨_, t1, t2, _, hgl, _⟩ := h1.top hl
  have t1' : W1.drew.cell? ⟨g, (s.lv.length - 1) * 3 + 1, none⟩ = some (.int .i64 s.top.2.1) := t1
  have t2' : W1.drew.cell? ⟨g, (s.lv.length - 1) * 3 + 2, none⟩ = some (.int .i64 s.top.2.2) := t2
  have HJ : Hid (Calls Try.prog 68 #[bP bp, .int .i64 3, .int .i64 s.top.2.1, .int .i64 s.top.2.2] W1.drew fun e W' => e = .returned (.int .i64 (s.joinV s.top.2.1 s.top.2.2)) ∧ ∃ no' nc', BM X w bp fl (s.join 3 s.top.2.1 s.top.2.2) no' nc' g lc W') := join_any (h1.below (Below.refl _ _).drew) hmx 3 _ _
  have HF : Hid (∀ W2 no' nc', BM X w bp fl (s.join 3 s.top.2.1 s.top.2.2) no' nc' g lc W2 →
      (W2.cell? ⟨g, (s.lv.length - 1) * 3 + 1, none⟩ = some (.int .i64 s.top.2.1) ∧ W2.frozen? ⟨g, (s.lv.length - 1) * 3 + 1, none⟩ = false) ∧
      (let W3 := W2.setCell ⟨g, (s.lv.length - 1) * 3 + 1, none⟩ (.int .i64 (s.joinV s.top.2.1 s.top.2.2))
       (W3.cell? ⟨g, (s.lv.length - 1) * 3 + 2, none⟩ = some (.int .i64 s.top.2.2) ∧ W3.frozen? ⟨g, (s.lv.length - 1) * 3 + 2, none⟩ = false) ∧
       BM X w bp fl s.endItem no' nc' g lc (W3.setCell ⟨g, (s.lv.length - 1) * 3 + 2, none⟩ (.int .i64 (-1))))) := by
    intro W2 no' nc' h2
    have hl2 : (s.join 3 s.top.2.1 s.top.2.2).lv ≠ [] := by rw [join_lv]; exact hl
    have q := h2.top hl2
    rw [join_top, join_lv] at q
    have h3 := h2.put0 hl2 1 (s.joinV s.top.2.1 s.top.2.2) (s.top.1, s.joinV s.top.2.1 s.top.2.2, s.top.2.2) (by rw [join_top]; rfl) (by omega)
    rw [join_lv] at h3
    have hl3 := setTop_ne (s.join 3 s.top.2.1 s.top.2.2) (s.top.1, s.joinV s.top.2.1 s.top.2.2, s.top.2.2)
    have q3 := h3.top hl3
    have hlen : ((s.join 3 s.top.2.1 s.top.2.2).setTop (s.top.1, s.joinV s.top.2.1 s.top.2.2, s.top.2.2)).lv.length = s.lv.length := by rw [setTop_lv _ _ hl2, join_lv]
    rw [hlen, setTop_top] at q3
    have h4 := h3.put0 hl3 2 (-1) (s.top.1, s.joinV s.top.2.1 s.top.2.2, -1) (by rw [setTop_top]; rfl) (by omega)
    rw [hlen, setTop_two] at h4
    exact ⟨⟨q.2.1, q.2.2.2.1 _⟩, ⟨q3.2.2.1, q3.2.2.2.1 _⟩, h4⟩
  clear h1 t1 t2 hgl hl hmx
  generalize s.joinV s.top.2.1 s.top.2.2 = jv at *
  generalize s.join 3 s.top.2.1 s.top.2.2 = s2 at *
  generalize s.top = tp at *
  generalize (s.lv.length - 1) * 3 = p at *
  go_wp2_with fail
  go_region_law (go_simp; go_at_call 68; refine HJ.out.mono ?_; rintro e W2 ⟨rfl, no', nc', h2⟩; obtain ⟨⟨a1, a2⟩, ⟨a3, a4⟩, h4⟩ := HF.out W2 no' nc' h2; have HB : Hid _ := h4; clear HJ HF h2 h4 t1' t2')
  all_goals
    go_wp2_with fail
    exact bodyPost_end (v := .tuple #[]) (by simp [results, Try.results65, go_sem]) rfl ⟨rfl, _, _, HB.out⟩
end Go.Proofs.Ytlmmiicibjfcdaa
namespace Go.Proofs.Ytlmmiicibjfcdaa
open Go.RowKit
theorem endItem_ne (s : Bs) : s.endItem.lv ≠ [] := setTop_ne _ _
theorem noRow_ne (s : Bs) (h : s.lv ≠ []) : s.noRow.lv ≠ [] := by
  unfold Bs.noRow
  split
  · exact setTop_ne _ _
  · exact h
theorem endItem_many (s : Bs) : s.endItem.many ≤ s.many + 1 := join_many _ _ _ _
theorem noRow_many (s : Bs) : s.noRow.many ≤ s.many + 1 := by
  unfold Bs.noRow
  split
  · exact Nat.le_refl _
  · omega
theorem endAlt_many (s : Bs) : s.endAlt.many ≤ s.many + 1 := join_many _ _ _ _
theorem endSeq_many (s : Bs) : s.endSeq.many ≤ s.many + 3 := by
  unfold Bs.endSeq
  have h1 := endItem_many s
  have h2 := noRow_many s.endItem
  have h3 := endAlt_many s.endItem.noRow
  omega
/-- Two cells of the inmost level are written behind one another. -/
theorem alt_put {X w W2 : World} {bp : Nat} {fl : Fg} {s : Bs} {no : Option Addr} {nc g lc : Nat} (hl : s.lv ≠ []) (h2 : BM X w bp fl (s.join 4 s.top.1 s.top.2.1) no nc g lc W2) :
    (W2.cell? ⟨g, (s.lv.length - 1) * 3, none⟩ = some (.int .i64 s.top.1) ∧ W2.frozen? ⟨g, (s.lv.length - 1) * 3, none⟩ = false) ∧
    (let W3 := W2.setCell ⟨g, (s.lv.length - 1) * 3, none⟩ (.int .i64 (s.joinV s.top.1 s.top.2.1))
     (W3.cell? ⟨g, (s.lv.length - 1) * 3 + 1, none⟩ = some (.int .i64 s.top.2.1) ∧ W3.frozen? ⟨g, (s.lv.length - 1) * 3 + 1, none⟩ = false) ∧
     BM X w bp fl s.endAlt no nc g lc (W3.setCell ⟨g, (s.lv.length - 1) * 3 + 1, none⟩ (.int .i64 (-1)))) := by
  have hl2 : (s.join 4 s.top.1 s.top.2.1).lv ≠ [] := by rw [join_lv]; exact hl
  have q := h2.top hl2
  rw [join_top, join_lv] at q
  have h3 := h2.put0 hl2 0 (s.joinV s.top.1 s.top.2.1) (s.joinV s.top.1 s.top.2.1, s.top.2.1, s.top.2.2) (by rw [join_top]; rfl) (by omega)
  rw [join_lv, Nat.add_zero] at h3
  have hl3 := setTop_ne (s.join 4 s.top.1 s.top.2.1) (s.joinV s.top.1 s.top.2.1, s.top.2.1, s.top.2.2)
  have q3 := h3.top hl3
  have hlen : ((s.join 4 s.top.1 s.top.2.1).setTop (s.joinV s.top.1 s.top.2.1, s.top.2.1, s.top.2.2)).lv.length = s.lv.length := by rw [setTop_lv _ _ hl2, join_lv]
  rw [hlen, setTop_top] at q3
  have h4 := h3.put0 hl3 1 (-1) (s.joinV s.top.1 s.top.2.1, -1, s.top.2.2) (by rw [setTop_top]; rfl) (by omega)
  rw [hlen, setTop_two] at h4
  exact ⟨⟨q.1, q.2.2.2.1 _⟩, ⟨q3.2.1, q3.2.2.2.1 _⟩, h4⟩
theorem row_put {X w W2 : World} {bp : Nat} {fl : Fg} {s : Bs} {no : Option Addr} {nc g lc : Nat} (hl : s.lv ≠ []) (hr : s.top.2.1 = -1) (h2 : BM X w bp fl (s.put ndE) no nc g lc W2) :
    (W2.cell? ⟨g, (s.lv.length - 1) * 3 + 1, none⟩ = some (.int .i64 (-1)) ∧ W2.frozen? ⟨g, (s.lv.length - 1) * 3 + 1, none⟩ = false) ∧
     BM X w bp fl s.noRow no nc g lc (W2.setCell ⟨g, (s.lv.length - 1) * 3 + 1, none⟩ (.int .i64 (s.many : Nat))) := by
  have q := h2.top (s := s.put ndE) hl
  rw [put_top, put_lv, hr] at q
  have h3 := h2.put0 (s := s.put ndE) hl 1 (s.many : Nat) (s.top.1, (s.many : Nat), s.top.2.2) (by rw [put_top]; rfl) (by omega)
  rw [put_lv] at h3
  refine ⟨⟨q.2.1, q.2.2.2.1 _⟩, ?_⟩
  unfold Bs.noRow
  rw [if_pos hr]
  exact h3
set_option maxRecDepth 10000 in
set_option maxHeartbeats 4000000 in
theorem endSeq_core {X w W : World} {bp : Nat} {fl : Fg} {s1 : Bs} {g lc : Nat} (HE : Calls Try.prog 65 #[bP bp] W fun e W' => e = .returned (.tuple #[]) ∧ ∃ no' nc', BM X w bp fl s1 no' nc' g lc W') (hl1 : s1.lv ≠ []) (hmx : s1.many < 99995) :
    Calls Try.prog 45 #[bP bp] W fun e W' => e = .returned (.tuple #[]) ∧ ∃ no' nc', BM X w bp fl s1.noRow.endAlt no' nc' g lc W' := by
  have hm2 := noRow_many s1
  have hl2 := noRow_ne _ hl1
  have hlen2 := noRow_lv _ hl1
  go_enter Try.func45, Try.ntmps45
  go_wp2_with fail
  refine HE.mono ?_
  rintro e W1 ⟨rfl, no1, nc1, h1⟩
  clear HE
  go_wp2_with fail
  refine (top_any h1 hl1).mono ?_
  rintro e W2 ⟨rfl, h2, _⟩
  clear h1
  obtain ⟨_, t1, _, _, _, _⟩ := h2.top hl1
  have HT : Hid (∀ W3 no3 nc3, BM X w bp fl s1.noRow no3 nc3 g lc W3 → 
      (W3.cell? ⟨g, (s1.lv.length - 1) * 3, none⟩ = some (.int .i64 s1.noRow.top.1) ∧ W3.cell? ⟨g, (s1.lv.length - 1) * 3 + 1, none⟩ = some (.int .i64 s1.noRow.top.2.1)) ∧
      (W3.drew.cell? ⟨g, (s1.lv.length - 1) * 3, none⟩ = some (.int .i64 s1.noRow.top.1) ∧ W3.drew.cell? ⟨g, (s1.lv.length - 1) * 3 + 1, none⟩ = some (.int .i64 s1.noRow.top.2.1)) ∧
      Calls Try.prog 68 #[bP bp, .int .i64 4, .int .i64 s1.noRow.top.1, .int .i64 s1.noRow.top.2.1] W3.drew fun e W' => e = .returned (.int .i64 (s1.noRow.joinV s1.noRow.top.1 s1.noRow.top.2.1)) ∧ ∃ no' nc', BM X w bp fl (s1.noRow.join 4 s1.noRow.top.1 s1.noRow.top.2.1) no' nc' g lc W') := by
    intro W3 no3 nc3 h3
    have q := h3.top hl2
    rw [hlen2] at q
    exact ⟨⟨q.1, q.2.1⟩, ⟨q.1, q.2.1⟩, join_any (h3.below (Below.refl _ _).drew) (by omega) 4 _ _⟩
  have HF := fun W2 no' nc' h => alt_put (X := X) (w := w) (W2 := W2) (bp := bp) (fl := fl) (s := s1.noRow) (no := no') (nc := nc') (g := g) (lc := lc) hl2 h
  rw [hlen2] at HF
  have HF' : Hid (∀ W2 no' nc', BM X w bp fl (s1.noRow.join 4 s1.noRow.top.1 s1.noRow.top.2.1) no' nc' g lc W2 → _) := HF
  clear HF
  cases hr : (s1.top.2.1 == -1) with
  | true =>
    have hr' : s1.top.2.1 = -1 := by simpa using hr
    have HP := put_any h2 (by omega) ndE
    have HR : Hid (∀ W3 no3 nc3, BM X w bp fl (s1.put ndE) no3 nc3 g lc W3 → _) := fun W3 no3 nc3 h3 => row_put hl1 hr' h3
    rw [hr'] at t1
    clear h2 hm2 hl2 hlen2 hmx hr hr'
    generalize s1.noRow.joinV s1.noRow.top.1 s1.noRow.top.2.1 = jv at *
    generalize s1.noRow.join 4 s1.noRow.top.1 s1.noRow.top.2.1 = s3 at *
    generalize s1.noRow.top = tp at *
    generalize (s1.lv.length - 1) * 3 = p at *
    unfold ndV ndE at HP
    dsimp only at HP
    go_wp2_with fail
    refine HP.mono ?_
    rintro e W3 ⟨rfl, no3, nc3, h3⟩
    obtain ⟨⟨u1, u2⟩, h4⟩ := HR.out W3 no3 nc3 h3
    obtain ⟨⟨v1, v2⟩, ⟨x1, x2⟩, HJ⟩ := HT.out _ _ _ h4
    clear HP HR h3 h4 HT t1
    go_wp2_with fail
    go_region_law (go_simp; go_at_call 68; refine HJ.mono ?_; rintro e W4 ⟨rfl, no', nc', h2⟩; obtain ⟨⟨a1, a2⟩, ⟨a3, a4⟩, h4⟩ := HF'.out W4 no' nc' h2; have HB : Hid _ := h4; clear HJ HF' h2 h4 v1 v2 x1 x2 u1 u2)
    all_goals
      go_wp2_with fail
      exact bodyPost_end (v := .tuple #[]) (by simp [results, Try.results45, go_sem]) rfl ⟨rfl, _, _, HB.out⟩
  | false =>
    have hr' : ¬ s1.top.2.1 = -1 := by simpa using hr
    have hn : s1.noRow = s1 := by unfold Bs.noRow; rw [if_neg hr']
    have h2' : BM X w bp fl s1.noRow no1 nc1 g lc W2 := by rw [hn]; exact h2
    obtain ⟨⟨v1, v2⟩, ⟨x1, x2⟩, HJ⟩ := HT.out _ _ _ h2'
    have hr2 : (s1.noRow.top.2.1 == -1) = false := by rw [hn]; exact hr
    clear h2 h2' hm2 hl2 hlen2 hmx hr' HT t1 hn hr
    generalize s1.noRow.joinV s1.noRow.top.1 s1.noRow.top.2.1 = jv at *
    generalize s1.noRow.join 4 s1.noRow.top.1 s1.noRow.top.2.1 = s3 at *
    generalize s1.noRow.top = tp at *
    generalize (s1.lv.length - 1) * 3 = p at *
    go_wp2_with fail
    go_region_law (go_simp; go_at_call 68; refine HJ.mono ?_; rintro e W4 ⟨rfl, no', nc', h2⟩; obtain ⟨⟨a1, a2⟩, ⟨a3, a4⟩, h4⟩ := HF'.out W4 no' nc' h2; have HB : Hid _ := h4; clear HJ HF' h2 h4 v1 v2 x1 x2)
    all_goals
      go_wp2_with fail
      exact bodyPost_end (v := .tuple #[]) (by simp [results, Try.results45, go_sem]) rfl ⟨rfl, _, _, HB.out⟩
theorem endSeq_any {X w W : World} {bp : Nat} {fl : Fg} {s : Bs} {no : Option Addr} {nc g lc : Nat} (h : BM X w bp fl s no nc g lc W) (hl : s.lv ≠ []) (hmx : s.many < 99990) :
    Calls Try.prog 45 #[bP bp] W fun e W' => e = .returned (.tuple #[]) ∧ ∃ no' nc', BM X w bp fl s.endSeq no' nc' g lc W' := by
  have hm1 := endItem_many s
  exact endSeq_core (endItem_any h hl (by omega)) (endItem_ne s) (by omega)
end Go.Proofs.Ytlmmiicibjfcdaa
