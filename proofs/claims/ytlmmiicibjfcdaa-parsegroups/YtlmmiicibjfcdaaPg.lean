/- parse: the builder's take: the walk. -/
import Derived.Test.YtlmmiicibjfcdaaGPcPdPePf
import Derived.Test.YtlmmiicibjfcdaaPm
namespace Go.Proofs.Ytlmmiicibjfcdaa
open Go.RowKit
theorem slice_lv (ao : Option Addr) (n cap x : Nat) (hx : x ≤ cap) (w : World) : (Instr.slice 78 (.slice ao n cap) none (some (.int .i64 (x : Nat))) none).run Try.prog w = .ok (.slice ao x cap) w := by
  have hxc : (x : Int) ≤ (cap : Int) := by omega
  by_cases h : cap = 0
  · subst h
    obtain rfl : x = 0 := by omega
    simp [go_sem, Try.underlying78]
  · simp [go_sem, Try.underlying78, hxc, h]
/-- What a call of the builder answers: nothing; the builder has come so far. -/
def RetBM (X w : World) (bp : Nat) (fl : Fg) (s : Bs) (e : Ending) (W' : World) : Prop := e = .returned (.tuple #[]) ∧ ∃ no nc g lc, BM X w bp fl s no nc g lc W'
section
variable (b a0 a1 a2 a3 : Nat) (nt : Bool) (l m : Int) (lz : Bool) (t : Int)
variable {X w W : World} {bp : Nat} {fl : Fg} {s : Bs} {no : Option Addr} {nc g lc : Nat}
theorem endItem_len (hl : s.lv ≠ []) : s.endItem.lv.length = s.lv.length := endItem_lv s hl
set_option maxRecDepth 10000 in
set_option maxHeartbeats 1000000 in
theorem take_4 (h : BM X w bp fl s no nc g lc W) (hl : s.lv ≠ []) (hmx : s.many < 99990) (hlx : s.lv.length < 100000) : Calls Try.prog 44 #[bP bp, tokI 4 b a0 a1 a2 a3 nt l m lz t] W (RetBM X w bp fl s.endItem.open_) := by
  have h1 := h.below (bel1 W (.cells #[.int .i64 4, .int .u8 (b : Nat), .int .u64 (a0 : Nat), .int .u64 (a1 : Nat), .int .u64 (a2 : Nat), .int .u64 (a3 : Nat), .bool nt, .int .i64 l, .int .i64 m, .bool lz, .int .i64 t] 42))
  have HE := endItem_any h1 hl (by omega)
  have hlen := endItem_lv s hl
  unfold tokI
  clear h h1
  go_enter Try.func44, Try.ntmps44
  go_wp2_with fail
  refine HE.mono ?_
  rintro e W1 ⟨rfl, no1, nc1, h2⟩
  have HO := bopen_any h2 (by omega)
  clear HE h2
  go_wp2_with fail
  refine HO.mono ?_
  rintro e W2 ⟨rfl, g2, lc2, h3⟩
  have HB : Hid (BM X w bp fl s.endItem.open_ no1 nc1 g2 lc2 W2) := h3
  clear HO h3
  go_wp2_with fail
  exact bodyPost_end (v := .tuple #[]) (by simp [results, Try.results44, go_sem]) rfl ⟨rfl, _, _, _, _, HB.out⟩
set_option maxRecDepth 10000 in
set_option maxHeartbeats 1000000 in
theorem take_6 (h : BM X w bp fl s no nc g lc W) (hl : s.lv ≠ []) (hmx : s.many < 99990) : Calls Try.prog 44 #[bP bp, tokI 6 b a0 a1 a2 a3 nt l m lz t] W (RetBM X w bp fl s.endSeq) := by
  have h1 := h.below (bel1 W (.cells #[.int .i64 6, .int .u8 (b : Nat), .int .u64 (a0 : Nat), .int .u64 (a1 : Nat), .int .u64 (a2 : Nat), .int .u64 (a3 : Nat), .bool nt, .int .i64 l, .int .i64 m, .bool lz, .int .i64 t] 42))
  have HE := endSeq_any h1 hl hmx
  unfold tokI
  clear h h1
  go_enter Try.func44, Try.ntmps44
  go_wp2_with fail
  refine HE.mono ?_
  rintro e W1 ⟨rfl, no1, nc1, h2⟩
  have HB : Hid (BM X w bp fl s.endSeq no1 nc1 g lc W1) := h2
  clear HE h2
  go_wp2_with fail
  exact bodyPost_end (v := .tuple #[]) (by simp [results, Try.results44, go_sem]) rfl ⟨rfl, _, _, _, _, HB.out⟩
/-- The inmost level is left. -/
theorem BM.popped (h : BM X w bp fl s no nc g lc W) (hl : 2 ≤ s.lv.length) : BM X w bp fl s.pop no nc g lc (W.setCell ⟨bp, 7, none⟩ (.slice (some ⟨g, 0, none⟩) (s.lv.length - 1) lc)) := by
  have hlen : s.pop.lv.length = s.lv.length - 1 := by show s.lv.tail.length = _; simp
  have k4 := h.cl.set 7 (.slice (some ⟨g, 0, none⟩) (s.lv.length - 1) lc)
  have hrow : ∀ e xs sz v n, W.ownsRow w.heap.size e sz v n xs → e ≠ 80 → (W.setCell ⟨bp, 7, none⟩ (.slice (some ⟨g, 0, none⟩) (s.lv.length - 1) lc)).ownsRow w.heap.size e sz v n xs := by
    intro e xs sz v n ho he
    refine own_at ho fun k hk => Below.heap_setCell _ _ _ _ ?_
    rintro rfl
    obtain ⟨_, _, cur, hc⟩ := own_block ho hk
    have := h.cl
    unfold Cl at this
    rw [hc] at this
    cases this
    exact he rfl
  refine ⟨h.bel.setCell (p := ⟨bp, 7, none⟩) h.lo _, h.lo, ?_, hrow _ _ _ _ _ h.nrow (by decide), ?_, h.ln, h.mx, by have := h.lx; omega, h.kp.trans (Kp.set h.cl (.inl rfl) _ _)⟩
  · rw [hlen]; exact k4
  · rw [hlen]
    refine hrow _ _ _ _ _ ?_ (by decide)
    have hr := h.lrow
    cases hs : s.lv with
    | nil => rw [hs] at hl; simp at hl
    | cons x r =>
      have e1 : s.pop.lv = r := by show s.lv.tail = r; rw [hs]; rfl
      rw [hs, lvC_cons] at hr
      rw [e1]
      exact ownsRow_pop (lvC_len r) hr
set_option maxRecDepth 10000 in
set_option maxHeartbeats 2000000 in
theorem take_5 (h : BM X w bp fl s no nc g lc W) (hl : 2 ≤ s.lv.length) (hmx : s.many < 99990) : Calls Try.prog 44 #[bP bp, tokI 5 b a0 a1 a2 a3 nt l m lz t] W (RetBM X w bp fl (s.endSeq.pop.setItem s.endSeq.top.1)) := by
  have hl0 : s.lv ≠ [] := by rw [ne_len]; omega
  have h1 := h.below (bel1 W (.cells #[.int .i64 5, .int .u8 (b : Nat), .int .u64 (a0 : Nat), .int .u64 (a1 : Nat), .int .u64 (a2 : Nat), .int .u64 (a3 : Nat), .bool nt, .int .i64 l, .int .i64 m, .bool lz, .int .i64 t] 42))
  have HE := endSeq_any h1 hl0 hmx
  have hlen := endSeq_lv s hl0
  unfold tokI
  clear h h1
  go_enter Try.func44, Try.ntmps44
  go_wp2_with fail
  refine HE.mono ?_
  rintro e W1 ⟨rfl, no1, nc1, h2⟩
  have hl2 : s.endSeq.lv ≠ [] := by rw [ne_len]; omega
  have HT := top_any h2 hl2
  clear HE h2
  go_wp2_with fail
  refine HT.mono ?_
  rintro e W2 ⟨rfl, h3, _⟩
  obtain ⟨t0, _, _, _, _, _⟩ := h3.top hl2
  have hlp : s.endSeq.pop.lv.length = s.endSeq.lv.length - 1 := by show s.endSeq.lv.tail.length = _; simp
  have hl4 : s.endSeq.pop.lv ≠ [] := by rw [ne_len]; omega
  have h3d := h3.below (Below.refl _ _).drew
  obtain ⟨_, _, _, c7⟩ := h3.cells
  have d7 : W2.drew.cell? ⟨bp, 7, none⟩ = some (.slice (some ⟨g, 0, none⟩) s.endSeq.lv.length lc) := c7
  have f7 : W2.drew.frozen? ⟨bp, 7, none⟩ = false := h3d.cl.frozen 7
  have h4 := h3d.popped (by omega)
  have HT2 := top_any h4 hl4
  have hlx := h3.lx
  have hlrow := own_block h3.lrow (g := g) rfl
  have hcap : s.endSeq.lv.length ≤ lc := by
    rcases h3.lrow.2 with ⟨hv, _⟩ | ⟨g', cap', cur, hv, _, _, hn, _⟩
    · cases hv
    · cases hv; exact hn
  have HF : Hid (∀ W3, BM X w bp fl s.endSeq.pop no1 nc1 g lc W3 → (W3.cell? ⟨g, (s.endSeq.pop.lv.length - 1) * 3 + 2, none⟩ = some (.int .i64 s.endSeq.pop.top.2.2) ∧ W3.frozen? ⟨g, (s.endSeq.pop.lv.length - 1) * 3 + 2, none⟩ = false) ∧ BM X w bp fl (s.endSeq.pop.setItem s.endSeq.top.1) no1 nc1 g lc (W3.setCell ⟨g, (s.endSeq.pop.lv.length - 1) * 3 + 2, none⟩ (.int .i64 s.endSeq.top.1))) := by
    intro W3 h5
    have q := h5.top hl4
    exact ⟨⟨q.2.2.1, q.2.2.2.1 _⟩, h5.put0 hl4 2 _ _ rfl (by omega)⟩
  generalize s.endSeq.top.1 = tb at *
  generalize s.endSeq.pop.top.2.2 = tz at *
  generalize (s.endSeq.pop.lv.length - 1) * 3 = p2 at *
  generalize (s.endSeq.lv.length - 1) * 3 = p1 at *
  obtain ⟨Q, hQ⟩ : ∃ Q, s.endSeq.lv.length = Q := ⟨_, rfl⟩
  obtain ⟨q, hq⟩ : ∃ q, Q - 1 = q := ⟨_, rfl⟩
  rw [hQ] at d7 HT2 hcap hlx
  rw [hq] at HT2
  have wq : IntKind.i64.wrap ((Q : Int) - 1) = (q : Nat) := by rw [IntKind.wrap_i64]; omega
  have hsl := fun W => slice_lv (some ⟨g, 0, none⟩) Q lc q (by omega) W
  clear HT h3 h3d h4 hl hl0 hl2 hl4 hlp hlen hmx hlrow c7 hq hQ
  go_wp2_with fail
  go_region_law (fail)
  all_goals
    go_wp2_with fail
    refine HT2.mono ?_
    rintro e W3 ⟨rfl, h5, _⟩
    obtain ⟨⟨x1, x2⟩, h6⟩ := HF.out W3 h5
    have HB : Hid _ := h6
    clear HT2 HF h5 h6
    go_wp2_with fail
    exact bodyPost_end (v := .tuple #[]) (by simp [results, Try.results44, go_sem]) rfl ⟨rfl, _, _, _, _, HB.out⟩
end
end Go.Proofs.Ytlmmiicibjfcdaa
