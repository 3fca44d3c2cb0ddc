/- parse: the builder's take: the walk. parse: the builder's take of a repeat: the walk. parse: the builder's take of a leaf: the walk. parse: build: the walk. The reference's Of, Not, Fold: the walks. The reference's Leaf: the walk. -/
import Derived.Test.YtlmmiicibjfcdaaQ17
import Derived.Test.YtlmmiicibjfcdaaQ15
import Derived.Test.YtlmmiicibjfcdaaQ16
import Derived.Test.YtlmmiicibjfcdaaQ01
import Derived.Test.YtlmmiicibjfcdaaQ14
import Derived.Test.YtlmmiicibjfcdaaQ07
namespace Go.Proofs.Ytlmmiicibjfcdaa
open Go.RowKit
theorem slice_lv (ao : Option Addr) (n cap x : Nat) (hx : x ≤ cap) (w : World) : (Instr.slice 78 (.slice ao n cap) none (some (.int .i64 (x : Nat))) none).run Try.prog w = .ok (.slice ao x cap) w := by
  have hxc : (x : Int) ≤ (cap : Int) := by omega
  by_cases h : cap = 0
  · subst h
    obtain rfl : x = 0 := by omega
    simp [go_sem, Try.underlying78]
  · simp [go_sem, Try.underlying78, hxc, h]
/-- What a call of the builder answers: nothing; the builder has come so far. -/
def RetBM (X w : World) (bp : Nat) (fl : Fg) (s : Bs) (e : Ending) (W' : World) : Prop := e = .returned (.tuple #[]) ∧ ∃ no nc g lc, BM X w bp fl s no nc g lc W'
section
variable (b a0 a1 a2 a3 : Nat) (nt : Bool) (l m : Int) (lz : Bool) (t : Int)
variable {X w W : World} {bp : Nat} {fl : Fg} {s : Bs} {no : Option Addr} {nc g lc : Nat}
set_option maxRecDepth 10000 in
set_option maxHeartbeats 1000000 in
theorem take_4 (h : BM X w bp fl s no nc g lc W) (hl : s.lv ≠ []) (hmx : s.many < 99990) (hlx : s.lv.length < 100000) : Calls Try.prog 44 #[bP bp, tokI 4 b a0 a1 a2 a3 nt l m lz t] W (RetBM X w bp fl s.endItem.open_) := by
  have h1 := h.below (bel1 W (.cells #[.int .i64 4, .int .u8 (b : Nat), .int .u64 (a0 : Nat), .int .u64 (a1 : Nat), .int .u64 (a2 : Nat), .int .u64 (a3 : Nat), .bool nt, .int .i64 l, .int .i64 m, .bool lz, .int .i64 t] 42))
  have HE := endItem_any h1 hl (by omega)
  have hlen := endItem_lv s hl
  unfold tokI
  clear h h1
  go_enter Try.func44, Try.ntmps44
  go_wp2_with fail
  refine HE.mono ?_
  rintro e W1 ⟨rfl, no1, nc1, h2⟩
  have HO := bopen_any h2 (by omega)
  clear HE h2
  go_wp2_with fail
  refine HO.mono ?_
  rintro e W2 ⟨rfl, g2, lc2, h3⟩
  have HB : Hid (BM X w bp fl s.endItem.open_ no1 nc1 g2 lc2 W2) := h3
  clear HO h3
  go_wp2_with fail
  exact bodyPost_end (v := .tuple #[]) (by simp [results, Try.results44, go_sem]) rfl ⟨rfl, _, _, _, _, HB.out⟩
set_option maxRecDepth 10000 in
set_option maxHeartbeats 1000000 in
theorem take_6 (h : BM X w bp fl s no nc g lc W) (hl : s.lv ≠ []) (hmx : s.many < 99990) : Calls Try.prog 44 #[bP bp, tokI 6 b a0 a1 a2 a3 nt l m lz t] W (RetBM X w bp fl s.endSeq) := by
  have h1 := h.below (bel1 W (.cells #[.int .i64 6, .int .u8 (b : Nat), .int .u64 (a0 : Nat), .int .u64 (a1 : Nat), .int .u64 (a2 : Nat), .int .u64 (a3 : Nat), .bool nt, .int .i64 l, .int .i64 m, .bool lz, .int .i64 t] 42))
  have HE := endSeq_any h1 hl hmx
  unfold tokI
  clear h h1
  go_enter Try.func44, Try.ntmps44
  go_wp2_with fail
  refine HE.mono ?_
  rintro e W1 ⟨rfl, no1, nc1, h2⟩
  have HB : Hid (BM X w bp fl s.endSeq no1 nc1 g lc W1) := h2
  clear HE h2
  go_wp2_with fail
  exact bodyPost_end (v := .tuple #[]) (by simp [results, Try.results44, go_sem]) rfl ⟨rfl, _, _, _, _, HB.out⟩
/-- The inmost level is left. -/
theorem BM.popped (h : BM X w bp fl s no nc g lc W) (hl : 2 ≤ s.lv.length) : BM X w bp fl s.pop no nc g lc (W.setCell ⟨bp, 7, none⟩ (.slice (some ⟨g, 0, none⟩) (s.lv.length - 1) lc)) := by
  have hlen : s.pop.lv.length = s.lv.length - 1 := by show s.lv.tail.length = _; simp
  have k4 := h.cl.set 7 (.slice (some ⟨g, 0, none⟩) (s.lv.length - 1) lc)
  have hrow : ∀ e xs sz v n, W.ownsRow w.heap.size e sz v n xs → e ≠ 80 → (W.setCell ⟨bp, 7, none⟩ (.slice (some ⟨g, 0, none⟩) (s.lv.length - 1) lc)).ownsRow w.heap.size e sz v n xs := by
    intro e xs sz v n ho he
    refine own_at ho fun k hk => Below.heap_setCell _ _ _ _ ?_
    rintro rfl
    obtain ⟨_, _, cur, hc⟩ := own_block ho hk
    have := h.cl
    unfold Cl at this
    rw [hc] at this
    cases this
    exact he rfl
  refine ⟨h.bel.setCell (p := ⟨bp, 7, none⟩) h.lo _, h.lo, ?_, hrow _ _ _ _ _ h.nrow (by decide), ?_, h.ln, h.mx, by have := h.lx; omega, h.kp.trans (Kp.set h.cl (.inl rfl) _ _)⟩
  · rw [hlen]; exact k4
  · rw [hlen]
    refine hrow _ _ _ _ _ ?_ (by decide)
    have hr := h.lrow
    cases hs : s.lv with
    | nil => rw [hs] at hl; simp at hl
    | cons x r =>
      have e1 : s.pop.lv = r := by show s.lv.tail = r; rw [hs]; rfl
      rw [hs, lvC_cons] at hr
      rw [e1]
      exact ownsRow_pop (lvC_len r) hr
set_option maxRecDepth 10000 in
set_option maxHeartbeats 2000000 in
theorem take_5 (h : BM X w bp fl s no nc g lc W) (hl : 2 ≤ s.lv.length) (hmx : s.many < 99990) : Calls Try.prog 44 #[bP bp, tokI 5 b a0 a1 a2 a3 nt l m lz t] W (RetBM X w bp fl (s.endSeq.pop.setItem s.endSeq.top.1)) := by
  have hl0 : s.lv ≠ [] := by rw [ne_len]; omega
  have h1 := h.below (bel1 W (.cells #[.int .i64 5, .int .u8 (b : Nat), .int .u64 (a0 : Nat), .int .u64 (a1 : Nat), .int .u64 (a2 : Nat), .int .u64 (a3 : Nat), .bool nt, .int .i64 l, .int .i64 m, .bool lz, .int .i64 t] 42))
  have HE := endSeq_any h1 hl0 hmx
  have hlen := endSeq_lv s hl0
  unfold tokI
  clear h h1
  go_enter Try.func44, Try.ntmps44
  go_wp2_with fail
  refine HE.mono ?_
  rintro e W1 ⟨rfl, no1, nc1, h2⟩
  have hl2 : s.endSeq.lv ≠ [] := by rw [ne_len]; omega
  have HT := top_any h2 hl2
  clear HE h2
  go_wp2_with fail
  refine HT.mono ?_
  rintro e W2 ⟨rfl, h3, _⟩
  obtain ⟨t0, _, _, _, _, _⟩ := h3.top hl2
  have hlp : s.endSeq.pop.lv.length = s.endSeq.lv.length - 1 := by show s.endSeq.lv.tail.length = _; simp
  have hl4 : s.endSeq.pop.lv ≠ [] := by rw [ne_len]; omega
  have h3d := h3.below (Below.refl _ _).drew
  obtain ⟨_, _, _, c7⟩ := h3.cells
  have d7 : W2.drew.cell? ⟨bp, 7, none⟩ = some (.slice (some ⟨g, 0, none⟩) s.endSeq.lv.length lc) := c7
  have f7 : W2.drew.frozen? ⟨bp, 7, none⟩ = false := h3d.cl.frozen 7
  have h4 := h3d.popped (by omega)
  have HT2 := top_any h4 hl4
  have hlx := h3.lx
  have hlrow := own_block h3.lrow (g := g) rfl
  have hcap : s.endSeq.lv.length ≤ lc := by
    rcases h3.lrow.2 with ⟨hv, _⟩ | ⟨g', cap', cur, hv, _, _, hn, _⟩
    · cases hv
    · cases hv; exact hn
  have HF : Hid (∀ W3, BM X w bp fl s.endSeq.pop no1 nc1 g lc W3 → (W3.cell? ⟨g, (s.endSeq.pop.lv.length - 1) * 3 + 2, none⟩ = some (.int .i64 s.endSeq.pop.top.2.2) ∧ W3.frozen? ⟨g, (s.endSeq.pop.lv.length - 1) * 3 + 2, none⟩ = false) ∧ BM X w bp fl (s.endSeq.pop.setItem s.endSeq.top.1) no1 nc1 g lc (W3.setCell ⟨g, (s.endSeq.pop.lv.length - 1) * 3 + 2, none⟩ (.int .i64 s.endSeq.top.1))) := by
    intro W3 h5
    have q := h5.top hl4
    exact ⟨⟨q.2.2.1, q.2.2.2.1 _⟩, h5.put0 hl4 2 _ _ rfl (by omega)⟩
  generalize s.endSeq.top.1 = tb at *
  generalize s.endSeq.pop.top.2.2 = tz at *
  generalize (s.endSeq.pop.lv.length - 1) * 3 = p2 at *
  generalize (s.endSeq.lv.length - 1) * 3 = p1 at *
  obtain ⟨Q, hQ⟩ : ∃ Q, s.endSeq.lv.length = Q := ⟨_, rfl⟩
  obtain ⟨q, hq⟩ : ∃ q, Q - 1 = q := ⟨_, rfl⟩
  rw [hQ] at d7 HT2 hcap hlx
  rw [hq] at HT2
  have wq : IntKind.i64.wrap ((Q : Int) - 1) = (q : Nat) := by rw [IntKind.wrap_i64]; omega
  have hsl := fun W => slice_lv (some ⟨g, 0, none⟩) Q lc q (by omega) W
  clear HT h3 h3d h4 hl hl0 hl2 hl4 hlp hlen hmx hlrow c7 hq hQ
  go_wp2_with fail
  go_region_law (fail)
  all_goals
    go_wp2_with fail
    refine HT2.mono ?_
    rintro e W3 ⟨rfl, h5, _⟩
    obtain ⟨⟨x1, x2⟩, h6⟩ := HF.out W3 h5
    have HB : Hid _ := h6
    clear HT2 HF h5 h6
    go_wp2_with fail
    exact bodyPost_end (v := .tuple #[]) (by simp [results, Try.results44, go_sem]) rfl ⟨rfl, _, _, _, _, HB.out⟩
end
end Go.Proofs.Ytlmmiicibjfcdaa
namespace Go.Proofs.Ytlmmiicibjfcdaa
open Go.RowKit
section
variable (b a0 a1 a2 a3 : Nat) (nt : Bool) (l m : Int) (lz : Bool) (t : Int)
variable {X w W : World} {bp : Nat} {fl : Fg} {s : Bs} {no : Option Addr} {nc g lc : Nat}
set_option maxRecDepth 10000 in
set_option maxHeartbeats 10000000 in
theorem take_7 (h : BM X w bp fl s no nc g lc W) (hl : s.lv ≠ []) (hmx : s.many < 99990) : Calls Try.prog 44 #[bP bp, tokI 7 b a0 a1 a2 a3 nt l m lz t] W (RetBM X w bp fl ((s.put (ndR s.top.2.2 l m lz)).setItem (s.many : Int))) := by
  have h1 := h.below (bel1 W (.cells #[.int .i64 7, .int .u8 (b : Nat), .int .u64 (a0 : Nat), .int .u64 (a1 : Nat), .int .u64 (a2 : Nat), .int .u64 (a3 : Nat), .bool nt, .int .i64 l, .int .i64 m, .bool lz, .int .i64 t] 42))
  have hk1 := h1.kp
  have kT := Cl.new W 42 [.int .i64 7, .int .u8 (b : Nat), .int .u64 (a0 : Nat), .int .u64 (a1 : Nat), .int .u64 (a2 : Nat), .int .u64 (a3 : Nat), .bool nt, .int .i64 l, .int .i64 m, .bool lz, .int .i64 t]
  have HT := top_any h1.base hl
  unfold tokI
  clear h h1
  go_enter Try.func44, Try.ntmps44
  go_wp2_with fail
  refine HT.mono ?_
  rintro e W2 ⟨rfl, h2, _⟩
  have kT2 := h2.kp.cl kT (by decide) (by decide) (by decide)
  obtain ⟨_, _, t2, _, _, _⟩ := h2.top hl
  have t2' : W2.drew.cell? ⟨g, (s.lv.length - 1) * 3 + 2, none⟩ = some (.int .i64 s.top.2.2) := t2
  have c7 : W2.drew.cell? ⟨W.heap.size, 7, none⟩ = some (.int .i64 l) := kT2.cell 7 rfl
  have c8 : W2.drew.cell? ⟨W.heap.size, 8, none⟩ = some (.int .i64 m) := kT2.cell 8 rfl
  have c9 : W2.drew.cell? ⟨W.heap.size, 9, none⟩ = some (.bool lz) := kT2.cell 9 rfl
  have HP := put_any (h2.below (Below.refl _ _).drew) (by omega) (ndR s.top.2.2 l m lz)
  unfold ndV ndR at HP
  dsimp only at HP
  have HF : Hid (∀ W3 no' nc', BM (W.alloc (.cells #[.int .i64 7, .int .u8 (b : Nat), .int .u64 (a0 : Nat), .int .u64 (a1 : Nat), .int .u64 (a2 : Nat), .int .u64 (a3 : Nat), .bool nt, .int .i64 l, .int .i64 m, .bool lz, .int .i64 t] 42)) w bp fl (s.put (ndR s.top.2.2 l m lz)) no' nc' g lc W3 → (W3.cell? ⟨g, (s.lv.length - 1) * 3 + 2, none⟩ = some (.int .i64 s.top.2.2) ∧ W3.frozen? ⟨g, (s.lv.length - 1) * 3 + 2, none⟩ = false) ∧ BM X w bp fl ((s.put (ndR s.top.2.2 l m lz)).setItem (s.many : Int)) no' nc' g lc (W3.setCell ⟨g, (s.lv.length - 1) * 3 + 2, none⟩ (.int .i64 (s.many : Nat)))) := by
    intro W3 no' nc' h5
    have q := h5.top (s := s.put (ndR s.top.2.2 l m lz)) hl
    exact ⟨⟨q.2.2.1, q.2.2.2.1 _⟩, (h5.put0 (s := s.put (ndR s.top.2.2 l m lz)) hl 2 (s.many : Int) (s.top.1, s.top.2.1, (s.many : Int)) rfl (by omega)).from_ hk1⟩
  unfold ndR at HF
  clear HT h2 kT kT2 hk1 t2
  generalize (s.lv.length - 1) * 3 = p at *
  go_wp2_with fail
  go_region_law (go_simp; go_at_call 67; refine HP.mono ?_; rintro e W3 ⟨rfl, no', nc', h5⟩; obtain ⟨⟨x1, x2⟩, h6⟩ := HF.out W3 no' nc' h5; have HB : Hid _ := h6; clear h5 h6)
  all_goals
    go_wp2_with fail
    exact bodyPost_end (v := .tuple #[]) (by simp [results, Try.results44, go_sem]) rfl ⟨rfl, _, _, _, _, HB.out⟩
end
end Go.Proofs.Ytlmmiicibjfcdaa
namespace Go.Proofs.Ytlmmiicibjfcdaa
open Go.RowKit
section
variable (b a0 a1 a2 a3 : Nat) (nt : Bool) (l m : Int) (lz : Bool) (t : Int)
variable {X w W : World} {bp : Nat} {fl : Fg} {s : Bs} {no : Option Addr} {nc g lc : Nat}
set_option maxRecDepth 10000 in
set_option maxHeartbeats 4000000 in
theorem take_d (k : Int) (x : Nd) (is : Bool) (h4 : (k == 4) = false) (h6 : (k == 6) = false) (h5 : (k == 5) = false) (h7 : (k == 7) = false) (HL : ∀ U, Calls Try.prog 15 #[tokI k b a0 a1 a2 a3 nt l m lz t, fgV fl] U (RetLf U (x, is)))
    (h : BM X w bp fl s no nc g lc W) (hl : s.lv ≠ []) (hmx : s.many < 99990) : Calls Try.prog 44 #[bP bp, tokI k b a0 a1 a2 a3 nt l m lz t] W (RetBM X w bp fl ((s.endItem.put x).setItem (s.endItem.many : Int))) := by
  have h1 := h.below (bel1 W (.cells #[.int .i64 k, .int .u8 (b : Nat), .int .u64 (a0 : Nat), .int .u64 (a1 : Nat), .int .u64 (a2 : Nat), .int .u64 (a3 : Nat), .bool nt, .int .i64 l, .int .i64 m, .bool lz, .int .i64 t] 42))
  have hk1 := h1.kp
  have kT := Cl.new W 42 [.int .i64 k, .int .u8 (b : Nat), .int .u64 (a0 : Nat), .int .u64 (a1 : Nat), .int .u64 (a2 : Nat), .int .u64 (a3 : Nat), .bool nt, .int .i64 l, .int .i64 m, .bool lz, .int .i64 t]
  have HE := endItem_any h1.base hl (by omega)
  have hl1 := endItem_ne s
  have hm1 := endItem_many s
  have HL' : Hid (∀ U, Calls Try.prog 15 #[.agg #[.int .i64 k, .int .u8 (b : Nat), .int .u64 (a0 : Nat), .int .u64 (a1 : Nat), .int .u64 (a2 : Nat), .int .u64 (a3 : Nat), .bool nt, .int .i64 l, .int .i64 m, .bool lz, .int .i64 t], .agg #[.bool fl.c, .bool fl.d, .bool fl.m, .bool fl.o, .bool fl.l]] U fun e U' => e = .returned (.tuple #[.agg #[.int .i64 x.k, .int .u64 x.c0, .int .u64 x.c1, .int .u64 x.c2, .int .u64 x.c3, .int .i64 x.a, .int .i64 x.b, .int .i64 x.l, .int .i64 x.m, .bool x.z], .bool is]) ∧ Below U.heap.size U U') := HL
  unfold tokI
  clear h h1 HL
  go_enter Try.func44, Try.ntmps44
  go_wp2_with fail
  refine HE.mono ?_
  rintro e W2 ⟨rfl, no1, nc1, h2⟩
  have kT2 := h2.kp.cl kT (by decide) (by decide) (by decide)
  have hmx1 : s.endItem.many < 99995 := by omega
  clear HE kT hl hmx hm1
  generalize hY : W.alloc (.cells #[.int .i64 k, .int .u8 (b : Nat), .int .u64 (a0 : Nat), .int .u64 (a1 : Nat), .int .u64 (a2 : Nat), .int .u64 (a3 : Nat), .bool nt, .int .i64 l, .int .i64 m, .bool lz, .int .i64 t] 42) = Y at *
  clear hY
  have HT0 : Hid (∀ U, BM Y w bp fl s.endItem no1 nc1 g lc U → Calls Try.prog 66 #[bP bp] U fun e W' => e = .returned (.pointer (some ⟨g, (s.endItem.lv.length - 1) * 3, none⟩)) ∧ BM Y w bp fl s.endItem no1 nc1 g lc W' ∧ Below U.heap.size U W') := fun U hU => top_any hU hl1
  have HP : Hid (∀ W4, BM Y w bp fl s.endItem no1 nc1 g lc W4 → Calls Try.prog 67 #[bP bp, .agg #[.int .i64 x.k, .int .u64 x.c0, .int .u64 x.c1, .int .u64 x.c2, .int .u64 x.c3, .int .i64 x.a, .int .i64 x.b, .int .i64 x.l, .int .i64 x.m, .bool x.z]] W4 fun e W' => e = .returned (.int .i64 (s.endItem.many : Nat)) ∧ ∃ no' nc', BM Y w bp fl (s.endItem.put x) no' nc' g lc W') := fun W4 h6 => put_any h6 (by omega) x
  have HF : Hid (∀ W3 no' nc', BM Y w bp fl (s.endItem.put x) no' nc' g lc W3 → (W3.cell? ⟨g, (s.endItem.lv.length - 1) * 3 + 2, none⟩ = some (.int .i64 s.endItem.top.2.2) ∧ W3.frozen? ⟨g, (s.endItem.lv.length - 1) * 3 + 2, none⟩ = false) ∧ BM X w bp fl ((s.endItem.put x).setItem (s.endItem.many : Int)) no' nc' g lc (W3.setCell ⟨g, (s.endItem.lv.length - 1) * 3 + 2, none⟩ (.int .i64 (s.endItem.many : Nat)))) := by
    intro W3 no' nc' h5
    have q := h5.top (s := s.endItem.put x) hl1
    exact ⟨⟨q.2.2.1, q.2.2.2.1 _⟩, (h5.put0 (s := s.endItem.put x) hl1 2 (s.endItem.many : Int) (s.endItem.top.1, s.endItem.top.2.1, (s.endItem.many : Int)) rfl (by omega)).from_ hk1⟩
  have h2d := h2.below (Below.refl _ _).drew
  have kTd := kT2.drew
  have hbA : Below W2.heap.size W2 (W2.alloc (.cells #[.int .i64 0, .int .u64 0, .int .u64 0, .int .u64 0, .int .u64 0, .int .i64 0, .int .i64 0, .int .i64 0, .int .i64 0, .bool false] 44)) := bel1 W2 _
  have h2A := h2.below hbA
  have kTA := kT2.below hbA
  have kZA := Cl.new W2 44 [.int .i64 0, .int .u64 0, .int .u64 0, .int .u64 0, .int .u64 0, .int .i64 0, .int .i64 0, .int .i64 0, .int .i64 0, .bool false]
  obtain ⟨⟨f0, f1, f2, f3, f4⟩, _⟩ := h2d.cells
  obtain ⟨⟨e0, e1, e2, e3, e4⟩, _⟩ := h2A.cells
  have c0 := kTd.cell 0 rfl
  have d0 := kTA.cell 0 rfl
  have c1 := kTd.cell 1 rfl
  have d1 := kTA.cell 1 rfl
  have c2 := kTd.cell 2 rfl
  have d2 := kTA.cell 2 rfl
  have c3 := kTd.cell 3 rfl
  have d3 := kTA.cell 3 rfl
  have c4 := kTd.cell 4 rfl
  have d4 := kTA.cell 4 rfl
  have c5 := kTd.cell 5 rfl
  have d5 := kTA.cell 5 rfl
  have c6 := kTd.cell 6 rfl
  have d6 := kTA.cell 6 rfl
  have c7 := kTd.cell 7 rfl
  have d7 := kTA.cell 7 rfl
  have c8 := kTd.cell 8 rfl
  have d8 := kTA.cell 8 rfl
  have c9 := kTd.cell 9 rfl
  have d9 := kTA.cell 9 rfl
  have c10 := kTd.cell 10 rfl
  have d10 := kTA.cell 10 rfl
  clear h2d kT2 kTd h2A kTA hl1 hmx1
  go_wp2_with fail
  go_region_law (go_simp; go_at_call 15; refine (HL'.out _).mono ?_; rintro e W3 ⟨rfl, hb3⟩; (first | (have hbW : Below W2.heap.size W2 W3 := (Below.refl _ _).drew.trans (hb3.mono (Nat.le_refl _))) | (have hbW : Below W2.heap.size W2 W3 := hbA.drew.trans (hb3.mono hbA.size); have kZ : Cl W3 W2.heap.size 44 [.int .i64 0, .int .u64 0, .int .u64 0, .int .u64 0, .int .u64 0, .int .i64 0, .int .i64 0, .int .i64 0, .int .i64 0, .bool false] := kZA.drew.below hb3; obtain ⟨y0, y1, y2, y3, y4, y5, y6, y7, y8, y9, v0, v1, v2, v3, v4, v5, v6, v7, v8, v9⟩ := kZ.ten)); clear hb3)
  all_goals
    clear f0 f1 f2 f3 f4 e0 e1 e2 e3 e4 HL' hbA kZA c0 d0 c1 d1 c2 d2 c3 d3 c4 d4 c5 d5 c6 d6 c7 d7 c8 d8 c9 d9 c10 d10
    first
    | (have hz := kZ
       clear y0 y1 y2 y3 y4 y5 y6 y7 y8 y9 v0 v1 v2 v3 v4 v5 v6 v7 v8 v9
       go_upto_region 4 with fail
       change Code.wp _ _ _ _ (put10 W3 W2.heap.size (.int .i64 x.k) (.int .u64 x.c0) (.int .u64 x.c1) (.int .u64 x.c2) (.int .u64 x.c3) (.int .i64 x.a) (.int .i64 x.b) (.int .i64 x.l) (.int .i64 x.m) (.bool x.z))
       have hbV : Below W2.heap.size W2 (put10 W3 W2.heap.size (.int .i64 x.k) (.int .u64 x.c0) (.int .u64 x.c1) (.int .u64 x.c2) (.int .u64 x.c3) (.int .i64 x.a) (.int .i64 x.b) (.int .i64 x.l) (.int .i64 x.m) (.bool x.z)) := below_put10 hbW (Nat.le_refl _) _ _ _ _ _ _ _ _ _ _
       have kN := kZ.put10 (.int .i64 x.k) (.int .u64 x.c0) (.int .u64 x.c1) (.int .u64 x.c2) (.int .u64 x.c3) (.int .i64 x.a) (.int .i64 x.b) (.int .i64 x.l) (.int .i64 x.m) (.bool x.z)
       clear hz kZ hbW
       generalize put10 W3 W2.heap.size (.int .i64 x.k) (.int .u64 x.c0) (.int .u64 x.c1) (.int .u64 x.c2) (.int .u64 x.c3) (.int .i64 x.a) (.int .i64 x.b) (.int .i64 x.l) (.int .i64 x.m) (.bool x.z) = V at *
       obtain ⟨bn, hbn⟩ : ∃ bn, bn = W2.heap.size := ⟨_, rfl⟩
       rw [← hbn] at kN
       rw [← hbn]
       clear hbn)
    | (go_upto_region 4 with fail
       have hbV : Below W2.heap.size W2 (W3.alloc (.cells #[.int .i64 x.k, .int .u64 x.c0, .int .u64 x.c1, .int .u64 x.c2, .int .u64 x.c3, .int .i64 x.a, .int .i64 x.b, .int .i64 x.l, .int .i64 x.m, .bool x.z] 44)) := hbW.trans ((bel1 W3 _).mono hbW.size)
       have kN := Cl.new W3 44 [.int .i64 x.k, .int .u64 x.c0, .int .u64 x.c1, .int .u64 x.c2, .int .u64 x.c3, .int .i64 x.a, .int .i64 x.b, .int .i64 x.l, .int .i64 x.m, .bool x.z]
       clear hbW
       generalize W3.alloc (.cells #[.int .i64 x.k, .int .u64 x.c0, .int .u64 x.c1, .int .u64 x.c2, .int .u64 x.c3, .int .i64 x.a, .int .i64 x.b, .int .i64 x.l, .int .i64 x.m, .bool x.z] 44) = V at *
       generalize W3.heap.size = bn at *)
  all_goals
    generalize (s.endItem.lv.length - 1) * 3 = p at *
    have h5 := h2.below hbV
    have h5d := h5.below (Below.refl _ _).drew
    have kNd := kN.drew
    have HT := HT0.out _ h5d
    have n0 := kNd.cell 0 rfl
    have n1 := kNd.cell 1 rfl
    have n2 := kNd.cell 2 rfl
    have n3 := kNd.cell 3 rfl
    have n4 := kNd.cell 4 rfl
    have n5 := kNd.cell 5 rfl
    have n6 := kNd.cell 6 rfl
    have n7 := kNd.cell 7 rfl
    have n8 := kNd.cell 8 rfl
    have n9 := kNd.cell 9 rfl
    have HQ : Hid (∀ W4, Below V.drew.heap.size V.drew W4 → Cl W4 bn 44 [.int .i64 x.k, .int .u64 x.c0, .int .u64 x.c1, .int .u64 x.c2, .int .u64 x.c3, .int .i64 x.a, .int .i64 x.b, .int .i64 x.l, .int .i64 x.m, .bool x.z]) := fun W4 hb => kNd.below hb
    clear h5 h5d kN kNd hk1 h2 hbV
    go_wp2_with fail
    go_region_law (first
      | (go_simp; go_at_call 66; refine HT.mono ?_; rintro e W4 ⟨rfl, h6, hb4⟩; have kN4 := HQ.out W4 hb4; have HP4 := HP.out W4 h6; obtain ⟨m0, m1, m2, m3, m4, m5, m6, m7, m8, m9, _⟩ := kN4.ten; clear h6 hb4 kN4)
      | (go_simp; go_at_call 67; refine HP4.mono ?_; rintro e W5 ⟨rfl, no', nc', h7⟩; obtain ⟨⟨x1, x2⟩, h8⟩ := HF.out W5 no' nc' h7; have HB : Hid _ := h8; clear h7 h8))
    all_goals
      go_wp2_with fail
      exact bodyPost_end (v := .tuple #[]) (by simp [results, Try.results44, go_sem]) rfl ⟨rfl, _, _, _, _, HB.out⟩
end
end Go.Proofs.Ytlmmiicibjfcdaa
namespace Go.Proofs.Ytlmmiicibjfcdaa
open Go.RowKit
theorem take_many (s : Bs) (x : Tp) : (s.take x).many ≤ s.many + 4 := by
  have h1 := endItem_many s
  have h2 := endSeq_many s
  unfold Bs.take
  split
  · show s.endItem.many ≤ _; omega
  split
  · omega
  split
  · show s.endSeq.many ≤ _; omega
  split
  · show s.many + 1 ≤ _; omega
  · show s.endItem.many + 1 ≤ _; omega
theorem bld_many (X : Nat → Tp) : ∀ n, (bld X n).many ≤ 4 * n
  | 0 => Nat.zero_le _
  | n + 1 => by
    have := bld_many X n
    have := take_many (bld X n) (X n)
    show ((bld X n).take (X n)).many ≤ _
    omega
theorem bld_deep {X : Nat → Tp} {i : Nat} {q : Ps} (h : runP X (i + 1) = .ok q) (hk : (X i).k = 5) : 2 ≤ (bld X i).lv.length := by
  obtain ⟨p, hp, hs⟩ := runP_prev h
  rw [bld_lv hp]
  unfold stepP at hs
  split at hs
  · cases hs
  rw [if_neg (by omega), if_neg (by omega)] at hs
  split at hs
  · cases hs
  · rename_i o r ho
    rw [ho]
    simp
theorem take_any {Y w W : World} {bp : Nat} {fl : Fg} {s : Bs} {no : Option Addr} {nc g lc : Nat} (x : TkR) (hx : x.ok) (h : BM Y w bp fl s no nc g lc W) (hl : s.lv ≠ []) (hmx : s.many < 99990) (hlx : s.lv.length < 100000) (h5 : x.k = 5 → 2 ≤ s.lv.length) :
    Calls Try.prog 44 #[bP bp, tokI x.k x.b x.a0 x.a1 x.a2 x.a3 x.nt x.l x.m x.lz x.t] W (RetBM Y w bp fl (s.take (x.tp fl))) := by
  obtain ⟨k, b, a0, a1, a2, a3, P, nt, l, m, lz, t⟩ := x
  unfold Bs.take TkR.tp
  dsimp only at *
  split
  · rename_i e; subst e; exact take_4 b a0 a1 a2 a3 nt l m lz t h hl hmx hlx
  rename_i e4
  split
  · rename_i e; subst e; exact take_6 b a0 a1 a2 a3 nt l m lz t h hl hmx
  rename_i e6
  split
  · rename_i e; subst e; exact take_5 b a0 a1 a2 a3 nt l m lz t h (h5 rfl) hmx
  rename_i e5
  split
  · rename_i e; subst e; exact take_7 b a0 a1 a2 a3 nt l m lz t h hl hmx
  rename_i e7
  exact take_d b a0 a1 a2 a3 nt l m lz t k _ _ (by simpa using e4) (by simpa using e6) (by simpa using e5) (by simpa using e7) (fun U => leaf_any fl b a0 a1 a2 a3 nt l m lz t U k hx.hb hx.h4) h hl hmx
/-- What build answers. -/
def RetBd (w : World) (s : Bs) (e : Ending) (w' : World) : Prop := ∃ no nc, e = .returned (.tuple #[.agg #[.slice no s.ns.length nc], .bool (decide (s.many ≤ 2048))]) ∧ w'.ownsRow w.heap.size 44 10 (.slice no s.ns.length nc) s.ns.length (ndsL s.ns) ∧ Below w.heap.size w w'
set_option maxRecDepth 10000 in
set_option maxHeartbeats 4000000 in
theorem build_any (ao : Option Addr) (n cap : Nat) (F : Nat → TkR) (fl : Fg) (w : World) (hr : RdK w ao n F) (hn : n ≤ 3000) (hp : ∃ q, runP (fun i => (F i).tp fl) n = .ok q) : Calls Try.prog 22 #[fgV fl, .slice ao n cap] w (RetBd w (bld (fun i => (F i).tp fl) n).endSeq) := by
  have hB := below3 w (.cells #[.bool fl.c, .bool fl.d, .bool fl.m, .bool fl.o, .bool fl.l] 23) (.cells #[.slice none 0 0] 28) (.cells #[.bool fl.c, .bool fl.d, .bool fl.m, .bool fl.o, .bool fl.l, .slice none 0 0, .int .i64 0, .slice none 0 0] 80)
  have kR : Cl (((w.alloc (.cells #[.bool fl.c, .bool fl.d, .bool fl.m, .bool fl.o, .bool fl.l] 23)).alloc (.cells #[.slice none 0 0] 28)).alloc (.cells #[.bool fl.c, .bool fl.d, .bool fl.m, .bool fl.o, .bool fl.l, .slice none 0 0, .int .i64 0, .slice none 0 0] 80)) (w.heap.size + 1) 28 [.slice none 0 0] := by
    have := (Cl.new (w.alloc (.cells #[.bool fl.c, .bool fl.d, .bool fl.m, .bool fl.o, .bool fl.l] 23)) 28 [.slice none 0 0]).alloc (.cells #[.bool fl.c, .bool fl.d, .bool fl.m, .bool fl.o, .bool fl.l, .slice none 0 0, .int .i64 0, .slice none 0 0] 80)
    simpa using this
  have kB : Cl (((w.alloc (.cells #[.bool fl.c, .bool fl.d, .bool fl.m, .bool fl.o, .bool fl.l] 23)).alloc (.cells #[.slice none 0 0] 28)).alloc (.cells #[.bool fl.c, .bool fl.d, .bool fl.m, .bool fl.o, .bool fl.l, .slice none 0 0, .int .i64 0, .slice none 0 0] 80)) (w.heap.size + 1 + 1) 80 (bC fl Bs.zero (.slice none 0 0) (.slice none 0 0)) := by
    have := Cl.new ((w.alloc (.cells #[.bool fl.c, .bool fl.d, .bool fl.m, .bool fl.o, .bool fl.l] 23)).alloc (.cells #[.slice none 0 0] 28)) 80 (bC fl Bs.zero (.slice none 0 0) (.slice none 0 0))
    rw [World.size_alloc, World.size_alloc] at this
    exact this
  have HO := open_gen (X := ((w.alloc (.cells #[.bool fl.c, .bool fl.d, .bool fl.m, .bool fl.o, .bool fl.l] 23)).alloc (.cells #[.slice none 0 0] 28)).alloc (.cells #[.bool fl.c, .bool fl.d, .bool fl.m, .bool fl.o, .bool fl.l, .slice none 0 0, .int .i64 0, .slice none 0 0] 80)) (w := w) (fl := fl) (s := Bs.zero) (no := none) (lo := none) (nc := 0) (lc := 0) (Kp.refl _) hB (by omega) kB (World.ownsRow_nil _ _ _ _) (World.ownsRow_nil _ _ _ _) rfl (by decide) (by decide)
  unfold fgV
  go_enter Try.func22, Try.ntmps22
  go_wp2_with fail
  refine HO.mono ?_
  rintro e W1 ⟨rfl, g1, lc1, h1⟩
  clear HO hB kB
  generalize hY : ((w.alloc (.cells #[.bool fl.c, .bool fl.d, .bool fl.m, .bool fl.o, .bool fl.l] 23)).alloc (.cells #[.slice none 0 0] 28)).alloc (.cells #[.bool fl.c, .bool fl.d, .bool fl.m, .bool fl.o, .bool fl.l, .slice none 0 0, .int .i64 0, .slice none 0 0] 80) = Y at *
  clear hY
  go_wp2_with fail
  go_loopw [14] (fun i wr => ∃ k : Nat, k ≤ n ∧ i = .int .i64 (k : Nat) ∧ ∃ no nc g lc, Hid (BM Y w (w.heap.size + 1 + 1) fl (bld (fun i => (F i).tp fl) k) no nc g lc wr)) (fun i _ => n - (intOf i).toNat)
  case atStart => exact ⟨0, Nat.zero_le _, rfl, _, _, _, _, h1⟩
  case round =>
    obtain ⟨k, hk, rfl, no, nc, g, lc, hI⟩ := hrel
    by_cases hlt : k < n
    · obtain ⟨bb, off, rfl, hbb, hc⟩ := hr.at_ (by omega)
      have hok := hr.ok k hlt
      have hki : (k : Int) < (n : Int) := by omega
      obtain ⟨c0, c1, c2, c3, c4, c5, c6, c7, c8, c9, c10⟩ := hc k hlt
      rw [← hI.out.bel.cell (p := ⟨bb, off + k * 11, none⟩) hbb] at c0
      rw [← hI.out.bel.cell (p := ⟨bb, off + k * 11 + 1, none⟩) hbb] at c1
      rw [← hI.out.bel.cell (p := ⟨bb, off + k * 11 + 2, none⟩) hbb] at c2
      rw [← hI.out.bel.cell (p := ⟨bb, off + k * 11 + 3, none⟩) hbb] at c3
      rw [← hI.out.bel.cell (p := ⟨bb, off + k * 11 + 4, none⟩) hbb] at c4
      rw [← hI.out.bel.cell (p := ⟨bb, off + k * 11 + 5, none⟩) hbb] at c5
      rw [← hI.out.bel.cell (p := ⟨bb, off + k * 11 + 6, none⟩) hbb] at c6
      rw [← hI.out.bel.cell (p := ⟨bb, off + k * 11 + 7, none⟩) hbb] at c7
      rw [← hI.out.bel.cell (p := ⟨bb, off + k * 11 + 8, none⟩) hbb] at c8
      rw [← hI.out.bel.cell (p := ⟨bb, off + k * 11 + 9, none⟩) hbb] at c9
      rw [← hI.out.bel.cell (p := ⟨bb, off + k * 11 + 10, none⟩) hbb] at c10
      obtain ⟨q, hq⟩ := hp
      obtain ⟨q1, hq1⟩ := runP_le hq (k + 1) (by omega)
      obtain ⟨q0, hq0⟩ := runP_le hq k (by omega)
      have hlv := bld_lv hq0
      have hop := (runP_op hq0).1
      have hmm := bld_many (fun i => (F i).tp fl) k
      have HT := take_any (F k) hok (hI.out.below (bel1 wr (.cells #[.int .i64 (F k).k, .int .u8 ((F k).b : Nat), .int .u64 ((F k).a0 : Nat), .int .u64 ((F k).a1 : Nat), .int .u64 ((F k).a2 : Nat), .int .u64 ((F k).a3 : Nat), .bool (F k).nt, .int .i64 (F k).l, .int .i64 (F k).m, .bool (F k).lz, .int .i64 (F k).t] 42))) (by rw [ne_len]; omega) (by omega) (by omega) (fun h5 => bld_deep hq1 h5)
      have hnext : (bld (fun i => (F i).tp fl) k).take ((F k).tp fl) = bld (fun i => (F i).tp fl) (k + 1) := rfl
      rw [hnext] at HT
      unfold RetBM tokI at HT
      clear hok hc hr hI hq hq1 hq0 hlv hop hmm hnext h1 kR
      generalize F k = x at *
      go_wp2_with fail
      refine HT.mono ?_
      rintro e W2 ⟨rfl, no2, nc2, g2, lc2, h2⟩
      have HB : Hid (BM Y w (w.heap.size + 1 + 1) fl (bld (fun i => (F i).tp fl) (k + 1)) no2 nc2 g2 lc2 W2) := h2
      clear HT h2 c0 c1 c2 c3 c4 c5 c6 c7 c8 c9 c10
      go_wp2_with fail
      go_roundw
      case rel => exact ⟨k + 1, by omega, by go_num, _, _, _, _, HB⟩
      case measure => simp [intOf]; omega
    · obtain rfl : k = n := by omega
      have hki : ¬ (k : Int) < (k : Int) := by omega
      obtain ⟨q, hq⟩ := hp
      have hlv := bld_lv hq
      have hmm := bld_many (fun i => (F i).tp fl) k
      have hop := (runP_op hq).1
      have HE := endSeq_any hI.out (by rw [ne_len]; omega) (by omega)
      go_wp2_with fail
      refine HE.mono ?_
      rintro e W2 ⟨rfl, no2, nc2, h2⟩
      have kR2 := h2.kp.cl kR (by decide) (by decide) (by decide)
      obtain ⟨_, c5, c6, _⟩ := h2.cells
      have d5 : W2.drew.cell? ⟨w.heap.size + 1 + 1, 5, none⟩ = _ := c5
      have d6 : W2.drew.cell? ⟨w.heap.size + 1 + 1, 6, none⟩ = _ := c6
      have d0 := kR2.drew.cell 0 rfl
      have e0 := kR2.drew.frozen 0
      have kS := kR2.drew.set 0 (.slice no2 (bld (fun i => (F i).tp fl) k).endSeq.ns.length nc2)
      have z0 := kS.cell 0 rfl
      have kB2 := h2.cl.drew.other (k := w.heap.size + 1) (by omega) 0 (.slice no2 (bld (fun i => (F i).tp fl) k).endSeq.ns.length nc2)
      have d6' := kB2.cell 6 rfl
      have d6'' : (W2.setCell ⟨w.heap.size + 1, 0, none⟩ (.slice no2 (bld (fun i => (F i).tp fl) k).endSeq.ns.length nc2)).cell? ⟨w.heap.size + 1 + 1, 6, none⟩ = some (.int .i64 ((bld (fun i => (F i).tp fl) k).endSeq.many : Nat)) := (h2.cl.other (k := w.heap.size + 1) (by omega) 0 (.slice no2 (bld (fun i => (F i).tp fl) k).endSeq.ns.length nc2)).cell 6 rfl
      have z0' : (W2.setCell ⟨w.heap.size + 1, 0, none⟩ (.slice no2 (bld (fun i => (F i).tp fl) k).endSeq.ns.length nc2)).cell? ⟨w.heap.size + 1, 0, none⟩ = some (.slice no2 (bld (fun i => (F i).tp fl) k).endSeq.ns.length nc2) := (kR2.set 0 _).cell 0 rfl
      have hbd : Below w.heap.size w (W2.drew.setCell ⟨w.heap.size + 1, 0, none⟩ (.slice no2 (bld (fun i => (F i).tp fl) k).endSeq.ns.length nc2)) := h2.bel.drew.setCell (p := ⟨w.heap.size + 1, 0, none⟩) (by simp) _
      have hrow := own_at h2.nrow (W' := W2.drew.setCell ⟨w.heap.size + 1, 0, none⟩ (.slice no2 (bld (fun i => (F i).tp fl) k).endSeq.ns.length nc2)) fun b hb => by
        refine Below.heap_setCell _ _ _ _ ?_
        rintro rfl
        obtain ⟨_, _, cur, hc⟩ := own_block h2.nrow hb
        unfold Cl at kR2
        rw [hc] at kR2
        cases kR2
      have HR : Hid (RetBd w (bld (fun i => (F i).tp fl) k).endSeq (.returned (.tuple #[.agg #[.slice no2 (bld (fun i => (F i).tp fl) k).endSeq.ns.length nc2], .bool (decide ((bld (fun i => (F i).tp fl) k).endSeq.many ≤ 2048))])) (W2.drew.setCell ⟨w.heap.size + 1, 0, none⟩ (.slice no2 (bld (fun i => (F i).tp fl) k).endSeq.ns.length nc2))) := ⟨no2, nc2, rfl, hrow, hbd⟩
      have hdec : decide (((bld (fun i => (F i).tp fl) k).endSeq.many : Int) ≤ 2048) = decide ((bld (fun i => (F i).tp fl) k).endSeq.many ≤ 2048) := by
        rw [decide_eq_decide]; omega
      clear HE h2 kR2 kS kB2 hbd hrow c5 c6 hI kR h1 hr hlv hmm hop hq
      generalize decide ((bld (fun i => (F i).tp fl) k).endSeq.many ≤ 2048) = dm at *
      generalize (bld (fun i => (F i).tp fl) k).endSeq.many = mn at *
      generalize (bld (fun i => (F i).tp fl) k).endSeq.ns.length = nn at *
      go_wp2_with fail
      go_region_law (fail)
      all_goals
        go_wp2_with fail
        exact bodyPost_ret (v := .tuple #[.agg #[.slice no2 nn nc2], .bool dm]) (by simp [results, Try.results22, go_sem, z0']) rfl HR.out
end Go.Proofs.Ytlmmiicibjfcdaa
namespace Go.Proofs.Ytlmmiicibjfcdaa
open Go.RowKit
set_option maxRecDepth 10000 in
set_option maxHeartbeats 1000000 in
theorem rof_any (ao : Option Addr) (len cap : Nat) (z : Nat → Nat) (w : World) (hr : Rd w ao len z) (hl : (len : Int) ≤ 9223372036854775807) :
    Calls Try.prog 32 #[.slice ao len cap] w (RetC w (ofN z len)) := by
  have hW0 := Way.start w
  go_enter Try.func32, Try.ntmps32
  go_wp2
  go_loopw [4] (fun i wr => ∃ k : Nat, k ≤ len ∧ i = .int .i64 (k : Nat) ∧ Way w (ofN z k) wr) (fun i _ => len - (intOf i).toNat)
  case atStart => exact ⟨0, by omega, rfl, hW0⟩
  case round =>
    obtain ⟨k, hk, rfl, hW⟩ := hrel
    by_cases hlt : k < len
    · obtain ⟨bb, off, rfl, hbb, hc⟩ := hr.at_ (by omega)
      have hki : (k : Int) < (len : Int) := by omega
      have hk0 : (0 : Int) ≤ (k : Int) := by omega
      have hzk := hr.small k hlt
      go_wp2_with fail
      replace hW := hW.drew
      obtain ⟨a, b, c, d, h4, hx⟩ := hW.ex
      obtain ⟨c0, c1, c2, c3, f0, f1, f2, f3⟩ := hx.cells
      have t1 : wr.drew.cell? ⟨bb, off + k, none⟩ = some (.int .u8 (z k : Nat)) := by rw [hW.bel.cell (p := ⟨bb, off + k, none⟩) hbb]; exact hc k hlt
      have hw := rwith_c h4 (z k) wr.drew hzk
      have HI : Hid (ins (ofN z k) (z k) = ofN z (k + 1)) := rfl
      clear hc
      generalize hv : z k = v at *
      go_region_with (first | (go_at_call 58; refine hw.mono ?_; rintro e w' ⟨⟨a', b', c', d', rfl, h4'⟩, hb'⟩; have hW' := hW.next hb' h4'; obtain ⟨g0, g1, g2, g3, e0, e1, e2, e3⟩ := (hx.below hb').cells))
      all_goals go_wp2
      all_goals exact ⟨⟨k + 1, by omega, by go_num, by rw [← HI.out]; exact hW'⟩, by simp [intOf]; omega⟩
    · obtain rfl : k = len := by omega
      obtain ⟨a, b, c, d, h4, hx⟩ := hW.ex
      obtain ⟨c0, c1, c2, c3, f0, f1, f2, f3⟩ := hx.cells
      obtain ⟨p', q', r', s', hy⟩ := hW.res
      obtain ⟨y0, y1, y2, y3, v0, v1, v2, v3⟩ := hy.cells
      obtain ⟨z0, z1, z2, z3, _⟩ := (hy.set (.int .u64 (a : Nat)) (.int .u64 (b : Nat)) (.int .u64 (c : Nat)) (.int .u64 (d : Nat))).cells
      go_wp2
      exact bodyPost_ret (v := .agg #[.int .u64 (a : Nat), .int .u64 (b : Nat), .int .u64 (c : Nat), .int .u64 (d : Nat)]) (by simp [results, Try.results32, go_sem, z0, z1, z2, z3]) rfl ⟨⟨a, b, c, d, rfl, h4⟩, below_put4 hW.bel (Nat.le_refl _) _ _ _ _⟩
set_option maxHeartbeats 2000000 in
theorem rnot_walk (a b c d a' b' c' d' : Nat) (w : World) (ha : bits BinOp.xor IntKind.u64 (if IntKind.u64.signed = true then -1 else IntKind.u64.max) (a : Int) = (a' : Nat)) (hb : bits BinOp.xor IntKind.u64 (if IntKind.u64.signed = true then -1 else IntKind.u64.max) (b : Int) = (b' : Nat)) (hc : bits BinOp.xor IntKind.u64 (if IntKind.u64.signed = true then -1 else IntKind.u64.max) (c : Int) = (c' : Nat)) (hd : bits BinOp.xor IntKind.u64 (if IntKind.u64.signed = true then -1 else IntKind.u64.max) (d : Int) = (d' : Nat)) :
    Calls Try.prog 33 #[.agg #[.int .u64 (a : Nat), .int .u64 (b : Nat), .int .u64 (c : Nat), .int .u64 (d : Nat)]] w fun e w' => e = .returned (.agg #[.int .u64 (a' : Nat), .int .u64 (b' : Nat), .int .u64 (c' : Nat), .int .u64 (d' : Nat)]) ∧ Below w.heap.size w w' := by
  go_enter Try.func33, Try.ntmps33
  go_wp2
  go_loopw [3] (fun i wr => ∃ p q r s : Nat, wr = (w.alloc (.cells #[.int .u64 (p : Nat), .int .u64 (q : Nat), .int .u64 (r : Nat), .int .u64 (s : Nat)] 40)).alloc (.cells #[.int .u64 0, .int .u64 0, .int .u64 0, .int .u64 0] 40) ∧ ((i = .int .i64 0 ∧ p = a ∧ q = b ∧ r = c ∧ s = d) ∨ (i = .int .i64 1 ∧ p = a' ∧ q = b ∧ r = c ∧ s = d) ∨ (i = .int .i64 2 ∧ p = a' ∧ q = b' ∧ r = c ∧ s = d) ∨ (i = .int .i64 3 ∧ p = a' ∧ q = b' ∧ r = c' ∧ s = d) ∨ (i = .int .i64 4 ∧ p = a' ∧ q = b' ∧ r = c' ∧ s = d'))) (fun i _ => 4 - (intOf i).toNat)
  case atStart => exact ⟨a, b, c, d, rfl, .inl ⟨rfl, rfl, rfl, rfl, rfl⟩⟩
  case round =>
    obtain ⟨p, q, r, s, rfl, h⟩ := hrel
    rcases h with ⟨rfl, rfl, rfl, rfl, rfl⟩ | ⟨rfl, rfl, rfl, rfl, rfl⟩ | ⟨rfl, rfl, rfl, rfl, rfl⟩ | ⟨rfl, rfl, rfl, rfl, rfl⟩ | ⟨rfl, rfl, rfl, rfl, rfl⟩
    · go_wp2
      go_roundw
      case rel => exact ⟨_, _, _, _, rfl, .inr (.inl ⟨rfl, rfl, rfl, rfl, rfl⟩)⟩
      case measure => decide
    · go_wp2
      go_roundw
      case rel => exact ⟨_, _, _, _, rfl, .inr (.inr (.inl ⟨rfl, rfl, rfl, rfl, rfl⟩))⟩
      case measure => decide
    · go_wp2
      go_roundw
      case rel => exact ⟨_, _, _, _, rfl, .inr (.inr (.inr (.inl ⟨rfl, rfl, rfl, rfl, rfl⟩)))⟩
      case measure => decide
    · go_wp2
      go_roundw
      case rel => exact ⟨_, _, _, _, rfl, .inr (.inr (.inr (.inr ⟨rfl, rfl, rfl, rfl, rfl⟩)))⟩
      case measure => decide
    · go_wp2
      exact bodyPost_ret (v := .agg #[.int .u64 (p : Nat), .int .u64 (q : Nat), .int .u64 (r : Nat), .int .u64 (s : Nat)]) (by simp [results, Try.results33, go_sem]) rfl ⟨rfl, below2 _ _ _⟩
/-- rnot. -/
theorem rnot_c {P : Nat → Bool} {a b c d : Nat} (h : C4 P a b c d) (w : World) : Calls Try.prog 33 #[.agg #[.int .u64 (a : Nat), .int .u64 (b : Nat), .int .u64 (c : Nat), .int .u64 (d : Nat)]] w (RetC w fun x => !P x) := by
  exact (rnot_walk a b c d _ _ _ _ w (not_val h.la) (not_val h.lb) (not_val h.lc) (not_val h.ld)).mono fun e w' ⟨he, hb⟩ => ⟨⟨_, _, _, _, he, h.not⟩, hb⟩
/-- The class, the result's box and what comes of it. -/
structure F3 (w : World) (a b c d : Nat) (P : Nat → Bool) (wr : World) : Prop where
  a : Bx wr w.heap.size (.int .u64 (a : Nat)) (.int .u64 (b : Nat)) (.int .u64 (c : Nat)) (.int .u64 (d : Nat))
  c : Bx wr (w.heap.size + 1) (.int .u64 0) (.int .u64 0) (.int .u64 0) (.int .u64 0)
  f : ∃ p q r s, C4 P p q r s ∧ Bx wr (w.heap.size + 1 + 1) (.int .u64 (p : Nat)) (.int .u64 (q : Nat)) (.int .u64 (r : Nat)) (.int .u64 (s : Nat))
  bel : Below w.heap.size w wr
theorem F3.below {w : World} {a b c d : Nat} {P : Nat → Bool} {wr wr' : World} (t : F3 w a b c d P wr) (hb : Below wr.heap.size wr wr') : F3 w a b c d P wr' := by
  obtain ⟨p, q, r, s, h4, hx⟩ := t.f
  exact ⟨t.a.below hb, t.c.below hb, ⟨p, q, r, s, h4, hx.below hb⟩, t.bel.trans (hb.mono t.bel.size)⟩
theorem F3.put {w : World} {a b c d : Nat} {P Q : Nat → Bool} {wr : World} (t : F3 w a b c d P wr) {p q r s : Nat} (h4 : C4 Q p q r s) : F3 w a b c d Q (put4 wr (w.heap.size + 1 + 1) (.int .u64 (p : Nat)) (.int .u64 (q : Nat)) (.int .u64 (r : Nat)) (.int .u64 (s : Nat))) := by
  obtain ⟨_, _, _, _, _, hx⟩ := t.f
  exact ⟨t.a.others (by omega) _ _ _ _, t.c.others (by omega) _ _ _ _, ⟨p, q, r, s, h4, hx.set _ _ _ _⟩, below_put4 t.bel (by omega) _ _ _ _⟩
theorem F3.start {P : Nat → Bool} {a b c d : Nat} (h4 : C4 P a b c d) (w : World) : F3 w a b c d P (((w.alloc (.cells #[.int .u64 (a : Nat), .int .u64 (b : Nat), .int .u64 (c : Nat), .int .u64 (d : Nat)] 40)).alloc (.cells #[.int .u64 0, .int .u64 0, .int .u64 0, .int .u64 0] 40)).alloc (.cells #[.int .u64 (a : Nat), .int .u64 (b : Nat), .int .u64 (c : Nat), .int .u64 (d : Nat)] 40)) := by
  refine ⟨((Bx.new w _ _ _ _).alloc _).alloc _, Bx.alloc ?_ _, ⟨a, b, c, d, h4, ?_⟩, below3 _ _ _ _⟩
  · have := Bx.new (w.alloc (.cells #[.int .u64 (a : Nat), .int .u64 (b : Nat), .int .u64 (c : Nat), .int .u64 (d : Nat)] 40)) (.int .u64 0) (.int .u64 0) (.int .u64 0) (.int .u64 0)
    simpa using this
  · have := Bx.new ((w.alloc (.cells #[.int .u64 (a : Nat), .int .u64 (b : Nat), .int .u64 (c : Nat), .int .u64 (d : Nat)] 40)).alloc (.cells #[.int .u64 0, .int .u64 0, .int .u64 0, .int .u64 0] 40)) (.int .u64 (a : Nat)) (.int .u64 (b : Nat)) (.int .u64 (c : Nat)) (.int .u64 (d : Nat))
    simpa using this
end Go.Proofs.Ytlmmiicibjfcdaa
namespace Go.Proofs.Ytlmmiicibjfcdaa
open Go.RowKit
section
variable (fl : Fg) (b a0 a1 a2 a3 : Nat) (nt : Bool) (l m : Int) (lz : Bool) (t : Int) (w : World)
end
end Go.Proofs.Ytlmmiicibjfcdaa
