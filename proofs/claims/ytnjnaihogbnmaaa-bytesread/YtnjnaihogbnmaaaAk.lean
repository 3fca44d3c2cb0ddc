/- asks: the walk. -/
import Derived.Test.YtnjnaihogbnmaaaAs
namespace Go.Proofs.Ytnjnaihogbnmaaa
open Go.RowKit
/-- The box of one call that is asked. -/
def AB (w : World) (b : Nat) (x0 x1 x2 x3 x4 : Value) : Prop := w.heap[b]? = some (.cells #[x0, x1, x2, x3, x4] 47 (0, 0))
theorem AB.lt {w : World} {b : Nat} {x0 x1 x2 x3 x4 : Value} (h : AB w b x0 x1 x2 x3 x4) : b < w.heap.size := (Array.getElem?_eq_some_iff.1 h).1
theorem AB.below {w w' : World} {b : Nat} {x0 x1 x2 x3 x4 : Value} (h : AB w b x0 x1 x2 x3 x4) (hb : Below w.heap.size w w') : AB w' b x0 x1 x2 x3 x4 := by
  unfold AB; rw [hb.block b h.lt]; exact h
theorem AB.but {w w' : World} {b q : Nat} {x0 x1 x2 x3 x4 : Value} (h : AB w b x0 x1 x2 x3 x4) (hb : But (some ⟨q, 0, none⟩) w w') (hne : q ≠ b) : AB w' b x0 x1 x2 x3 x4 := by
  unfold AB; rw [hb.block b h.lt (fun a ea => by obtain rfl := Option.some.inj ea; exact hne)]; exact h
theorem AB.cells {w : World} {b : Nat} {x0 x1 x2 x3 x4 : Value} (h : AB w b x0 x1 x2 x3 x4) :
    w.cell? ⟨b, 0, none⟩ = some x0 ∧ w.cell? ⟨b, 1, none⟩ = some x1 ∧ w.cell? ⟨b, 2, none⟩ = some x2 ∧ w.cell? ⟨b, 3, none⟩ = some x3 ∧ w.cell? ⟨b, 4, none⟩ = some x4 :=
  ⟨cell_of_row w b 0 _ 47 (0, 0) h, cell_of_row w b 1 _ 47 (0, 0) h, cell_of_row w b 2 _ 47 (0, 0) h, cell_of_row w b 3 _ 47 (0, 0) h, cell_of_row w b 4 _ 47 (0, 0) h⟩
theorem AB.new (w : World) (x0 x1 x2 x3 x4 : Value) : AB (w.alloc (.cells #[x0, x1, x2, x3, x4] 47)) w.heap.size x0 x1 x2 x3 x4 := heap_alloc_new w _
theorem below_drew5 (w : World) : Below w.heap.size w w.drew := (Below.refl _ _).drew
/-- All blocks but two are as they were. -/
structure Fr2 (rb fb : Nat) (W W' : World) : Prop where
  size : W.heap.size ≤ W'.heap.size
  blk : ∀ j, j < W.heap.size → j ≠ rb → j ≠ fb → W'.heap[j]? = W.heap[j]?
theorem Fr2.trans {rb fb : Nat} {a b c : World} (h : Fr2 rb fb a b) (k : Fr2 rb fb b c) : Fr2 rb fb a c :=
  ⟨Nat.le_trans h.size k.size, fun j hj h1 h2 => (k.blk j (Nat.lt_of_lt_of_le hj h.size) h1 h2).trans (h.blk j hj h1 h2)⟩
theorem Fr2.b {rb fb : Nat} {a b : World} (h : Below a.heap.size a b) : Fr2 rb fb a b := ⟨h.size, fun j hj _ _ => h.block j hj⟩
theorem Fr2.r {rb fb : Nat} {a b : World} (h : But (some ⟨rb, 0, none⟩) a b) : Fr2 rb fb a b := ⟨h.size, fun j hj h1 _ => h.block j hj fun a ea => by obtain rfl := Option.some.inj ea; exact h1.symm⟩
theorem Fr2.f {rb fb : Nat} {a b : World} (h : But (some ⟨fb, 0, none⟩) a b) : Fr2 rb fb a b := ⟨h.size, fun j hj _ h2 => h.block j hj fun a ea => by obtain rfl := Option.some.inj ea; exact h2.symm⟩
/-- What asks answers. -/
def RetA (w0 : World) (rb fb n : Nat) (W : World) (en : Ending) (w' : World) : Prop := en = .returned (.bool true) ∧ Fr2 rb fb W w' ∧ ∃ n' f' e', n' ≤ n ∧ Both w0 rb fb n' f' e' w'
/-- The two sets that are read, and what is left behind them. -/
theorem set_both {w0 W : World} {rb fb n : Nat} {f : Nat → Nat} {e : Int} (t : Both w0 rb fb n f e W) (z : Int) (hne : rb ≠ fb) (hr : w0.heap.size ≤ rb) (hf : w0.heap.size ≤ fb) (hz : -9223372036854775808 ≤ z ∧ z ≤ 9223372036854775807) :
    Calls Try.prog 34 #[.pointer (some ⟨rb, 0, none⟩), .int .i64 z] W fun en w1 => ∃ y ao l cap h n1 f1 e1, en = .returned (.agg #[.int .i64 y, .slice ao l cap]) ∧ RdU w1 ao l h ∧ l ≤ 128 ∧ n1 ≤ n ∧ But (some ⟨rb, 0, none⟩) W w1 ∧ Half w0 rb fb n n1 f f1 e e1 w1 ∧
      (∀ W2, Below w1.heap.size w1 W2 → Calls Try.prog 45 #[.pointer (some ⟨fb, 0, none⟩), .int .i64 z] W2 fun en w2 => ∃ ao2 cap2 h2, en = .returned (.agg #[.int .i64 y, .slice ao2 l cap2]) ∧ RdU w2 ao2 l h2 ∧ (∀ i, i < l → h i = h2 i) ∧ RdU w2 ao l h ∧ But (some ⟨fb, 0, none⟩) W2 w2 ∧ Both w0 rb fb n1 f1 e1 w2) := by
  obtain ⟨ao, cap, hR⟩ := t.r
  by_cases hbad : z < 0 ∨ 8192 < z
  · refine (set_badn hR z hbad).mono ?_
    rintro en w1 ⟨rfl, hret⟩
    refine ⟨0, none, 0, 0, fun _ => 0, _, f, _, rfl, rdu_none _ _ _, by decide, failN_le n e 31, hret.2, t.one hret hne hr, fun W2 hb2 => ?_⟩
    have hh := (t.one hret hne hr).below hb2
    obtain ⟨ao2, cap2, hF⟩ := hh.s
    refine (fset_badn hF z hbad).mono ?_
    rintro en w2 ⟨rfl, hret2⟩
    exact ⟨none, 0, fun _ => 0, rfl, rdu_none _ _ _, fun _ _ => rfl, rdu_none _ _ _, hret2.2, hh.two hret2 hne hf rfl rfl (fun _ _ => rfl)⟩
  · obtain ⟨m, rfl⟩ := Int.eq_ofNat_of_zero_le (show 0 ≤ z by omega)
    have hm : m ≤ 8192 := by omega
    refine (set_loop hR m ((m + 63) / 64) hm rfl).mono ?_
    rintro en w1 ⟨n1, f1, e1, hret, hcase⟩
    have hL : (m + 63) / 64 ≤ 128 := by omega
    have hhalf := t.one hret hne hr
    rcases hcase with ⟨rfl, hno⟩ | ⟨ao1, cap1, rfl, hd1, hyes⟩
    · refine ⟨0, none, 0, 0, fun _ => 0, n1, f1, e1, rfl, rdu_none _ _ _, by decide, (hno.same hno).2.2.2, hret.2, hhalf, fun W2 hb2 => ?_⟩
      have hh := hhalf.below hb2
      obtain ⟨ao2, cap2, hF⟩ := hh.s
      refine (fset_loop hF m ((m + 63) / 64) hm rfl).mono ?_
      rintro en w2 ⟨n2, f2, e2, hret2, hcase2⟩
      rcases hcase2 with ⟨rfl, hno2⟩ | ⟨_, _, _, _, hyes2⟩
      · obtain ⟨s1, s2, s3, _⟩ := hno.same hno2
        exact ⟨none, 0, fun _ => 0, rfl, rdu_none _ _ _, fun _ _ => rfl, rdu_none _ _ _, hret2.2, hh.two hret2 hne hf s1 s2 s3⟩
      · exact (hno.not hyes2).elim
    · obtain ⟨y1, y2, y3, rfl, rfl, rfl⟩ := hyes
      refine ⟨m, ao1, _, cap1, _, _, _, 0, rfl, hd1, hL, by omega, hret.2, hhalf, fun W2 hb2 => ?_⟩
      have hh := hhalf.below hb2
      obtain ⟨aor, capr, hR2⟩ := hh.r
      obtain ⟨ao2, cap2, hF⟩ := hh.s
      refine (fset_loop hF m ((m + 63) / 64) hm rfl).mono ?_
      rintro en w2 ⟨n2, f2, e2, hret2, hcase2⟩
      rcases hcase2 with ⟨_, hno2⟩ | ⟨ao3, cap3, rfl, hd3, _, _, _, rfl, rfl, rfl⟩
      · exact (hno2.not ⟨y1, y2, y3, rfl, rfl, rfl⟩).elim
      · refine ⟨ao3, cap3, _, rfl, hd3, fun _ _ => rfl, ?_, hret2.2, hh.two hret2 hne hf rfl rfl (fun _ _ => rfl)⟩
        have hd2 := hd1.below hb2
        refine ⟨hd2.small, fun hl => ?_⟩
        obtain ⟨bb, off, ea, hlt, hcc⟩ := hd2.at_ hl
        have hnb : fb ≠ bb := by
          rintro rfl
          have h0 := hcc 0 hl
          rw [cell_of_row W2 fb (off + 0) _ 51 (0, 0) hF.blk] at h0
          have : off = 0 ∨ off = 1 ∨ 2 ≤ off := by omega
          rcases this with rfl | rfl | h3
          · simp at h0
          · simp at h0
          · rw [Array.getElem?_eq_none (by simp; omega)] at h0
            simp at h0
        exact ⟨bb, off, ea, Nat.lt_of_lt_of_le hlt hret2.2.size, fun i hi => by rw [hret2.2.cell (p := ⟨bb, off + i, none⟩) hlt (fun c ec => by obtain rfl := Option.some.inj ec; exact hnb)]; exact hcc i hi⟩
theorem StrStep.len {M n : Nat} {f : Nat → Nat} {e : Int} {k : Nat} {g : Nat → Nat} {n' : Nat} {f' : Nat → Nat} {e' : Int} (h : StrStep M n f e k g n' f' e') : k ≤ M := by
  rcases h with ⟨_, rfl, _⟩ | ⟨_, _, rfl, _⟩ | ⟨_, _, _, rfl, _⟩ | ⟨_, _, _, _, rfl, _⟩ | ⟨_, _, _, _, rfl, _⟩ <;> omega
set_option maxHeartbeats 4000000 in
theorem asks_any {w0 W : World} {rb fb n : Nat} {f : Nat → Nat} {e : Int} (d z N E : Int) (most : Nat) (t : Both w0 rb fb n f e W) (hn : n ≤ 140737488355328) (hne : rb ≠ fb) (hr : w0.heap.size ≤ rb) (hf : w0.heap.size ≤ fb)
    (hz : -9223372036854775808 ≤ z ∧ z ≤ 9223372036854775807) (hN : -9223372036854775808 ≤ N ∧ N ≤ 9223372036854775807) :
    Calls Try.prog 25 #[.pointer (some ⟨rb, 0, none⟩), .pointer (some ⟨fb, 0, none⟩), .agg #[.int .i64 d, .int .i64 z, .int .u64 (most : Nat), .int .i64 N, .int .i64 E]] W (RetA w0 rb fb n W) := by
  have rlt : rb < W.heap.size := t.r.elim fun _ h => h.elim fun _ h => h.lt
  have flt : fb < W.heap.size := t.s.elim fun _ h => h.elim fun _ h => h.lt
  have hrb : rb ≠ W.heap.size := by omega
  have hfb : fb ≠ W.heap.size := by omega
  replace t := t.below ((Below.refl _ W).alloc (Nat.le_refl _) (.cells #[.int .i64 d, .int .i64 z, .int .u64 (most : Nat), .int .i64 N, .int .i64 E] 47))
  have bx := AB.new W (.int .i64 d) (.int .i64 z) (.int .u64 (most : Nat)) (.int .i64 N) (.int .i64 E)
  have fr : Fr2 rb fb W (W.alloc (.cells #[.int .i64 d, .int .i64 z, .int .u64 (most : Nat), .int .i64 N, .int .i64 E] 47)) := Fr2.b ((Below.refl _ W).alloc (Nat.le_refl _) _)
  clear rlt flt
  by_cases h0 : d = 0
  · subst h0
    obtain ⟨k0, k1, k2, k3, k4⟩ := bx.cells
    replace t := t.below (below_drew5 _)
    replace bx := bx.below (below_drew5 _)
    replace fr := fr.trans (Fr2.b (below_drew5 _))
    have hc := bx.cells
    obtain ⟨ao, cap, hR⟩ := t.r
    have hnum := num_r hR z most hz.1 hz.2
    go_enter Try.func25, Try.ntmps25
    go_wp2_with fail
    clear k0 k1 k2 k3 k4
    go_region_held3 (fun w' => w'.cell? ⟨W.heap.size, 0, none⟩ = some (.int .i64 0) ∧ w'.cell? ⟨W.heap.size, 1, none⟩ = some (.int .i64 z) ∧ w'.cell? ⟨W.heap.size, 2, none⟩ = some (.int .u64 (most : Nat)) ∧ w'.cell? ⟨W.heap.size, 3, none⟩ = some (.int .i64 N) ∧ w'.cell? ⟨W.heap.size, 4, none⟩ = some (.int .i64 E)) (exact hc)
      (first
        | (go_at_call 31; refine hnum.mono ?_; rintro en w1 ⟨x1, n1, f1, e1, rfl, hs1, hret1⟩; have t1 := t.one hret1 hne hr; replace bx := bx.but hret1.2 hrb; replace fr := fr.trans (Fr2.r hret1.2); clear hc; have hc := bx.cells; obtain ⟨ao2, cap2, hF⟩ := t1.s; have hfn := fnum_r hF z most hz.1 hz.2)
        | (go_at_call 43; refine hfn.mono ?_; rintro en w2 ⟨x2, n2, f2, e2, rfl, hs2, hret2⟩; obtain ⟨rfl, s2, s3, s4, s5⟩ := hs1.same hs2; have t2 := t1.two hret2 hne hf s2 s3 s4; replace bx := bx.but hret2.2 hfb; replace fr := fr.trans (Fr2.f hret2.2); clear hc; have hc := bx.cells))
    go_wp2
    go_ret
    exact ⟨rfl, fr, n1, f1, e1, s5, t2⟩
  by_cases h1 : d = 1
  · subst h1
    obtain ⟨k0, k1, k2, k3, k4⟩ := bx.cells
    replace t := t.below (below_drew5 _)
    replace bx := bx.below (below_drew5 _)
    replace fr := fr.trans (Fr2.b (below_drew5 _))
    have hc := bx.cells
    obtain ⟨ao, cap, hR⟩ := t.r
    have hstr := str_r hR N hn
    clear h0
    go_enter Try.func25, Try.ntmps25
    go_wp2_with fail
    clear k0 k1 k2 k3 k4
    go_region_held3 (fun w' => w'.cell? ⟨W.heap.size, 0, none⟩ = some (.int .i64 1) ∧ w'.cell? ⟨W.heap.size, 1, none⟩ = some (.int .i64 z) ∧ w'.cell? ⟨W.heap.size, 2, none⟩ = some (.int .u64 (most : Nat)) ∧ w'.cell? ⟨W.heap.size, 3, none⟩ = some (.int .i64 N) ∧ w'.cell? ⟨W.heap.size, 4, none⟩ = some (.int .i64 E)) (exact hc)
      (first
        | (go_at_call 32; refine hstr.mono ?_; rintro en w1 ⟨x1, l1, c1, g1, n1, f1, e1, rfl, hs1, ho1, hret1⟩; have t1 := t.one hret1 hne hr; replace bx := bx.but hret1.2 hrb; replace fr := fr.trans (Fr2.r hret1.2); clear hc; have hc := bx.cells; obtain ⟨ao2, cap2, hF⟩ := t1.s; have hfs := fstr_r hF N hn; replace ho1 := ho1.rd)
        | (go_at_call 44; refine hfs.mono ?_; rintro en w2 ⟨x2, l2, c2, g2, n2, f2, e2, rfl, hs2, ho2, hret2⟩; obtain ⟨rfl, s1, s2, s3, s4, s5⟩ := hs1.same hs2; replace ho1 := ho1.but hret2.2 (fun hl a c ea ec => (by obtain rfl := Option.some.inj ec; exact hF.apart ho1 hl a ea)); have t2 := t1.two hret2 hne hf s2 s3 s4; have hl2 : (l1 : Int) ≤ 9223372036854775807 := (by have := hs2.len; have := strM_le N; omega); replace bx := bx.but hret2.2 hfb; replace fr := fr.trans (Fr2.f hret2.2); clear hc; have hc := bx.cells)
        | (go_at_call 12; refine (equal_len9 ho1 rfl s1 ho2 hl2).mono ?_; rintro en w3 ⟨rfl, q⟩; replace t2 := t2.below q; replace bx := bx.below q; replace fr := fr.trans (Fr2.b q); clear hc; have hc := bx.cells))
    go_wp2
    go_ret
    exact ⟨rfl, fr, n1, f1, e1, s5, t2⟩
  by_cases h2 : d = 2
  · subst h2
    obtain ⟨k0, k1, k2, k3, k4⟩ := bx.cells
    replace t := t.below (below_drew5 _)
    replace bx := bx.below (below_drew5 _)
    replace fr := fr.trans (Fr2.b (below_drew5 _))
    have hc := bx.cells
    have hset := set_both t N hne hr hf hN
    clear h0 h1
    go_enter Try.func25, Try.ntmps25
    go_wp2_with fail
    clear k0 k1 k2 k3 k4
    go_region_held3 (fun w' => w'.cell? ⟨W.heap.size, 0, none⟩ = some (.int .i64 2) ∧ w'.cell? ⟨W.heap.size, 1, none⟩ = some (.int .i64 z) ∧ w'.cell? ⟨W.heap.size, 2, none⟩ = some (.int .u64 (most : Nat)) ∧ w'.cell? ⟨W.heap.size, 3, none⟩ = some (.int .i64 N) ∧ w'.cell? ⟨W.heap.size, 4, none⟩ = some (.int .i64 E)) (exact hc)
      (first
        | (go_at_call 34; refine hset.mono ?_; rintro en w1 ⟨y1, x1, l1, c1, g1, n1, f1, e1, rfl, ho1, hl1, hn1, hB1, t1, hfs⟩; replace bx := bx.but hB1 hrb; replace fr := fr.trans (Fr2.r hB1); clear hc; have hc := bx.cells; have hl1i : (l1 : Int) ≤ 9223372036854775807 := (by omega))
        | (go_at_call 45; refine (hfs _ (Below.refl _ _)).mono ?_; rintro en w2 ⟨x2, c2, g2, rfl, ho2, hg, ho1', hB2, t2⟩; replace bx := bx.but hB2 hfb; replace fr := fr.trans (Fr2.f hB2); clear hc hfs; have hc := bx.cells)
        | (go_at_call 33; refine (exact_true y1 x1 x2 l1 c1 c2 g1 g2 _ ho1' ho2 hg hl1i).mono ?_; rintro en w3 ⟨rfl, q⟩; replace t2 := t2.below q; replace bx := bx.below q; replace fr := fr.trans (Fr2.b q); clear hc; have hc := bx.cells))
    go_wp2
    go_ret
    exact ⟨rfl, fr, n1, f1, e1, hn1, t2⟩
  · have e0 : (d == 0) = false := by simpa using h0
    have e1 : (d == 1) = false := by simpa using h1
    have e2 : (d == 2) = false := by simpa using h2
    obtain ⟨k0, k1, k2, k3, k4⟩ := bx.cells
    obtain ⟨ao, cap, hR⟩ := t.r
    have hfail := fail_any hR E
    go_enter Try.func25, Try.ntmps25
    go_wp2_with fail
    refine hfail.mono ?_
    rintro en w1 ⟨rfl, hret1⟩
    have t1 := t.one hret1 hne hr
    replace bx := bx.but hret1.2 hrb
    replace fr := fr.trans (Fr2.r hret1.2)
    clear k0 k1 k2 k3 k4 hret1 hfail
    obtain ⟨k0, k1, k2, k3, k4⟩ := bx.cells
    obtain ⟨ao2, cap2, hF⟩ := t1.s
    go_wp2_with fail
    refine (ffail_any hF E).mono ?_
    rintro en w2 ⟨rfl, hret2⟩
    have t2 := t1.two hret2 hne hf rfl rfl (fun _ _ => rfl)
    replace fr := fr.trans (Fr2.f hret2.2)
    go_wp2
    go_ret
    exact ⟨rfl, fr, _, _, _, failN_le n e E, t2⟩
end Go.Proofs.Ytnjnaihogbnmaaa
