/- ParseRight: the walk. -/
import Derived.Test.YtlmmiicibjfcdaaPz
import Derived.Test.YtlmmiicibjfcdaaZcb
import Derived.Test.YtlmmiicibjfcdaaGGtAnGaGg
namespace Go.Proofs.Ytlmmiicibjfcdaa
open Go.RowKit
def ndE0 : Nd := ndK 0
theorem ndsG (l : List Nd) (k j : Nat) (hk : k < l.length) (hj : j < 10) : (ndsL l)[k * 10 + j]? = (ndL (l.getD k ndE0))[j]? := by
  induction l generalizing k with
  | nil => simp at hk
  | cons s l ih =>
    have e : ndsL (s :: l) = ndL s ++ ndsL l := rfl
    have hs : (ndL s).length = 10 := rfl
    cases k with
    | zero =>
      rw [e, List.getElem?_append_left (by omega)]
      simp
    | succ k =>
      rw [e, List.getElem?_append_right (by omega), hs, show (k + 1) * 10 + j - 10 = k * 10 + j by omega, ih k (by simpa using hk)]
      simp
/-- Nodes in a row can be read. -/
theorem rdn_row {W : World} {base cap : Nat} {ao : Option Addr} {l : List Nd} (h : W.ownsRow base 44 10 (.slice ao l.length cap) l.length (ndsL l)) : T.RdN W ao l.length (fun i => l.getD i ndE0) := by
  intro hn
  obtain ⟨g, rfl, hg, _, hc⟩ := row_cell h hn
  refine ⟨g, 0, rfl, hg, fun i hi => ?_⟩
  have key : ∀ j u, j < 10 → (ndL (l.getD i ndE0))[j]? = some u → W.cell? ⟨g, 0 + i * 10 + j, none⟩ = some u := fun j u hj hu => by
    rw [Nat.zero_add]
    exact hc (i * 10 + j) u (by rw [ndsG l i j hi hj]; exact hu)
  exact ⟨key 0 _ (by omega) rfl, key 1 _ (by omega) rfl, key 2 _ (by omega) rfl, key 3 _ (by omega) rfl, key 4 _ (by omega) rfl, key 5 _ (by omega) rfl, key 6 _ (by omega) rfl, key 7 _ (by omega) rfl, key 8 _ (by omega) rfl, key 9 _ (by omega) rfl⟩
/-- The nodes of a tree, listed, are that tree. -/
theorem tree_list {t : Tre} {l : List Nd} (hl : l = ndF t.subs) (ho : t.ok = true) (hs : t.size ≤ 2048) : treeOf (fun i => l.getD i ndE0) l.length = some t := by
  have hlen : l.length = t.size := by rw [hl, ndF_len, Tre.subs_length]
  refine treeOf_nodes t _ hlen ho hs fun p hp => ?_
  have hp' : p < t.subs.length := by rw [Tre.subs_length]; omega
  rw [hl]
  unfold ndF
  rw [List.getD_eq_getElem?_getD, List.getElem?_mapIdx, List.getElem?_eq_getElem hp', nodes_get (List.getElem?_eq_getElem hp')]
  rfl
/-- The tokens of a pattern may be. -/
theorem toks_may {z : Nat → Nat} {n : Nat} (fl : Fg) (hz : ∀ i, i < n → z i < 256) (hg : ∀ s, s ∈ wl z n 1100 0 → s.er = 0) : ∀ i, i < (wl z n 1100 0).length → (((nS (wl z n 1100 0) i).r.tp fl).ok = true) ∧ 0 ≤ ((nS (wl z n 1100 0) i).r.tp fl).t := by
  intro i hi
  have hm : nS (wl z n 1100 0) i ∈ wl z n 1100 0 := by simp [nS, List.getD, hi]
  exact ⟨(wl_chk hz 1100 0 _ hm (hg _ hm)).1, Int.natCast_nonneg _⟩
theorem okp_tree {z : Nat → Nat} {n : Nat} {fl : Fg} {l : List Nd} (hz : ∀ i, i < n → z i < 256) (h : OkP z n fl l) : ∃ t : Tre, l = ndF t.subs ∧ l.length = t.size ∧ t.ok = true ∧ t.size ≤ 2048 ∧ anc t (true, true) = true := by
  have hm := toks_may fl hz h.2.1
  exact ⟨_, toks_tree (fun i hi => fine_tp fl (hm i hi).1) (fun i hi => (hm i hi).2) h.2.2⟩
theorem okp_chk {z : Nat → Nat} {n : Nat} {fl : Fg} {l : List Nd} (hz : ∀ i, i < n → z i < 256) (h : OkP z n fl l) : T.chkE (fun i => l.getD i ndE0) l.length = 0 ∧ l.length ≤ 2048 := by
  obtain ⟨t, h1, h2, h3, h4, h5⟩ := okp_tree hz h
  refine ⟨?_, by omega⟩
  unfold T.chkE
  rw [tree_list h1 h3 h4]
  simp [h5]
set_option maxRecDepth 10000 in
set_option maxHeartbeats 4000000 in
theorem right_walk (ao : Option Addr) (n cap : Nat) (z : Nat → Nat) (fl : Fg) (w : World) (hr : Rd w ao n z) : Calls Try.prog 5 #[.slice ao n cap, fgV fl] w fun e w' => e = .returned (.bool true) ∧ Below w.heap.size w w' := by
  have hB := bel1 w (.cells #[.bool fl.c, .bool fl.d, .bool fl.m, .bool fl.o, .bool fl.l] 23)
  have kF := Cl.new w 23 [.bool fl.c, .bool fl.d, .bool fl.m, .bool fl.o, .bool fl.l]
  have HL := parse_any ao n cap z fl (w.alloc (.cells #[.bool fl.c, .bool fl.d, .bool fl.m, .bool fl.o, .bool fl.l] 23)) (hr.below hB)
  have hfg : fgV fl = .agg #[.bool fl.c, .bool fl.d, .bool fl.m, .bool fl.o, .bool fl.l] := rfl
  have hz := hr.small
  rw [hfg] at *
  clear hfg
  go_enter Try.func5, Try.ntmps5
  go_wp2_with fail
  refine HL.mono ?_
  clear HL hr kF
  generalize w.alloc (.cells #[.bool fl.c, .bool fl.d, .bool fl.m, .bool fl.o, .bool fl.l] 23) = V at *
  rintro e W1 (⟨⟨pa, pe, hne, rfl, hb1⟩, _⟩ | ⟨l, no, nc, hok, rfl, hrow, hb1⟩)
  · have hbA := bel1 W1 (.cells #[.slice none 0 0] 28)
    have kA := Cl.new W1 28 [.slice none 0 0]
    have hB1 := hB.trans (hb1.mono hB.size)
    have hB2 := hB1.trans (hbA.mono hB1.size)
    have HG := begun_any (W1.alloc (.cells #[.slice none 0 0] 28))
    have hc1 : (pe != 0) = true := by simpa using hne
    clear hb1 hbA hB hB1 hne hz
    go_wp2_with fail
    refine HG.mono ?_
    clear HG
    rintro e W5 ⟨rfl, hb5⟩
    have t0 := (kA.below hb5).cell 0 rfl
    have HB := hB2.trans (hb5.mono hB2.size)
    clear hb5 kA hB2
    go_wp2_with fail
    go_ret
    exact ⟨by simp, HB⟩
  · obtain ⟨hck, hlen⟩ := okp_chk hz hok
    have hbA := bel1 W1 (.cells #[.slice no l.length nc] 28)
    have kA := Cl.new W1 28 [.slice no l.length nc]
    have hB1 := hB.trans (hb1.mono hB.size)
    have hB2 := hB1.trans (hbA.mono hB1.size)
    have HG := begun_any (W1.alloc (.cells #[.slice no l.length nc] 28))
    have hrd := (rdn_row hrow).below hbA
    clear hb1 hbA hB hB1 hz hrow hok
    go_wp2_with fail
    refine HG.mono ?_
    clear HG
    rintro e W5 ⟨rfl, hb5⟩
    have t0 := (kA.below hb5).cell 0 rfl
    have HB := hB2.trans (hb5.mono hB2.size)
    have HC := T.rcheck_any no l.length nc (fun i => l.getD i ndE0) W5 (hrd.below hb5) (by omega)
    rw [hck] at HC
    clear hb5 kA hB2 hrd hck
    generalize l.length = nn at *
    go_wp2_with fail
    refine HC.mono ?_
    clear HC
    rintro e W6 ⟨rfl, hb6⟩
    have HB6 := HB.trans (hb6.mono HB.size)
    clear hb6 HB
    go_wp2_with fail
    go_ret
    exact ⟨by simp, HB6⟩
end Go.Proofs.Ytlmmiicibjfcdaa
