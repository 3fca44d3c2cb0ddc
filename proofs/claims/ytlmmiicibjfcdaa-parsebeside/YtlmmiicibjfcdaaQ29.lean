/- ParseRight: the walk. ParseGroups: what is known in the region that draws its order. ParseGroups: the operations of the region that draws its order, one by one. Drawn regions: what a program looks over. ParseGroups: what the two appends come to. ParseGroups: the two appends of the region that draws its order. Trees held against each other by the reference: the walk. ParseGroups: the walk. append to a row of one's own, of bytes that can be read, as many as there are. append to a row of one's own, or to the bytes of a text: the bytes of (?:p)(?:q). -/
import Derived.Test.YtlmmiicibjfcdaaQ23
import Derived.Test.YtlmmiicibjfcdaaQ28
import Derived.Test.YtlmmiicibjfcdaaQ22
import Derived.ArgAppend
import Derived.Deep.AppendLies
import Derived.Test.YtlmmiicibjfcdaaQ24
import Derived.Deep.CutBlock
import Derived.Test.YtlmmiicibjfcdaaQ26
import Derived.Lib.AppendStr
import Derived.Test.YtlmmiicibjfcdaaQ25
namespace Go.Proofs.Ytlmmiicibjfcdaa
open Go.RowKit
def ndE0 : Nd := ndK 0
theorem ndsG (l : List Nd) (k j : Nat) (hk : k < l.length) (hj : j < 10) : (ndsL l)[k * 10 + j]? = (ndL (l.getD k ndE0))[j]? := by
  induction l generalizing k with
  | nil => simp at hk
  | cons s l ih =>
    have e : ndsL (s :: l) = ndL s ++ ndsL l := rfl
    have hs : (ndL s).length = 10 := rfl
    cases k with
    | zero =>
      rw [e, List.getElem?_append_left (by omega)]
      simp
    | succ k =>
      rw [e, List.getElem?_append_right (by omega), hs, show (k + 1) * 10 + j - 10 = k * 10 + j by omega, ih k (by simpa using hk)]
      simp
/-- Nodes in a row can be read. -/
theorem rdn_row {W : World} {base cap : Nat} {ao : Option Addr} {l : List Nd} (h : W.ownsRow base 44 10 (.slice ao l.length cap) l.length (ndsL l)) : T.RdN W ao l.length (fun i => l.getD i ndE0) := by
  intro hn
  obtain ⟨g, rfl, hg, _, hc⟩ := row_cell h hn
  refine ⟨g, 0, rfl, hg, fun i hi => ?_⟩
  have key : ∀ j u, j < 10 → (ndL (l.getD i ndE0))[j]? = some u → W.cell? ⟨g, 0 + i * 10 + j, none⟩ = some u := fun j u hj hu => by
    rw [Nat.zero_add]
    exact hc (i * 10 + j) u (by rw [ndsG l i j hi hj]; exact hu)
  exact ⟨key 0 _ (by omega) rfl, key 1 _ (by omega) rfl, key 2 _ (by omega) rfl, key 3 _ (by omega) rfl, key 4 _ (by omega) rfl, key 5 _ (by omega) rfl, key 6 _ (by omega) rfl, key 7 _ (by omega) rfl, key 8 _ (by omega) rfl, key 9 _ (by omega) rfl⟩
/-- The nodes of a tree, listed, are that tree. -/
theorem tree_list {t : Tre} {l : List Nd} (hl : l = ndF t.subs) (ho : t.ok = true) (hs : t.size ≤ 2048) : treeOf (fun i => l.getD i ndE0) l.length = some t := by
  have hlen : l.length = t.size := by rw [hl, ndF_len, Tre.subs_length]
  refine treeOf_nodes t _ hlen ho hs fun p hp => ?_
  have hp' : p < t.subs.length := by rw [Tre.subs_length]; omega
  rw [hl]
  unfold ndF
  rw [List.getD_eq_getElem?_getD, List.getElem?_mapIdx, List.getElem?_eq_getElem hp', nodes_get (List.getElem?_eq_getElem hp')]
  rfl
/-- The tokens of a pattern may be. -/
theorem toks_may {z : Nat → Nat} {n : Nat} (fl : Fg) (hz : ∀ i, i < n → z i < 256) (hg : ∀ s, s ∈ wl z n 1100 0 → s.er = 0) : ∀ i, i < (wl z n 1100 0).length → (((nS (wl z n 1100 0) i).r.tp fl).ok = true) ∧ 0 ≤ ((nS (wl z n 1100 0) i).r.tp fl).t := by
  intro i hi
  have hm : nS (wl z n 1100 0) i ∈ wl z n 1100 0 := by simp [nS, List.getD, hi]
  exact ⟨(wl_chk hz 1100 0 _ hm (hg _ hm)).1, Int.natCast_nonneg _⟩
theorem okp_tree {z : Nat → Nat} {n : Nat} {fl : Fg} {l : List Nd} (hz : ∀ i, i < n → z i < 256) (h : OkP z n fl l) : ∃ t : Tre, l = ndF t.subs ∧ l.length = t.size ∧ t.ok = true ∧ t.size ≤ 2048 ∧ anc t (true, true) = true := by
  have hm := toks_may fl hz h.2.1
  exact ⟨_, toks_tree (fun i hi => fine_tp fl (hm i hi).1) (fun i hi => (hm i hi).2) h.2.2⟩
theorem okp_chk {z : Nat → Nat} {n : Nat} {fl : Fg} {l : List Nd} (hz : ∀ i, i < n → z i < 256) (h : OkP z n fl l) : T.chkE (fun i => l.getD i ndE0) l.length = 0 ∧ l.length ≤ 2048 := by
  obtain ⟨t, h1, h2, h3, h4, h5⟩ := okp_tree hz h
  refine ⟨?_, by omega⟩
  unfold T.chkE
  rw [tree_list h1 h3 h4]
  simp [h5]
end Go.Proofs.Ytlmmiicibjfcdaa
namespace Go.Proofs.Ytlmmiicibjfcdaa
open Go.RowKit
def inB (z : Nat → Nat) (i : Nat) : Nat := if i = 0 then 40 else z (i - 1)
/-- Bytes as cells. -/
def byL (z : Nat → Nat) (n : Nat) : List Value := (List.range n).map fun i => .int .u8 (z i : Nat)
theorem byL_len (z : Nat → Nat) (n : Nat) : (byL z n).length = n := by simp [byL]
theorem byL_get (z : Nat → Nat) {n i : Nat} (h : i < n) : (byL z n)[i]? = some (.int .u8 (z i : Nat)) := by simp [byL, h]
theorem byL_one (z : Nat → Nat) (n : Nat) : ∀ u ∈ byL z n, u.oneCell' = true := fun u hu => by
  obtain ⟨i, _, rfl⟩ := List.mem_map.1 hu
  rfl
/-- A block of bytes of one's own. -/
def ByB (B : Nat) (w : World) (b : Nat) (cs : Array Value) (fz : Nat × Nat) : Prop := B ≤ b ∧ w.heap[b]? = some (.cells cs 5 fz)
/-- What each operation answers. -/
def V6 (B n cap : Nat) (ao : Option Addr) (z : Nat → Nat) (fl : Fg) (l : List Nd) (nn : Nat) (j : Nat) (g : Nat → Value) (w : World) : Prop :=
  match j with
  | 0 => ∃ (b : Nat) (fz : Nat × Nat), g 0 = .slice (some ⟨b, 0, none⟩) 1 1 ∧ ByB B w b #[.int .u8 40] fz
  | 1 => ∃ (b : Nat) (fz : Nat × Nat), g 1 = .slice (some ⟨b, 0, none⟩) 1 1 ∧ ByB B w b #[.int .u8 40] fz
  | 2 => g 2 = .slice ao n cap
  | 3 => ∃ (b : Nat) (cs : Array Value) (fz : Nat × Nat), g 3 = .slice (some ⟨b, 0, none⟩) (1 + n) cs.size ∧ ByB B w b cs fz ∧ 1 + n ≤ cs.size ∧ (1 + n < cs.size → fz = (0, 0)) ∧ ∀ i, i < 1 + n → cs[i]? = some (.int .u8 (inB z i : Nat))
  | 4 => ∃ (b : Nat) (fz : Nat × Nat), g 4 = .slice (some ⟨b, 0, none⟩) 1 1 ∧ ByB B w b #[.int .u8 41] fz
  | 5 => ∃ (b cp : Nat) (cs : Array Value) (fz : Nat × Nat), g 5 = .slice (some ⟨b, 0, none⟩) (1 + (n + 1)) cp ∧ ByB B w b cs fz ∧ ∀ i, i < 1 + (n + 1) → cs[i]? = some (.int .u8 (inB z i : Nat))
  | 6 => g 6 = fgV fl
  | 7 => ∃ (no : Option Addr) (nc : Nat), g 7 = .tuple #[.agg #[.slice no nn nc], .int .i64 ((1 + (n + 1) : Nat) : Int), .int .i64 0] ∧ w.ownsRow B 44 10 (.slice no nn nc) nn (ndsL l)
  | 8 => ∃ (no : Option Addr) (nc : Nat), g 8 = .tuple #[.agg #[.slice no nn nc], .int .i64 ((1 + (n + 1) : Nat) : Int), .int .i64 0] ∧ w.ownsRow B 44 10 (.slice no nn nc) nn (ndsL l)
  | 9 => ∃ (no : Option Addr) (nc : Nat), g 9 = .agg #[.slice no nn nc] ∧ w.ownsRow B 44 10 (.slice no nn nc) nn (ndsL l)
  | 11 => g 11 = .int .i64 0
  | 12 => ∃ (b : Nat) (c : Value), g 12 = .pointer (some ⟨b, 0, none⟩) ∧ B ≤ b ∧ w.heap[b]? = some (.cells #[c] 28 (0, 0))
  | 13 => ∃ (b : Nat) (no : Option Addr) (nc : Nat), g 12 = .pointer (some ⟨b, 0, none⟩) ∧ B ≤ b ∧ w.heap[b]? = some (.cells #[.slice no nn nc] 28 (0, 0)) ∧ w.ownsRow B 44 10 (.slice no nn nc) nn (ndsL l)
  | 15 => g 15 = .int .i64 0
  | _ => True
/-- What an operation may do to the blocks. -/
structure G6 (B n : Nat) (l : List Nd) (nn : Nat) (w w' : World) : Prop where
  oth : ∀ (k : Nat) (cs : Array Value) (t : TypeId) (fz : Nat × Nat), w.heap[k]? = some (Obj.cells cs t fz) → t ≠ 5 → t ≠ 28 → w'.heap[k]? = some (Obj.cells cs t fz)
  byt : ∀ (k : Nat) (cs : Array Value) (fz : Nat × Nat), w.heap[k]? = some (Obj.cells cs 5 fz) → ∃ (cs' : Array Value) (fz' : Nat × Nat), w'.heap[k]? = some (Obj.cells cs' 5 fz') ∧ cs'.size = cs.size ∧ (cs.size ≠ 1 → fz' = fz) ∧ ∀ j, cs'[j]? = cs[j]? ∨ (j = 1 + n ∧ cs'[j]? = some (.int .u8 41))
  box : ∀ (k : Nat) (c : Value), w.heap[k]? = some (Obj.cells #[c] 28 (0, 0)) → ∃ c' : Value, w'.heap[k]? = some (Obj.cells #[c'] 28 (0, 0)) ∧ (c' = c ∨ ∃ no nc, c' = .slice no nn nc ∧ w'.ownsRow B 44 10 (.slice no nn nc) nn (ndsL l))
theorem G6.of_same {B n : Nat} {l : List Nd} {nn : Nat} {w w' : World} (h : ∀ k, k < w.heap.size → w'.heap[k]? = w.heap[k]?) : G6 B n l nn w w' := by
  have hl : ∀ {k o}, w.heap[k]? = some o → w'.heap[k]? = some o := fun {k o} hk => by rw [h k (Array.getElem?_eq_some_iff.1 hk).1]; exact hk
  exact ⟨fun k cs t fz hk _ _ => hl hk, fun k cs fz hk => ⟨cs, fz, hl hk, rfl, fun _ => rfl, fun j => .inl rfl⟩, fun k c hk => ⟨c, hl hk, .inl rfl⟩⟩
theorem G6.of_below {B n : Nat} {l : List Nd} {nn : Nat} {w w' : World} (h : Below w.heap.size w w') : G6 B n l nn w w' := G6.of_same h.block
theorem G6.refl {B n : Nat} {l : List Nd} {nn : Nat} (w : World) : G6 B n l nn w w := G6.of_same fun _ _ => rfl
theorem G6.row {B n : Nat} {l : List Nd} {nn : Nat} {w w' : World} (h : G6 B n l nn w w') {base k : Nat} {v : Value} {xs : List Value} (hr : w.ownsRow base 44 10 v k xs) : w'.ownsRow base 44 10 v k xs :=
  own_at hr fun b hb => by
    obtain ⟨_, _, cur, hc⟩ := own_block hr hb
    rw [hc]
    exact h.oth _ _ _ _ hc (by decide) (by decide)
theorem G6.one {B n : Nat} {l : List Nd} {nn : Nat} {w w' : World} (h : G6 B n l nn w w') {b : Nat} {v : Value} {fz : Nat × Nat} (hb : ByB B w b #[v] fz) : ∃ fz', ByB B w' b #[v] fz' := by
  obtain ⟨cs', fz', h1, h2, _, h4⟩ := h.byt _ _ _ hb.2
  refine ⟨fz', hb.1, ?_⟩
  have : cs' = #[v] := by
    apply Array.ext_getElem?
    intro j
    rcases h4 j with h | ⟨h, _⟩
    · exact h
    · have hs : cs'.size = 1 := h2
      rw [Array.getElem?_eq_none (by omega), Array.getElem?_eq_none (by simp; omega)]
  rw [h1, this]
theorem V6.keep {B n cap : Nat} {ao : Option Addr} {z : Nat → Nat} {fl : Fg} {l : List Nd} {nn : Nat} (hz : z n = 41) (j : Nat) (g : Nat → Value) (w w' : World) (hv : V6 B n cap ao z fl l nn j g w) (h : G6 B n l nn w w') : V6 B n cap ao z fl l nn j g w' := by
  match j, hv with
  | 0, ⟨b, fz, e, hb⟩ => obtain ⟨fz', h'⟩ := h.one hb; exact ⟨b, fz', e, h'⟩
  | 1, ⟨b, fz, e, hb⟩ => obtain ⟨fz', h'⟩ := h.one hb; exact ⟨b, fz', e, h'⟩
  | 2, e => exact e
  | 3, ⟨b, cs, fz, e, hb, h1, h2, h3⟩ =>
    obtain ⟨cs', fz', g1, g2, g3, g4⟩ := h.byt _ _ _ hb.2
    refine ⟨b, cs', fz', by rw [e, g2], ⟨hb.1, g1⟩, by omega, fun hlt => ?_, fun i hi => ?_⟩
    · rw [g3 (by omega)]; exact h2 (by omega)
    · rcases g4 i with h | ⟨h, _⟩
      · rw [h]; exact h3 i hi
      · omega
  | 4, ⟨b, fz, e, hb⟩ => obtain ⟨fz', h'⟩ := h.one hb; exact ⟨b, fz', e, h'⟩
  | 5, ⟨b, cp, cs, fz, e, hb, h3⟩ =>
    obtain ⟨cs', fz', g1, _, _, g4⟩ := h.byt _ _ _ hb.2
    refine ⟨b, cp, cs', fz', e, ⟨hb.1, g1⟩, fun i hi => ?_⟩
    rcases g4 i with h | ⟨h, h'⟩
    · rw [h]; exact h3 i hi
    · rw [h', h]
      have : inB z (1 + n) = 41 := by unfold inB; rw [if_neg (by omega), Nat.add_sub_cancel_left, hz]
      rw [this]; rfl
  | 6, e => exact e
  | 7, ⟨no, nc, e, hr⟩ => exact ⟨no, nc, e, h.row hr⟩
  | 8, ⟨no, nc, e, hr⟩ => exact ⟨no, nc, e, h.row hr⟩
  | 9, ⟨no, nc, e, hr⟩ => exact ⟨no, nc, e, h.row hr⟩
  | 10, _ => trivial
  | 11, e => exact e
  | 12, ⟨b, c, e, hb, hc⟩ =>
    obtain ⟨c', h1, _⟩ := h.box _ _ hc
    exact ⟨b, c', e, hb, h1⟩
  | 13, ⟨b, no, nc, e, hb, hc, hr⟩ =>
    obtain ⟨c', h1, h2⟩ := h.box _ _ hc
    rcases h2 with rfl | ⟨no', nc', rfl, hr'⟩
    · exact ⟨b, no, nc, e, hb, h1, h.row hr⟩
    · exact ⟨b, no', nc', e, hb, h1, hr'⟩
  | 14, _ => trivial
  | 15, e => exact e
  | _ + 16, _ => trivial
theorem V6.same {B n cap : Nat} {ao : Option Addr} {z : Nat → Nat} {fl : Fg} {l : List Nd} {nn : Nat} (j : Nat) (g g' : Nat → Value) (w : World) (h0 : g' j = g j) (h1 : j = 13 → g' 12 = g 12) (hv : V6 B n cap ao z fl l nn j g w) : V6 B n cap ao z fl l nn j g' w := by
  match j, hv, h0, h1 with
  | 0, hv, h0, _ => unfold V6 at hv ⊢; rw [h0]; exact hv
  | 1, hv, h0, _ => unfold V6 at hv ⊢; rw [h0]; exact hv
  | 2, hv, h0, _ => unfold V6 at hv ⊢; rw [h0]; exact hv
  | 3, hv, h0, _ => unfold V6 at hv ⊢; rw [h0]; exact hv
  | 4, hv, h0, _ => unfold V6 at hv ⊢; rw [h0]; exact hv
  | 5, hv, h0, _ => unfold V6 at hv ⊢; rw [h0]; exact hv
  | 6, hv, h0, _ => unfold V6 at hv ⊢; rw [h0]; exact hv
  | 7, hv, h0, _ => unfold V6 at hv ⊢; rw [h0]; exact hv
  | 8, hv, h0, _ => unfold V6 at hv ⊢; rw [h0]; exact hv
  | 9, hv, h0, _ => unfold V6 at hv ⊢; rw [h0]; exact hv
  | 10, _, _, _ => trivial
  | 11, hv, h0, _ => unfold V6 at hv ⊢; rw [h0]; exact hv
  | 12, hv, h0, _ => unfold V6 at hv ⊢; rw [h0]; exact hv
  | 13, hv, _, h1 => unfold V6 at hv ⊢; rw [h1 rfl]; exact hv
  | 14, _, _, _ => trivial
  | 15, hv, h0, _ => unfold V6 at hv ⊢; rw [h0]; exact hv
  | _ + 16, _, _, _ => trivial
end Go.Proofs.Ytlmmiicibjfcdaa
namespace Go.Proofs.Ytlmmiicibjfcdaa
open Go.RowKit
section
variable {o : Oper} {a : Act} {w : World}
end
end Go.Proofs.Ytlmmiicibjfcdaa
namespace Go.Proofs.Ytlmmiicibjfcdaa
open Go.RowKit
theorem G6.mark {B n : Nat} {l : List Nd} {nn : Nat} {w w' : World} {b : Nat} {v : Value} {fz fz' : Nat × Nat} (h : w.heap[b]? = some (.cells #[v] 5 fz)) (h' : w'.heap[b]? = some (.cells #[v] 5 fz')) (hk : ∀ k, k ≠ b → w'.heap[k]? = w.heap[k]?) : G6 B n l nn w w' := by
  refine ⟨fun k cs t f hh h5 _ => ?_, fun k cs f hh => ?_, fun k c hh => ?_⟩
  · by_cases e : k = b
    · subst e; rw [h] at hh; cases hh; exact absurd rfl h5
    · rw [hk k e]; exact hh
  · by_cases e : k = b
    · subst e; rw [h] at hh; cases hh
      exact ⟨#[v], fz', h', rfl, fun h => absurd rfl h, fun j => .inl rfl⟩
    · exact ⟨cs, f, by rw [hk k e]; exact hh, rfl, fun _ => rfl, fun j => .inl rfl⟩
  · by_cases e : k = b
    · subst e; rw [h] at hh; cases hh
    · exact ⟨c, by rw [hk k e]; exact hh, .inl rfl⟩
/-- One byte is written behind. -/
theorem G6.byte {B n : Nat} {l : List Nd} {nn : Nat} {w : World} {b : Nat} {cs : Array Value} (h : w.heap[b]? = some (.cells cs 5 (0, 0))) (_hl : 1 + n < cs.size) : G6 B n l nn w (w.setCell ⟨b, 1 + n, none⟩ (.int .u8 41)) := by
  have hk : ∀ k, k ≠ b → (w.setCell ⟨b, 1 + n, none⟩ (.int .u8 41)).heap[k]? = w.heap[k]? := fun k hk => Below.heap_setCell _ _ _ _ hk
  have hs := heap_setCell_same w b (1 + n) cs 5 (.int .u8 41) h
  refine ⟨fun k cs' t f hh h5 _ => ?_, fun k cs' f hh => ?_, fun k c hh => ?_⟩
  · by_cases e : k = b
    · subst e; rw [h] at hh; cases hh; exact absurd rfl h5
    · rw [hk k e]; exact hh
  · by_cases e : k = b
    · subst e; rw [h] at hh; cases hh
      refine ⟨_, (0, 0), hs, by simp, fun _ => rfl, fun j => ?_⟩
      by_cases ej : 1 + n = j
      · subst ej
        exact .inr ⟨rfl, by rw [Array.getElem?_setIfInBounds_self_of_lt _hl]⟩
      · exact .inl (by rw [Array.getElem?_setIfInBounds_ne ej])
    · exact ⟨cs', f, by rw [hk k e]; exact hh, rfl, fun _ => rfl, fun j => .inl rfl⟩
  · by_cases e : k = b
    · subst e; rw [h] at hh; cases hh
    · exact ⟨c, by rw [hk k e]; exact hh, .inl rfl⟩
end Go.Proofs.Ytlmmiicibjfcdaa
namespace Go.Proofs.Ytlmmiicibjfcdaa
open Go.RowKit
theorem b_u8 : (Try.prog.info? 5).map (fun i => (i.zero, i.size, i.bytes)) = some (some (.int .u8 0), 1, 1) := by kernel_rfl
/-- Nothing is appended. -/
theorem run_append_nil0 (w : World) (t ty e : TypeId) (i : TypeInfo) (ht : Try.prog.underlying t = some (.slice e)) (hi : Try.prog.info? e = some i) (b xo : Option Addr) (n cap c : Nat) (hle : n ≤ cap) :
    (Builtin.append_ #[t, t] ty #[.slice b n cap, .slice xo 0 c]).run Try.prog w = .ok (.slice b n cap) w := by
  cases xo <;> cases b <;> simp [Builtin.append_, run_underlying ht, sizeOf, typeInfo, hi, Builtin.lenOf, Builtin.firstCells, loadCells, loadCellsFrom, hle, storeCells]
section
variable {B n cap : Nat} {ao : Option Addr} {z : Nat → Nat} {fl : Fg} {l : List Nd} {nn : Nat} {g : Nat → Value} {w : World}
end
end Go.Proofs.Ytlmmiicibjfcdaa
namespace Go.Proofs.Ytlmmiicibjfcdaa.T
open Go.RowKit
def RetSm (w : World) (b : Bool) (e : Ending) (w' : World) : Prop := e = .returned (.bool b) ∧ Below w.heap.size w w'
/-- Whether the first n nodes are the same. -/
def eqN (F G : Nat → Nd) : Nat → Bool
  | 0 => true
  | n + 1 => eqN F G n && (F n).eq (G n)
theorem eqN_stop {F G : Nat → Nd} {k : Nat} (h : (F k).eq (G k) = false) : ∀ n, k < n → eqN F G n = false
  | 0, hn => by omega
  | n + 1, hn => by
    rw [eqN]
    by_cases e : k = n
    · subst e; rw [h, Bool.and_false]
    · rw [eqN_stop h n (by omega), Bool.false_and]
set_option maxRecDepth 10000 in
set_option maxHeartbeats 2000000 in
theorem rsame_any (ao bo : Option Addr) (n m ca cb : Nat) (F G : Nat → Nd) (w : World) (ha : RdN w ao n F) (hb : RdN w bo m G) (hm : (n : Int) ≤ 9223372036854775807) : Calls Try.prog 12 #[.agg #[.slice ao n ca], .agg #[.slice bo m cb]] w (RetSm w (decide (n = m) && eqN F G n)) := by
  have hB := below2 w (.cells #[.slice ao n ca] 28) (.cells #[.slice bo m cb] 28)
  have k1 : Cl ((w.alloc (.cells #[.slice ao n ca] 28)).alloc (.cells #[.slice bo m cb] 28)) w.heap.size 28 [.slice ao n ca] := (Cl.new w 28 [.slice ao n ca]).alloc _
  have k2 : Cl ((w.alloc (.cells #[.slice ao n ca] 28)).alloc (.cells #[.slice bo m cb] 28)) (w.heap.size + 1) 28 [.slice bo m cb] := by
    have := Cl.new (w.alloc (.cells #[.slice ao n ca] 28)) 28 [.slice bo m cb]
    simpa only [World.size_alloc] using this
  replace ha := ha.below hB
  replace hb := hb.below hB
  by_cases hnm : n = m
  · subst hnm
    rw [decide_eq_true rfl, Bool.true_and]
    have hn : ((n : Int) != (n : Int)) = false := by simp
    go_enter Try.func12, Try.ntmps12
    go_wp2_with fail
    generalize hU : (w.alloc (.cells #[.slice ao n ca] 28)).alloc (.cells #[.slice bo n cb] 28) = U at *
    clear hU
    have u1 := k1.cell 0 rfl
    have u2 := k2.cell 0 rfl
    go_loopw [5] (fun i wr => ∃ k : Nat, k ≤ n ∧ i = .int .i64 k ∧ eqN F G k = true ∧ ∃ q, wr = U.drewN q) (fun i _ => n - (intOf i).toNat)
    case atStart => exact ⟨0, Nat.zero_le _, rfl, rfl, 0, rfl⟩
    case round =>
      obtain ⟨k, hk, rfl, heq, q, rfl⟩ := hrel
      by_cases hlt : k < n
      · obtain ⟨b1, o1, rfl, _, hc⟩ := ha (by omega)
        obtain ⟨b2, o2, rfl, _, hc2⟩ := hb (by omega)
        obtain ⟨c0, c1, c2, c3, c4, c5, c6, c7, c8, c9⟩ := hc k hlt
        obtain ⟨d0, d1, d2, d3, d4, d5, d6, d7, d8, d9⟩ := hc2 k hlt
        have hki : (k : Int) < (n : Int) := by omega
        have hne := run_neq29 (F k) (G k)
        unfold ndV at hne
        clear hc hc2 ha hb k1 k2
        cases hq : (F k).eq (G k) with
        | false =>
          have hfin : Hid (eqN F G n = false) := eqN_stop hq n hlt
          rw [hq] at hne
          clear hq heq
          generalize F k = x at *
          generalize G k = y at *
          go_wp2
          go_quiet (fail)
          go_wp2
          go_ret
          exact ⟨by rw [hfin.out]; rfl, below_drewN (below_drewN hB _) _⟩
        | true =>
          have hnx : Hid (eqN F G (k + 1) = true) := by show eqN F G (k + 1) = true; rw [eqN, heq, hq]; rfl
          rw [hq] at hne
          clear hq heq
          generalize F k = x at *
          generalize G k = y at *
          go_wp2
          go_quiet (fail)
          go_wp2
          go_roundw
          case rel => exact ⟨k + 1, by omega, by go_num, hnx.out, _, rfl⟩
          case measure => simp [intOf]; omega
      · obtain rfl : k = n := by omega
        have hfin : Hid (eqN F G k = true) := heq
        clear ha hb heq
        go_wp2
        go_ret
        exact ⟨by rw [hfin.out]; rfl, below_drewN hB _⟩
  · rw [decide_eq_false hnm, Bool.false_and]
    have hn : ((n : Int) != (m : Int)) = true := by simp; omega
    clear ha hb
    go_enter Try.func12, Try.ntmps12
    go_wp2
    go_ret
    exact ⟨rfl, hB⟩
end Go.Proofs.Ytlmmiicibjfcdaa.T
namespace Go.Proofs.Ytlmmiicibjfcdaa
open Go.RowKit
theorem cvA (w : World) : (convert 48 48 (.slice (some ⟨w.heap.size, 0, none⟩) 3 3)).run Try.prog (w.alloc (.cells #[.int .u8 40, .int .u8 63, .int .u8 58] 5)) = .ok (.slice (some ⟨w.heap.size, 0, none⟩) 3 3) (w.alloc (.cells #[.int .u8 40, .int .u8 63, .int .u8 58] 5 (3, 4))) := Lib.run_convert_bytes_const w 48 5 #[.int .u8 40, .int .u8 63, .int .u8 58] 3 3 Try.underlying48 Try.underlying5
theorem new_cellsF (w : World) : ∀ j u, [Value.int .u8 40, .int .u8 63, .int .u8 58][j]? = some u → (w.alloc (.cells #[.int .u8 40, .int .u8 63, .int .u8 58] 5 (3, 4))).cell? (Addr.add ⟨w.heap.size, 0, none⟩ j) = some u := by
  intro j u hj
  have hb : (w.alloc (.cells #[.int .u8 40, .int .u8 63, .int .u8 58] 5 (3, 4))).heap[w.heap.size]? = some (.cells #[.int .u8 40, .int .u8 63, .int .u8 58] 5 (3, 4)) := by
    show (w.heap.push _)[w.heap.size]? = _
    simp
  rw [Addr.add_lit]
  simp only [World.cell?, hb]
  simpa using hj
theorem bel1F (w : World) : Below w.heap.size w (w.alloc (.cells #[.int .u8 40, .int .u8 63, .int .u8 58] 5 (3, 4))) := bel1 w _
theorem own_some {W : World} {base e size k : Nat} {v : Value} {xs : List Value} (h : W.ownsRow base e size v k xs) (hk : 0 < k) : ∃ g c, v = .slice (some ⟨g, 0, none⟩) k c := by
  rcases h.2 with ⟨_, h0⟩ | ⟨g, cp, cur, hv, _⟩
  · omega
  · exact ⟨g, cp, hv⟩
theorem rd_own {W : World} {base g c m : Nat} {y : Nat → Nat} (hs : ∀ i, i < m → y i < 256) (h : W.ownsRow base 5 1 (.slice (some ⟨g, 0, none⟩) m c) m (byL y m)) : Rd W (some ⟨g, 0, none⟩) m y := by
  refine ⟨hs, fun hm => ?_⟩
  obtain ⟨g', e, hg, _, hc⟩ := row_cell h hm
  cases e
  exact ⟨g, 0, rfl, hg, fun i hi => by rw [Nat.zero_add]; exact hc i _ (byL_get y hi)⟩
end Go.Proofs.Ytlmmiicibjfcdaa
namespace Go.Proofs.Ytlmmiicibjfcdaa
open Go.RowKit
theorem run_append_rd (w : World) (ty : TypeId) (base : Nat) (v : Value) (m : Nat) (xs : List Value) (hown : w.ownsRow base 5 1 v m xs) (xo : Option Addr) (j c : Nat) (y : Nat → Nat) (hr : Rd w xo j y) (hb : m + j ≤ 100000) (hbase : base ≤ w.heap.size) :
    ∃ v' w', (Builtin.append_ #[48, 48] ty #[v, .slice xo j c]).run Try.prog w = .ok v' w' ∧ w'.ownsRow base 5 1 v' (m + j) (xs ++ byL y j) ∧ ∀ U, Below base U w → Below base U w' := by
  obtain ⟨i0, hi, hz0, hz1, hz2⟩ := info_parts b_u8
  by_cases h0 : j = 0
  · subst h0
    obtain ⟨ao, cap, rfl⟩ := ownsRow_slice hown
    have hle : m ≤ cap := by
      rcases hown.2 with ⟨hv, h0⟩ | ⟨g, cp, cur, hv, _, _, hc, _⟩
      · omega
      · cases hv; exact hc
    refine ⟨_, w, run_append_nil0 w 48 ty 5 i0 Try.underlying48 hi ao xo m cap c hle, ?_, fun U h => h⟩
    have : byL y 0 = [] := rfl
    rw [this, List.append_nil]
    exact hown
  · obtain ⟨pb, po, rfl, hpb, hpc⟩ := hr.at_ (by omega)
    obtain ⟨v', w', hrun, ho, hg, _⟩ := run_append_own (P := Try.prog) w base 48 ty 5 i0 _ 1 1 Try.underlying48 hi hz0 hz1 hz2 rfl (by decide) v m xs hown ⟨pb, po, none⟩ j c (byL y j) (by rw [byL_len]; omega) (fun i u hu => by
      have hjn := (List.getElem?_eq_some_iff.1 hu).1
      rw [byL_len] at hjn
      rw [byL_get y hjn] at hu
      cases hu
      rw [Addr.add_lit]
      exact hpc i hjn) (byL_one y j) (by unfold maxLen; omega) (by omega) hbase
    exact ⟨v', w', hrun, ho, fun U h => h.grown hg hbase fun q hq => (own_block hown hq).1⟩
theorem wpList_append_rd {w : World} {ops : Array Oper} {rest : List Oper} {o : Oper} {a : Act} {Q : Exit → Act → World → Prop}
    (hg : o.guard = none) (s x : Operand) (hop : o.op = Op.call { callee := Callee.builtin Builtin.append, args := #[s, x], argTypes := #[48, 48] })
    (base : Nat) (v : Value) (m : Nat) (xs : List Value) (hs : a.eval s = v) (hown : w.ownsRow base 5 1 v m xs) (xo : Option Addr) (j c : Nat) (y : Nat → Nat) (hx : a.eval x = .slice xo j c) (hr : Rd w xo j y) (hb : m + j ≤ 100000) (hbase : base ≤ w.heap.size)
    (hK : ∀ v' w', w'.ownsRow base 5 1 v' (m + j) (xs ++ byL y j) → (∀ U, Below base U w → Below base U w') → wpList Try.prog ops Q rest (a.put o.dst v') w') : wpList Try.prog ops Q (o :: rest) a w := by
  refine wpList_plain hg fun K hK' => ?_
  obtain ⟨v', w', hrun, h1, h2⟩ := run_append_rd w o.type base v m xs hown xo j c y hr hb hbase
  unfold Oper.wp
  simp [execOp, hop, resolve, invoke, builtin, hs, hx, hrun, Result.andThen]
  exact hK' _ _ (hK v' w' h1 h2)
/-- A literal of one byte. -/
theorem rd_lit (w : World) (b : Nat) (hb : b < 256) : Rd (w.alloc (.cells #[.int .u8 (b : Nat)] 5)) (some ⟨w.heap.size, 0, none⟩) 1 (fun _ => b) :=
  ⟨fun _ _ => hb, fun _ => ⟨w.heap.size, 0, rfl, by simp, fun i hi => by
    obtain rfl : i = 0 := by omega
    exact (Cl.new w 5 [.int .u8 (b : Nat)]).cell 0 rfl⟩⟩
theorem Rd.own_below {w' : World} {base : Nat} {xo : Option Addr} {j : Nat} {y : Nat → Nat} {U : World} (h : Rd U xo j y) (hU : base = U.heap.size) (hb : Below base U w') : Rd w' xo j y := by
  subst hU
  exact h.below hb
end Go.Proofs.Ytlmmiicibjfcdaa
namespace Go.Proofs.Ytlmmiicibjfcdaa
open Go.RowKit
theorem ownsRow_low {B B' : Nat} {w : World} {t : TypeId} {v : Value} {n : Nat} {xs : List Value} (h : w.ownsRow B t 1 v n xs) (hB : B' ≤ B) : w.ownsRow B' t 1 v n xs :=
  ⟨h.1, h.2.imp id fun ⟨g, cap, cur, e, hg, r⟩ => ⟨g, cap, cur, e, Nat.le_trans hB hg, r⟩⟩
/-- A row of one's own, or a full one that can only be read. -/
def RowQ (base : Nat) (W : World) (v : Value) (m : Nat) (xs : List Value) : Prop := W.ownsRow base 5 1 v m xs ∨ ∃ b, v = .slice (some ⟨b, 0, none⟩) m m ∧ xs.length = m ∧ ∀ j u, xs[j]? = some u → W.cell? (Addr.add ⟨b, 0, none⟩ j) = some u
theorem run_append_q (w : World) (ty : TypeId) (base : Nat) (v : Value) (m : Nat) (xs : List Value) (hown : RowQ base w v m xs) (xo : Option Addr) (j c : Nat) (y : Nat → Nat) (hr : Rd w xo j y) (hb : m + j ≤ 100000) (hbase : base ≤ w.heap.size) :
    ∃ v' w', (Builtin.append_ #[48, 48] ty #[v, .slice xo j c]).run Try.prog w = .ok v' w' ∧ RowQ base w' v' (m + j) (xs ++ byL y j) ∧ ∀ U, Below base U w → Below base U w' := by
  rcases hown with hown | ⟨b, rfl, hlen, hcells⟩
  · obtain ⟨v', w', h1, h2, h3⟩ := run_append_rd w ty base v m xs hown xo j c y hr hb hbase
    exact ⟨v', w', h1, .inl h2, h3⟩
  obtain ⟨i0, hi, hz0, hz1, hz2⟩ := info_parts b_u8
  by_cases h0 : j = 0
  · subst h0
    refine ⟨_, w, run_append_nil0 w 48 ty 5 i0 Try.underlying48 hi (some ⟨b, 0, none⟩) xo m m c (Nat.le_refl _), .inr ⟨b, rfl, ?_, ?_⟩, fun U h => h⟩
    · have : byL y 0 = [] := rfl
      rw [this, List.append_nil]
      exact hlen
    · have : byL y 0 = [] := rfl
      rw [this, List.append_nil]
      exact hcells
  · obtain ⟨pb, po, rfl, hpb, hpc⟩ := hr.at_ (by omega)
    obtain ⟨v', w', hrun, ho, hg⟩ := run_append_arg_grows (P := Try.prog) w 48 ty 5 i0 _ 1 1 Try.underlying48 hi hz0 hz1 hz2 rfl (by decide) ⟨b, 0, none⟩ m m xs (by omega) hcells ⟨pb, po, none⟩ j c (byL y j) (by rw [byL_len]; omega) (fun i u hu => by
      have hjn := (List.getElem?_eq_some_iff.1 hu).1
      rw [byL_len] at hjn
      rw [byL_get y hjn] at hu
      cases hu
      rw [Addr.add_lit]
      exact hpc i hjn) (by omega) (by unfold maxLen; omega) (by omega)
    exact ⟨v', w', hrun, .inl (ownsRow_low ho hbase), fun U h => h.grown hg hbase fun q hq => by cases hq⟩
/-- The bytes of a text, appended. -/
theorem run_append_qs (w : World) (ty : TypeId) (base : Nat) (v : Value) (m : Nat) (xs : List Value) (hown : RowQ base w v m xs) (s : ByteArray) (hs0 : 0 < s.size) (hb : m + s.size ≤ 100000) (hbase : base ≤ w.heap.size) :
    ∃ v' w', (Builtin.append_ #[48, 9] ty #[v, .string s]).run Try.prog w = .ok v' w' ∧ w'.ownsRow base 5 1 v' (m + s.size) (xs ++ Lib.strCells s) ∧ ∀ U, Below base U w → Below base U w' := by
  obtain ⟨i0, hi, hz0, hz1, hz2⟩ := info_parts b_u8
  rcases hown with hown | ⟨b, rfl, hlen, hcells⟩
  · obtain ⟨v', w', hrun, ho, hg, _⟩ := Lib.run_append_own_string (P := Try.prog) w base 48 9 ty 5 i0 Try.underlying48 Try.underlying9 hi hz0 hz1 hz2 v m xs hown s (by unfold maxLen; omega) (by omega) hbase
    exact ⟨v', w', hrun, ho, fun U h => h.grown hg hbase fun q hq => (own_block hown hq).1⟩
  · have hge := grownCap_ge w (m + s.size) m 5
    have hcm : grownCap w (m + s.size) m 5 ≤ maxLen := grownCap_le_maxLen w (m + s.size) m 5 (by unfold maxLen; omega)
    have hr := Lib.run_append_grow_string (P := Try.prog) w 48 9 ty 5 i0 (.int .u8 0) Try.underlying48 Try.underlying9 hi hz0 ⟨b, 0, none⟩ m m xs (by rw [hz1]; omega) hcells s (by omega) (by omega) (by rw [hz2]; exact growslice_fits (by omega) (by omega))
    have hll : (xs ++ Lib.strCells s).length = (m + s.size) * 1 := by rw [List.length_append, hlen, Lib.strCells_length, Nat.mul_one]
    refine ⟨_, _, hr, ⟨hll, .inr ⟨w.heap.size, _, _, rfl, hbase, heap_alloc_new w.drew _, hge, hcm, ?_, ?_⟩⟩, fun U h => h.grown (w' := _) (row := none) ⟨rfl, rfl, rfl, by simp, fun k hk _ => (by rw [Go.heap_alloc_old w.drew _ (show k < w.drew.heap.size from hk)]; rfl)⟩ hbase fun q hq => by cases hq⟩
    · have hz1' : (Value.int IntKind.u8 0).cells.size = 1 := rfl
      simp only [Array.size_append, List.size_toArray, size_zeroCells, hz1', hlen, Lib.strCells_length]
      omega
    · simp only [Array.toList_append, List.append_assoc]
      rw [← List.append_assoc, ← hll]
      exact List.take_left
theorem wpList_append_q {w : World} {ops : Array Oper} {rest : List Oper} {o : Oper} {a : Act} {Q : Exit → Act → World → Prop}
    (hg : o.guard = none) (s x : Operand) (hop : o.op = Op.call { callee := Callee.builtin Builtin.append, args := #[s, x], argTypes := #[48, 48] })
    (base : Nat) (v : Value) (m : Nat) (xs : List Value) (hs : a.eval s = v) (hown : RowQ base w v m xs) (xo : Option Addr) (j c : Nat) (y : Nat → Nat) (hx : a.eval x = .slice xo j c) (hr : Rd w xo j y) (hb : m + j ≤ 100000) (hbase : base ≤ w.heap.size)
    (hK : ∀ v' w', RowQ base w' v' (m + j) (xs ++ byL y j) → (∀ U, Below base U w → Below base U w') → wpList Try.prog ops Q rest (a.put o.dst v') w') : wpList Try.prog ops Q (o :: rest) a w := by
  refine wpList_plain hg fun K hK' => ?_
  obtain ⟨v', w', hrun, h1, h2⟩ := run_append_q w o.type base v m xs hown xo j c y hr hb hbase
  unfold Oper.wp
  simp [execOp, hop, resolve, invoke, builtin, hs, hx, hrun, Result.andThen]
  exact hK' _ _ (hK v' w' h1 h2)
theorem wpList_append_qs {w : World} {ops : Array Oper} {rest : List Oper} {o : Oper} {a : Act} {Q : Exit → Act → World → Prop}
    (hg : o.guard = none) (s x : Operand) (hop : o.op = Op.call { callee := Callee.builtin Builtin.append, args := #[s, x], argTypes := #[48, 9] })
    (base : Nat) (v : Value) (m : Nat) (xs : List Value) (hs : a.eval s = v) (hown : RowQ base w v m xs) (t : ByteArray) (hx : a.eval x = .string t) (ht : 0 < t.size) (hb : m + t.size ≤ 100000) (hbase : base ≤ w.heap.size)
    (hK : ∀ v' w', w'.ownsRow base 5 1 v' (m + t.size) (xs ++ Lib.strCells t) → (∀ U, Below base U w → Below base U w') → wpList Try.prog ops Q rest (a.put o.dst v') w') : wpList Try.prog ops Q (o :: rest) a w := by
  refine wpList_plain hg fun K hK' => ?_
  obtain ⟨v', w', hrun, h1, h2⟩ := run_append_qs w o.type base v m xs hown t ht hb hbase
  unfold Oper.wp
  simp [execOp, hop, resolve, invoke, builtin, hs, hx, hrun, Result.andThen]
  exact hK' _ _ (hK v' w' h1 h2)
/-- The bytes of (?:p)(?:q). -/
def pz (p q : Nat → Nat) (n k i : Nat) : Nat :=
  if i = 0 then 40 else if i = 1 then 63 else if i = 2 then 58 else if i < 3 + n then p (i - 3) else
  if i = 3 + n then 41 else if i = 4 + n then 40 else if i = 5 + n then 63 else if i = 6 + n then 58 else
  if i < 7 + n + k then q (i - (7 + n)) else 41
theorem pz_small {p q : Nat → Nat} {n k : Nat} (hp : ∀ i, i < n → p i < 256) (hq : ∀ i, i < k → q i < 256) : ∀ i, i < 8 + n + k → pz p q n k i < 256 := by
  intro i hi
  unfold pz
  split; · omega
  split; · omega
  split; · omega
  split; · exact hp _ (by omega)
  split; · omega
  split; · omega
  split; · omega
  split; · omega
  split; · exact hq _ (by omega)
  omega
theorem strP : Lib.strCells { data := #[41, 40, 63, 58] } = [.int .u8 41, .int .u8 40, .int .u8 63, .int .u8 58] := by simp [Lib.strCells]
theorem byPair (p q : Nat → Nat) (n k : Nat) : [Value.int .u8 40, .int .u8 63, .int .u8 58] ++ byL p n ++ [Value.int .u8 41, .int .u8 40, .int .u8 63, .int .u8 58] ++ byL q k ++ [Value.int .u8 41] = byL (pz p q n k) (8 + n + k) := by
  apply List.ext_getElem?
  intro i
  by_cases hi : i < 8 + n + k
  · rw [byL_get _ hi]
    have l1 : ([Value.int .u8 40, .int .u8 63, .int .u8 58] ++ byL p n).length = 3 + n := by simp [byL_len]; omega
    have l2 : ([Value.int .u8 40, .int .u8 63, .int .u8 58] ++ byL p n ++ [Value.int .u8 41, .int .u8 40, .int .u8 63, .int .u8 58]).length = 7 + n := by rw [List.length_append, l1]; simp; omega
    have l3 : ([Value.int .u8 40, .int .u8 63, .int .u8 58] ++ byL p n ++ [Value.int .u8 41, .int .u8 40, .int .u8 63, .int .u8 58] ++ byL q k).length = 7 + n + k := by rw [List.length_append, l2, byL_len]
    rcases Nat.lt_or_ge i (7 + n + k) with h4 | h4
    · rw [List.getElem?_append_left (by omega)]
      rcases Nat.lt_or_ge i (7 + n) with h3 | h3
      · rw [List.getElem?_append_left (by omega)]
        rcases Nat.lt_or_ge i (3 + n) with h2 | h2
        · rw [List.getElem?_append_left (by omega)]
          rcases Nat.lt_or_ge i 3 with h1 | h1
          · rw [List.getElem?_append_left (by simpa using h1)]
            obtain rfl | rfl | rfl : i = 0 ∨ i = 1 ∨ i = 2 := by omega
            all_goals rfl
          · rw [List.getElem?_append_right (by simpa using h1)]
            simp only [List.length_cons, List.length_nil, Nat.zero_add, Nat.reduceAdd]
            rw [byL_get _ (by omega)]
            unfold pz
            rw [if_neg (by omega), if_neg (by omega), if_neg (by omega), if_pos h2]
        · rw [List.getElem?_append_right (by omega), l1]
          unfold pz
          rw [if_neg (by omega), if_neg (by omega), if_neg (by omega), if_neg (by omega)]
          obtain ⟨d, rfl⟩ : ∃ d, i = 3 + n + d := ⟨i - (3 + n), by omega⟩
          rw [show 3 + n + d - (3 + n) = d by omega]
          obtain rfl | rfl | rfl | rfl : d = 0 ∨ d = 1 ∨ d = 2 ∨ d = 3 := by omega
          · rw [if_pos (by omega)]; rfl
          · rw [if_neg (by omega), if_pos (by omega)]; rfl
          · rw [if_neg (by omega), if_neg (by omega), if_pos (by omega)]; rfl
          · rw [if_neg (by omega), if_neg (by omega), if_neg (by omega), if_pos (by omega)]; rfl
      · rw [List.getElem?_append_right (by omega), l2, byL_get _ (by omega)]
        unfold pz
        rw [if_neg (by omega), if_neg (by omega), if_neg (by omega), if_neg (by omega), if_neg (by omega), if_neg (by omega), if_neg (by omega), if_neg (by omega), if_pos (by omega)]
    · rw [List.getElem?_append_right (by omega), l3]
      obtain rfl : i = 7 + n + k := by omega
      rw [Nat.sub_self]
      unfold pz
      rw [if_neg (by omega), if_neg (by omega), if_neg (by omega), if_neg (by omega), if_neg (by omega), if_neg (by omega), if_neg (by omega), if_neg (by omega), if_neg (by omega)]
      rfl
  · rw [List.getElem?_eq_none (by simp [byL_len]; omega), List.getElem?_eq_none (by rw [byL_len]; omega)]
/-- Its tree, or what is wrong with it. -/
theorem pair_pz {p q : Nat → Nat} {n k : Nat} {fl : Fg} {la lb : List Nd} (hN : 8 + n + k ≤ 1024) (oa : OkP p n fl la) (ob : OkP q k fl lb) (hz : (treT (tpW fl (wl p n 1100 0)) (wl p n 1100 0).length).size + (treT (tpW fl (wl q k 1100 0)) (wl q k 1100 0).length).size + 1 ≤ 2048) :
    (∀ s, s ∈ wl (pz p q n k) (8 + n + k) 1100 0 → s.er = 0) ∧ (toksS (fun i => (nS (wl (pz p q n k) (8 + n + k) 1100 0) i).r.tp fl) (wl (pz p q n k) (8 + n + k) 1100 0).length = .ok (ndF (Tre.two 3 (treT (tpW fl (wl p n 1100 0)) (wl p n 1100 0).length) (treT (tpW fl (wl q k 1100 0)) (wl q k 1100 0).length)).subs) ∨ ∃ at_, toksS (fun i => (nS (wl (pz p q n k) (8 + n + k) 1100 0) i).r.tp fl) (wl (pz p q n k) (8 + n + k) 1100 0).length = .error (at_, 51)) := by
  refine pair_ok (z := pz p q n k) rfl rfl rfl (fun i hi => ?_) ?_ ?_ ?_ ?_ (fun i hi => ?_) ?_ hN oa ob hz
  · unfold pz; rw [if_neg (by omega), if_neg (by omega), if_neg (by omega), if_pos (by omega)]; congr 1; omega
  · unfold pz; rw [if_neg (by omega), if_neg (by omega), if_neg (by omega), if_neg (by omega), if_pos (by omega)]
  · unfold pz; rw [if_neg (by omega), if_neg (by omega), if_neg (by omega), if_neg (by omega), if_neg (by omega), if_pos (by omega)]
  · unfold pz; rw [if_neg (by omega), if_neg (by omega), if_neg (by omega), if_neg (by omega), if_neg (by omega), if_neg (by omega), if_pos (by omega)]
  · unfold pz; rw [if_neg (by omega), if_neg (by omega), if_neg (by omega), if_neg (by omega), if_neg (by omega), if_neg (by omega), if_neg (by omega), if_pos (by omega)]
  · unfold pz; rw [if_neg (by omega), if_neg (by omega), if_neg (by omega), if_neg (by omega), if_neg (by omega), if_neg (by omega), if_neg (by omega), if_neg (by omega), if_pos (by omega)]; congr 1; omega
  · unfold pz; rw [if_neg (by omega), if_neg (by omega), if_neg (by omega), if_neg (by omega), if_neg (by omega), if_neg (by omega), if_neg (by omega), if_neg (by omega), if_neg (by omega)]
end Go.Proofs.Ytlmmiicibjfcdaa
