/- parse: the builder in memory. -/
import Derived.Test.YtlmmiicibjfcdaaGKaKbKcCl
import Derived.Test.YtlmmiicibjfcdaaPa
import Derived.Test.YtlmmiicibjfcdaaGEqCkTailMkRuWd
import Derived.Deep.RegionLaw
import Derived.Deep.AppendLies
import Derived.WalkSmall
namespace Go.Proofs.Ytlmmiicibjfcdaa
open Go.RowKit
/-- A node as a value, and its cells. -/
def ndV (x : Nd) : Value := .agg #[.int .i64 x.k, .int .u64 x.c0, .int .u64 x.c1, .int .u64 x.c2, .int .u64 x.c3, .int .i64 x.a, .int .i64 x.b, .int .i64 x.l, .int .i64 x.m, .bool x.z]
def ndL (x : Nd) : List Value := [.int .i64 x.k, .int .u64 x.c0, .int .u64 x.c1, .int .u64 x.c2, .int .u64 x.c3, .int .i64 x.a, .int .i64 x.b, .int .i64 x.l, .int .i64 x.m, .bool x.z]
def ndsL (l : List Nd) : List Value := l.flatMap ndL
def lvL (x : Int × Int × Int) : List Value := [.int .i64 x.1, .int .i64 x.2.1, .int .i64 x.2.2]
def lvC (l : List (Int × Int × Int)) : List Value := l.reverse.flatMap lvL
theorem ndsL_len : ∀ l : List Nd, (ndsL l).length = l.length * 10
  | [] => rfl
  | x :: l => by
    have := ndsL_len l
    simp only [ndsL, List.flatMap_cons, List.length_append, List.length_cons] at *
    rw [this]
    show 10 + _ = _
    omega
theorem lvC_cons (x : Int × Int × Int) (l : List (Int × Int × Int)) : lvC (x :: l) = lvC l ++ lvL x := by simp [lvC]
theorem lvC_len : ∀ l : List (Int × Int × Int), (lvC l).length = l.length * 3
  | [] => rfl
  | x :: l => by
    rw [lvC_cons, List.length_append, lvC_len l, List.length_cons]
    show _ + 3 = _
    omega
theorem own_at {W W' : World} {base e size k : Nat} {v : Value} {xs : List Value} (h : W.ownsRow base e size v k xs) (hs : ∀ g, v.ownBlock = some g → W'.heap[g]? = W.heap[g]?) : W'.ownsRow base e size v k xs :=
  ⟨h.1, h.2.imp id fun ⟨g, cap, cur, hv, hb, hh, r⟩ => ⟨g, cap, cur, hv, hb, (hs g (by rw [hv]; rfl)).trans hh, r⟩⟩
theorem own_block {W : World} {base e size k : Nat} {v : Value} {xs : List Value} (h : W.ownsRow base e size v k xs) {g : Nat} (hg : v.ownBlock = some g) : base ≤ g ∧ g < W.heap.size ∧ ∃ cur, W.heap[g]? = some (.cells cur e (0, 0)) := by
  rcases h.2 with ⟨hv, _⟩ | ⟨g', cap, cur, hv, hb, hh, _⟩
  · rw [hv] at hg; cases hg
  · rw [hv] at hg
    cases hg
    exact ⟨hb, (Array.getElem?_eq_some_iff.1 hh).1, cur, hh⟩
/-- Blocks that are none of a builder's (80), of nodes (44), of levels (104) are as they were. -/
def Kp (W W' : World) : Prop := ∀ (k : Nat) (cs : Array Value) (t : TypeId) (fz : Nat × Nat), W.heap[k]? = some (Obj.cells cs t fz) → t ≠ 80 → t ≠ 44 → t ≠ 104 → W'.heap[k]? = some (Obj.cells cs t fz)
theorem Kp.refl (W : World) : Kp W W := fun _ _ _ _ h _ _ _ => h
theorem Kp.trans {A B C : World} (h : Kp A B) (k : Kp B C) : Kp A C := fun i cs t fz hi h1 h2 h3 => k i cs t fz (h i cs t fz hi h1 h2 h3) h1 h2 h3
theorem Kp.below {W W' : World} (h : Below W.heap.size W W') : Kp W W' := fun k cs t fz hk _ _ _ => by rw [h.block k (Array.getElem?_eq_some_iff.1 hk).1]; exact hk
theorem Kp.set {W : World} {b : Nat} {cur : Array Value} {e : TypeId} {fz : Nat × Nat} (h : W.heap[b]? = some (.cells cur e fz)) (he : e = 80 ∨ e = 44 ∨ e = 104) (i : Nat) (v : Value) : Kp W (W.setCell ⟨b, i, none⟩ v) := fun k cs t fz' hk h1 h2 h3 => by
  have hkb : k ≠ b := by
    rintro rfl
    rw [h] at hk
    cases hk
    rcases he with e1 | e1 | e1
    · exact h1 e1
    · exact h2 e1
    · exact h3 e1
  rw [Below.heap_setCell _ _ _ _ hkb]
  exact hk
theorem Kp.grown {W W' : World} {row : Option Nat} (hg : W.grownBy W' row) (hr : ∀ b, row = some b → ∃ cur e fz, W.heap[b]? = some (.cells cur e fz) ∧ (e = 80 ∨ e = 44 ∨ e = 104)) : Kp W W' := fun k cs t fz hk h1 h2 h3 => by
  rw [hg.block k (Array.getElem?_eq_some_iff.1 hk).1 fun e => ?_]
  · exact hk
  · obtain ⟨cur, e', fz', hc, he⟩ := hr k e.symm
    rw [hc] at hk
    cases hk
    rcases he with e1 | e1 | e1
    · exact h1 e1
    · exact h2 e1
    · exact h3 e1
theorem Kp.cl {W W' : World} {b : Nat} {t : TypeId} {vs : List Value} (h : Kp W W') (hc : Cl W b t vs) (h1 : t ≠ 80) (h2 : t ≠ 44) (h3 : t ≠ 104) : Cl W' b t vs := h b _ t (0, 0) hc h1 h2 h3
/-- The flags that a builder keeps. -/
structure Fg where
  c : Bool
  d : Bool
  m : Bool
  o : Bool
  l : Bool
/-- A builder's cells. -/
def bC (fl : Fg) (s : Bs) (nv lv : Value) : List Value := [.bool fl.c, .bool fl.d, .bool fl.m, .bool fl.o, .bool fl.l, nv, .int .i64 (s.many : Nat), lv]
/-- The builder lies in memory, with its rows; nothing older than w has turned. -/
structure BM (X w : World) (bp : Nat) (fl : Fg) (s : Bs) (no : Option Addr) (nc g lc : Nat) (W : World) : Prop where
  bel : Below w.heap.size w W
  lo : w.heap.size ≤ bp
  cl : Cl W bp 80 (bC fl s (.slice no s.ns.length nc) (.slice (some ⟨g, 0, none⟩) s.lv.length lc))
  nrow : W.ownsRow w.heap.size 44 10 (.slice no s.ns.length nc) s.ns.length (ndsL s.ns)
  lrow : W.ownsRow w.heap.size 104 3 (.slice (some ⟨g, 0, none⟩) s.lv.length lc) s.lv.length (lvC s.lv)
  ln : s.ns.length = min s.many 2048
  mx : s.many ≤ 100000
  lx : s.lv.length ≤ 100000
  kp : Kp X W
theorem BM.below {X w W W' : World} {bp : Nat} {fl : Fg} {s : Bs} {no : Option Addr} {nc g lc : Nat} (h : BM X w bp fl s no nc g lc W) (hb : Below W.heap.size W W') : BM X w bp fl s no nc g lc W' :=
  ⟨h.bel.trans (hb.mono h.bel.size), h.lo, h.cl.below hb, own_at h.nrow fun _ hg => hb.block _ (own_block h.nrow hg).2.1, own_at h.lrow fun _ hg => hb.block _ (own_block h.lrow hg).2.1, h.ln, h.mx, h.lx, h.kp.trans (Kp.below hb)⟩
/-- A cell of the builder itself, and of its inmost level. -/
theorem BM.cells {X w W : World} {bp : Nat} {fl : Fg} {s : Bs} {no : Option Addr} {nc g lc : Nat} (h : BM X w bp fl s no nc g lc W) :
    (W.cell? ⟨bp, 0, none⟩ = some (.bool fl.c) ∧ W.cell? ⟨bp, 1, none⟩ = some (.bool fl.d) ∧ W.cell? ⟨bp, 2, none⟩ = some (.bool fl.m) ∧ W.cell? ⟨bp, 3, none⟩ = some (.bool fl.o) ∧ W.cell? ⟨bp, 4, none⟩ = some (.bool fl.l)) ∧ W.cell? ⟨bp, 5, none⟩ = some (.slice no s.ns.length nc) ∧ W.cell? ⟨bp, 6, none⟩ = some (.int .i64 (s.many : Nat)) ∧ W.cell? ⟨bp, 7, none⟩ = some (.slice (some ⟨g, 0, none⟩) s.lv.length lc) :=
  ⟨⟨h.cl.cell 0 rfl, h.cl.cell 1 rfl, h.cl.cell 2 rfl, h.cl.cell 3 rfl, h.cl.cell 4 rfl⟩, h.cl.cell 5 rfl, h.cl.cell 6 rfl, h.cl.cell 7 rfl⟩
theorem BM.top {X w W : World} {bp : Nat} {fl : Fg} {s : Bs} {no : Option Addr} {nc g lc : Nat} (h : BM X w bp fl s no nc g lc W) (hl : s.lv ≠ []) :
    W.cell? ⟨g, (s.lv.length - 1) * 3, none⟩ = some (.int .i64 s.top.1) ∧ W.cell? ⟨g, (s.lv.length - 1) * 3 + 1, none⟩ = some (.int .i64 s.top.2.1) ∧ W.cell? ⟨g, (s.lv.length - 1) * 3 + 2, none⟩ = some (.int .i64 s.top.2.2) ∧ (∀ j, W.frozen? ⟨g, j, none⟩ = false) ∧ g < W.heap.size ∧ g ≠ bp := by
  have hrow := h.lrow
  have htop : s.top = s.lv.headD (-1, -1, -1) := rfl
  refine ⟨?_, ?_, ?_, fun j => hrow.frozenAt j, (own_block hrow rfl).2.1, ?_⟩
  · cases hs : s.lv with
    | nil => exact absurd hs hl
    | cons x r =>
      rw [hs] at hrow htop
      rw [hrow.cellAt _ (by simp), lvC_cons, List.getElem?_append_right (by rw [lvC_len]; simp), lvC_len, htop]
      simp [lvL]
  · cases hs : s.lv with
    | nil => exact absurd hs hl
    | cons x r =>
      rw [hs] at hrow htop
      rw [hrow.cellAt _ (by simp; omega), lvC_cons, List.getElem?_append_right (by rw [lvC_len]; simp), lvC_len, htop]
      simp [lvL]
  · cases hs : s.lv with
    | nil => exact absurd hs hl
    | cons x r =>
      rw [hs] at hrow htop
      rw [hrow.cellAt _ (by simp; omega), lvC_cons, List.getElem?_append_right (by rw [lvC_len]; simp), lvC_len, htop]
      simp [lvL]
  · rintro rfl
    obtain ⟨_, _, cur, hc⟩ := own_block hrow rfl
    have := h.cl
    unfold Cl at this
    rw [hc] at this
    cases this
/-- One cell of the inmost level is written. -/
theorem BM.put0 {X w W : World} {bp : Nat} {fl : Fg} {s : Bs} {no : Option Addr} {nc g lc : Nat} (h : BM X w bp fl s no nc g lc W) (hl : s.lv ≠ []) (j : Nat) (v : Int) (x : Int × Int × Int) (hx : (lvL s.top).set j (.int .i64 v) = lvL x) (_hj : j < 3) :
    BM X w bp fl (s.setTop x) no nc g lc (W.setCell ⟨g, (s.lv.length - 1) * 3 + j, none⟩ (.int .i64 v)) := by
  obtain ⟨_, _, _, _, _, hgb⟩ := h.top hl
  have hg := own_block h.lrow (g := g) rfl
  have hst := (h.lrow.stored ((s.lv.length - 1) * 3 + j) (.int .i64 v)).1
  have hlen : (s.setTop x).lv.length = s.lv.length := setTop_lv s x hl
  refine ⟨h.bel.setCell (p := ⟨g, _, none⟩) hg.1 _, h.lo, ?_, ?_, ?_, h.ln, h.mx, by rw [hlen]; exact h.lx, h.kp.trans (by obtain ⟨_, _, cur, hc⟩ := hg; exact Kp.set hc (.inr (.inr rfl)) _ _)⟩
  · have := h.cl.other (k := g) hgb ((s.lv.length - 1) * 3 + j) (.int .i64 v)
    rw [hlen]
    exact this
  · refine own_at h.nrow fun k hk => Below.heap_setCell _ _ _ _ ?_
    rintro rfl
    obtain ⟨_, _, cur, hc⟩ := own_block h.nrow hk
    obtain ⟨_, _, cur', hc'⟩ := hg
    show False
    rw [hc] at hc'
    cases hc'
  · rw [hlen]
    have e : (lvC s.lv).set ((s.lv.length - 1) * 3 + j) (.int .i64 v) = lvC (s.setTop x).lv := by
      cases hs : s.lv with
      | nil => exact absurd hs hl
      | cons y r =>
        have h1 : (s.setTop x).lv = x :: r := by unfold Bs.setTop; rw [hs]; rfl
        have h2 : s.top = y := by unfold Bs.top; rw [hs]; rfl
        rw [h1, lvC_cons, lvC_cons, ← hx, h2, List.set_append_right _ _ (by rw [lvC_len]; simp), lvC_len]
        simp
    rw [← e]
    exact hst
theorem BM.base {X w W : World} {bp : Nat} {fl : Fg} {s : Bs} {no : Option Addr} {nc g lc : Nat} (h : BM X w bp fl s no nc g lc W) : BM W w bp fl s no nc g lc W := { h with kp := Kp.refl W }
theorem BM.from_ {X Y w W : World} {bp : Nat} {fl : Fg} {s : Bs} {no : Option Addr} {nc g lc : Nat} (h : BM Y w bp fl s no nc g lc W) (hk : Kp X Y) : BM X w bp fl s no nc g lc W := { h with kp := hk.trans h.kp }
end Go.Proofs.Ytlmmiicibjfcdaa
