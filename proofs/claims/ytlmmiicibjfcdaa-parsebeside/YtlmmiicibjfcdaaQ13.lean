/- parse: the machine that reads tokens, as functions. parse: the builder in memory. -/
import Derived.Test.YtlmmiicibjfcdaaQ12
import Derived.Deep.RegionLaw
import Derived.Deep.AppendLies
import Derived.WalkSmall
import Derived.Test.YtlmmiicibjfcdaaQ02
import Derived.Test.YtlmmiicibjfcdaaQ01
namespace Go.Proofs.Ytlmmiicibjfcdaa
/-- What is looked at in a token: its kind, its place, a repeat's bounds, its leaf's node, whether it may be. -/
structure Tp where
  k : Int
  t : Int
  l : Int
  m : Int
  lz : Bool
  nd : Nd
  ok : Bool
/-- The builder: its nodes, how many there would be, its levels, the inmost one first. -/
structure Bs where
  ns : List Nd
  many : Nat
  lv : List (Int × Int × Int)
def nd2 (k a b : Int) : Nd := ⟨k, 0, 0, 0, 0, a, b, 0, 0, false⟩
def ndR (a l m : Int) (lz : Bool) : Nd := ⟨5, 0, 0, 0, 0, a, 0, l, m, lz⟩
def ndE : Nd := ⟨1, 0, 0, 0, 0, 0, 0, 0, 0, false⟩
def Bs.put (s : Bs) (n : Nd) : Bs := ⟨if s.many < 2048 then s.ns ++ [n] else s.ns, s.many + 1, s.lv⟩
def Bs.join (s : Bs) (k ah la : Int) : Bs := if ah = -1 then s else s.put (nd2 k ah la)
def Bs.joinV (s : Bs) (ah la : Int) : Int := if ah = -1 then la else (s.many : Int)
def Bs.top (s : Bs) : Int × Int × Int := s.lv.headD (-1, -1, -1)
def Bs.setTop (s : Bs) (x : Int × Int × Int) : Bs := ⟨s.ns, s.many, x :: s.lv.tail⟩
def Bs.open_ (s : Bs) : Bs := ⟨s.ns, s.many, (-1, -1, -1) :: s.lv⟩
def Bs.endItem (s : Bs) : Bs := (s.join 3 s.top.2.1 s.top.2.2).setTop (s.top.1, s.joinV s.top.2.1 s.top.2.2, -1)
/-- A sequence of no items is the empty one. -/
def Bs.noRow (s : Bs) : Bs := if s.top.2.1 = -1 then (s.put ndE).setTop (s.top.1, (s.many : Int), s.top.2.2) else s
def Bs.endAlt (s : Bs) : Bs := (s.join 4 s.top.1 s.top.2.1).setTop (s.joinV s.top.1 s.top.2.1, -1, s.top.2.2)
def Bs.endSeq (s : Bs) : Bs := s.endItem.noRow.endAlt
def Bs.pop (s : Bs) : Bs := ⟨s.ns, s.many, s.lv.tail⟩
def Bs.setItem (s : Bs) (v : Int) : Bs := s.setTop (s.top.1, s.top.2.1, v)
def Bs.take (s : Bs) (x : Tp) : Bs :=
  if x.k = 4 then s.endItem.open_
  else if x.k = 6 then s.endSeq
  else if x.k = 5 then s.endSeq.pop.setItem s.endSeq.top.1
  else if x.k = 7 then (s.put (ndR s.top.2.2 x.l x.m x.lz)).setItem (s.many : Int)
  else (s.endItem.put x.nd).setItem (s.endItem.many : Int)
def Bs.zero : Bs := ⟨[], 0, []⟩
def bld (X : Nat → Tp) : Nat → Bs
  | 0 => Bs.zero.open_
  | n + 1 => (bld X n).take (X n)
/-- Which groups are open, the inmost first; what stands ahead; which token closes which. -/
structure Ps where
  op : List Nat
  ah : Int
  cl : Nat → Int
def stepP (X : Nat → Tp) (s : Ps) (i : Nat) : Except (Int × Int) Ps :=
  if (X i).ok = false then .error (0, 45)
  else if (X i).k = 4 then .ok ⟨i :: s.op, 0, s.cl⟩
  else if (X i).k = 6 then .ok ⟨s.op, 0, s.cl⟩
  else if (X i).k = 5 then
    match s.op with
    | [] => .error ((X i).t, 62)
    | o :: r => .ok ⟨r, 2, fun j => if j = o then (i : Int) else s.cl j⟩
  else if (X i).k = 7 then (if s.ah = 2 then .ok ⟨s.op, 3, s.cl⟩ else .error ((X i).t, 60))
  else if (X i).k = 8 ∨ (X i).k = 9 then .ok ⟨s.op, 1, s.cl⟩
  else .ok ⟨s.op, 2, s.cl⟩
def runP (X : Nat → Tp) : Nat → Except (Int × Int) Ps
  | 0 => .ok ⟨[], 0, fun _ => 0⟩
  | i + 1 => match runP X i with
    | .ok s => stepP X s i
    | .error e => .error e
def prsE (X : Nat → Tp) (n : Nat) : Except (Int × Int) (Nat → Int) :=
  match runP X n with
  | .error e => .error e
  | .ok s => match s.op with
    | [] => .ok s.cl
    | o :: _ => .error ((X o).t, 61)
def fstA (X : Nat → Tp) (i : Nat) : Bool := decide (i = 0) || ((X (i - 1)).k == 4) || ((X (i - 1)).k == 6)
def lstA (X : Nat → Tp) (n : Nat) (i : Nat) : Bool := decide (i + 1 = n) || ((X (i + 1)).k == 5) || ((X (i + 1)).k == 6)
def repA (X : Nat → Tp) (n : Nat) (i : Nat) : Bool := decide (i + 1 < n) && ((X (i + 1)).k == 7)
/-- The rooms of the groups that are open, the inmost first; or the anchor that cannot stand. -/
def stepA (X : Nat → Tp) (n : Nat) (cl : Nat → Int) (rs : List (Bool × Bool)) (i : Nat) : Except Int (List (Bool × Bool)) :=
  if (X i).k = 4 then .ok (((rs.headD (false, false)).1 && fstA X i && !repA X n (cl i).toNat, (rs.headD (false, false)).2 && lstA X n (cl i).toNat) :: rs)
  else if (X i).k = 5 then .ok rs.tail
  else if (X i).k = 8 then (if ((rs.headD (false, false)).1 && fstA X i) = true then .ok rs else .error (X i).t)
  else if (X i).k = 9 then (if ((rs.headD (false, false)).2 && lstA X n i) = true then .ok rs else .error (X i).t)
  else .ok rs
def runA (X : Nat → Tp) (n : Nat) (cl : Nat → Int) : Nat → Except Int (List (Bool × Bool))
  | 0 => .ok [(true, true)]
  | i + 1 => match runA X n cl i with
    | .ok rs => stepA X n cl rs i
    | .error e => .error e
/-- The anchor that cannot stand, or none. -/
def wrgA (X : Nat → Tp) (n : Nat) (cl : Nat → Int) : Int := match runA X n cl n with
  | .ok _ => -1
  | .error e => e
/-- What Tokens says: nodes, or a place and an error. -/
def toksS (X : Nat → Tp) (n : Nat) : Except (Int × Int) (List Nd) :=
  match prsE X n with
  | .error e => .error e
  | .ok cl =>
    if (bld X n).endSeq.many > 2048 then .error (0, 63)
    else if wrgA X n cl ≠ -1 then .error (wrgA X n cl, 51)
    else .ok (bld X n).endSeq.ns
/-- How deep it is behind so many tokens is how many levels there are, less one. -/
theorem setTop_lv (s : Bs) (x : Int × Int × Int) (h : s.lv ≠ []) : (s.setTop x).lv.length = s.lv.length := by
  unfold Bs.setTop
  cases hl : s.lv with
  | nil => exact absurd hl h
  | cons a r => simp
theorem put_lv (s : Bs) (n : Nd) : (s.put n).lv = s.lv := rfl
theorem join_lv (s : Bs) (k a b : Int) : (s.join k a b).lv = s.lv := by unfold Bs.join; split <;> rfl
theorem setTop_ne (s : Bs) (x : Int × Int × Int) : (s.setTop x).lv ≠ [] := by unfold Bs.setTop; simp
theorem endItem_lv (s : Bs) (h : s.lv ≠ []) : s.endItem.lv.length = s.lv.length := by
  unfold Bs.endItem
  rw [setTop_lv _ _ (by rw [join_lv]; exact h), join_lv]
theorem noRow_lv (s : Bs) (h : s.lv ≠ []) : s.noRow.lv.length = s.lv.length := by
  unfold Bs.noRow
  split
  · rw [setTop_lv _ _ (by rw [put_lv]; exact h), put_lv]
  · rfl
theorem endAlt_lv (s : Bs) (h : s.lv ≠ []) : s.endAlt.lv.length = s.lv.length := by
  unfold Bs.endAlt
  rw [setTop_lv _ _ (by rw [join_lv]; exact h), join_lv]
theorem ne_len {α : Type} {l : List α} : l ≠ [] ↔ 0 < l.length := by
  cases l <;> simp
theorem endSeq_lv (s : Bs) (h : s.lv ≠ []) : s.endSeq.lv.length = s.lv.length := by
  unfold Bs.endSeq
  have h1 := endItem_lv s h
  have h2 : s.endItem.lv ≠ [] := by rw [ne_len, h1]; exact ne_len.1 h
  have h3 := noRow_lv _ h2
  have h4 : s.endItem.noRow.lv ≠ [] := by rw [ne_len, h3]; exact ne_len.1 h2
  rw [endAlt_lv _ h4, h3, h1]
theorem take_lv {X : Nat → Tp} {p q : Ps} {i : Nat} {s : Bs} (hs : stepP X p i = .ok q) (h : s.lv.length = p.op.length + 1) : (s.take (X i)).lv.length = q.op.length + 1 := by
  have hne : s.lv ≠ [] := by rw [ne_len]; omega
  have h1 := endItem_lv s hne
  have h2 := endSeq_lv s hne
  unfold stepP at hs
  split at hs
  · cases hs
  unfold Bs.take
  split at hs
  · rename_i hk
    cases hs
    rw [if_pos hk]
    show s.endItem.lv.length + 1 = _
    simp; omega
  rename_i hk4
  rw [if_neg hk4]
  split at hs
  · rename_i hk
    cases hs
    rw [if_pos hk]
    simp; omega
  rename_i hk6
  rw [if_neg hk6]
  split at hs
  · rename_i hk
    rw [if_pos hk]
    split at hs
    · cases hs
    · rename_i o r ho
      cases hs
      rw [ho] at h
      simp at h
      have h3 : s.endSeq.pop.lv.length = r.length + 1 := by
        show s.endSeq.lv.tail.length = _
        rw [List.length_tail]; omega
      show (s.endSeq.pop.setItem s.endSeq.top.1).lv.length = _
      unfold Bs.setItem
      rw [setTop_lv _ _ (by rw [ne_len]; omega), h3]
  rename_i hk5
  rw [if_neg hk5]
  split at hs
  · rename_i hk
    rw [if_pos hk]
    split at hs
    · cases hs
      unfold Bs.setItem
      rw [setTop_lv _ _ (by rw [put_lv]; exact hne), put_lv]
      exact h
    · cases hs
  rename_i hk7
  rw [if_neg hk7]
  have hd : ((s.endItem.put (X i).nd).setItem (s.endItem.many : Int)).lv.length = p.op.length + 1 := by
    unfold Bs.setItem
    rw [setTop_lv _ _ (by rw [put_lv, ne_len]; omega), put_lv]
    omega
  rw [hd]
  split at hs
  · cases hs; rfl
  · cases hs; rfl
theorem runP_prev {X : Nat → Tp} {i : Nat} {q : Ps} (h : runP X (i + 1) = .ok q) : ∃ p, runP X i = .ok p ∧ stepP X p i = .ok q := by
  rw [runP] at h
  split at h
  · rename_i p hp; exact ⟨p, hp, h⟩
  · cases h
theorem runP_le {X : Nat → Tp} : ∀ {n : Nat} {q : Ps}, runP X n = .ok q → ∀ i, i ≤ n → ∃ p, runP X i = .ok p
  | 0, q, h, i, hi => ⟨q, by obtain rfl : i = 0 := by omega
                             exact h⟩
  | n + 1, q, h, i, hi => by
    by_cases e : i = n + 1
    · subst e; exact ⟨q, h⟩
    · obtain ⟨p, hp, _⟩ := runP_prev h
      exact runP_le hp i (by omega)
theorem bld_lv {X : Nat → Tp} : ∀ {i : Nat} {p : Ps}, runP X i = .ok p → (bld X i).lv.length = p.op.length + 1
  | 0, p, h => by
    cases h
    rfl
  | i + 1, q, h => by
    obtain ⟨p, hp, hs⟩ := runP_prev h
    exact take_lv hs (bld_lv hp)
theorem runP_op {X : Nat → Tp} : ∀ {i : Nat} {p : Ps}, runP X i = .ok p → p.op.length ≤ i ∧ ∀ o ∈ p.op, o < i
  | 0, p, h => by cases h; simp
  | i + 1, q, h => by
    obtain ⟨p, hp, hs⟩ := runP_prev h
    obtain ⟨h1, h2⟩ := runP_op hp
    have keep : p.op.length ≤ i + 1 ∧ ∀ o ∈ p.op, o < i + 1 := ⟨by omega, fun o ho => Nat.lt_succ_of_lt (h2 o ho)⟩
    unfold stepP at hs
    split at hs
    · cases hs
    split at hs
    · cases hs
      refine ⟨by simp; omega, fun o ho => ?_⟩
      rcases List.mem_cons.1 ho with rfl | ho
      · omega
      · exact keep.2 o ho
    split at hs
    · cases hs; exact keep
    split at hs
    · split at hs
      · cases hs
      · rename_i o r ho
        cases hs
        rw [ho] at keep
        exact ⟨by have := keep.1; simp at this; show r.length ≤ i + 1; omega, fun o' h' => keep.2 o' (by simp only [List.mem_cons]; exact .inr h')⟩
    split at hs
    · split at hs
      · cases hs; exact keep
      · cases hs
    split at hs
    · cases hs; exact keep
    · cases hs; exact keep
end Go.Proofs.Ytlmmiicibjfcdaa
namespace Go.Proofs.Ytlmmiicibjfcdaa
open Go.RowKit
/-- A node as a value, and its cells. -/
def ndV (x : Nd) : Value := .agg #[.int .i64 x.k, .int .u64 x.c0, .int .u64 x.c1, .int .u64 x.c2, .int .u64 x.c3, .int .i64 x.a, .int .i64 x.b, .int .i64 x.l, .int .i64 x.m, .bool x.z]
def ndL (x : Nd) : List Value := [.int .i64 x.k, .int .u64 x.c0, .int .u64 x.c1, .int .u64 x.c2, .int .u64 x.c3, .int .i64 x.a, .int .i64 x.b, .int .i64 x.l, .int .i64 x.m, .bool x.z]
def ndsL (l : List Nd) : List Value := l.flatMap ndL
def lvL (x : Int × Int × Int) : List Value := [.int .i64 x.1, .int .i64 x.2.1, .int .i64 x.2.2]
def lvC (l : List (Int × Int × Int)) : List Value := l.reverse.flatMap lvL
theorem ndsL_len : ∀ l : List Nd, (ndsL l).length = l.length * 10
  | [] => rfl
  | x :: l => by
    have := ndsL_len l
    simp only [ndsL, List.flatMap_cons, List.length_append, List.length_cons] at *
    rw [this]
    show 10 + _ = _
    omega
theorem lvC_cons (x : Int × Int × Int) (l : List (Int × Int × Int)) : lvC (x :: l) = lvC l ++ lvL x := by simp [lvC]
theorem lvC_len : ∀ l : List (Int × Int × Int), (lvC l).length = l.length * 3
  | [] => rfl
  | x :: l => by
    rw [lvC_cons, List.length_append, lvC_len l, List.length_cons]
    show _ + 3 = _
    omega
theorem own_at {W W' : World} {base e size k : Nat} {v : Value} {xs : List Value} (h : W.ownsRow base e size v k xs) (hs : ∀ g, v.ownBlock = some g → W'.heap[g]? = W.heap[g]?) : W'.ownsRow base e size v k xs :=
  ⟨h.1, h.2.imp id fun ⟨g, cap, cur, hv, hb, hh, r⟩ => ⟨g, cap, cur, hv, hb, (hs g (by rw [hv]; rfl)).trans hh, r⟩⟩
theorem own_block {W : World} {base e size k : Nat} {v : Value} {xs : List Value} (h : W.ownsRow base e size v k xs) {g : Nat} (hg : v.ownBlock = some g) : base ≤ g ∧ g < W.heap.size ∧ ∃ cur, W.heap[g]? = some (.cells cur e (0, 0)) := by
  rcases h.2 with ⟨hv, _⟩ | ⟨g', cap, cur, hv, hb, hh, _⟩
  · rw [hv] at hg; cases hg
  · rw [hv] at hg
    cases hg
    exact ⟨hb, (Array.getElem?_eq_some_iff.1 hh).1, cur, hh⟩
/-- Blocks that are none of a builder's (80), of nodes (44), of levels (104) are as they were. -/
def Kp (W W' : World) : Prop := ∀ (k : Nat) (cs : Array Value) (t : TypeId) (fz : Nat × Nat), W.heap[k]? = some (Obj.cells cs t fz) → t ≠ 80 → t ≠ 44 → t ≠ 104 → W'.heap[k]? = some (Obj.cells cs t fz)
theorem Kp.refl (W : World) : Kp W W := fun _ _ _ _ h _ _ _ => h
theorem Kp.trans {A B C : World} (h : Kp A B) (k : Kp B C) : Kp A C := fun i cs t fz hi h1 h2 h3 => k i cs t fz (h i cs t fz hi h1 h2 h3) h1 h2 h3
theorem Kp.below {W W' : World} (h : Below W.heap.size W W') : Kp W W' := fun k cs t fz hk _ _ _ => by rw [h.block k (Array.getElem?_eq_some_iff.1 hk).1]; exact hk
theorem Kp.set {W : World} {b : Nat} {cur : Array Value} {e : TypeId} {fz : Nat × Nat} (h : W.heap[b]? = some (.cells cur e fz)) (he : e = 80 ∨ e = 44 ∨ e = 104) (i : Nat) (v : Value) : Kp W (W.setCell ⟨b, i, none⟩ v) := fun k cs t fz' hk h1 h2 h3 => by
  have hkb : k ≠ b := by
    rintro rfl
    rw [h] at hk
    cases hk
    rcases he with e1 | e1 | e1
    · exact h1 e1
    · exact h2 e1
    · exact h3 e1
  rw [Below.heap_setCell _ _ _ _ hkb]
  exact hk
theorem Kp.grown {W W' : World} {row : Option Nat} (hg : W.grownBy W' row) (hr : ∀ b, row = some b → ∃ cur e fz, W.heap[b]? = some (.cells cur e fz) ∧ (e = 80 ∨ e = 44 ∨ e = 104)) : Kp W W' := fun k cs t fz hk h1 h2 h3 => by
  rw [hg.block k (Array.getElem?_eq_some_iff.1 hk).1 fun e => ?_]
  · exact hk
  · obtain ⟨cur, e', fz', hc, he⟩ := hr k e.symm
    rw [hc] at hk
    cases hk
    rcases he with e1 | e1 | e1
    · exact h1 e1
    · exact h2 e1
    · exact h3 e1
theorem Kp.cl {W W' : World} {b : Nat} {t : TypeId} {vs : List Value} (h : Kp W W') (hc : Cl W b t vs) (h1 : t ≠ 80) (h2 : t ≠ 44) (h3 : t ≠ 104) : Cl W' b t vs := h b _ t (0, 0) hc h1 h2 h3
/-- The flags that a builder keeps. -/
structure Fg where
  c : Bool
  d : Bool
  m : Bool
  o : Bool
  l : Bool
/-- A builder's cells. -/
def bC (fl : Fg) (s : Bs) (nv lv : Value) : List Value := [.bool fl.c, .bool fl.d, .bool fl.m, .bool fl.o, .bool fl.l, nv, .int .i64 (s.many : Nat), lv]
/-- The builder lies in memory, with its rows; nothing older than w has turned. -/
structure BM (X w : World) (bp : Nat) (fl : Fg) (s : Bs) (no : Option Addr) (nc g lc : Nat) (W : World) : Prop where
  bel : Below w.heap.size w W
  lo : w.heap.size ≤ bp
  cl : Cl W bp 80 (bC fl s (.slice no s.ns.length nc) (.slice (some ⟨g, 0, none⟩) s.lv.length lc))
  nrow : W.ownsRow w.heap.size 44 10 (.slice no s.ns.length nc) s.ns.length (ndsL s.ns)
  lrow : W.ownsRow w.heap.size 104 3 (.slice (some ⟨g, 0, none⟩) s.lv.length lc) s.lv.length (lvC s.lv)
  ln : s.ns.length = min s.many 2048
  mx : s.many ≤ 100000
  lx : s.lv.length ≤ 100000
  kp : Kp X W
theorem BM.below {X w W W' : World} {bp : Nat} {fl : Fg} {s : Bs} {no : Option Addr} {nc g lc : Nat} (h : BM X w bp fl s no nc g lc W) (hb : Below W.heap.size W W') : BM X w bp fl s no nc g lc W' :=
  ⟨h.bel.trans (hb.mono h.bel.size), h.lo, h.cl.below hb, own_at h.nrow fun _ hg => hb.block _ (own_block h.nrow hg).2.1, own_at h.lrow fun _ hg => hb.block _ (own_block h.lrow hg).2.1, h.ln, h.mx, h.lx, h.kp.trans (Kp.below hb)⟩
/-- A cell of the builder itself, and of its inmost level. -/
theorem BM.cells {X w W : World} {bp : Nat} {fl : Fg} {s : Bs} {no : Option Addr} {nc g lc : Nat} (h : BM X w bp fl s no nc g lc W) :
    (W.cell? ⟨bp, 0, none⟩ = some (.bool fl.c) ∧ W.cell? ⟨bp, 1, none⟩ = some (.bool fl.d) ∧ W.cell? ⟨bp, 2, none⟩ = some (.bool fl.m) ∧ W.cell? ⟨bp, 3, none⟩ = some (.bool fl.o) ∧ W.cell? ⟨bp, 4, none⟩ = some (.bool fl.l)) ∧ W.cell? ⟨bp, 5, none⟩ = some (.slice no s.ns.length nc) ∧ W.cell? ⟨bp, 6, none⟩ = some (.int .i64 (s.many : Nat)) ∧ W.cell? ⟨bp, 7, none⟩ = some (.slice (some ⟨g, 0, none⟩) s.lv.length lc) :=
  ⟨⟨h.cl.cell 0 rfl, h.cl.cell 1 rfl, h.cl.cell 2 rfl, h.cl.cell 3 rfl, h.cl.cell 4 rfl⟩, h.cl.cell 5 rfl, h.cl.cell 6 rfl, h.cl.cell 7 rfl⟩
theorem BM.top {X w W : World} {bp : Nat} {fl : Fg} {s : Bs} {no : Option Addr} {nc g lc : Nat} (h : BM X w bp fl s no nc g lc W) (hl : s.lv ≠ []) :
    W.cell? ⟨g, (s.lv.length - 1) * 3, none⟩ = some (.int .i64 s.top.1) ∧ W.cell? ⟨g, (s.lv.length - 1) * 3 + 1, none⟩ = some (.int .i64 s.top.2.1) ∧ W.cell? ⟨g, (s.lv.length - 1) * 3 + 2, none⟩ = some (.int .i64 s.top.2.2) ∧ (∀ j, W.frozen? ⟨g, j, none⟩ = false) ∧ g < W.heap.size ∧ g ≠ bp := by
  have hrow := h.lrow
  have htop : s.top = s.lv.headD (-1, -1, -1) := rfl
  refine ⟨?_, ?_, ?_, fun j => hrow.frozenAt j, (own_block hrow rfl).2.1, ?_⟩
  · cases hs : s.lv with
    | nil => exact absurd hs hl
    | cons x r =>
      rw [hs] at hrow htop
      rw [hrow.cellAt _ (by simp), lvC_cons, List.getElem?_append_right (by rw [lvC_len]; simp), lvC_len, htop]
      simp [lvL]
  · cases hs : s.lv with
    | nil => exact absurd hs hl
    | cons x r =>
      rw [hs] at hrow htop
      rw [hrow.cellAt _ (by simp; omega), lvC_cons, List.getElem?_append_right (by rw [lvC_len]; simp), lvC_len, htop]
      simp [lvL]
  · cases hs : s.lv with
    | nil => exact absurd hs hl
    | cons x r =>
      rw [hs] at hrow htop
      rw [hrow.cellAt _ (by simp; omega), lvC_cons, List.getElem?_append_right (by rw [lvC_len]; simp), lvC_len, htop]
      simp [lvL]
  · rintro rfl
    obtain ⟨_, _, cur, hc⟩ := own_block hrow rfl
    have := h.cl
    unfold Cl at this
    rw [hc] at this
    cases this
/-- One cell of the inmost level is written. -/
theorem BM.put0 {X w W : World} {bp : Nat} {fl : Fg} {s : Bs} {no : Option Addr} {nc g lc : Nat} (h : BM X w bp fl s no nc g lc W) (hl : s.lv ≠ []) (j : Nat) (v : Int) (x : Int × Int × Int) (hx : (lvL s.top).set j (.int .i64 v) = lvL x) (_hj : j < 3) :
    BM X w bp fl (s.setTop x) no nc g lc (W.setCell ⟨g, (s.lv.length - 1) * 3 + j, none⟩ (.int .i64 v)) := by
  obtain ⟨_, _, _, _, _, hgb⟩ := h.top hl
  have hg := own_block h.lrow (g := g) rfl
  have hst := (h.lrow.stored ((s.lv.length - 1) * 3 + j) (.int .i64 v)).1
  have hlen : (s.setTop x).lv.length = s.lv.length := setTop_lv s x hl
  refine ⟨h.bel.setCell (p := ⟨g, _, none⟩) hg.1 _, h.lo, ?_, ?_, ?_, h.ln, h.mx, by rw [hlen]; exact h.lx, h.kp.trans (by obtain ⟨_, _, cur, hc⟩ := hg; exact Kp.set hc (.inr (.inr rfl)) _ _)⟩
  · have := h.cl.other (k := g) hgb ((s.lv.length - 1) * 3 + j) (.int .i64 v)
    rw [hlen]
    exact this
  · refine own_at h.nrow fun k hk => Below.heap_setCell _ _ _ _ ?_
    rintro rfl
    obtain ⟨_, _, cur, hc⟩ := own_block h.nrow hk
    obtain ⟨_, _, cur', hc'⟩ := hg
    show False
    rw [hc] at hc'
    cases hc'
  · rw [hlen]
    have e : (lvC s.lv).set ((s.lv.length - 1) * 3 + j) (.int .i64 v) = lvC (s.setTop x).lv := by
      cases hs : s.lv with
      | nil => exact absurd hs hl
      | cons y r =>
        have h1 : (s.setTop x).lv = x :: r := by unfold Bs.setTop; rw [hs]; rfl
        have h2 : s.top = y := by unfold Bs.top; rw [hs]; rfl
        rw [h1, lvC_cons, lvC_cons, ← hx, h2, List.set_append_right _ _ (by rw [lvC_len]; simp), lvC_len]
        simp
    rw [← e]
    exact hst
theorem BM.base {X w W : World} {bp : Nat} {fl : Fg} {s : Bs} {no : Option Addr} {nc g lc : Nat} (h : BM X w bp fl s no nc g lc W) : BM W w bp fl s no nc g lc W := { h with kp := Kp.refl W }
theorem BM.from_ {X Y w W : World} {bp : Nat} {fl : Fg} {s : Bs} {no : Option Addr} {nc g lc : Nat} (h : BM Y w bp fl s no nc g lc W) (hk : Kp X Y) : BM X w bp fl s no nc g lc W := { h with kp := hk.trans h.kp }
end Go.Proofs.Ytlmmiicibjfcdaa
