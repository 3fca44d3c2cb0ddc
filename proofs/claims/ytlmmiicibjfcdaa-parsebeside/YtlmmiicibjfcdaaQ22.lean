/- parse: what the builder makes, said by trees. Anchors of trees: plain facts. parse: anchors that may stand, by trees. parse: tokens in a group are the same tree. -/
import Derived.Test.YtlmmiicibjfcdaaQ13
import Derived.Test.YtlmmiicibjfcdaaQ12
namespace Go.Proofs.Ytlmmiicibjfcdaa
/-- A level, by trees: all sequences ahead, all items ahead, the last item. -/
structure Lt where
  b : Option Tre
  r : Option Tre
  i : Option Tre
def Lt.nul : Lt := ⟨none, none, none⟩
def jn (k : Int) : Option Tre → Option Tre → Option Tre
  | none, b => b
  | some x, some y => some (.two k x y)
  | some x, none => some x
def Lt.eI (L : Lt) : Lt := ⟨L.b, jn 3 L.r L.i, none⟩
def Lt.eS (L : Lt) : Lt := ⟨jn 4 L.b (some ((jn 3 L.r L.i).getD emp)), none, none⟩
def tkT (x : Tp) : List Lt → List Lt
  | [] => []
  | L :: R =>
    if x.k = 4 then Lt.nul :: L.eI :: R
    else if x.k = 6 then L.eS :: R
    else if x.k = 5 then (match R with | [] => [] | M :: R' => ⟨M.b, M.r, L.eS.b⟩ :: R')
    else if x.k = 7 then ⟨L.b, L.r, L.i.map fun t => .rep t x.l x.m x.lz⟩ :: R
    else ⟨L.b, jn 3 L.r L.i, some (.leaf x.nd)⟩ :: R
theorem tkT_cons (x : Tp) (L : Lt) (R : List Lt) : tkT x (L :: R) = if x.k = 4 then Lt.nul :: L.eI :: R else if x.k = 6 then L.eS :: R else if x.k = 5 then (match R with | [] => [] | M :: R' => ⟨M.b, M.r, L.eS.b⟩ :: R') else if x.k = 7 then ⟨L.b, L.r, L.i.map fun t => .rep t x.l x.m x.lz⟩ :: R else ⟨L.b, jn 3 L.r L.i, some (.leaf x.nd)⟩ :: R := rfl
def bldT (X : Nat → Tp) : Nat → List Lt
  | 0 => [Lt.nul]
  | n + 1 => tkT (X n) (bldT X n)
/-- All trees, the last first. -/
def Lt.stk (L : Lt) (r : List Tre) : List Tre := L.i.toList ++ (L.r.toList ++ (L.b.toList ++ r))
def stkF : List Lt → List Tre
  | [] => []
  | L :: R => L.stk (stkF R)
def ndF (l : List Tre) : List Nd := l.mapIdx fun p u => u.nd (p : Int)
def osz (o : Option Tre) : Nat := match o with | none => 0 | some t => t.size
def pos (o : Option Tre) (d : Nat) : Int := match o with | none => -1 | some t => ((d + t.size : Nat) : Int) - 1
def lvT (L : Lt) (d : Nat) : Int × Int × Int := (pos L.b d, pos L.r (d + osz L.b), pos L.i (d + osz L.b + osz L.r))
def lvF : List Lt → List (Int × Int × Int)
  | [] => []
  | L :: R => lvT L (sizeF (stkF R)) :: lvF R
/-- The builder's nodes are those of trees. -/
structure RT (s : Bs) (ts : List Tre) : Prop where
  many : s.many = sizeF ts
  ns : s.ns = (ndF (ofF ts)).take 2048
theorem ndF_len (l : List Tre) : (ndF l).length = l.length := by simp [ndF]
theorem RT.put {s : Bs} {ts ts' : List Tre} {u : Tre} {n : Nd} (h : RT s ts) (ho : ofF ts' = ofF ts ++ [u]) (hn : n = u.nd (sizeF ts : Nat)) : RT (s.put n) ts' := by
  have hl : sizeF ts' = sizeF ts + 1 := by unfold sizeF; rw [ho]; simp
  refine ⟨by show s.many + 1 = _; rw [h.many, hl], ?_⟩
  have e : ndF (ofF ts') = ndF (ofF ts) ++ [n] := by
    rw [ho, hn]
    unfold ndF
    rw [List.mapIdx_concat]
    rfl
  have hle : (ndF (ofF ts)).length = s.many := by rw [ndF_len, h.many]; rfl
  show (if s.many < 2048 then s.ns ++ [n] else s.ns) = _
  rw [e, h.ns, List.take_append]
  split
  · rename_i hlt
    rw [List.take_of_length_le (by omega)]
    congr 1
    rw [hle, List.take_of_length_le (by simp; omega)]
  · rename_i hlt
    rw [hle, show 2048 - s.many = 0 by omega]
    simp
theorem ofF_two (k : Int) (x y : Tre) (r : List Tre) : ofF (.two k x y :: r) = ofF (y :: x :: r) ++ [.two k x y] := by simp [ofF, Tre.subs]
theorem ofF_rep (x : Tre) (l m : Int) (z : Bool) (r : List Tre) : ofF (.rep x l m z :: r) = ofF (x :: r) ++ [.rep x l m z] := by simp [ofF, Tre.subs]
theorem ofF_leaf (n : Nd) (r : List Tre) : ofF (.leaf n :: r) = ofF r ++ [.leaf n] := by simp [ofF, Tre.subs]
theorem sizeF_opt (o : Option Tre) (r : List Tre) : sizeF (o.toList ++ r) = sizeF r + osz o := by
  cases o with
  | none => rfl
  | some t => exact sizeF_cons t r
/-- The builder is as the trees say. -/
structure Rl (s : Bs) (S : List Lt) : Prop where
  rt : RT s (stkF S)
  lv : s.lv = lvF S
/-- No item is missing: where nothing is the last item, nothing stands ahead. -/
structure Sh (ah : Int) (S : List Lt) : Prop where
  ex : ∃ L R, S = L :: R ∧ (ah = 0 → L.r = none ∧ L.i = none) ∧ (ah ≠ 0 → ∃ t, L.i = some t) ∧ ∀ M ∈ R, M.i = none
theorem Rl.top {s : Bs} {L : Lt} {R : List Lt} (h : Rl s (L :: R)) : s.top = lvT L (sizeF (stkF R)) := by
  unfold Bs.top
  rw [h.lv]; rfl
theorem Rl.tail {s : Bs} {L : Lt} {R : List Lt} (h : Rl s (L :: R)) : s.lv.tail = lvF R := by rw [h.lv]; rfl
theorem pos_neg {o : Option Tre} {d : Nat} : pos o d = -1 ↔ o = none := by
  cases o with
  | none => simp [pos]
  | some t =>
    have := t.size_pos
    simp only [pos, reduceCtorEq, iff_false]
    omega
theorem Rl.endItem {s : Bs} {L : Lt} {R : List Lt} (h : Rl s (L :: R)) (hs : L.r = none ∨ ∃ t, L.i = some t) : Rl s.endItem (L.eI :: R) := by
  have ht := h.top
  have htl := h.tail
  have hrt := h.rt
  obtain ⟨b, r, i⟩ := L
  cases r with
  | none =>
    have e1 : s.top.2.1 = -1 := by rw [ht]; rfl
    unfold Bs.endItem Bs.join Bs.joinV
    rw [if_pos e1, if_pos e1]
    refine ⟨⟨hrt.many, hrt.ns⟩, ?_⟩
    show (s.top.1, s.top.2.2, -1) :: s.lv.tail = _
    rw [ht, htl]
    rfl
  | some x =>
    rcases hs with hs | ⟨y, hy⟩
    · cases hs
    dsimp only at hy
    subst hy
    have e1 : s.top.2.1 ≠ -1 := by rw [ht]; exact fun h => by simpa using (pos_neg (o := some x)).1 h
    have hsz : sizeF (y :: x :: (b.toList ++ stkF R)) = sizeF (stkF R) + osz b + x.size + y.size := by rw [sizeF_cons, sizeF_cons, sizeF_opt]
    have hmany : s.many = sizeF (stkF R) + osz b + x.size + y.size := by rw [← hsz]; exact hrt.many
    unfold Bs.endItem Bs.join Bs.joinV
    rw [if_neg e1, if_neg e1]
    have hp : RT (s.put (nd2 3 s.top.2.1 s.top.2.2)) (.two 3 x y :: (b.toList ++ stkF R)) := by
      refine RT.put (ts := y :: x :: (b.toList ++ stkF R)) hrt (ofF_two 3 x y _) ?_
      rw [ht, hsz]
      simp only [nd2, lvT, pos, osz, Tre.nd, Nd.mk.injEq, true_and, and_true]
      omega
    refine ⟨⟨hp.many, hp.ns⟩, ?_⟩
    show (s.top.1, (s.many : Int), -1) :: s.lv.tail = _
    rw [ht, htl, hmany]
    simp only [lvF, lvT, Lt.eI, jn, pos, Tre.size]
    congr 1
    simp only [Prod.mk.injEq, true_and, and_true]
    omega
theorem Rl.noRow {s : Bs} {b r : Option Tre} {R : List Lt} (h : Rl s (⟨b, r, none⟩ :: R)) : Rl s.noRow (⟨b, some (r.getD emp), none⟩ :: R) := by
  have ht := h.top
  have htl := h.tail
  have hrt := h.rt
  unfold Bs.noRow
  cases r with
  | none =>
    have e1 : s.top.2.1 = -1 := by rw [ht]; rfl
    rw [if_pos e1]
    have hsz : sizeF (b.toList ++ stkF R) = sizeF (stkF R) + osz b := sizeF_opt _ _
    have hmany : s.many = sizeF (stkF R) + osz b := by rw [← hsz]; exact hrt.many
    have hp : RT (s.put ndE) (emp :: (b.toList ++ stkF R)) := RT.put (ts := b.toList ++ stkF R) hrt (ofF_leaf ndE _) rfl
    refine ⟨⟨hp.many, hp.ns⟩, ?_⟩
    show (s.top.1, (s.many : Int), s.top.2.2) :: s.lv.tail = _
    rw [ht, htl, hmany]
    simp only [lvF, lvT, Option.getD_none, pos, emp_size]
    congr 1
    simp only [Prod.mk.injEq, true_and, and_true]
    omega
  | some x =>
    have e1 : s.top.2.1 ≠ -1 := by rw [ht]; exact fun h => by simpa using (pos_neg (o := some x)).1 h
    rw [if_neg e1]
    exact h
theorem Rl.endAlt {s : Bs} {b : Option Tre} {y : Tre} {R : List Lt} (h : Rl s (⟨b, some y, none⟩ :: R)) : Rl s.endAlt (⟨jn 4 b (some y), none, none⟩ :: R) := by
  have ht := h.top
  have htl := h.tail
  have hrt := h.rt
  unfold Bs.endAlt Bs.join Bs.joinV
  cases b with
  | none =>
    have e1 : s.top.1 = -1 := by rw [ht]; rfl
    rw [if_pos e1, if_pos e1]
    refine ⟨⟨hrt.many, hrt.ns⟩, ?_⟩
    show (s.top.2.1, -1, s.top.2.2) :: s.lv.tail = _
    rw [ht, htl]
    rfl
  | some x =>
    have e1 : s.top.1 ≠ -1 := by rw [ht]; exact fun h => by simpa using (pos_neg (o := some x)).1 h
    rw [if_neg e1, if_neg e1]
    have hsz : sizeF (y :: x :: stkF R) = sizeF (stkF R) + x.size + y.size := by rw [sizeF_cons, sizeF_cons]
    have hmany : s.many = sizeF (stkF R) + x.size + y.size := by rw [← hsz]; exact hrt.many
    have hp : RT (s.put (nd2 4 s.top.1 s.top.2.1)) (.two 4 x y :: stkF R) := by
      refine RT.put (ts := y :: x :: stkF R) hrt (ofF_two 4 x y _) ?_
      rw [ht, hsz]
      simp only [nd2, lvT, pos, osz, Tre.nd, Nd.mk.injEq, true_and, and_true]
      omega
    refine ⟨⟨hp.many, hp.ns⟩, ?_⟩
    show ((s.many : Int), -1, s.top.2.2) :: s.lv.tail = _
    rw [ht, htl, hmany]
    simp only [lvF, lvT, jn, pos, Tre.size]
    congr 1
    simp only [Prod.mk.injEq, and_true]
    omega
theorem Rl.endSeq {s : Bs} {L : Lt} {R : List Lt} (h : Rl s (L :: R)) (hs : L.r = none ∨ ∃ t, L.i = some t) : Rl s.endSeq (L.eS :: R) := (h.endItem hs).noRow.endAlt
theorem Sh.ahd {ah : Int} {L : Lt} {R : List Lt} (h : Sh ah (L :: R)) : L.r = none ∨ ∃ t, L.i = some t := by
  obtain ⟨L', R', e, h1, h2, _⟩ := h.ex
  cases e
  by_cases ha : ah = 0
  · exact .inl (h1 ha).1
  · exact .inr (h2 ha)
theorem Sh.outer {ah : Int} {L : Lt} {R : List Lt} (h : Sh ah (L :: R)) : ∀ M ∈ R, M.i = none := by
  obtain ⟨L', R', e, _, _, h3⟩ := h.ex
  cases e
  exact h3
/-- A token that is taken. -/
theorem take_rel {X : Nat → Tp} {p q : Ps} {i : Nat} {s : Bs} {S : List Lt} (hs : stepP X p i = .ok q) (hl : S.length = p.op.length + 1) (hr : Rl s S) (hsh : Sh p.ah S) : Rl (s.take (X i)) (tkT (X i) S) ∧ Sh q.ah (tkT (X i) S) ∧ (tkT (X i) S).length = q.op.length + 1 := by
  obtain ⟨L, R, rfl⟩ : ∃ L R, S = L :: R := by
    cases S with
    | nil => simp at hl
    | cons L R => exact ⟨L, R, rfl⟩
  have hah := hsh.ahd
  have hou := hsh.outer
  have hI := hr.endItem hah
  have hS := hr.endSeq hah
  unfold stepP at hs
  split at hs
  · cases hs
  unfold Bs.take
  rw [tkT_cons]
  split at hs
  · rename_i hk
    cases hs
    rw [if_pos hk, if_pos hk]
    refine ⟨⟨⟨hI.rt.many, hI.rt.ns⟩, ?_⟩, ⟨_, _, rfl, fun _ => ⟨rfl, rfl⟩, fun h => absurd rfl h, ?_⟩, by simp at hl ⊢; omega⟩
    · show (-1, -1, -1) :: s.endItem.lv = _
      rw [hI.lv]; rfl
    · intro M hM
      rcases List.mem_cons.1 hM with rfl | hM
      · rfl
      · exact hou M hM
  rename_i hk4
  rw [if_neg hk4, if_neg hk4]
  split at hs
  · rename_i hk
    cases hs
    rw [if_pos hk, if_pos hk]
    exact ⟨hS, ⟨_, _, rfl, fun _ => ⟨rfl, rfl⟩, fun h => absurd rfl h, hou⟩, by simpa using hl⟩
  rename_i hk6
  rw [if_neg hk6, if_neg hk6]
  split at hs
  · rename_i hk
    rw [if_pos hk, if_pos hk]
    split at hs
    · cases hs
    · rename_i o r ho
      cases hs
      rw [ho] at hl
      cases R with
      | nil => simp at hl
      | cons M R' =>
        have hMi := hou M (by simp)
        have hlv := hS.lv
        have htop := hS.top
        obtain ⟨y, hy⟩ : ∃ y, L.eS.b = some y := by
          unfold Lt.eS jn
          cases L.b <;> exact ⟨_, rfl⟩
        obtain ⟨mb, mr, mi⟩ := M
        dsimp only at hMi
        subst hMi
        refine ⟨⟨⟨?_, ?_⟩, ?_⟩, ⟨_, _, rfl, fun h => absurd h (by dsimp only; omega), fun _ => ⟨y, hy⟩, fun N hN => hou N (by simp [hN])⟩, by simp at hl ⊢; omega⟩
        · show s.endSeq.many = _
          rw [hS.rt.many]
          simp [stkF, Lt.stk, Lt.eS]
        · show s.endSeq.ns = _
          rw [hS.rt.ns]
          simp [stkF, Lt.stk, Lt.eS]
        · show ((s.endSeq.pop).top.1, (s.endSeq.pop).top.2.1, s.endSeq.top.1) :: (s.endSeq.lv.tail).tail = _
          have e2 : s.endSeq.lv.tail = lvF (⟨mb, mr, none⟩ :: R') := by rw [hlv]; rfl
          have e3 : s.endSeq.pop.top = lvT ⟨mb, mr, none⟩ (sizeF (stkF R')) := by
            unfold Bs.top Bs.pop
            rw [e2]; rfl
          rw [e3, htop, e2]
          simp only [lvF, lvT, List.tail_cons]
          congr 1
          simp only [Prod.mk.injEq, true_and]
          simp only [stkF, Lt.stk, Option.toList_none, List.nil_append, sizeF_opt]
  rename_i hk5
  rw [if_neg hk5, if_neg hk5]
  have ht := hr.top
  have htl := hr.tail
  have hrt := hr.rt
  split at hs
  · rename_i hk
    rw [if_pos hk, if_pos hk]
    split at hs
    · rename_i ha
      cases hs
      obtain ⟨x, hx⟩ : ∃ x, L.i = some x := by
        obtain ⟨L', R', e, _, h2, _⟩ := hsh.ex
        cases e
        exact h2 (by omega)
      obtain ⟨lb, lr, li⟩ := L
      dsimp only at hx
      subst hx
      have hsz : sizeF (x :: (lr.toList ++ (lb.toList ++ stkF R))) = sizeF (stkF R) + osz lb + osz lr + x.size := by rw [sizeF_cons, sizeF_opt, sizeF_opt]
      have hmany : s.many = sizeF (stkF R) + osz lb + osz lr + x.size := by rw [← hsz]; exact hrt.many
      have hp : RT (s.put (ndR s.top.2.2 (X i).l (X i).m (X i).lz)) (.rep x (X i).l (X i).m (X i).lz :: (lr.toList ++ (lb.toList ++ stkF R))) := by
        refine RT.put (ts := x :: (lr.toList ++ (lb.toList ++ stkF R))) hrt (ofF_rep x _ _ _ _) ?_
        rw [ht, hsz]
        simp only [ndR, lvT, pos, Tre.nd]
      refine ⟨⟨⟨hp.many, hp.ns⟩, ?_⟩, ⟨_, _, rfl, fun h => absurd h (by dsimp only; omega), fun _ => ⟨_, rfl⟩, hou⟩, by simpa using hl⟩
      show (s.top.1, s.top.2.1, (s.many : Int)) :: s.lv.tail = _
      rw [ht, htl, hmany]
      simp only [lvF, lvT, Option.map_some, pos, Tre.size]
      congr 1
      simp only [Prod.mk.injEq, true_and]
      omega
    · cases hs
  rename_i hk7
  rw [if_neg hk7, if_neg hk7]
  have hgen : Rl ((s.endItem.put (X i).nd).setItem (s.endItem.many : Int)) (⟨L.b, jn 3 L.r L.i, some (.leaf (X i).nd)⟩ :: R) := by
    have hIt := hI.top
    have hItl := hI.tail
    have hsz : sizeF ((jn 3 L.r L.i).toList ++ (L.b.toList ++ stkF R)) = sizeF (stkF R) + osz L.b + osz (jn 3 L.r L.i) := by rw [sizeF_opt, sizeF_opt]
    have hmany : s.endItem.many = sizeF (stkF R) + osz L.b + osz (jn 3 L.r L.i) := by rw [← hsz]; exact hI.rt.many
    have hp : RT (s.endItem.put (X i).nd) (.leaf (X i).nd :: ((jn 3 L.r L.i).toList ++ (L.b.toList ++ stkF R))) := RT.put hI.rt (ofF_leaf _ _) rfl
    refine ⟨⟨hp.many, hp.ns⟩, ?_⟩
    show (s.endItem.top.1, s.endItem.top.2.1, (s.endItem.many : Int)) :: s.endItem.lv.tail = _
    rw [hIt, hItl, hmany]
    simp only [lvF, lvT, Lt.eI, pos, Tre.size]
    congr 1
    simp only [Prod.mk.injEq, true_and]
    omega
  split at hs
  · cases hs
    exact ⟨hgen, ⟨_, _, rfl, fun h => absurd h (by dsimp only; omega), fun _ => ⟨_, rfl⟩, hou⟩, by simpa using hl⟩
  · cases hs
    exact ⟨hgen, ⟨_, _, rfl, fun h => absurd h (by dsimp only; omega), fun _ => ⟨_, rfl⟩, hou⟩, by simpa using hl⟩
theorem bld_rel {X : Nat → Tp} : ∀ {i : Nat} {p : Ps}, runP X i = .ok p → Rl (bld X i) (bldT X i) ∧ Sh p.ah (bldT X i) ∧ (bldT X i).length = p.op.length + 1
  | 0, p, h => by
    cases h
    exact ⟨⟨⟨rfl, rfl⟩, rfl⟩, ⟨_, _, rfl, fun _ => ⟨rfl, rfl⟩, fun h => absurd rfl h, fun _ h => by cases h⟩, rfl⟩
  | i + 1, q, h => by
    obtain ⟨p, hp, hs⟩ := runP_prev h
    obtain ⟨h1, h2, h3⟩ := bld_rel hp
    exact take_rel hs h3 h1 h2
/-- The tree of tokens. -/
def treT (X : Nat → Tp) (n : Nat) : Tre := ((((bldT X n).headD Lt.nul).eS).b).getD emp
theorem prsE_run {X : Nat → Tp} {n : Nat} {cl : Nat → Int} (h : prsE X n = .ok cl) : ∃ ah, runP X n = .ok ⟨[], ah, cl⟩ := by
  unfold prsE at h
  split at h
  · cases h
  · rename_i s hs
    split at h
    · rename_i ho
      cases h
      obtain ⟨op, ah, cl⟩ := s
      dsimp only at ho
      subst ho
      exact ⟨ah, hs⟩
    · cases h
theorem one_level {X : Nat → Tp} {n : Nat} {cl : Nat → Int} (h : prsE X n = .ok cl) : ∃ L, bldT X n = [L] ∧ (L.r = none ∨ ∃ t, L.i = some t) ∧ (bld X n).endSeq.many = (treT X n).size ∧ (bld X n).endSeq.ns = (ndF (treT X n).subs).take 2048 := by
  obtain ⟨ah, hr⟩ := prsE_run h
  obtain ⟨h1, h2, h3⟩ := bld_rel hr
  cases hb : bldT X n with
  | nil => rw [hb] at h3; simp at h3
  | cons L R =>
    rw [hb] at h1 h2 h3
    have hR : R = [] := by cases R with
      | nil => rfl
      | cons _ _ => simp at h3
    subst hR
    have he := h1.endSeq h2.ahd
    obtain ⟨y, hy⟩ : ∃ y, L.eS.b = some y := by
      unfold Lt.eS jn
      cases L.b <;> exact ⟨_, rfl⟩
    have ht : treT X n = y := by
      unfold treT
      rw [hb]
      show L.eS.b.getD emp = y
      rw [hy]; rfl
    have hst : stkF [L.eS] = [y] := by
      show (Lt.stk L.eS []) = [y]
      unfold Lt.stk
      rw [hy]
      rfl
    refine ⟨L, rfl, h2.ahd, ?_, ?_⟩
    · rw [he.rt.many, hst, ht]
      simp [sizeF, ofF, Tre.subs_length]
    · rw [he.rt.ns, hst, ht]
      simp [ofF]
end Go.Proofs.Ytlmmiicibjfcdaa
namespace Go.Proofs.Ytlmmiicibjfcdaa
def hdA (k : Int) (h : Bool × Bool) : Bool × Bool := if k = 4 then h else (h.1, false)
def hdB (k : Int) (h : Bool × Bool) : Bool × Bool := if k = 4 then h else (false, h.2)
def anc : Tre → Bool × Bool → Bool
  | .leaf n, h => if n.k = 6 then h.1 else if n.k = 7 then h.2 else true
  | .two k x y, h => anc x (hdA k h) && anc y (hdB k h)
  | .rep x _ _ _, _ => anc x (false, false)
end Go.Proofs.Ytlmmiicibjfcdaa
namespace Go.Proofs.Ytlmmiicibjfcdaa
/-- What is known of a token that may be. -/
structure Fine (x : Tp) : Prop where
  rep : x.k = 7 → Tre.mayR x.l x.m = true
  leaf : x.k ≠ 4 → x.k ≠ 5 → x.k ≠ 6 → x.k ≠ 7 → Tre.lf x.nd = true
  hat : x.nd.k = 6 → x.k = 8
  dol : x.nd.k = 7 → x.k = 9
theorem anc_mono : ∀ (t : Tre) {h h' : Bool × Bool}, (h.1 = true → h'.1 = true) → (h.2 = true → h'.2 = true) → anc t h = true → anc t h' = true
  | .leaf n, h, h', h1, h2, ha => by
    unfold anc at ha ⊢
    split
    · rename_i e; rw [if_pos e] at ha; exact h1 ha
    · rename_i e
      rw [if_neg e] at ha
      split
      · rename_i e2; rw [if_pos e2] at ha; exact h2 ha
      · rfl
  | .two k x y, h, h', h1, h2, ha => by
    unfold anc at ha ⊢
    rw [Bool.and_eq_true] at ha ⊢
    refine ⟨anc_mono x ?_ ?_ ha.1, anc_mono y ?_ ?_ ha.2⟩ <;> first | (unfold hdA; split <;> simp_all) | (unfold hdB; split <;> simp_all)
  | .rep x l m z, h, h', h1, h2, ha => by
    unfold anc at ha ⊢
    exact ha
/-- What holds of a level's trees, rm being its room, so many tokens taken. -/
structure LvA (X : Nat → Tp) (n i : Nat) (rm : Bool × Bool) (L : Lt) : Prop where
  b : ∀ t, L.b = some t → anc t rm = true
  r : ∀ t, L.r = some t → anc t (rm.1, false) = true
  i : ∀ t, L.i = some t → ∃ j, i = j + 1 ∧ anc t (rm.1 && L.r.isNone && !repA X n j, rm.2 && lstA X n j) = true
/-- And of the levels around it. -/
def Out (X : Nat → Tp) (n : Nat) (cl : Nat → Int) : List Nat → Bool × Bool → List (Bool × Bool) → List Lt → Prop
  | [], rm, [], [] => rm = (true, true)
  | o :: os, rm, rm' :: rs, M :: R => rm = (rm'.1 && M.r.isNone && !repA X n (cl o).toNat, rm'.2 && lstA X n (cl o).toNat) ∧ (∀ t, M.b = some t → anc t rm' = true) ∧ (∀ t, M.r = some t → anc t (rm'.1, false) = true) ∧ Out X n cl os rm' rs R
  | _, _, _, _ => False
theorem eI_anc {X : Nat → Tp} {n i : Nat} {rm : Bool × Bool} {L : Lt} (h : LvA X n i rm L) (ha : L.r = none ∨ ∃ t, L.i = some t) (hi : i < n) (h5 : (X i).k ≠ 5) (h6 : (X i).k ≠ 6) : ∀ t, jn 3 L.r L.i = some t → anc t (rm.1, false) = true := by
  have hl : ∀ j, i = j + 1 → lstA X n j = false := fun j e => by
    unfold lstA
    rw [← e]
    simp [h5, h6]; omega
  intro t ht
  obtain ⟨lb, lr, li⟩ := L
  cases lr with
  | none =>
    obtain ⟨j, e, hj⟩ := h.i t ht
    rw [hl j e] at hj
    exact anc_mono t (by simp_all) (by simp) hj
  | some x =>
    rcases ha with ha | ⟨y, hy⟩
    · cases ha
    dsimp only at hy
    subst hy
    obtain rfl : Tre.two 3 x y = t := by simpa [jn] using ht
    obtain ⟨j, e, hj⟩ := h.i y rfl
    rw [hl j e] at hj
    unfold anc
    rw [Bool.and_eq_true]
    exact ⟨anc_mono x (by simp [hdA]) (by simp) (h.r x rfl), anc_mono y (by simp) (by simp) hj⟩
theorem eS_anc {X : Nat → Tp} {n i : Nat} {rm : Bool × Bool} {L : Lt} (h : LvA X n i rm L) (ha : L.r = none ∨ ∃ t, L.i = some t) : ∀ t, L.eS.b = some t → anc t rm = true := by
  have hu : anc ((jn 3 L.r L.i).getD emp) rm = true := by
    obtain ⟨lb, lr, li⟩ := L
    cases lr with
    | none =>
      cases li with
      | none => simp [jn, emp, anc]
      | some y =>
        obtain ⟨j, e, hj⟩ := h.i y rfl
        exact anc_mono y (by simp_all) (by simp_all) hj
    | some x =>
      rcases ha with ha | ⟨y, hy⟩
      · cases ha
      dsimp only at hy
      subst hy
      obtain ⟨j, e, hj⟩ := h.i y rfl
      show anc (.two 3 x y) rm = true
      unfold anc
      rw [Bool.and_eq_true]
      exact ⟨anc_mono x (by simp [hdA]) (by simp) (h.r x rfl), anc_mono y (by simp) (by simp [hdB]; intro a b; exact a) hj⟩
  intro t ht
  unfold Lt.eS at ht
  generalize (jn 3 L.r L.i).getD emp = u at *
  cases hb : L.b with
  | none =>
    rw [hb] at ht
    obtain rfl : u = t := by simpa [jn] using ht
    exact hu
  | some v =>
    rw [hb] at ht
    obtain rfl : Tre.two 4 v u = t := by simpa [jn] using ht
    unfold anc
    rw [Bool.and_eq_true]
    exact ⟨h.b v hb, hu⟩
theorem ah_fst {X : Nat → Tp} : ∀ {i : Nat} {p : Ps}, runP X i = .ok p → (p.ah = 0 ↔ fstA X i = true)
  | 0, p, h => by cases h; simp [fstA]
  | i + 1, q, h => by
    obtain ⟨p, hp, hs⟩ := runP_prev h
    unfold stepP at hs
    unfold fstA
    simp only [Nat.add_sub_cancel, Nat.add_eq_zero_iff, Nat.succ_ne_self, and_false, decide_false, Bool.false_or]
    split at hs
    · cases hs
    split at hs
    · rename_i hk; cases hs; simp [hk]
    rename_i h4
    split at hs
    · rename_i hk; cases hs; simp [hk]
    rename_i h6
    have e : ((X i).k == 4 || (X i).k == 6) = false := by simp [h4, h6]
    rw [e]
    split at hs
    · split at hs
      · cases hs
      · cases hs; simp
    split at hs
    · split at hs
      · cases hs; simp
      · cases hs
    split at hs
    · cases hs; simp
    · cases hs; simp
theorem runP_sort {X : Nat → Tp} : ∀ {i : Nat} {p : Ps}, runP X i = .ok p → p.op.Pairwise (fun a b => b < a)
  | 0, p, h => by cases h; exact List.Pairwise.nil
  | i + 1, q, h => by
    obtain ⟨p, hp, hs⟩ := runP_prev h
    have ih := runP_sort hp
    have hlt := (runP_op hp).2
    unfold stepP at hs
    split at hs
    · cases hs
    split at hs
    · cases hs; exact List.Pairwise.cons hlt ih
    split at hs
    · cases hs; exact ih
    split at hs
    · split at hs
      · cases hs
      · rename_i o r ho
        cases hs
        rw [ho] at ih
        exact (List.pairwise_cons.1 ih).2
    split at hs
    · split at hs
      · cases hs; exact ih
      · cases hs
    split at hs
    · cases hs; exact ih
    · cases hs; exact ih
/-- A group that is shut stays as it is. -/
theorem cl_stays {X : Nat → Tp} {i o : Nat} {p : Ps} (hp : runP X i = .ok p) (ho : o ∉ p.op) (hi : o < i) : ∀ {n : Nat} {s : Ps}, runP X n = .ok s → i ≤ n → s.cl o = p.cl o ∧ o ∉ s.op := by
  intro n
  induction n with
  | zero =>
    intro s hs hn
    obtain rfl : i = 0 := by omega
    omega
  | succ n ih =>
    intro s hs hn
    by_cases e : i = n + 1
    · subst e
      rw [hp] at hs
      cases hs
      exact ⟨rfl, ho⟩
    · obtain ⟨q, hq, hst⟩ := runP_prev hs
      obtain ⟨h1, h2⟩ := ih hq (by omega)
      unfold stepP at hst
      split at hst
      · cases hst
      split at hst
      · cases hst
        refine ⟨h1, ?_⟩
        simp only [List.mem_cons, not_or]
        exact ⟨by omega, h2⟩
      split at hst
      · cases hst; exact ⟨h1, h2⟩
      split at hst
      · split at hst
        · cases hst
        · rename_i o' r ho'
          cases hst
          rw [ho'] at h2
          simp only [List.mem_cons, not_or] at h2
          exact ⟨by simp [h2.1, h1], h2.2⟩
      split at hst
      · split at hst
        · cases hst; exact ⟨h1, h2⟩
        · cases hst
      split at hst
      · cases hst; exact ⟨h1, h2⟩
      · cases hst; exact ⟨h1, h2⟩
/-- Behind an anchor no repeat stands. -/
theorem no_rep {X : Nat → Tp} {n i : Nat} {q s : Ps} (hq : runP X (i + 1) = .ok q) (hs : runP X n = .ok s) (ha : q.ah ≠ 2) : repA X n i = false := by
  unfold repA
  by_cases hi : i + 1 < n
  · by_cases hk : (X (i + 1)).k = 7
    · obtain ⟨u, hu⟩ := runP_le hs (i + 2) (by omega)
      obtain ⟨v, hv, hst⟩ := runP_prev hu
      rw [hq] at hv
      cases hv
      unfold stepP at hst
      split at hst
      · cases hst
      rw [if_neg (by omega), if_neg (by omega), if_neg (by omega)] at hst
      first | (rw [if_pos hk, if_neg ha] at hst; cases hst) | (cases hst)
    · simp [hk]
  · simp [hi]
theorem stepA_cons (X : Nat → Tp) (n : Nat) (cl : Nat → Int) (rm : Bool × Bool) (rs : List (Bool × Bool)) (i : Nat) : stepA X n cl (rm :: rs) i =
  if (X i).k = 4 then .ok ((rm.1 && fstA X i && !repA X n (cl i).toNat, rm.2 && lstA X n (cl i).toNat) :: rm :: rs)
  else if (X i).k = 5 then .ok rs
  else if (X i).k = 8 then (if (rm.1 && fstA X i) = true then .ok (rm :: rs) else .error (X i).t)
  else if (X i).k = 9 then (if (rm.2 && lstA X n i) = true then .ok (rm :: rs) else .error (X i).t)
  else .ok (rm :: rs) := rfl
/-- The anchors of what is built may stand. -/
theorem anc_run {X : Nat → Tp} {n : Nat} {cl : Nat → Int} {sE : Ps} (hE : runP X n = .ok sE) (hcl : sE.cl = cl) (hf : ∀ i, i < n → Fine (X i)) :
    ∀ {i : Nat} {p : Ps} {rooms : List (Bool × Bool)}, i ≤ n → runP X i = .ok p → runA X n cl i = .ok rooms → ∃ rm rs L R, rooms = rm :: rs ∧ bldT X i = L :: R ∧ LvA X n i rm L ∧ Out X n cl p.op rm rs R
  | 0, p, rooms, _, hp, ha => by
    cases hp
    cases ha
    exact ⟨_, _, _, _, rfl, rfl, ⟨fun _ h => (by cases h), fun _ h => (by cases h), fun _ h => (by cases h)⟩, rfl⟩
  | i + 1, q, rooms, hi, hq, ha => by
    obtain ⟨p, hp, hs⟩ := runP_prev hq
    rw [runA] at ha
    cases har : runA X n cl i with
    | error e => rw [har] at ha; cases ha
    | ok rooms0 =>
    rw [har] at ha
    dsimp only at ha
    obtain ⟨rm, rs, L, R, rfl, hb, hL, hO⟩ := anc_run hE hcl hf (by omega) hp har
    obtain ⟨_, hsh, hlen⟩ := bld_rel hp
    rw [hb] at hsh hlen
    have hahd := hsh.ahd
    have hfst := ah_fst hp
    have hI := eI_anc hL hahd (by omega : i < n)
    have hS := eS_anc hL hahd
    have hjn : (jn 3 L.r L.i).isNone = fstA X i := by
      obtain ⟨L', R', e, h1, h2, _⟩ := hsh.ex
      cases e
      by_cases h0 : p.ah = 0
      · obtain ⟨e1, e2⟩ := h1 h0
        rw [e1, e2, hfst.1 h0]; rfl
      · obtain ⟨t, e2⟩ := h2 h0
        have : fstA X i = false := by
          cases hx : fstA X i with
          | false => rfl
          | true => exact absurd (hfst.2 hx) h0
        rw [this, e2]
        cases L.r <;> rfl
    have hfi := hf i (by omega)
    rw [bldT, hb, tkT_cons]
    have hs0 := hs
    unfold stepP at hs
    rw [stepA_cons] at ha
    split at hs
    · cases hs
    split at hs
    · rename_i hk
      cases hs
      rw [if_pos hk] at ha ⊢
      cases ha
      refine ⟨_, _, _, _, rfl, rfl, ⟨fun _ h => (by cases h), fun _ h => (by cases h), fun _ h => (by cases h)⟩, ?_, hL.b, fun t ht => hI (by omega) (by omega) t ht, hO⟩
      show _ = (rm.1 && (jn 3 L.r L.i).isNone && _, _)
      rw [hjn]
    rename_i hk4
    rw [if_neg hk4] at ha ⊢
    split at hs
    · rename_i hk
      cases hs
      rw [if_neg (by omega), if_neg (by omega), if_neg (by omega)] at ha
      rw [if_pos hk]
      cases ha
      exact ⟨_, _, _, _, rfl, rfl, ⟨hS, fun _ h => (by cases h), fun _ h => (by cases h)⟩, hO⟩
    rename_i hk6
    rw [if_neg hk6]
    split at hs
    · rename_i hk
      rw [if_pos hk] at ha ⊢
      split at hs
      · cases hs
      · rename_i o r ho
        have hso := runP_sort hp
        rw [ho] at hO hlen hso
        cases R with
        | nil => simp at hlen
        | cons M R' =>
          cases rs with
          | nil => exact absurd hO (by simp [Out])
          | cons rm' rs' =>
            obtain ⟨e1, e2, e3, e4⟩ := hO
            cases ha
            have hoi : o < i := (runP_op hp).2 o (by rw [ho]; simp)
            have hnot : o ∉ r := fun hm => absurd ((List.pairwise_cons.1 hso).1 o hm) (by omega)
            cases hs
            have hfin := (cl_stays (o := o) hq hnot (by omega) hE hi).1
            rw [hcl] at hfin
            have hci : (cl o).toNat = i := by rw [hfin]; simp
            rw [hci] at e1
            refine ⟨_, _, _, _, rfl, rfl, ⟨e2, e3, fun t ht => ⟨i, rfl, ?_⟩⟩, e4⟩
            have := hS t ht
            rw [e1] at this
            exact this
    rename_i hk5
    rw [if_neg hk5] at ha ⊢
    split at hs
    · rename_i hk
      rw [if_neg (by omega), if_neg (by omega)] at ha
      rw [if_pos hk]
      cases ha
      split at hs
      · rename_i hah
        cases hs
        refine ⟨_, _, _, _, rfl, rfl, ⟨hL.b, hL.r, fun t ht => ?_⟩, hO⟩
        dsimp only at ht
        cases hli : L.i with
        | none => rw [hli] at ht; cases ht
        | some y =>
          rw [hli] at ht
          obtain rfl : Tre.rep y (X i).l (X i).m (X i).lz = t := by simpa using ht
          obtain ⟨j, e, hj⟩ := hL.i y hli
          have h1 : repA X n j = true := by
            unfold repA
            rw [← e]
            simp [hk]; omega
          have h2 : lstA X n j = false := by
            unfold lstA
            rw [← e]
            simp [hk]; omega
          rw [h1, h2] at hj
          refine ⟨i, rfl, ?_⟩
          unfold anc
          exact anc_mono y (by simp) (by simp) hj
      · cases hs
    rename_i hk7
    rw [if_neg hk7]
    have hI' := hI (by omega) (by omega)
    by_cases hk8 : (X i).k = 8
    · rw [if_pos hk8] at ha
      rw [if_pos (.inl hk8)] at hs
      by_cases hc : (rm.1 && fstA X i) = true
      · rw [if_pos hc] at ha
        cases ha
        refine ⟨_, _, _, _, rfl, rfl, ⟨hL.b, hI', fun t ht => ?_⟩, by cases hs; exact hO⟩
        obtain rfl : Tre.leaf (X i).nd = t := by simpa using ht
        refine ⟨i, rfl, ?_⟩
        have hr : repA X n i = false := no_rep hq hE (by cases hs; dsimp only; omega)
        rw [Bool.and_eq_true] at hc
        unfold anc
        split
        · show (rm.1 && (jn 3 L.r L.i).isNone && !repA X n i) = true
          rw [hjn, hr, hc.1, hc.2]; rfl
        · split
          · rename_i h7
            have := hfi.dol h7
            omega
          · rfl
      · rw [if_neg hc] at ha
        cases ha
    · rw [if_neg hk8] at ha
      by_cases hk9 : (X i).k = 9
      · rw [if_pos hk9] at ha
        rw [if_pos (.inr hk9)] at hs
        by_cases hc : (rm.2 && lstA X n i) = true
        · rw [if_pos hc] at ha
          cases ha
          refine ⟨_, _, _, _, rfl, rfl, ⟨hL.b, hI', fun t ht => ?_⟩, by cases hs; exact hO⟩
          obtain rfl : Tre.leaf (X i).nd = t := by simpa using ht
          refine ⟨i, rfl, ?_⟩
          unfold anc
          split
          · rename_i h6
            have := hfi.hat h6
            omega
          · split
            · exact hc
            · rfl
        · rw [if_neg hc] at ha
          cases ha
      · rw [if_neg hk9] at ha
        rw [if_neg (by omega)] at hs
        cases ha
        cases hs
        refine ⟨_, _, _, _, rfl, rfl, ⟨hL.b, hI', fun t ht => ?_⟩, hO⟩
        obtain rfl : Tre.leaf (X i).nd = t := by simpa using ht
        refine ⟨i, rfl, ?_⟩
        unfold anc
        split
        · rename_i h6
          exact absurd (hfi.hat h6) hk8
        · split
          · rename_i h7
            exact absurd (hfi.dol h7) hk9
          · rfl
theorem runA_err {X : Nat → Tp} {n : Nat} {cl : Nat → Int} : ∀ {i : Nat} {e : Int}, runA X n cl i = .error e → ∃ j, j < i ∧ e = (X j).t
  | 0, e, h => by cases h
  | i + 1, e, h => by
    rw [runA] at h
    split at h
    · unfold stepA at h
      split at h
      · cases h
      split at h
      · cases h
      split at h
      · split at h
        · cases h
        · cases h; exact ⟨i, by omega, rfl⟩
      split at h
      · split at h
        · cases h
        · cases h; exact ⟨i, by omega, rfl⟩
      · cases h
    · rename_i e' he
      cases h
      obtain ⟨j, h1, h2⟩ := runA_err he
      exact ⟨j, by omega, h2⟩
/-- What is built may be. -/
def okO (o : Option Tre) : Prop := ∀ t, o = some t → t.ok = true
theorem jn_ok {k : Int} {a b : Option Tre} (hk : k = 3 ∨ k = 4) (ha : okO a) (hb : okO b) : okO (jn k a b) := by
  intro t ht
  cases a with
  | none => exact hb t ht
  | some x =>
    cases b with
    | none => exact ha t ht
    | some y =>
      obtain rfl : Tre.two k x y = t := by simpa [jn] using ht
      simp [Tre.ok, ha x rfl, hb y rfl]
      exact hk
def LtOk (L : Lt) : Prop := okO L.b ∧ okO L.r ∧ okO L.i
theorem okO_none : okO none := fun _ h => by cases h
theorem eS_ok {L : Lt} (h : LtOk L) : okO L.eS.b := by
  refine jn_ok (.inr rfl) h.1 fun t ht => ?_
  obtain rfl := Option.some.inj ht
  cases hj : jn 3 L.r L.i with
  | none => exact emp_ok
  | some u => exact jn_ok (.inl rfl) h.2.1 h.2.2 u hj
theorem bld_ok {X : Nat → Tp} {n : Nat} (hf : ∀ i, i < n → Fine (X i)) : ∀ i, i ≤ n → ∀ L ∈ bldT X i, LtOk L
  | 0, _, L, h => by
    obtain rfl : L = Lt.nul := by simpa [bldT] using h
    exact ⟨okO_none, okO_none, okO_none⟩
  | i + 1, hi, L, h => by
    have ih := bld_ok hf i (by omega)
    have hfi := hf i (by omega)
    rw [bldT] at h
    cases hb : bldT X i with
    | nil => rw [hb] at h; cases h
    | cons K R =>
      rw [hb, tkT_cons] at h
      rw [hb] at ih
      have hK := ih K (by simp)
      have hR : ∀ M ∈ R, LtOk M := fun M hM => ih M (by simp [hM])
      have hj := jn_ok (.inl rfl) hK.2.1 hK.2.2
      split at h
      · rcases List.mem_cons.1 h with rfl | h
        · exact ⟨okO_none, okO_none, okO_none⟩
        rcases List.mem_cons.1 h with rfl | h
        · exact ⟨hK.1, hj, okO_none⟩
        · exact hR L h
      rename_i h4
      split at h
      · rcases List.mem_cons.1 h with rfl | h
        · exact ⟨eS_ok hK, okO_none, okO_none⟩
        · exact hR L h
      rename_i h6
      split at h
      · cases R with
        | nil => cases h
        | cons M R' =>
          rcases List.mem_cons.1 h with rfl | h
          · have hM := hR M (by simp)
            exact ⟨hM.1, hM.2.1, eS_ok hK⟩
          · exact hR L (by simp [h])
      rename_i h5
      split at h
      · rename_i h7
        rcases List.mem_cons.1 h with rfl | h
        · refine ⟨hK.1, hK.2.1, fun t ht => ?_⟩
          dsimp only at ht
          cases hki : K.i with
          | none => rw [hki] at ht; cases ht
          | some y =>
            rw [hki] at ht
            obtain rfl : Tre.rep y (X i).l (X i).m (X i).lz = t := by simpa using ht
            simp [Tre.ok, hfi.rep h7, hK.2.2 y hki]
        · exact hR L h
      rename_i h7
      rcases List.mem_cons.1 h with rfl | h
      · refine ⟨hK.1, hj, fun t ht => ?_⟩
        obtain rfl : Tre.leaf (X i).nd = t := by simpa using ht
        exact hfi.leaf h4 h5 h6 h7
      · exact hR L h
/-- What is read is a tree that may be. -/
theorem toks_tree {X : Nat → Tp} {n : Nat} {l : List Nd} (hf : ∀ i, i < n → Fine (X i)) (ht : ∀ i, i < n → 0 ≤ (X i).t) (h : toksS X n = .ok l) : l = ndF (treT X n).subs ∧ l.length = (treT X n).size ∧ (treT X n).ok = true ∧ (treT X n).size ≤ 2048 ∧ anc (treT X n) (true, true) = true := by
  unfold toksS at h
  cases hp : prsE X n with
  | error e => rw [hp] at h; cases h
  | ok cl =>
    rw [hp] at h
    dsimp only at h
    obtain ⟨L, hb, hahd, hm, hn⟩ := one_level hp
    obtain ⟨ah, hr⟩ := prsE_run hp
    split at h
    · cases h
    · rename_i hmx
      split at h
      · cases h
      · rename_i hw
        cases h
        have hsz : (treT X n).size ≤ 2048 := by omega
        have hl : (bld X n).endSeq.ns = ndF (treT X n).subs := by
          rw [hn, List.take_of_length_le]
          rw [ndF_len, Tre.subs_length]; exact hsz
        have hok := bld_ok hf n (Nat.le_refl n) L (by rw [hb]; simp)
        have htr : treT X n = L.eS.b.getD emp := by unfold treT; rw [hb]; rfl
        obtain ⟨y, hy⟩ : ∃ y, L.eS.b = some y := by
          unfold Lt.eS jn
          cases L.b <;> exact ⟨_, rfl⟩
        refine ⟨hl, by rw [hl, ndF_len, Tre.subs_length], ?_, hsz, ?_⟩
        · rw [htr, hy]; exact eS_ok hok y hy
        · unfold wrgA at hw
          cases hra : runA X n cl n with
          | error e =>
            rw [hra] at hw
            obtain ⟨j, hj, rfl⟩ := runA_err hra
            have := ht j hj
            exact absurd hw (by dsimp only; omega)
          | ok rooms =>
            obtain ⟨rm, rs, L', R, _, hb', hL, hO⟩ := anc_run hr rfl hf (Nat.le_refl n) hr hra
            rw [hb] at hb'
            cases hb'
            cases rs with
            | cons _ _ => exact absurd hO (by simp [Out])
            | nil =>
              have : rm = (true, true) := hO
              subst this
              rw [htr, hy]
              exact eS_anc hL hahd y hy
end Go.Proofs.Ytlmmiicibjfcdaa
namespace Go.Proofs.Ytlmmiicibjfcdaa
/-- Two tokens that differ by their places alone. -/
structure Tp.Like (x y : Tp) : Prop where
  k : y.k = x.k
  l : y.l = x.l
  m : y.m = x.m
  lz : y.lz = x.lz
  nd : y.nd = x.nd
  ok : y.ok = x.ok
theorem tkT_like {x y : Tp} (h : x.Like y) (S : List Lt) : tkT y S = tkT x S := by
  cases S with
  | nil => rfl
  | cons L R => rw [tkT_cons, tkT_cons, h.k, h.l, h.m, h.lz, h.nd]
theorem run_level {X : Nat → Tp} {i : Nat} {p : Ps} (h : runP X i = .ok p) : ∃ L R, bldT X i = L :: R ∧ R.length = p.op.length := by
  obtain ⟨_, _, hl⟩ := bld_rel h
  cases hb : bldT X i with
  | nil => rw [hb] at hl; simp at hl
  | cons L R => rw [hb] at hl; exact ⟨L, R, rfl, by simpa using hl⟩
theorem runA_ln {X : Nat → Tp} {n : Nat} {cl : Nat → Int} : ∀ {i : Nat} {p : Ps} {rs : List (Bool × Bool)}, runP X i = .ok p → runA X n cl i = .ok rs → rs.length = p.op.length + 1
  | 0, p, rs, h, h2 => by cases h; cases h2; rfl
  | i + 1, q, rs, h, h2 => by
    obtain ⟨p, hp, hs⟩ := runP_prev h
    rw [runA] at h2
    split at h2
    · rename_i rs0 hr0
      have ih := runA_ln hp hr0
      unfold stepP at hs
      split at hs
      · cases hs
      unfold stepA at h2
      split at hs
      · rename_i hk
        cases hs
        rw [if_pos hk] at h2
        cases h2
        simp [ih]
      rename_i hk4
      rw [if_neg hk4] at h2
      split at hs
      · rename_i hk
        cases hs
        rw [if_neg (by omega), if_neg (by omega), if_neg (by omega)] at h2
        cases h2
        exact ih
      rename_i hk6
      split at hs
      · rename_i hk
        rw [if_pos hk] at h2
        cases h2
        split at hs
        · cases hs
        · rename_i o r ho
          cases hs
          rw [ho] at ih
          simp at ih ⊢
          omega
      rename_i hk5
      rw [if_neg hk5] at h2
      have hq : q.op = p.op := by
        split at hs
        · split at hs
          · cases hs; rfl
          · cases hs
        split at hs
        · cases hs; rfl
        · cases hs; rfl
      rw [hq]
      split at h2
      · split at h2
        · cases h2; exact ih
        · cases h2
      split at h2
      · split at h2
        · cases h2; exact ih
        · cases h2
      · cases h2; exact ih
    · cases h2
theorem runA_good {X : Nat → Tp} {n : Nat} {cl : Nat → Int} (ht : ∀ i, i < n → 0 ≤ (X i).t) (h : wrgA X n cl = -1) : ∃ rs, runA X n cl n = .ok rs := by
  unfold wrgA at h
  cases hra : runA X n cl n with
  | error e =>
    rw [hra] at h
    obtain ⟨j, hj, rfl⟩ := runA_err hra
    have := ht j hj
    exact absurd h (by dsimp only; omega)
  | ok rs => exact ⟨rs, rfl⟩
theorem toksS_parts {X : Nat → Tp} {n : Nat} {l : List Nd} (h : toksS X n = .ok l) : ∃ cl, prsE X n = .ok cl ∧ (bld X n).endSeq.many ≤ 2048 ∧ wrgA X n cl = -1 ∧ l = (bld X n).endSeq.ns := by
  unfold toksS at h
  cases hp : prsE X n with
  | error e => rw [hp] at h; cases h
  | ok cl =>
    rw [hp] at h
    dsimp only at h
    split at h
    · cases h
    · split at h
      · cases h
      · rename_i h1 h2
        cases h
        exact ⟨cl, rfl, by omega, Decidable.not_not.1 h2, rfl⟩
theorem toksS_of {X : Nat → Tp} {n : Nat} {cl : Nat → Int} (hp : prsE X n = .ok cl) (hm : (bld X n).endSeq.many ≤ 2048) (hw : wrgA X n cl = -1) : toksS X n = .ok (bld X n).endSeq.ns := by
  unfold toksS
  rw [hp]
  dsimp only
  rw [if_neg (by omega), if_neg (by rw [hw]; simp)]
theorem closed {X : Nat → Tp} {n : Nat} {ah : Int} {cl : Nat → Int} (h : runP X n = .ok ⟨[], ah, cl⟩) : ∀ o, o < n → (X o).k = 4 → ∃ c : Nat, cl o = c ∧ c < n := by
  have key : ∀ {i : Nat} {p : Ps}, runP X i = .ok p → ∀ o, o < i → (X o).k = 4 → o ∈ p.op ∨ ∃ c : Nat, p.cl o = c ∧ c < i := by
    intro i
    induction i with
    | zero => intro p _ o ho; omega
    | succ i ih =>
      intro q hq o ho hk
      obtain ⟨p, hp, hs⟩ := runP_prev hq
      have keep : o < i → o ∈ p.op ∨ ∃ c : Nat, p.cl o = c ∧ c < i + 1 := fun h' => by
        rcases ih hp o h' hk with h1 | ⟨c, h1, h2⟩
        · exact .inl h1
        · exact .inr ⟨c, h1, by omega⟩
      unfold stepP at hs
      split at hs
      · cases hs
      split at hs
      · cases hs
        by_cases e : o = i
        · exact .inl (by simp [e])
        · rcases keep (by omega) with h1 | h1
          · exact .inl (by simp [h1])
          · exact .inr h1
      rename_i hk4
      have hoi : o < i := by
        by_cases e : o = i
        · subst e; exact absurd hk hk4
        · omega
      split at hs
      · cases hs; exact keep hoi
      split at hs
      · split at hs
        · cases hs
        · rename_i o' r ho'
          cases hs
          by_cases e : o = o'
          · subst e
            exact .inr ⟨i, by simp, by omega⟩
          · rcases keep hoi with h1 | ⟨c, h1, h2⟩
            · rw [ho'] at h1
              rcases List.mem_cons.1 h1 with h1 | h1
              · exact absurd h1 e
              · exact .inl h1
            · exact .inr ⟨c, by simp [e, h1], h2⟩
      split at hs
      · split at hs
        · cases hs; exact keep hoi
        · cases hs
      split at hs
      · cases hs; exact keep hoi
      · cases hs; exact keep hoi
  intro o ho hk
  rcases key h o ho hk with h1 | h1
  · cases h1
  · exact h1
theorem eS_some (L : Lt) : ∃ y, L.eS.b = some y := by
  unfold Lt.eS jn
  cases L.b <;> exact ⟨_, rfl⟩
end Go.Proofs.Ytlmmiicibjfcdaa
