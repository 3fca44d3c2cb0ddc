/- parse: the machine that reads tokens, as functions. -/
import Derived.Test.YtlmmiicibjfcdaaTm
namespace Go.Proofs.Ytlmmiicibjfcdaa
/-- What is looked at in a token: its kind, its place, a repeat's bounds, its leaf's node, whether it may be. -/
structure Tp where
  k : Int
  t : Int
  l : Int
  m : Int
  lz : Bool
  nd : Nd
  ok : Bool
/-- The builder: its nodes, how many there would be, its levels, the inmost one first. -/
structure Bs where
  ns : List Nd
  many : Nat
  lv : List (Int × Int × Int)
def nd2 (k a b : Int) : Nd := ⟨k, 0, 0, 0, 0, a, b, 0, 0, false⟩
def ndR (a l m : Int) (lz : Bool) : Nd := ⟨5, 0, 0, 0, 0, a, 0, l, m, lz⟩
def ndE : Nd := ⟨1, 0, 0, 0, 0, 0, 0, 0, 0, false⟩
def Bs.put (s : Bs) (n : Nd) : Bs := ⟨if s.many < 2048 then s.ns ++ [n] else s.ns, s.many + 1, s.lv⟩
def Bs.join (s : Bs) (k ah la : Int) : Bs := if ah = -1 then s else s.put (nd2 k ah la)
def Bs.joinV (s : Bs) (ah la : Int) : Int := if ah = -1 then la else (s.many : Int)
def Bs.top (s : Bs) : Int × Int × Int := s.lv.headD (-1, -1, -1)
def Bs.setTop (s : Bs) (x : Int × Int × Int) : Bs := ⟨s.ns, s.many, x :: s.lv.tail⟩
def Bs.open_ (s : Bs) : Bs := ⟨s.ns, s.many, (-1, -1, -1) :: s.lv⟩
def Bs.endItem (s : Bs) : Bs := (s.join 3 s.top.2.1 s.top.2.2).setTop (s.top.1, s.joinV s.top.2.1 s.top.2.2, -1)
/-- A sequence of no items is the empty one. -/
def Bs.noRow (s : Bs) : Bs := if s.top.2.1 = -1 then (s.put ndE).setTop (s.top.1, (s.many : Int), s.top.2.2) else s
def Bs.endAlt (s : Bs) : Bs := (s.join 4 s.top.1 s.top.2.1).setTop (s.joinV s.top.1 s.top.2.1, -1, s.top.2.2)
def Bs.endSeq (s : Bs) : Bs := s.endItem.noRow.endAlt
def Bs.pop (s : Bs) : Bs := ⟨s.ns, s.many, s.lv.tail⟩
def Bs.setItem (s : Bs) (v : Int) : Bs := s.setTop (s.top.1, s.top.2.1, v)
def Bs.take (s : Bs) (x : Tp) : Bs :=
  if x.k = 4 then s.endItem.open_
  else if x.k = 6 then s.endSeq
  else if x.k = 5 then s.endSeq.pop.setItem s.endSeq.top.1
  else if x.k = 7 then (s.put (ndR s.top.2.2 x.l x.m x.lz)).setItem (s.many : Int)
  else (s.endItem.put x.nd).setItem (s.endItem.many : Int)
def Bs.zero : Bs := ⟨[], 0, []⟩
def bld (X : Nat → Tp) : Nat → Bs
  | 0 => Bs.zero.open_
  | n + 1 => (bld X n).take (X n)
/-- Which groups are open, the inmost first; what stands ahead; which token closes which. -/
structure Ps where
  op : List Nat
  ah : Int
  cl : Nat → Int
def stepP (X : Nat → Tp) (s : Ps) (i : Nat) : Except (Int × Int) Ps :=
  if (X i).ok = false then .error (0, 45)
  else if (X i).k = 4 then .ok ⟨i :: s.op, 0, s.cl⟩
  else if (X i).k = 6 then .ok ⟨s.op, 0, s.cl⟩
  else if (X i).k = 5 then
    match s.op with
    | [] => .error ((X i).t, 62)
    | o :: r => .ok ⟨r, 2, fun j => if j = o then (i : Int) else s.cl j⟩
  else if (X i).k = 7 then (if s.ah = 2 then .ok ⟨s.op, 3, s.cl⟩ else .error ((X i).t, 60))
  else if (X i).k = 8 ∨ (X i).k = 9 then .ok ⟨s.op, 1, s.cl⟩
  else .ok ⟨s.op, 2, s.cl⟩
def runP (X : Nat → Tp) : Nat → Except (Int × Int) Ps
  | 0 => .ok ⟨[], 0, fun _ => 0⟩
  | i + 1 => match runP X i with
    | .ok s => stepP X s i
    | .error e => .error e
def prsE (X : Nat → Tp) (n : Nat) : Except (Int × Int) (Nat → Int) :=
  match runP X n with
  | .error e => .error e
  | .ok s => match s.op with
    | [] => .ok s.cl
    | o :: _ => .error ((X o).t, 61)
def fstA (X : Nat → Tp) (i : Nat) : Bool := decide (i = 0) || ((X (i - 1)).k == 4) || ((X (i - 1)).k == 6)
def lstA (X : Nat → Tp) (n : Nat) (i : Nat) : Bool := decide (i + 1 = n) || ((X (i + 1)).k == 5) || ((X (i + 1)).k == 6)
def repA (X : Nat → Tp) (n : Nat) (i : Nat) : Bool := decide (i + 1 < n) && ((X (i + 1)).k == 7)
/-- The rooms of the groups that are open, the inmost first; or the anchor that cannot stand. -/
def stepA (X : Nat → Tp) (n : Nat) (cl : Nat → Int) (rs : List (Bool × Bool)) (i : Nat) : Except Int (List (Bool × Bool)) :=
  if (X i).k = 4 then .ok (((rs.headD (false, false)).1 && fstA X i && !repA X n (cl i).toNat, (rs.headD (false, false)).2 && lstA X n (cl i).toNat) :: rs)
  else if (X i).k = 5 then .ok rs.tail
  else if (X i).k = 8 then (if ((rs.headD (false, false)).1 && fstA X i) = true then .ok rs else .error (X i).t)
  else if (X i).k = 9 then (if ((rs.headD (false, false)).2 && lstA X n i) = true then .ok rs else .error (X i).t)
  else .ok rs
def runA (X : Nat → Tp) (n : Nat) (cl : Nat → Int) : Nat → Except Int (List (Bool × Bool))
  | 0 => .ok [(true, true)]
  | i + 1 => match runA X n cl i with
    | .ok rs => stepA X n cl rs i
    | .error e => .error e
/-- The anchor that cannot stand, or none. -/
def wrgA (X : Nat → Tp) (n : Nat) (cl : Nat → Int) : Int := match runA X n cl n with
  | .ok _ => -1
  | .error e => e
/-- What Tokens says: nodes, or a place and an error. -/
def toksS (X : Nat → Tp) (n : Nat) : Except (Int × Int) (List Nd) :=
  match prsE X n with
  | .error e => .error e
  | .ok cl =>
    if (bld X n).endSeq.many > 2048 then .error (0, 63)
    else if wrgA X n cl ≠ -1 then .error (wrgA X n cl, 51)
    else .ok (bld X n).endSeq.ns
/-- How deep it is behind so many tokens is how many levels there are, less one. -/
theorem setTop_lv (s : Bs) (x : Int × Int × Int) (h : s.lv ≠ []) : (s.setTop x).lv.length = s.lv.length := by
  unfold Bs.setTop
  cases hl : s.lv with
  | nil => exact absurd hl h
  | cons a r => simp
theorem put_lv (s : Bs) (n : Nd) : (s.put n).lv = s.lv := rfl
theorem join_lv (s : Bs) (k a b : Int) : (s.join k a b).lv = s.lv := by unfold Bs.join; split <;> rfl
theorem setTop_ne (s : Bs) (x : Int × Int × Int) : (s.setTop x).lv ≠ [] := by unfold Bs.setTop; simp
theorem endItem_lv (s : Bs) (h : s.lv ≠ []) : s.endItem.lv.length = s.lv.length := by
  unfold Bs.endItem
  rw [setTop_lv _ _ (by rw [join_lv]; exact h), join_lv]
theorem noRow_lv (s : Bs) (h : s.lv ≠ []) : s.noRow.lv.length = s.lv.length := by
  unfold Bs.noRow
  split
  · rw [setTop_lv _ _ (by rw [put_lv]; exact h), put_lv]
  · rfl
theorem endAlt_lv (s : Bs) (h : s.lv ≠ []) : s.endAlt.lv.length = s.lv.length := by
  unfold Bs.endAlt
  rw [setTop_lv _ _ (by rw [join_lv]; exact h), join_lv]
theorem ne_len {α : Type} {l : List α} : l ≠ [] ↔ 0 < l.length := by
  cases l <;> simp
theorem endSeq_lv (s : Bs) (h : s.lv ≠ []) : s.endSeq.lv.length = s.lv.length := by
  unfold Bs.endSeq
  have h1 := endItem_lv s h
  have h2 : s.endItem.lv ≠ [] := by rw [ne_len, h1]; exact ne_len.1 h
  have h3 := noRow_lv _ h2
  have h4 : s.endItem.noRow.lv ≠ [] := by rw [ne_len, h3]; exact ne_len.1 h2
  rw [endAlt_lv _ h4, h3, h1]
theorem take_lv {X : Nat → Tp} {p q : Ps} {i : Nat} {s : Bs} (hs : stepP X p i = .ok q) (h : s.lv.length = p.op.length + 1) : (s.take (X i)).lv.length = q.op.length + 1 := by
  have hne : s.lv ≠ [] := by rw [ne_len]; omega
  have h1 := endItem_lv s hne
  have h2 := endSeq_lv s hne
  unfold stepP at hs
  split at hs
  · cases hs
  unfold Bs.take
  split at hs
  · rename_i hk
    cases hs
    rw [if_pos hk]
    show s.endItem.lv.length + 1 = _
    simp; omega
  rename_i hk4
  rw [if_neg hk4]
  split at hs
  · rename_i hk
    cases hs
    rw [if_pos hk]
    simp; omega
  rename_i hk6
  rw [if_neg hk6]
  split at hs
  · rename_i hk
    rw [if_pos hk]
    split at hs
    · cases hs
    · rename_i o r ho
      cases hs
      rw [ho] at h
      simp at h
      have h3 : s.endSeq.pop.lv.length = r.length + 1 := by
        show s.endSeq.lv.tail.length = _
        rw [List.length_tail]; omega
      show (s.endSeq.pop.setItem s.endSeq.top.1).lv.length = _
      unfold Bs.setItem
      rw [setTop_lv _ _ (by rw [ne_len]; omega), h3]
  rename_i hk5
  rw [if_neg hk5]
  split at hs
  · rename_i hk
    rw [if_pos hk]
    split at hs
    · cases hs
      unfold Bs.setItem
      rw [setTop_lv _ _ (by rw [put_lv]; exact hne), put_lv]
      exact h
    · cases hs
  rename_i hk7
  rw [if_neg hk7]
  have hd : ((s.endItem.put (X i).nd).setItem (s.endItem.many : Int)).lv.length = p.op.length + 1 := by
    unfold Bs.setItem
    rw [setTop_lv _ _ (by rw [put_lv, ne_len]; omega), put_lv]
    omega
  rw [hd]
  split at hs
  · cases hs; rfl
  · cases hs; rfl
theorem runP_prev {X : Nat → Tp} {i : Nat} {q : Ps} (h : runP X (i + 1) = .ok q) : ∃ p, runP X i = .ok p ∧ stepP X p i = .ok q := by
  rw [runP] at h
  split at h
  · rename_i p hp; exact ⟨p, hp, h⟩
  · cases h
theorem runP_le {X : Nat → Tp} : ∀ {n : Nat} {q : Ps}, runP X n = .ok q → ∀ i, i ≤ n → ∃ p, runP X i = .ok p
  | 0, q, h, i, hi => ⟨q, by obtain rfl : i = 0 := by omega
                             exact h⟩
  | n + 1, q, h, i, hi => by
    by_cases e : i = n + 1
    · subst e; exact ⟨q, h⟩
    · obtain ⟨p, hp, _⟩ := runP_prev h
      exact runP_le hp i (by omega)
theorem bld_lv {X : Nat → Tp} : ∀ {i : Nat} {p : Ps}, runP X i = .ok p → (bld X i).lv.length = p.op.length + 1
  | 0, p, h => by
    cases h
    rfl
  | i + 1, q, h => by
    obtain ⟨p, hp, hs⟩ := runP_prev h
    exact take_lv hs (bld_lv hp)
theorem runP_op {X : Nat → Tp} : ∀ {i : Nat} {p : Ps}, runP X i = .ok p → p.op.length ≤ i ∧ ∀ o ∈ p.op, o < i
  | 0, p, h => by cases h; simp
  | i + 1, q, h => by
    obtain ⟨p, hp, hs⟩ := runP_prev h
    obtain ⟨h1, h2⟩ := runP_op hp
    have keep : p.op.length ≤ i + 1 ∧ ∀ o ∈ p.op, o < i + 1 := ⟨by omega, fun o ho => Nat.lt_succ_of_lt (h2 o ho)⟩
    unfold stepP at hs
    split at hs
    · cases hs
    split at hs
    · cases hs
      refine ⟨by simp; omega, fun o ho => ?_⟩
      rcases List.mem_cons.1 ho with rfl | ho
      · omega
      · exact keep.2 o ho
    split at hs
    · cases hs; exact keep
    split at hs
    · split at hs
      · cases hs
      · rename_i o r ho
        cases hs
        rw [ho] at keep
        exact ⟨by have := keep.1; simp at this; show r.length ≤ i + 1; omega, fun o' h' => keep.2 o' (by simp only [List.mem_cons]; exact .inr h')⟩
    split at hs
    · split at hs
      · cases hs; exact keep
      · cases hs
    split at hs
    · cases hs; exact keep
    · cases hs; exact keep
end Go.Proofs.Ytlmmiicibjfcdaa
