/- Trees, and the nodes that stand for them: plain facts. -/
namespace Go.Proofs.YthbmfnibgjlkhaaDoor
/-- A node, field by field. -/
structure Nd where
  k : Int
  c0 : Int
  c1 : Int
  c2 : Int
  c3 : Int
  a : Int
  b : Int
  l : Int
  m : Int
  z : Bool
/-- Whether two nodes are the same. -/
def Nd.eq (n m : Nd) : Bool := n.k == m.k && (n.c0 == m.c0 && n.c1 == m.c1 && n.c2 == m.c2 && n.c3 == m.c3) && n.a == m.a && n.b == m.b && n.l == m.l && n.m == m.m && n.z == m.z
theorem Nd.eq_iff {n m : Nd} : n.eq m = true ↔ n = m := by
  cases n; cases m
  simp [Nd.eq]
  constructor
  · rintro ⟨⟨⟨⟨⟨⟨h1, ⟨⟨h2, h3⟩, h4⟩, h5⟩, h6⟩, h7⟩, h8⟩, h9⟩, h10⟩; exact ⟨h1, h2, h3, h4, h5, h6, h7, h8, h9, h10⟩
  · rintro ⟨h1, h2, h3, h4, h5, h6, h7, h8, h9, h10⟩; exact ⟨⟨⟨⟨⟨⟨h1, ⟨⟨h2, h3⟩, h4⟩, h5⟩, h6⟩, h7⟩, h8⟩, h9⟩, h10⟩
/-- A tree. -/
inductive Tre where
  | leaf (n : Nd)
  | two (k : Int) (x y : Tre)
  | rep (x : Tre) (l m : Int) (z : Bool)
namespace Tre
def size : Tre → Nat
  | leaf _ => 1
  | two _ x y => x.size + y.size + 1
  | rep x _ _ _ => x.size + 1
def subs : Tre → List Tre
  | leaf n => [leaf n]
  | two k x y => subs x ++ subs y ++ [two k x y]
  | rep x l m z => subs x ++ [rep x l m z]
/-- The node of a subtree whose root stands at p. -/
def nd : Tre → Int → Nd
  | leaf n, _ => n
  | two k _ y, p => ⟨k, 0, 0, 0, 0, p - 1 - y.size, p - 1, 0, 0, false⟩
  | rep _ l m z, p => ⟨5, 0, 0, 0, 0, p - 1, 0, l, m, z⟩
def mayR (l m : Int) : Bool := decide (0 ≤ l ∧ l ≤ 1000 ∧ (m = -1 ∨ (l ≤ m ∧ m ≤ 1000)))
/-- Which node may be a leaf. -/
def lf (n : Nd) : Bool := (n.k == 2 && n.eq ⟨2, n.c0, n.c1, n.c2, n.c3, 0, 0, 0, 0, false⟩) || ((n.k == 1 || n.k == 6 || n.k == 7) && n.eq ⟨n.k, 0, 0, 0, 0, 0, 0, 0, 0, false⟩)
def ok : Tre → Bool
  | leaf n => lf n
  | two k x y => (k == 3 || k == 4) && x.ok && y.ok
  | rep x l m _ => mayR l m && x.ok
theorem size_pos : ∀ t : Tre, 0 < t.size
  | leaf _ => by simp [size]
  | two _ _ _ => by simp [size]
  | rep _ _ _ _ => by simp [size]
theorem subs_length : ∀ t : Tre, t.subs.length = t.size
  | leaf _ => rfl
  | two _ x y => by simp [subs, size, subs_length x, subs_length y]; omega
  | rep x _ _ _ => by simp [subs, size, subs_length x]
theorem subs_last : ∀ t : Tre, t.subs[t.size - 1]? = some t
  | leaf _ => rfl
  | two k x y => by
    have := subs_length x; have := subs_length y
    simp [subs, size, *]
  | rep x l m z => by
    have := subs_length x
    simp [subs, size, *]
end Tre
/-- The subtrees of the trees of a stack, its top last. -/
def ofF : List Tre → List Tre
  | [] => []
  | t :: r => ofF r ++ t.subs
def sizeF (ts : List Tre) : Nat := (ofF ts).length
theorem sizeF_cons (t : Tre) (r : List Tre) : sizeF (t :: r) = sizeF r + t.size := by simp [sizeF, ofF, Tre.subs_length]
/-- What one node makes of a stack. -/
def stepT (ts : List Tre) (p : Nat) (n : Nd) : Option (List Tre) :=
  if n.k = 3 ∨ n.k = 4 then
    match ts with
    | y :: x :: r => if n.eq ((Tre.two n.k x y).nd p) = true then some (.two n.k x y :: r) else none
    | _ => none
  else if n.k = 5 then
    match ts with
    | x :: r => if (Tre.mayR n.l n.m && n.eq ((Tre.rep x n.l n.m n.z).nd p)) = true then some (.rep x n.l n.m n.z :: r) else none
    | _ => none
  else if Tre.lf n = true then some (.leaf n :: ts) else none
def scanT (F : Nat → Nd) : Nat → Option (List Tre)
  | 0 => some []
  | k + 1 => match scanT F k with
    | some ts => stepT ts k (F k)
    | none => none
def treeOf (F : Nat → Nd) (n : Nat) : Option Tre :=
  if n > 2048 then none else
  match scanT F n with
  | some [t] => some t
  | _ => none
theorem stepT_inv {ts ts' : List Tre} {p : Nat} {n : Nd} (h : stepT ts p n = some ts') (hp : sizeF ts = p) (ho : ∀ t ∈ ts, t.ok = true) :
    sizeF ts' = p + 1 ∧ (∀ t ∈ ts', t.ok = true) ∧ ∃ u r, ts' = u :: r ∧ ofF ts' = ofF ts ++ [u] ∧ n = u.nd p := by
  unfold stepT at h
  split at h
  · rename_i hk
    split at h
    · rename_i y x r
      split at h
      · rename_i hn
        obtain rfl := Option.some.inj h
        refine ⟨?_, ?_, _, r, rfl, ?_, Nd.eq_iff.1 hn⟩
        · rw [sizeF_cons, sizeF_cons] at hp
          rw [sizeF_cons]; simp [Tre.size]; omega
        · intro t ht
          rcases List.mem_cons.1 ht with rfl | ht
          · have hy := ho y (by simp); have hx := ho x (by simp)
            simp only [Tre.ok, hx, hy, Bool.and_true, Bool.or_eq_true, beq_iff_eq]; exact hk
          · exact ho t (by simp [ht])
        · simp [ofF, Tre.subs]
      · cases h
    · cases h
  · split at h
    · rename_i hk
      split at h
      · rename_i x r
        split at h
        · rename_i hn
          rw [Bool.and_eq_true] at hn
          obtain rfl := Option.some.inj h
          refine ⟨?_, ?_, _, r, rfl, ?_, Nd.eq_iff.1 hn.2⟩
          · rw [sizeF_cons] at hp
            rw [sizeF_cons]; simp [Tre.size]; omega
          · intro t ht
            rcases List.mem_cons.1 ht with rfl | ht
            · have hx := ho x (by simp)
              simp only [Tre.ok, hx, hn.1, Bool.and_true]
            · exact ho t (by simp [ht])
          · simp [ofF, Tre.subs]
        · cases h
      · cases h
    · split at h
      · rename_i hl
        obtain rfl := Option.some.inj h
        refine ⟨?_, ?_, _, ts, rfl, ?_, rfl⟩
        · rw [sizeF_cons]; simp [Tre.size]; omega
        · intro t ht
          rcases List.mem_cons.1 ht with rfl | ht
          · simp [Tre.ok, hl]
          · exact ho t ht
        · simp [ofF, Tre.subs]
      · cases h
theorem scanT_inv {F : Nat → Nd} : ∀ {k : Nat} {ts : List Tre}, scanT F k = some ts → sizeF ts = k ∧ (∀ t ∈ ts, t.ok = true) ∧ ∀ p u, (ofF ts)[p]? = some u → F p = u.nd p
  | 0, ts, h => by
    simp [scanT] at h; subst h
    simp [sizeF, ofF]
  | k + 1, ts, h => by
    unfold scanT at h
    split at h
    · rename_i ts0 h0
      obtain ⟨h1, h2, h3⟩ := scanT_inv h0
      obtain ⟨g1, g2, u, r, rfl, g4, g5⟩ := stepT_inv h h1 h2
      refine ⟨g1, g2, fun p v hv => ?_⟩
      rw [g4] at hv
      rw [List.getElem?_append] at hv
      unfold sizeF at h1
      split at hv
      · exact h3 p v hv
      · rename_i hp
        have : p = k := by
          rcases Nat.lt_or_ge (p - (ofF ts0).length) 1 with h | h
          · omega
          · rw [List.getElem?_eq_none (by simpa using h)] at hv; cases hv
        subst this
        simp [h1] at hv
        subst hv
        exact g5
    · cases h
theorem stepT_two (x y : Tre) (r : List Tre) (p : Nat) (k : Int) (hk : k = 3 ∨ k = 4) : stepT (y :: x :: r) p ((Tre.two k x y).nd p) = some (.two k x y :: r) := by
  unfold stepT
  rw [if_pos (by simpa [Tre.nd] using hk)]
  show (if ((Tre.two k x y).nd p).eq ((Tre.two k x y).nd p) = true then some (Tre.two k x y :: r) else none) = _
  rw [if_pos (Nd.eq_iff.2 rfl)]
theorem stepT_rep (x : Tre) (r : List Tre) (p : Nat) (l m : Int) (z : Bool) (h : Tre.mayR l m = true) : stepT (x :: r) p ((Tre.rep x l m z).nd p) = some (.rep x l m z :: r) := by
  unfold stepT
  rw [if_neg (by simp [Tre.nd]), if_pos (by simp [Tre.nd])]
  show (if _ then _ else _) = _
  rw [if_pos (by rw [Bool.and_eq_true]; exact ⟨h, Nd.eq_iff.2 rfl⟩)]
  rfl
theorem lf_kind {n : Nd} (h : Tre.lf n = true) : n.k = 1 ∨ n.k = 2 ∨ n.k = 6 ∨ n.k = 7 := by
  simp [Tre.lf] at h; omega
theorem stepT_leaf (r : List Tre) (p : Nat) (n : Nd) (h : Tre.lf n = true) : stepT r p n = some (.leaf n :: r) := by
  have := lf_kind h
  unfold stepT
  rw [if_neg (by omega), if_neg (by omega), if_pos h]
theorem scanT_done {F : Nat → Nd} : ∀ (t : Tre) (r : List Tre) (q : Nat), t.ok = true → scanT F q = some r → (∀ p u, t.subs[p]? = some u → F (q + p) = u.nd (q + p : Nat)) → scanT F (q + t.size) = some (t :: r)
  | .leaf n, r, q, ho, hq, h => by
    have e := h 0 _ rfl
    simp only [Nat.add_zero] at e
    show scanT F (q + 1) = _
    simp only [scanT, hq, e]
    exact stepT_leaf r q _ ho
  | .two k x y, r, q, ho, hq, h => by
    simp [Tre.ok] at ho
    obtain ⟨⟨hk, hx⟩, hy⟩ := ho
    have lx := Tre.subs_length x
    have ly := Tre.subs_length y
    have h1 := scanT_done x r q hx hq (fun p u hu => h p u (by
      have := (List.getElem?_eq_some_iff.1 hu).1
      rw [Tre.subs, List.append_assoc, List.getElem?_append_left (by omega)]; exact hu))
    have h2 := scanT_done y (x :: r) (q + x.size) hy h1 (fun p u hu => by
      have hp := (List.getElem?_eq_some_iff.1 hu).1
      have := h (x.size + p) u (by
        rw [Tre.subs, List.append_assoc, List.getElem?_append_right (by omega), List.getElem?_append_left (by omega), lx, Nat.add_sub_cancel_left]; exact hu)
      rw [Nat.add_assoc]; exact this)
    have e := h (x.size + y.size) (.two k x y) (by
      have := Tre.subs_last (.two k x y)
      simpa [Tre.size] using this)
    show scanT F (q + (x.size + y.size + 1)) = _
    rw [← Nat.add_assoc]
    rw [Nat.add_assoc] at h2
    simp only [scanT, h2, e]
    exact stepT_two x y r _ k hk
  | .rep x l m z, r, q, ho, hq, h => by
    simp [Tre.ok] at ho
    have lx := Tre.subs_length x
    have h1 := scanT_done x r q ho.2 hq (fun p u hu => h p u (by
      have := (List.getElem?_eq_some_iff.1 hu).1
      rw [Tre.subs, List.getElem?_append_left (by omega)]; exact hu))
    have e := h x.size (.rep x l m z) (by
      have := Tre.subs_last (.rep x l m z)
      simpa [Tre.size] using this)
    show scanT F (q + (x.size + 1)) = _
    rw [← Nat.add_assoc]
    simp only [scanT, h1, e]
    exact stepT_rep x r _ l m z ho.1
/-- The nodes of a tree. -/
def nodes (t : Tre) (p : Nat) : Nd := ((t.subs[p]?).getD t).nd p
theorem nodes_get {t : Tre} {p : Nat} {u : Tre} (h : t.subs[p]? = some u) : nodes t p = u.nd p := by simp [nodes, h]
theorem treeOf_nodes (t : Tre) {n : Nat} (F : Nat → Nd) (hn : n = t.size) (ho : t.ok = true) (hs : t.size ≤ 2048) (hF : ∀ p, p < n → F p = nodes t p) : treeOf F n = some t := by
  have h := scanT_done (F := F) t [] 0 ho rfl (fun p u hu => by
    have hp := (List.getElem?_eq_some_iff.1 hu).1
    rw [Tre.subs_length] at hp
    rw [Nat.zero_add, hF p (by omega), nodes_get hu])
  unfold treeOf
  rw [if_neg (by omega), hn, ← Nat.zero_add t.size, h]
theorem treeOf_some {F : Nat → Nd} {n : Nat} {t : Tre} (h : treeOf F n = some t) : n = t.size ∧ t.ok = true ∧ n ≤ 2048 ∧ ∀ p, p < n → F p = nodes t p := by
  unfold treeOf at h
  split at h
  · cases h
  · split at h
    · rename_i u hu
      obtain rfl := Option.some.inj h
      obtain ⟨h1, h2, h3⟩ := scanT_inv hu
      have e : ofF [u] = u.subs := by simp [ofF]
      have hl : n = u.size := by rw [← h1, sizeF, e, Tre.subs_length]
      refine ⟨hl, h2 u (by simp), by omega, fun p hp => ?_⟩
      have : p < u.subs.length := by rw [Tre.subs_length]; omega
      rw [h3 p u.subs[p] (by rw [e]; exact List.getElem?_eq_getElem this), nodes_get (List.getElem?_eq_getElem this)]
    · cases h
theorem subs_sub : ∀ (t : Tre) (p : Nat) (u : Tre), t.subs[p]? = some u → u.size ≤ p + 1 ∧ p < t.size ∧ ∀ i, i < u.size → t.subs[p + 1 - u.size + i]? = u.subs[i]?
  | .leaf n, p, u, h => by
    have hp := (List.getElem?_eq_some_iff.1 h).1
    simp [Tre.subs] at hp
    subst hp
    simp [Tre.subs] at h
    subst h
    simp [Tre.size]
  | .two k x y, p, u, h => by
    have lx := Tre.subs_length x
    have ly := Tre.subs_length y
    have hp := (List.getElem?_eq_some_iff.1 h).1
    rw [Tre.subs_length] at hp
    have hp' : p < x.size + y.size + 1 := hp
    rcases Nat.lt_or_ge p x.size with h1 | h1
    · have hx : x.subs[p]? = some u := by rw [Tre.subs, List.append_assoc, List.getElem?_append_left (by omega)] at h; exact h
      obtain ⟨a, b, c⟩ := subs_sub x p u hx
      refine ⟨a, hp, fun i hi => ?_⟩
      rw [Tre.subs, List.append_assoc, List.getElem?_append_left (by omega)]
      exact c i hi
    · rcases Nat.lt_or_ge p (x.size + y.size) with h2 | h2
      · have hy : y.subs[p - x.size]? = some u := by rw [Tre.subs, List.append_assoc, List.getElem?_append_right (by omega), List.getElem?_append_left (by omega), lx] at h; exact h
        obtain ⟨a, b, c⟩ := subs_sub y _ u hy
        refine ⟨by omega, hp, fun i hi => ?_⟩
        rw [Tre.subs, List.append_assoc, List.getElem?_append_right (by omega), List.getElem?_append_left (by omega), lx, ← c i hi]
        congr 1; omega
      · have : p = x.size + y.size := by omega
        subst this
        have := Tre.subs_last (.two k x y)
        simp only [Tre.size, Nat.add_sub_cancel] at this
        rw [this] at h
        obtain rfl := Option.some.inj h
        refine ⟨Nat.le_refl _, hp, fun i hi => ?_⟩
        congr 1; simp [Tre.size]
  | .rep x l m z, p, u, h => by
    have lx := Tre.subs_length x
    have hp := (List.getElem?_eq_some_iff.1 h).1
    rw [Tre.subs_length] at hp
    have hp' : p < x.size + 1 := hp
    rcases Nat.lt_or_ge p x.size with h1 | h1
    · have hx : x.subs[p]? = some u := by rw [Tre.subs, List.getElem?_append_left (by omega)] at h; exact h
      obtain ⟨a, b, c⟩ := subs_sub x p u hx
      refine ⟨a, hp, fun i hi => ?_⟩
      rw [Tre.subs, List.getElem?_append_left (by omega)]
      exact c i hi
    · have : p = x.size := by omega
      subst this
      have := Tre.subs_last (.rep x l m z)
      simp only [Tre.size, Nat.add_sub_cancel] at this
      rw [this] at h
      obtain rfl := Option.some.inj h
      refine ⟨Nat.le_refl _, hp, fun i hi => ?_⟩
      congr 1; simp [Tre.size]
theorem subs_ok : ∀ (t : Tre) (p : Nat) (u : Tre), t.ok = true → t.subs[p]? = some u → u.ok = true := by
  intro t p u ho h
  have := List.mem_of_getElem? h
  clear h
  induction t with
  | leaf n => simp [Tre.subs] at this; rw [this]; exact ho
  | two k x y ihx ihy =>
    simp [Tre.subs] at this
    have ho' := ho
    simp [Tre.ok] at ho
    rcases this with h | h | h
    · exact ihx ho.1.2 h
    · exact ihy ho.2 h
    · rw [h]; exact ho'
  | rep x l m z ih =>
    simp [Tre.subs] at this
    have ho' := ho
    simp [Tre.ok] at ho
    rcases this with h | h
    · exact ih ho.2 h
    · rw [h]; exact ho'
/-- The parts of a node that joins two. -/
theorem subs_two {t : Tre} {p : Nat} {k : Int} {x y : Tre} (h : t.subs[p]? = some (.two k x y)) : x.size + y.size ≤ p ∧ t.subs[p - 1]? = some y ∧ t.subs[p - 1 - y.size]? = some x := by
  obtain ⟨a, b, c⟩ := subs_sub t p _ h
  have sx := x.size_pos
  have sy := y.size_pos
  have lx := Tre.subs_length x
  have ly := Tre.subs_length y
  simp only [Tre.size] at a c
  refine ⟨by omega, ?_, ?_⟩
  · have := c (x.size + y.size - 1) (by omega)
    rw [Tre.subs, List.append_assoc, List.getElem?_append_right (by omega), List.getElem?_append_left (by omega), lx, show x.size + y.size - 1 - x.size = y.size - 1 by omega, Tre.subs_last] at this
    rw [← this]; congr 1; omega
  · have := c (x.size - 1) (by omega)
    rw [Tre.subs, List.append_assoc, List.getElem?_append_left (by omega), Tre.subs_last] at this
    rw [← this]; congr 1; omega
theorem subs_rep {t : Tre} {p : Nat} {l m : Int} {z : Bool} {x : Tre} (h : t.subs[p]? = some (.rep x l m z)) : x.size ≤ p ∧ t.subs[p - 1]? = some x := by
  obtain ⟨a, b, c⟩ := subs_sub t p _ h
  have sx := x.size_pos
  have lx := Tre.subs_length x
  simp only [Tre.size] at a c
  refine ⟨by omega, ?_⟩
  have := c (x.size - 1) (by omega)
  rw [Tre.subs, List.getElem?_append_left (by omega), Tre.subs_last] at this
  rw [← this]; congr 1; omega
/-- A node so many places further. -/
def sh (d : Int) (n : Nd) : Nd := if n.k = 3 ∨ n.k = 4 then { n with a := n.a + d, b := n.b + d } else if n.k = 5 then { n with a := n.a + d } else n
theorem sh34 {n : Nd} (d : Int) (h : n.k = 3 ∨ n.k = 4) : sh d n = { n with a := n.a + d, b := n.b + d } := by unfold sh; rw [if_pos h]
theorem sh5 {n : Nd} (d : Int) (h : n.k = 5) : sh d n = { n with a := n.a + d } := by unfold sh; rw [if_neg (by omega), if_pos h]
theorem sh0 {n : Nd} (d : Int) (h : n.k ≠ 3 ∧ n.k ≠ 4 ∧ n.k ≠ 5) : sh d n = n := by unfold sh; rw [if_neg (by omega), if_neg (by omega)]
theorem sh_nd {u : Tre} (ho : u.ok = true) (p d : Int) : sh d (u.nd p) = u.nd (p + d) := by
  cases u with
  | leaf n =>
    have := lf_kind ho
    exact sh0 (n := n) d (by omega)
  | two k x y =>
    simp [Tre.ok] at ho
    rw [sh34 d (by simpa [Tre.nd] using ho.1.1)]
    simp only [Tre.nd, Nd.mk.injEq, true_and, and_true]; omega
  | rep x l m z =>
    rw [sh5 d (by simp [Tre.nd])]
    simp only [Tre.nd, Nd.mk.injEq, true_and, and_true]; omega
theorem sh_zero (n : Nd) : sh 0 n = n := by
  unfold sh
  split
  · simp
  · split <;> simp
/-- The nodes of a subtree. -/
theorem nodes_sub {t : Tre} {p : Nat} {u : Tre} (ho : t.ok = true) (h : t.subs[p]? = some u) (i : Nat) (hi : i < u.size) : nodes u i = sh (-((p + 1 - u.size : Nat) : Int)) (nodes t (p + 1 - u.size + i)) := by
  obtain ⟨a, b, c⟩ := subs_sub t p u h
  have hl : i < u.subs.length := by rw [Tre.subs_length]; exact hi
  have e := List.getElem?_eq_getElem hl
  have e2 := (c i hi).trans e
  rw [nodes_get e, nodes_get e2, sh_nd (subs_ok t _ _ ho e2)]
  congr 1; omega
theorem nodes_two (k : Int) (x y : Tre) (p : Nat) (hy : y.ok = true) (hp : p ≤ x.size + y.size) : nodes (.two k x y) p = if p < x.size then nodes x p else if p < x.size + y.size then sh x.size (nodes y (p - x.size)) else ⟨k, 0, 0, 0, 0, x.size - 1, x.size + y.size - 1, 0, 0, false⟩ := by
  have lx := Tre.subs_length x
  have ly := Tre.subs_length y
  split
  · rename_i h1
    have e : x.subs[p]? = some x.subs[p] := List.getElem?_eq_getElem (by omega)
    rw [nodes_get e, nodes_get (u := x.subs[p])]
    rw [Tre.subs, List.append_assoc, List.getElem?_append_left (by omega)]; exact e
  · rename_i h1
    split
    · rename_i h2
      have e : y.subs[p - x.size]? = some y.subs[p - x.size] := List.getElem?_eq_getElem (by omega)
      rw [nodes_get e, nodes_get (u := y.subs[p - x.size]), sh_nd (subs_ok y _ _ hy e)]
      · congr 1; omega
      · rw [Tre.subs, List.append_assoc, List.getElem?_append_right (by omega), List.getElem?_append_left (by omega), lx]; exact e
    · have : p = x.size + y.size := by omega
      subst this
      rw [nodes_get (u := .two k x y)]
      · simp only [Tre.nd, Nd.mk.injEq, true_and, and_true]; omega
      · have := Tre.subs_last (.two k x y); simpa [Tre.size] using this
theorem nodes_rep (x : Tre) (l m : Int) (z : Bool) (p : Nat) (hp : p ≤ x.size) : nodes (.rep x l m z) p = if p < x.size then nodes x p else ⟨5, 0, 0, 0, 0, x.size - 1, 0, l, m, z⟩ := by
  have lx := Tre.subs_length x
  split
  · rename_i h1
    have e : x.subs[p]? = some x.subs[p] := List.getElem?_eq_getElem (by omega)
    rw [nodes_get e, nodes_get (u := x.subs[p])]
    rw [Tre.subs, List.getElem?_append_left (by omega)]; exact e
  · have : p = x.size := by omega
    subst this
    rw [nodes_get (u := .rep x l m z)]
    · simp [Tre.nd]
    · have := Tre.subs_last (.rep x l m z); simpa [Tre.size] using this
/-- The tree of the empty text. -/
def emp : Tre := .leaf ⟨1, 0, 0, 0, 0, 0, 0, 0, 0, false⟩
theorem emp_ok : emp.ok = true := by decide
theorem emp_size : emp.size = 1 := rfl
/-- A tree as all calls take it. -/
def snd (F : Nat → Nd) (n : Nat) : Tre := (treeOf F n).getD emp
theorem snd_ok (F : Nat → Nd) (n : Nat) : (snd F n).ok = true ∧ (snd F n).size ≤ 2048 := by
  unfold snd
  cases h : treeOf F n with
  | none => exact ⟨emp_ok, by decide⟩
  | some t => obtain ⟨a, b, c, _⟩ := treeOf_some h; exact ⟨b, by simp; omega⟩
end Go.Proofs.YthbmfnibgjlkhaaDoor
