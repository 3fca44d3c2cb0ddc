/- The law's places: the walk. LiteralPlaces: the walk. -/
import Derived.Test.YthbmfnibgjlkhaaDoorPy
import Derived.Test.YthbmfnibgjlkhaaDoorRo
import Derived.Deep.DeepCutAuto
import Derived.Sort.QuietIn
import Derived.Test.YthbmfnibgjlkhaaDoorPt
import Derived.Test.YthbmfnibgjlkhaaDoorGPjPkPh
import Derived.Test.YthbmfnibgjlkhaaDoorGPaPb
import Derived.Deep.QuietTactic
namespace Go.Proofs.YthbmfnibgjlkhaaDoor
open Go.RowKit Go.Shelf K
attribute [local go_sem] Oper.semAt_some
theorem rowN_take {L : List Nat} {i p : Nat} (h : L[i]? = some p) : rowN (L.take (i + 1)) = rowN (L.take i) ++ [.int .i64 (p : Nat)] ∧ (L.take (i + 1)).length = (L.take i).length + 1 := by
  have e : L.take (i + 1) = L.take i ++ [p] := by rw [List.take_add_one, h]; rfl
  rw [e]
  exact ⟨by simp [rowN], by simp⟩
/-- What stands in the law's range. -/
structure AI (L : List Nat) (V : World) (X i : Nat) (O : Nat → Prop) (A : World) (v : Value) : Prop where
  kx : Cl A X 42 [v]
  row : A.ownsRow (V.heap.size + 2) 3 1 v (L.take i).length (rowN (L.take i))
  own : ∀ k, v.ownBlock = some k → ¬ O k ∧ k < A.heap.size
  fr : ∀ k, k < V.heap.size → k ≠ X → A.heap[k]? = V.heap[k]?
  os : A.os = V.os ∧ A.tape = V.tape ∧ A.output = V.output
  oge : ∀ k, O k → V.heap.size ≤ k
  sz : V.heap.size ≤ A.heap.size
  hX : X < V.heap.size
theorem AI.bears {L : List Nat} {V : World} {X i : Nat} {O O' : Nat → Prop} {A B : World} {v : Value} (h : AI L V X i O A v) (ht : TurnO O A B) (ho : ∀ k, k < A.heap.size → O' k → O k) : AI L V X i O' B v := by
  have hn : ∀ k, k < V.heap.size → ¬ O k := fun k hk h' => by have := h.oge k h'; omega
  refine ⟨?_, row_at h.row fun g hg => ht.block g (h.own g hg).2 (h.own g hg).1, fun k hk => ⟨fun h' => (h.own k hk).1 (ho k (h.own k hk).2 h'), Nat.lt_of_lt_of_le (h.own k hk).2 ht.size⟩, fun k hk hx => (ht.block k (Nat.lt_of_lt_of_le hk h.sz) (hn k hk)).trans (h.fr k hk hx), ⟨ht.os.trans h.os.1, ht.tape.trans h.os.2.1, ht.output.trans h.os.2.2⟩, fun k hk => ?_, Nat.le_trans h.sz ht.size, h.hX⟩
  · unfold Cl; rw [ht.block _ h.kx.lt (hn _ h.hX)]; exact h.kx
  · rcases Nat.lt_or_ge k A.heap.size with h' | h'
    · exact h.oge k (ho k h' hk)
    · have := h.sz; omega
theorem AI.turn {L : List Nat} {V : World} {X i : Nat} {O : Nat → Prop} {A B : World} {v : Value} (h : AI L V X i O A v) (ht : Turn V.heap.size A B) : AI L V X i O B v :=
  ⟨by unfold Cl; rw [ht.block _ h.kx.lt (.inl h.hX)]; exact h.kx, row_at h.row fun g hg => ht.block g (h.own g hg).2 (.inr (ownsRow_own h.row g hg)), fun k hk => ⟨(h.own k hk).1, Nat.lt_of_lt_of_le (h.own k hk).2 ht.size⟩, fun k hk hx => (ht.block k (Nat.lt_of_lt_of_le hk h.sz) (.inl hk)).trans (h.fr k hk hx), ⟨ht.os.trans h.os.1, ht.tape.trans h.os.2.1, ht.output.trans h.os.2.2⟩, h.oge, Nat.le_trans h.sz ht.size, h.hX⟩
theorem AI.bel {L : List Nat} {V w : World} {X i : Nat} {O : Nat → Prop} {A : World} {v : Value} (h : AI L V X i O A v) (hw : Below w.heap.size w V) (hX : w.heap.size ≤ X) : Below w.heap.size w A :=
  ⟨h.os.1.trans hw.os, h.os.2.1.trans hw.tape, h.os.2.2.trans hw.output, Nat.le_trans hw.size h.sz, fun k hk => (h.fr k (Nat.lt_of_lt_of_le hk hw.size) (by omega)).trans (hw.block k hk)⟩
theorem AI.push {L : List Nat} {V : World} {X i p : Nat} {O : Nat → Prop} {A A2 w2 : World} {v v' : Value} (h : AI L V X i O A v) (hp : L[i]? = some p) (hO : ∀ k, O k → k < A.heap.size ∧ V.heap.size + 2 ≤ k) (hA : Below A.heap.size A A2)
    (g1 : w2.ownsRow (V.heap.size + 2) 3 1 v' ((L.take i).length + 1) (rowN (L.take i) ++ [.int .i64 (p : Nat)])) (g2 : A2.grownBy w2 v.ownBlock) (g3 : v'.ownBlock = v.ownBlock ∨ v'.ownBlock = some A2.heap.size) (Old : Nat → Prop) (hOld : ∀ k, Old k → k < V.heap.size ∧ k ≠ X) :
    Cl w2 X 42 [v] ∧ KeepO (fun k => Old k ∨ O k ∨ k = V.heap.size ∨ k = V.heap.size + 1) A (w2.setCell ⟨X, 0, none⟩ v') ∧ AI L V X (i + 1) O (w2.setCell ⟨X, 0, none⟩ v') v' := by
  have hown := ownsRow_own h.row
  have hsz := h.sz
  have hX := h.hX
  have hs2 : A.heap.size ≤ w2.heap.size := Nat.le_trans hA.size g2.size
  have keep2 : ∀ j, j < A.heap.size → v.ownBlock ≠ some j → w2.heap[j]? = A.heap[j]? := fun j hj hne => (g2.block j (Nat.lt_of_lt_of_le hj hA.size) (fun e => hne e.symm)).trans (hA.block j hj)
  have hlow : ∀ j, j ≤ V.heap.size + 1 → v.ownBlock ≠ some j := fun j hj e => by have := hown _ e; omega
  have kX : Cl w2 X 42 [v] := by unfold Cl; rw [keep2 _ h.kx.lt (hlow _ (by omega))]; exact h.kx
  have keep3 : ∀ j, j < A.heap.size → v.ownBlock ≠ some j → j ≠ X → (w2.setCell ⟨X, 0, none⟩ v').heap[j]? = A.heap[j]? := fun j hj hne n1 => (set_heap _ _ _ _ n1).trans (keep2 j hj hne)
  have hsF : (w2.setCell ⟨X, 0, none⟩ v').heap.size = w2.heap.size := by simp
  have hv2 := ownsRow_own g1
  obtain ⟨e1, e2⟩ := rowN_take hp
  refine ⟨kX, ⟨by rw [hsF]; exact hs2, fun j hj hk => ?_⟩, ?_⟩
  · rcases hk with hk | hk | hk | hk
    · have := hOld j hk; exact keep3 j hj (hlow j (by omega)) this.2
    · exact keep3 j hj (fun e => (h.own j e).1 hk) (by have := (hO j hk).2; omega)
    · exact keep3 j hj (hlow j (by omega)) (by omega)
    · exact keep3 j hj (hlow j (by omega)) (by omega)
  · refine ⟨?_, ?_, fun k hk => ⟨fun hk' => ?_, by rw [hsF]; exact ownsRow_lt g1 k hk⟩, fun k hk hx => (keep3 k (by omega) (hlow k (by omega)) hx).trans (h.fr k hk hx), ⟨(g2.os.trans hA.os).trans h.os.1, (g2.tape.trans hA.tape).trans h.os.2.1, (g2.output.trans hA.output).trans h.os.2.2⟩, h.oge, by rw [hsF]; omega, hX⟩
    · have := kX.set 0 v'
      simpa using this
    · rw [e1, e2]
      exact row_at g1 (fun j hj => set_heap _ _ _ _ (by have := hv2 j hj; dsimp only; omega))
    · rcases g3 with e | e
      · rw [hk] at e; exact (h.own k e.symm).1 hk'
      · rw [hk] at e
        have := Option.some.inj e
        have := (hO k hk').1
        have := hA.size
        omega
theorem rowM {W : World} {b b' e s n : Nat} {v : Value} {xs : List Value} (h : W.ownsRow b e s v n xs) (hb : b' ≤ b) : W.ownsRow b' e s v n xs := by
  obtain ⟨h1, h2⟩ := h
  refine ⟨h1, ?_⟩
  rcases h2 with h2 | ⟨g, cap, cur, e, hg, r⟩
  · exact .inl h2
  · exact .inr ⟨g, cap, cur, e, Nat.le_trans hb hg, r⟩
theorem cl_slice {V : World} {X t : Nat} {o : Option Addr} {n c j : Nat} {v : Value} (k : Cl V X t [.slice o n c]) (h : V.cell? ⟨X, j, none⟩ = some v) : v = .slice o n c := by
  unfold Cl at k
  simp only [World.cell?, k] at h
  cases j with
  | zero => simpa using h.symm
  | succ j => simp at h
theorem rdl_ne {V : World} {X t : Nat} {o : Option Addr} {n c : Nat} {ao : Option Addr} {l : List (Nat × Bool)} (h : RdL V ao l) (hn : 0 < l.length) (k : Cl V X t [.slice o n c]) : ∀ a, ao = some a → a.block < V.heap.size ∧ a.block ≠ X := by
  intro a e
  obtain ⟨b, off, e', hb, hc⟩ := h hn
  rw [e] at e'
  cases e'
  refine ⟨hb, fun e2 => ?_⟩
  dsimp only at e2
  subst e2
  obtain ⟨x, hx⟩ : ∃ x, l[0]? = some x := ⟨_, List.getElem?_eq_getElem hn⟩
  have := cl_slice k (hc 0 x hx).1
  cases this
theorem rd_ne {V : World} {X t : Nat} {o : Option Addr} {n c : Nat} {ao : Option Addr} {m : Nat} {z : Nat → Nat} (h : Rd V ao m z) (hn : 0 < m) (k : Cl V X t [.slice o n c]) : ∀ a, ao = some a → a.block < V.heap.size ∧ a.block ≠ X := by
  intro a e
  obtain ⟨b, off, e', hb, hc⟩ := h.at_ hn
  rw [e] at e'
  cases e'
  refine ⟨hb, fun e2 => ?_⟩
  dsimp only at e2
  subst e2
  have := cl_slice k (hc 0 hn)
  cases this
def fr19 (lo wo : Option Addr) (lc wc m n X : Nat) (fv : Value) (p : Nat) (u : Nat → Value) : Array Value := #[.slice lo m lc, .slice wo n wc, u 2, u 3, .slice none 0 0, .pointer (some ⟨X, 0, none⟩), fv, .int .i64 (p : Nat), u 8, u 9, u 10, u 11, u 12, u 13, u 14, u 15, u 16, u 17, u 18, u 19]
def Fr19 (lo wo : Option Addr) (lc wc m n X : Nat) (fv : Value) (p : Nat) (tm : Array Value) : Prop := ∃ u, tm = fr19 lo wo lc wc m n X fv p u
theorem Fr19.of {lo wo : Option Addr} {lc wc m n X : Nat} {fv : Value} {p : Nat} (tm : Array Value) (h : tm = fr19 lo wo lc wc m n X fv p (nth tm.toList)) : Fr19 lo wo lc wc m n X fv p tm := ⟨_, h⟩
set_option maxRecDepth 100000 in
set_option maxHeartbeats 4000000 in
theorem lplaces_any (lo wo : Option Addr) (lc wc : Nat) (l : List (Nat × Bool)) (m n : Nat) (wz : Nat → Nat) (w : World) (hl : RdL w lo l) (hL : l.length = m) (hw : Rd w wo n wz) (hm : (m : Int) < 1099511627776) (hn : (n : Int) < 1099511627776) (hb : ∀ x ∈ l, x.1 < 256) (sl : Shp lo m lc) (sw : Shp wo n wc) : Calls Tryd.prog 19 #[.slice lo m lc, .slice wo n wc] w (RetPl w (plL l wz n (n + 1))) := by
  have hB1 := below1 w (.cells #[.slice none 0 0] 42)
  have k1 := Cl.new w 42 [.slice none 0 0]
  have HP := places_any lo wo lc wc l m n wz (w.alloc (.cells #[.slice none 0 0] 42)) (hl.below hB1) hL (hw.below hB1) (by omega) (by omega) sl sw
  have heq : ∀ (fn : Fn) (a b : Array Value) (w : World), (Go.binOp BinOp.eql 79 (.func fn a b) .nilFunc).run Tryd.prog w = Result.ok (.bool false) w := fun _ _ _ _ => rfl
  have hlen : (plL l wz n (n + 1)).length ≤ n + 1 := plL_len l wz n (n + 1)
  unfold RetPc at HP
  refine (callsIn_wide (n := 8)).1 ?_
  refine callsIn_of_wp_marks Tryd.func19 rfl trivial ?_ rfl
  simp only [Tryd.ntmps19, List.size_toArray, List.length_cons, List.length_nil, Nat.reduceAdd, Nat.reduceSub, Array.replicate_succ, Array.replicate_zero, List.push_toArray, List.append_toArray, List.nil_append, List.cons_append]
  gi_wp2_with (refine ⟨trivial, ?_⟩; gi_at_call 44; refine (callsIn_wide.2 HP).mono ?_; rintro e V ⟨al, cl, aw, cw, rfl, q1, q2, q3, q4, q5, q6, hBV⟩)
  have e1 : (w.alloc (.cells #[.slice none 0 0] 42)).heap.size = w.heap.size + 1 := by simp
  rw [e1] at q1 q2
  have kX := k1.below hBV
  have hVs := hBV.size
  rw [e1] at hVs
  have hBw : Below w.heap.size w V := hB1.trans (hBV.mono (by omega))
  have l1 := q1.lt
  have l2 := q2.lt
  have hold : ∀ k, (k = w.heap.size + 1 ∨ k = w.heap.size + 1 + 1 ∨ (0 < m ∧ ∃ a, al = some a ∧ a.block = k) ∨ (0 < n ∧ ∃ a, aw = some a ∧ a.block = k)) → k < V.heap.size ∧ k ≠ w.heap.size := by
    rintro k (rfl | rfl | ⟨hn', a, e, rfl⟩ | ⟨hn', a, e, rfl⟩)
    · exact ⟨l1, by omega⟩
    · exact ⟨l2, by omega⟩
    · exact rdl_ne q3 (by omega) kX a e
    · exact rd_ne q4 hn' kX a e
  have hseq := places_seq 7 (by decide) l m wz n al aw cl cw (w.heap.size + 1) (w.heap.size + 1 + 1) (fun k => k = w.heap.size + 1 ∨ k = w.heap.size + 1 + 1 ∨ (0 < m ∧ ∃ a, al = some a ∧ a.block = k) ∨ (0 < n ∧ ∃ a, aw = some a ∧ a.block = k)) V q1 q2 q3 hL hb q4 hm hn q6 (.inl rfl) (.inr (.inl rfl)) (fun h a e => .inr (.inr (.inl ⟨h, a, e, rfl⟩))) (fun h a e => .inr (.inr (.inr ⟨h, a, e, rfl⟩)))
  generalize plL l wz n (n + 1) = L at *
  have I0 : AI L V w.heap.size 0 (fun _ => False) V (.slice none 0 0) := ⟨kX, by simp [rowN]; exact World.ownsRow_nil _ _ _ _, fun k hk => by simp [Value.ownBlock] at hk, fun _ _ _ => rfl, ⟨rfl, rfl, rfl⟩, fun k hk => hk.elim, Nat.le_refl _, by omega⟩
  obtain ⟨i0, hii, hz0, hz1, hz2⟩ := info_parts b_int
  have hold' : Hid _ := hold
  clear HP q1 q2 q3 q4 q5 q6 kX k1 hB1 hl hw hold e1
  refine wpIn_rangeFunc_own_steps (n := 8) rfl (by decide) (gf := 69) (lb := #[.pointer (some ⟨w.heap.size + 1, 0, none⟩), .pointer (some ⟨w.heap.size + 1 + 1, 0, none⟩)]) rfl trivial (enters_of Tryd.func69 (by kernel_rfl) rfl) (fun k => k = w.heap.size + 1 ∨ k = w.heap.size + 1 + 1 ∨ (0 < m ∧ ∃ a, al = some a ∧ a.block = k) ∨ (0 < n ∧ ∃ a, aw = some a ∧ a.block = k)) (fun k hk => (hold'.out k hk).1) hseq (fun i O vs W h => by obtain ⟨q, _, rfl⟩ := h; rfl)
    (fun i O A => ∃ v, AI L V w.heap.size i O A v) ?bears ?turn ⟨_, I0⟩
    (fun i O vs a' A => ∃ p, L[i]? = some p ∧ Fr19 lo wo lc wc m n w.heap.size (.func (.func 69) #[] #[.pointer (some ⟨w.heap.size + 1, 0, none⟩), .pointer (some ⟨w.heap.size + 1 + 1, 0, none⟩)]) p a'.tmps ∧ a'.defers = []) (fun _ _ _ _ _ _ h _ => h) ?assign ?body ?done
  case bears =>
    rintro i O O' A B ⟨v, h⟩ ht ho
    exact ⟨v, h.bears ht ho⟩
  case turn =>
    rintro i O A B ⟨v, h⟩ ht
    exact ⟨v, h.turn ht⟩
  case assign =>
    rintro i O vs Wc K hi hI ⟨p, hp, rfl⟩ hsz hO hK
    have HK : Hid (∀ tm, Fr19 lo wo lc wc m n w.heap.size (.func (.func 69) #[] #[.pointer (some ⟨w.heap.size + 1, 0, none⟩), .pointer (some ⟨w.heap.size + 1 + 1, 0, none⟩)]) p tm → K ⟨tm, []⟩ Wc) := fun tm h => hK _ _ ⟨Nat.le_refl _, fun _ _ _ => rfl⟩ hI ⟨p, hp, h, rfl⟩
    clear hK hI I0 hseq
    gi_wp2
    exact HK.out _ (Fr19.of _ rfl)
  case body =>
    rintro i O vs a' A hi ⟨v, hI⟩ ⟨p, hp, ⟨u, hfr⟩, hdf⟩ hsz hO
    obtain ⟨tm, dfs⟩ := a'
    dsimp only at hfr hdf
    subst hfr hdf
    unfold fr19
    obtain ⟨av, cv, rfl⟩ := ownsRow_slice hI.row
    have hA1 := below1 A (.cells #[.int .i64 (p : Nat)] 3)
    have HP := fun v' w2 => hI.push (v' := v') (w2 := w2) hp hO hA1
    have HP2 : Hid (∀ v' w2, w2.ownsRow (V.heap.size + 2) 3 1 v' ((L.take i).length + 1) (rowN (L.take i) ++ [.int .i64 (p : Nat)]) → (A.alloc (.cells #[.int .i64 (p : Nat)] 3)).grownBy w2 (Value.slice av (L.take i).length cv).ownBlock → (v'.ownBlock = (Value.slice av (L.take i).length cv).ownBlock ∨ v'.ownBlock = some (A.alloc (.cells #[.int .i64 (p : Nat)] 3)).heap.size) → _) := fun v' w2 g1 g2 g3 => HP v' w2 g1 g2 g3 (fun k => k = w.heap.size + 1 ∨ k = w.heap.size + 1 + 1 ∨ (0 < m ∧ ∃ a, al = some a ∧ a.block = k) ∨ (0 < n ∧ ∃ a, aw = some a ∧ a.block = k)) hold'.out
    have HR : Hid ((A.alloc (.cells #[.int .i64 (p : Nat)] 3)).ownsRow (V.heap.size + 2) 3 1 (.slice av (L.take i).length cv) (L.take i).length (rowN (L.take i))) := ownsRow_below hI.row hA1
    have HN : Hid (∀ (j : Nat) (z : Value), [Value.int .i64 (p : Nat)][j]? = some z → (A.alloc (.cells #[.int .i64 (p : Nat)] 3)).cell? (Addr.add ⟨A.heap.size, 0, none⟩ j) = some z) := fun j z hj => by
      have k9 := Cl.new A 3 [.int .i64 (p : Nat)]
      have := k9.cell j hj
      have e : Addr.add ⟨A.heap.size, 0, none⟩ j = ⟨A.heap.size, j, none⟩ := by
        by_cases h0 : j = 0
        · subst h0; simp [Addr.add]
        · simp [Addr.add, h0]
      rw [e]; exact this
    have dx := hI.kx.cell 0 rfl
    have hti : (L.take i).length ≤ n + 1 := by rw [List.length_take]; omega
    have dx2 := (hI.kx.alloc (.cells #[.int .i64 (p : Nat)] 3)).cell 0 rfl
    clear HP hI I0 hseq hp hi
    generalize (L.take i).length = cl' at *
    generalize rowN (L.take i) = rl at *
    gi_wp2_with (first | (gi_at_builtin; refine wpListIn_append_own_at _ rfl _ _ 42 rfl (V.heap.size + 2) 3 i0 _ 1 8 Tryd.underlying42 hii hz0 hz1 hz2 rfl (by decide) _ _ _ rfl HR.out ⟨A.heap.size, 0, none⟩ 1 1 [.int .i64 (p : Nat)] rfl rfl HN.out (by simp [Value.oneCell']) (by unfold maxLen; omega) (by omega) (by simp; omega) ?_; intro v' w2 hown hgr hnil' hat; obtain ⟨a9, c9, rfl⟩ := ownsRow_slice hown; obtain ⟨kX9, hk9⟩ := HP2.out _ w2 hown hgr hat; obtain ⟨y1, y2⟩ := kX9.one; have HZ : Hid _ := hk9; clear hk9 hown hgr hnil' hat))
    have hz9 := HZ.out
    exact ⟨hz9.1, _, hz9.2⟩
  case done =>
    rintro O A ⟨v, hI⟩ hD
    have hBA := hI.bel hBw (Nat.le_refl _)
    obtain ⟨av, cv, rfl⟩ := ownsRow_slice hI.row
    have dx := hI.kx.cell 0 rfl
    have hrow := hI.row
    rw [List.take_length] at hrow
    have hfin : RetPl w L (.returned (.slice av L.length cv)) (A.putObj V.heap.size (.deferred none)) := by
      refine ⟨_, rfl, ?_, ?_⟩
      · have := row_at (W' := A.putObj V.heap.size (.deferred none)) hrow fun g hg => World.putObj_heap_other (by have := ownsRow_own hrow g hg; omega)
        exact rowM this (by omega)
      · exact hBA.trans (belowK_b (w := w) (Nat.le_refl _) _ V.heap.size _ (.deferred none) (by omega) hD rfl rfl)
    have hte : (L.take L.length).length = L.length := by rw [List.take_length]
    have HF : Hid _ := hfin
    rw [hte] at dx
    clear hfin hrow hI hBA I0 hseq hte
    gi_wp2
    refine ⟨by simp, .inl ⟨_, _, rfl, run_takeDeferred hD, ?_⟩⟩
    exact ⟨_, by simp [results, Tryd.results19, go_sem], HF.out⟩
end Go.Proofs.YthbmfnibgjlkhaaDoor
namespace Go.Proofs.YthbmfnibgjlkhaaDoor
open Go.RowKit Go.Shelf K
theorem rowN_rdI {W : World} {B : Nat} {v : Value} {L : List Nat} (h : W.ownsRow B 3 1 v L.length (rowN L)) : ∃ ao cap, v = .slice ao L.length cap ∧ RdI W ao L.length (fun i => ((L.getD i 0 : Nat) : Int)) := by
  obtain ⟨ao, cap, rfl⟩ := ownsRow_slice h
  refine ⟨ao, cap, rfl, fun hn => ?_⟩
  obtain ⟨g, rfl, hl, _, hc⟩ := row_cell h hn
  refine ⟨g, 0, rfl, hl, fun i hi => ?_⟩
  have e : (rowN L)[i]? = some (.int .i64 ((L.getD i 0 : Nat) : Int)) := by
    unfold rowN
    rw [List.getElem?_map, List.getElem?_eq_getElem hi, List.getD_eq_getElem?_getD, List.getElem?_eq_getElem hi]
    rfl
  have := hc.1 i _ e
  simpa using this
theorem eqI_self (n : Nat) (f : Nat → Int) : eqI n n f f = true := by
  simp [eqI]
theorem Rd.cutTo {W : World} {ao : Option Addr} {n k : Nat} {z : Nat → Nat} (h : Rd W ao n z) (hk : k ≤ n) : Rd W ao k z := by
  refine ⟨fun i hi => h.small i (by omega), fun h0 => ?_⟩
  obtain ⟨b, off, e, hb, hc⟩ := h.at_ (by omega)
  exact ⟨b, off, e, hb, fun i hi => hc i (by omega)⟩
set_option maxRecDepth 100000 in
set_option maxHeartbeats 4000000 in
theorem where_walk (la : Option Addr) (ca : Nat) (A : List (Nat × Bool)) (lb : Option Addr) (cb : Nat) (B : List (Nat × Bool)) (bo : Option Addr) (m bc : Nat) (f : Nat → Nat) (at' : Int) (w : World) (hA : RdL w la A) (hB : RdL w lb B) (hW : Rd w bo m f) (bA : ∀ x ∈ A, x.1 < 256) (nA : A.length ≤ 1048576) (nB : B.length ≤ 1048576) (nm : m ≤ 1048576) (sl : Shp la A.length ca) (sw : Shp bo m bc) (hmc : m ≤ bc) (hT : Tab w) :
    Calls Tryd.prog 4 #[.agg #[.slice la A.length ca, .slice lb B.length cb, .slice bo m bc, .int .i64 at']] w (fun e w' => e = .returned (.bool true) ∧ Below w.heap.size w w') := by
  have hB1 := below1 w (.cells #[.slice la A.length ca, .slice lb B.length cb, .slice bo m bc, .int .i64 at'] 37)
  have k1 := Cl.new w 37 [.slice la A.length ca, .slice lb B.length cb, .slice bo m bc, .int .i64 at']
  have H0 := live_any _ (hT.below hB1)
  have hK : min m 80 ≤ m := Nat.min_le_left _ _
  have swK : Shp bo (min m 80) bc := by
    rcases sw with ⟨rfl, rfl, rfl⟩ | h
    · exact .inl ⟨rfl, by simp, rfl⟩
    · exact .inr h
  have hWK := Rd.cutTo hW hK
  obtain ⟨n, hn⟩ : ∃ n, A.length = n := ⟨_, rfl⟩
  have HC1 : Hid (∀ W, Below w.heap.size w W → Calls Tryd.prog 14 #[.slice la n ca] W fun e w' => e = .returned (chV A n) ∧ Below W.heap.size W w') := fun W h => litcheck_any la n ca A W (hA.below h) hn (by omega) bA
  have HC2 : Hid (∀ W, Below w.heap.size w W → Calls Tryd.prog 15 #[.slice la n ca] W fun e w' => e = .returned (chV A n) ∧ Below W.heap.size W w') := fun W h => rlitcheck_any la n ca A W (hA.below h) hn (by omega) bA
  have HA1 : Hid (∀ W, Below w.heap.size w W → Calls Tryd.prog 16 #[.slice la n ca, .slice bo (min m 80) bc, .int .i64 at'] W fun e w' => e = .returned (.bool (atB A f (min m 80) at')) ∧ Below W.heap.size W w') := fun W h => by
    have := at_any la bo ca bc A (min m 80) f at' W (hA.below h) (hWK.below h) (by omega) (by omega) bA
    rwa [hn] at this
  have HA2 : Hid (∀ W, Below w.heap.size w W → Calls Tryd.prog 17 #[.slice la n ca, .slice bo (min m 80) bc, .int .i64 at'] W fun e w' => e = .returned (.bool (atB A f (min m 80) at')) ∧ Below W.heap.size W w') := fun W h => by
    have := rat_any la bo ca bc A (min m 80) f at' W (hA.below h) (hWK.below h) (by omega) (by omega) bA hWK.small
    rwa [hn] at this
  obtain ⟨L, hL⟩ : ∃ L, L = plL A f (min m 80) (min m 80 + 1) := ⟨_, rfl⟩
  have hLn : L.length ≤ 81 := by
    have := plL_len A f (min m 80) (min m 80 + 1)
    rw [hL]
    omega
  have HP1 : Hid (∀ W, Below w.heap.size w W → Calls Tryd.prog 19 #[.slice la n ca, .slice bo (min m 80) bc] W fun e w' => ∃ ao cap, e = .returned (.slice ao L.length cap) ∧ RdI w' ao L.length (fun i => ((L.getD i 0 : Nat) : Int)) ∧ Below W.heap.size W w') := fun W h => by
    refine (lplaces_any la bo ca bc A n (min m 80) f W (hA.below h) hn (hWK.below h) (by omega) (by omega) bA (by rw [← hn]; exact sl) swK).mono ?_
    rintro e w' ⟨v, rfl, ho, hb⟩
    rw [← hL] at ho
    obtain ⟨ao, cap, rfl, hr⟩ := rowN_rdI ho
    exact ⟨ao, cap, rfl, hr, hb⟩
  have HP2 : Hid (∀ W, Below w.heap.size w W → Calls Tryd.prog 20 #[.slice la n ca, .slice bo (min m 80) bc] W fun e w' => ∃ ao cap, e = .returned (.slice ao L.length cap) ∧ RdI w' ao L.length (fun i => ((L.getD i 0 : Nat) : Int)) ∧ Below W.heap.size W w') := fun W h => by
    refine (rplaces_any la bo ca bc A n (min m 80) f W (hA.below h) hn (hWK.below h) (by omega) (by omega) bA).mono ?_
    rintro e w' ⟨v, rfl, ho, hb⟩
    rw [← hL] at ho
    obtain ⟨ao, cap, rfl, hr⟩ := rowN_rdI ho
    exact ⟨ao, cap, rfl, hr, hb⟩
  have HE : Hid (∀ W a b c d, RdI W a L.length (fun i => ((L.getD i 0 : Nat) : Int)) → RdI W b L.length (fun i => ((L.getD i 0 : Nat) : Int)) → Calls Tryd.prog 18 #[.slice a L.length c, .slice b L.length d] W fun e w' => e = .returned (.bool true) ∧ Below W.heap.size W w') := fun W a b c d h1 h2 => by
    have := equalI_any a b L.length L.length c d _ _ W (by omega) h1 h2
    rwa [eqI_self] at this
  obtain ⟨k, hk⟩ : ∃ k, B.length = k := ⟨_, rfl⟩
  have HS1 : Hid (∀ W, Below w.heap.size w W → Calls Tryd.prog 21 #[.slice la n ca, .slice lb k cb] W fun e w' => e = .returned (.bool (decide (A = B))) ∧ Below W.heap.size W w') := fun W h => by
    have := same_any la lb ca cb A B W (hA.below h) (hB.below h) (by omega) (by omega)
    rwa [hn, hk] at this
  have HS2 : Hid (∀ W, Below w.heap.size w W → Calls Tryd.prog 22 #[.slice la n ca, .slice lb k cb] W fun e w' => e = .returned (.bool (decide (A = B))) ∧ Below W.heap.size W w') := fun W h => by
    have := rsame_any la lb ca cb A B W (hA.below h) (hB.below h) (by omega) (by omega)
    rwa [hn, hk] at this
  have hmin : min (m : Int) 80 = ((min m 80 : Nat) : Int) := by omega
  obtain ⟨K, hKe⟩ : ∃ K, K = min m 80 := ⟨_, rfl⟩
  have hKm : K ≤ m := by omega
  have hKb : K ≤ bc := by omega
  simp only [hn, hk] at *
  rw [← hKe] at HA1 HA2 HP1 HP2
  clear hL hWK swK hA hB hW sl sw bA hT
  generalize L.length = N at *
  generalize decide (A = B) = dd at *
  obtain ⟨cv, hcv⟩ : ∃ cv : Int, chV A n = .int .i64 cv := ⟨_, rfl⟩
  rw [hcv] at HC1 HC2
  generalize atB A f K at' = av at *
  go_enter Tryd.func4, Tryd.ntmps4
  go_upto_region 3 with (go_at_call 7; refine H0.mono ?_; rintro e w1 ⟨rfl, hb1⟩)
  have kk := k1.below hb1
  have hBw := hB1.trans (hb1.mono (by simp))
  have c0 := kk.cell 0 rfl
  have c1 := kk.cell 1 rfl
  have c2 := kk.cell 2 rfl
  have c3 := kk.cell 3 rfl
  clear k1 hb1 hB1 H0
  go_wp2_with fail
  go_quiet (fail)
  rw [← hKe]
  have hB2 : Below w.heap.size w (w1.drewN nq) := below_drewN hBw nq
  clear kk c0 c1 c2 c3 hBw hmin hK hKe
  generalize w1.drewN nq = V at *
  have hcc : (cv == cv) = true := by simp
  have haa : (av == av) = true := by simp
  have hdd : (dd == dd) = true := by simp
  go_wp2_with (first
    | (go_at_call 22; refine (HS2.out _ hB10).mono ?_; rintro e w11 ⟨rfl, hb11⟩; have hB11 := hB10.trans (hb11.mono hB10.size))
    | (go_at_call 21; refine (HS1.out _ hB9).mono ?_; rintro e w10 ⟨rfl, hb10⟩; have hB10 := hB9.trans (hb10.mono hB9.size))
    | (go_at_call 18; refine (HE.out _ _ _ _ _ (r7.below hb8) r8).mono ?_; rintro e w9 ⟨rfl, hb9⟩; have hB9 := hB8.trans (hb9.mono hB8.size))
    | (go_at_call 20; refine (HP2.out _ hB7).mono ?_; rintro e w8 ⟨a8, p8, rfl, r8, hb8⟩; have hB8 := hB7.trans (hb8.mono hB7.size))
    | (go_at_call 19; refine (HP1.out _ hB6).mono ?_; rintro e w7 ⟨a7, p7, rfl, r7, hb7⟩; have hB7 := hB6.trans (hb7.mono hB6.size))
    | (go_at_call 17; refine (HA2.out _ hB5).mono ?_; rintro e w6 ⟨rfl, hb6⟩; have hB6 := hB5.trans (hb6.mono hB5.size))
    | (go_at_call 16; refine (HA1.out _ hB4).mono ?_; rintro e w5 ⟨rfl, hb5⟩; have hB5 := hB4.trans (hb5.mono hB4.size))
    | (go_at_call 15; refine (HC2.out _ hB3).mono ?_; rintro e w4 ⟨rfl, hb4⟩; have hB4 := hB3.trans (hb4.mono hB3.size))
    | (go_at_call 14; refine (HC1.out _ hB2).mono ?_; rintro e w3 ⟨rfl, hb3⟩; have hB3 := hB2.trans (hb3.mono hB2.size)))
  go_ret
  exact ⟨rfl, hB11⟩
end Go.Proofs.YthbmfnibgjlkhaaDoor
