/- The iterator of Places: the walk. -/
import Derived.Test.YthbmfnibgjlkhaaDoorGPuPvPw
import Derived.Test.YthbmfnibgjlkhaaDoorPi
import Derived.Test.YthbmfnibgjlkhaaDoorGPaPb
import Derived.Test.YthbmfnibgjlkhaaDoorGIxPmRdPo
import Derived.Test.YthbmfnibgjlkhaaDoorSc
import Derived.Deep.RegionHeld3
import Derived.Sort.CutIn
namespace Go.Proofs.YthbmfnibgjlkhaaDoor
open Go.RowKit Go.Shelf K
attribute [local go_sem] Oper.semAt_some
theorem byL_small {l : List (Nat × Bool)} (hb : ∀ x ∈ l, x.1 < 256) {k : Nat} (h : k < l.length) : byL l k < 256 := by
  rw [byL_at (List.getElem?_eq_getElem h)]
  exact hb _ (List.getElem_mem h)
/-- What Places' iterator gives. -/
def VPq (L : List Nat) (i : Nat) (_ : Nat → Prop) (vs : Array Value) (_ : World) : Prop := ∃ p : Nat, L[i]? = some p ∧ vs = #[.int .i64 (p : Nat)]
theorem RdL.at_blk {A B : World} {ao : Option Addr} {l : List (Nat × Bool)} (h : RdL A ao l) (hk : 0 < l.length → ∀ a, ao = some a → a.block < A.heap.size → B.heap[a.block]? = A.heap[a.block]?) (hs : A.heap.size ≤ B.heap.size) : RdL B ao l := by
  intro hn
  obtain ⟨b, off, e, hb, hc⟩ := h hn
  refine ⟨b, off, e, Nat.lt_of_lt_of_le hb hs, fun i x hi => ?_⟩
  have q : ∀ j, B.cell? ⟨b, j, none⟩ = A.cell? ⟨b, j, none⟩ := fun j => by simp only [World.cell?]; rw [hk hn _ e hb]
  rw [q, q]
  exact hc i x hi
def fr69 (ly b1 b2 B bx bs : Nat) (p : Nat) (u : Nat → Value) : Array Value := #[.func (.yield ly) #[] #[], .pointer (some ⟨b1, 0, none⟩), .pointer (some ⟨b2, 0, none⟩), .pointer (some ⟨B, 0, none⟩), .pointer (some ⟨bx, 0, none⟩), .pointer (some ⟨bs, 0, none⟩), .int .i64 (p : Nat), u 7, u 8, u 9, u 10, u 11, u 12, u 13, u 14, u 15, u 16, u 17, u 18, u 19, u 20, u 21, u 22, u 23, u 24, u 25, u 26, u 27, u 28, u 29, u 30, u 31, u 32, u 33, u 34]
def Fr69 (ly b1 b2 B bx bs p : Nat) (tm : Array Value) : Prop := ∃ u, tm = fr69 ly b1 b2 B bx bs p u
theorem Fr69.of {ly b1 b2 B bx bs p : Nat} (tm : Array Value) (h : tm = fr69 ly b1 b2 B bx bs p (nth tm.toList)) : Fr69 ly b1 b2 B bx bs p tm := ⟨_, h⟩
/-- How many have been given of the first i. -/
def cnt (L : List Nat) (P : Nat → Bool) (i : Nat) : Nat := ((L.take i).filter P).length
theorem cnt_yes {L : List Nat} {P : Nat → Bool} {i p : Nat} (h : L[i]? = some p) (hP : P p = true) : cnt L P (i + 1) = cnt L P i + 1 ∧ (L.filter P)[cnt L P i]? = some p := by
  have hi := (List.getElem?_eq_some_iff.1 h).1
  have e : L.take (i + 1) = L.take i ++ [p] := by rw [List.take_add_one, h]; rfl
  refine ⟨by unfold cnt; rw [e, List.filter_append]; simp [hP], ?_⟩
  have e2 : L = L.take i ++ p :: L.drop (i + 1) := by
    have := (List.take_append_drop i L).symm
    rw [List.drop_eq_getElem_cons hi] at this
    rw [(List.getElem?_eq_some_iff.1 h).2] at this
    exact this
  have e3 : L.filter P = (L.take i).filter P ++ p :: (L.drop (i + 1)).filter P := by
    conv => lhs; rw [e2]
    rw [List.filter_append, List.filter_cons_of_pos hP]
  rw [e3]
  unfold cnt
  rw [List.getElem?_append_right (Nat.le_refl _)]
  simp
theorem cnt_no {L : List Nat} {P : Nat → Bool} {i p : Nat} (h : L[i]? = some p) (hP : P p = false) : cnt L P (i + 1) = cnt L P i := by
  have e : L.take (i + 1) = L.take i ++ [p] := by rw [List.take_add_one, h]; rfl
  unfold cnt; rw [e, List.filter_append]; simp [hP]
theorem cnt_end (L : List Nat) (P : Nat → Bool) : cnt L P L.length = (L.filter P).length := by
  unfold cnt; rw [List.take_length]
/-- What stands within its loop. -/
structure QI (L : List Nat) (P : Nat → Bool) (l : List (Nat × Bool)) (m : Nat) (wz : Nat → Nat) (n : Nat) (lo wo : Option Addr) (lc wcp : Nat) (sv : Bool) (ly b1 b2 B bs D : Nat) (J : Nat → (Nat → Prop) → World → Prop) (i : Nat) (O : Nat → Prop) (A : World) : Prop where
  inv : J (cnt L P i) (fun k => O k ∨ (B ≤ k ∧ k ≤ D + 1)) A
  ky : Cl A B 107 [.func (.yield ly) #[] #[]]
  ks : Cl A bs 4 [.bool sv]
  k1 : Cl A b1 34 [.slice lo m lc]
  k2 : Cl A b2 35 [.slice wo n wcp]
  rl : RdL A lo l
  rw : Rd A wo n wz
  own : ∀ k, O k → D ≤ k
  sz : D ≤ A.heap.size
theorem QI.keep {L : List Nat} {P : Nat → Bool} {l : List (Nat × Bool)} {m : Nat} {wz : Nat → Nat} {n : Nat} {lo wo : Option Addr} {lc wcp : Nat} {sv : Bool} {ly b1 b2 B bs D : Nat} {J : Nat → (Nat → Prop) → World → Prop} {i i' : Nat} {O O' : Nat → Prop} {A C : World} (h : QI L P l m wz n lo wo lc wcp sv ly b1 b2 B bs D J i O A) (hJ : J (cnt L P i') (fun k => O' k ∨ (B ≤ k ∧ k ≤ D + 1)) C) (hs : A.heap.size ≤ C.heap.size) (hk : ∀ k, k < A.heap.size → (k = B ∨ k = bs ∨ k = b1 ∨ k = b2 ∨ (0 < l.length ∧ ∃ a, lo = some a ∧ a.block = k) ∨ (0 < n ∧ ∃ a, wo = some a ∧ a.block = k)) → C.heap[k]? = A.heap[k]?) (hO : ∀ k, O' k → D ≤ k) : QI L P l m wz n lo wo lc wcp sv ly b1 b2 B bs D J i' O' C :=
  ⟨hJ, by unfold Cl; rw [hk B h.ky.lt (.inl rfl)]; exact h.ky, by unfold Cl; rw [hk bs h.ks.lt (.inr (.inl rfl))]; exact h.ks, by unfold Cl; rw [hk b1 h.k1.lt (.inr (.inr (.inl rfl)))]; exact h.k1, by unfold Cl; rw [hk b2 h.k2.lt (.inr (.inr (.inr (.inl rfl))))]; exact h.k2, h.rl.at_blk (fun hn a e hl => hk _ hl (.inr (.inr (.inr (.inr (.inl ⟨hn, a, e, rfl⟩)))))) hs, h.rw.at_blk (fun hn a e hl => hk _ hl (.inr (.inr (.inr (.inr (.inr ⟨hn, a, e, rfl⟩)))))) hs, hO, Nat.le_trans h.sz hs⟩
/-- What the drawn region's worlds have. -/
structure TP (V : World) (b1 b2 bx : Nat) (x y z t : Value) (p q : Value) (U : World) : Prop where
  cx : Bx U bx x y z t
  k1 : Cl U b1 34 [p]
  k2 : Cl U b2 35 [q]
  bel : Below V.heap.size V U
theorem TP.next {V : World} {b1 b2 bx : Nat} {x y z t p q : Value} {U U' : World} (h : TP V b1 b2 bx x y z t p q U) (hb : Below U.heap.size U U') : TP V b1 b2 bx x y z t p q U' := ⟨h.cx.below hb, h.k1.below hb, h.k2.below hb, h.bel.trans (hb.mono h.bel.size)⟩
set_option maxRecDepth 100000 in
set_option maxHeartbeats 4000000 in
theorem places_seq (d : Nat) (hd : 2 ≤ d) (l : List (Nat × Bool)) (m : Nat) (wz : Nat → Nat) (n : Nat) (lo wo : Option Addr) (lc wcp b1 b2 : Nat) (Old : Nat → Prop) (w : World) (k1 : Cl w b1 34 [.slice lo m lc]) (k2 : Cl w b2 35 [.slice wo n wcp]) (hl : RdL w lo l) (hL : l.length = m) (hb : ∀ x ∈ l, x.1 < 256) (hw : Rd w wo n wz) (hm : (m : Int) < 1099511627776) (hn : (n : Int) < 1099511627776) (sw : Shp wo n wcp) (h1 : Old b1) (h2 : Old b2) (ha : 0 < m → ∀ a, lo = some a → Old a.block) (hb' : 0 < n → ∀ a, wo = some a → Old a.block) :
    SeqO Fence.wide d Tryd.prog Old 69 #[.pointer (some ⟨b1, 0, none⟩), .pointer (some ⟨b2, 0, none⟩)] (VPq (plL l wz n (n + 1))) (plL l wz n (n + 1)).length w := by
  intro ly J W hbw hszW hBe hY h0
  have kW1 := k1.below hbw
  have kW2 := k2.below hbw
  have lW := hl.below hbw
  have wW := hw.below hbw
  clear k1 k2 hl hw
  simp only [List.append_toArray, List.cons_append, List.nil_append]
  refine callsIn_of_wp_marks Tryd.func69 rfl trivial ?_ rfl
  simp only [Tryd.ntmps69, List.size_toArray, List.length_cons, List.length_nil, Nat.reduceAdd, Nat.reduceSub, Array.replicate_succ, Array.replicate_zero, List.push_toArray, List.append_toArray, List.nil_append, List.cons_append]
  have hbA := below1 W (.cells #[.func (.yield ly) #[] #[]] 107)
  have d1 := (kW1.alloc (.cells #[.func (.yield ly) #[] #[]] 107)).cell 0 rfl
  have KY := Cl.new W 107 [.func (.yield ly) #[] #[]]
  have HI : Hid (∀ V, Below W.heap.size W V → Calls Tryd.prog 70 #[.slice lo m lc] V (RetC V (boN l m))) := fun V hV => inBoth_any lo m lc l V (lW.below hV) hL (by omega) hb
  have HC : Hid (∀ (V : World) (bc a b c e : Nat), Below W.heap.size W V → C4 (boN l m) a b c e → Bx V bc (.int .u64 (a : Nat)) (.int .u64 (b : Nat)) (.int .u64 (c : Nat)) (.int .u64 (e : Nat)) → Calls Tryd.prog 42 #[.slice lo m lc, .func (.func 71) #[] #[.pointer (some ⟨bc, 0, none⟩)]] V fun e w' => e = .returned (.bool (anyL (twoW (boN l m)) l m)) ∧ Below V.heap.size V w') := fun V bc a b c e hV h4 hX => containsf71 lo m lc l (.pointer (some ⟨bc, 0, none⟩)) (twoW (boN l m)) V (lW.below hV) hL (by omega) (fun V2 x hx hV2 => ask71 h4 bc x V2 (hb x hx) (hX.below hV2))
  gi_wp2_with (first | (refine ⟨trivial, fun hd => (by cases hd), ?_⟩; gi_at_call 70; refine (callsIn_wide.2 (HI.out _ hbA)).mono ?_; rintro e w2 ⟨⟨qa, qb, qc, qd, rfl, h4⟩, hb2⟩; have d2 := (((kW1.alloc (.cells #[.func (.yield ly) #[] #[]] 107)).below hb2).alloc (.cells #[.int .u64 (qa : Nat), .int .u64 (qb : Nat), .int .u64 (qc : Nat), .int .u64 (qd : Nat)] 24)).cell 0 rfl) | (refine ⟨trivial, fun hd => (by cases hd), ?_⟩; gi_at_call 42; refine (callsIn_wide.2 (HC.out _ _ qa qb qc qd ((hbA.trans (hb2.mono (by simp))).alloc (Nat.le_trans hbA.size hb2.size) _) h4 (Bx.new _ _ _ _ _))).mono ?_; rintro e w3 ⟨rfl, hb3⟩))
  have KX := (Bx.new w2 (.int .u64 (qa : Nat)) (.int .u64 (qb : Nat)) (.int .u64 (qc : Nat)) (.int .u64 (qd : Nat))).below hb3
  have hB2 : Below W.heap.size W (w2.alloc (.cells #[.int .u64 (qa : Nat), .int .u64 (qb : Nat), .int .u64 (qc : Nat), .int .u64 (qd : Nat)] 24)) := (hbA.trans (hb2.mono (by simp))).alloc (Nat.le_trans hbA.size hb2.size) _
  have hB3 : Below W.heap.size W w3 := hB2.trans (hb3.mono hB2.size)
  have KX2 := KX.alloc (.cells #[.bool (!anyL (twoW (boN l m)) l m)] 4)
  have KS := Cl.new w3 4 [.bool (!anyL (twoW (boN l m)) l m)]
  have KY2 := ((((KY.below hb2).alloc (.cells #[.int .u64 (qa : Nat), .int .u64 (qb : Nat), .int .u64 (qc : Nat), .int .u64 (qd : Nat)] 24)).below hb3).alloc (.cells #[.bool (!anyL (twoW (boN l m)) l m)] 4))
  have hV : Below W.heap.size W (w3.alloc (.cells #[.bool (!anyL (twoW (boN l m)) l m)] 4)) := hB3.alloc hB3.size _
  have e2 : W.heap.size + 1 ≤ w2.heap.size := by have := hb2.size; simpa using this
  have e3 : w2.heap.size + 1 ≤ w3.heap.size := by have := hb3.size; simpa using this
  have e4 : (w3.alloc (.cells #[.bool (!anyL (twoW (boN l m)) l m)] 4)).heap.size = w3.heap.size + 1 := by simp
  clear d1 d2 KX hB2 hB3 hb2 hb3 KY hbA HI HC
  generalize hVe : w3.alloc (.cells #[.bool (!anyL (twoW (boN l m)) l m)] 4) = V at *
  clear hVe
  generalize w2.heap.size = bx at *
  generalize w3.heap.size = bs at *
  have kV1 := kW1.below hV
  have kV2 := kW2.below hV
  have lV := lW.below hV
  have wV := wW.below hV
  obtain ⟨sv, hsv⟩ : ∃ sv, sv = !anyL (twoW (boN l m)) l m := ⟨_, rfl⟩
  rw [← hsv] at KS
  have hT : TP V b1 b2 bx (.int .u64 (qa : Nat)) (.int .u64 (qb : Nat)) (.int .u64 (qc : Nat)) (.int .u64 (qd : Nat)) (.slice lo m lc) (.slice wo n wcp) V := ⟨KX2, kV1, kV2, Below.refl _ _⟩
  have HB : Hid (∀ U, Below V.heap.size V U → Calls Tryd.prog 75 #[.slice lo m lc] U (fun e w' => ∃ ao cap, e = .returned (.slice ao m cap) ∧ Rd w' ao m (byL l) ∧ Shp ao m cap ∧ Below U.heap.size U w')) := fun U hU => (bytesOf_any lo m lc l U (lV.below hU) hL (by omega)).mono fun e w' ⟨ao, cap, h1, h2, h3⟩ => ⟨ao, cap, h1, rdb_row (fun k hk => byL_small hb (by omega)) h2, shp_row h2, h3⟩
  have HR1 : Hid (∀ U ao cap, Rd U ao m (byL l) → Shp ao m cap → Calls Tryd.prog 74 #[.agg #[.int .u64 (qa : Nat), .int .u64 (qb : Nat), .int .u64 (qc : Nat), .int .u64 (qd : Nat)], .slice ao m cap] U (fun e w' => ∃ a1 c1, e = .returned (.slice a1 m c1) ∧ Rd w' a1 m (fun k => rgh (boN l m) (byL l k)) ∧ (∀ a, a1 = some a → U.heap.size ≤ a.block) ∧ Below U.heap.size U w')) := fun U ao cap hr hs => (rough_any h4 ao m cap (byL l) U hr (by omega) hs).mono fun e w' ⟨ao, cap, h1, h2, h3⟩ => ⟨ao, cap, h1, rdb_row (fun k hk => rgh_small (hr.small k hk)) h2, own_row h2, h3⟩
  have HR2 : Hid (∀ U, Below V.heap.size V U → Calls Tryd.prog 74 #[.agg #[.int .u64 (qa : Nat), .int .u64 (qb : Nat), .int .u64 (qc : Nat), .int .u64 (qd : Nat)], .slice wo n wcp] U (fun e w' => ∃ a1 c1, e = .returned (.slice a1 n c1) ∧ Rd w' a1 n (fun i => rgh (boN l m) (wz i)) ∧ (∀ a, a1 = some a → U.heap.size ≤ a.block) ∧ Below U.heap.size U w')) := fun U hU => (rough_any h4 wo n wcp wz U (wV.below hU) (by omega) sw).mono fun e w' ⟨ao, cap, h1, h2, h3⟩ => ⟨ao, cap, h1, rdb_row (fun k hk => rgh_small (wV.small k hk)) h2, own_row h2, h3⟩
  gi_cut [20] from 13 (fun v wx => ∃ p1 p2 a1 c1 a2 c2, v = .func (.func 90) #[] #[.pointer (some ⟨p1, 0, none⟩), .pointer (some ⟨p2, 0, none⟩)] ∧ Cl wx p1 35 [.slice a1 m c1] ∧ Cl wx p2 35 [.slice a2 n c2] ∧ Rd wx a1 m (fun k => rgh (boN l m) (byL l k)) ∧ Rd wx a2 n (fun i => rgh (boN l m) (wz i)) ∧ (V.heap.size ≤ p1 ∧ V.heap.size ≤ p2 ∧ (∀ a, a1 = some a → V.heap.size ≤ a.block) ∧ ∀ a, a2 = some a → V.heap.size ≤ a.block) ∧ Below V.heap.size V wx)
  case first =>
    have HT := hT.next (Below.refl _ _).drew
    clear hT kV1 kV2 lV wV KS KX2 hY h0 lW wW kW1 kW2 hbw hL hb ha hb' sw hBe hV h4 KY2 hsv
    refine wpIn_wide.2 ?_
    go_region_held3 (fun w' => (w'.cell? ⟨bx, 0, none⟩ = some (.int .u64 (qa : Nat)) ∧ w'.cell? ⟨bx, 1, none⟩ = some (.int .u64 (qb : Nat)) ∧ w'.cell? ⟨bx, 2, none⟩ = some (.int .u64 (qc : Nat)) ∧ w'.cell? ⟨bx, 3, none⟩ = some (.int .u64 (qd : Nat))) ∧ w'.cell? ⟨b1, 0, none⟩ = some (.slice lo m lc) ∧ w'.cell? ⟨b2, 0, none⟩ = some (.slice wo n wcp)) (exact ⟨⟨HT.cx.cells.1, HT.cx.cells.2.1, HT.cx.cells.2.2.1, HT.cx.cells.2.2.2.1⟩, HT.k1.cell 0 rfl, HT.k2.cell 0 rfl⟩)
      (first
        | (go_at_call 75; refine (HB.out _ HT.bel).mono ?_; rintro e w5 ⟨ao5, cap5, rfl, r5, s5, hb5⟩; have HT5 := HT.bel; replace HT := HT.next hb5)
        | (go_at_call 74; have g9 := g6; refine (HR2.out _ HT.bel).mono ?_; rintro e w7 ⟨a7, c7, rfl, g7, l7, hb7⟩; have HT7 := HT.bel; replace HT := HT.next hb7)
        | (go_at_call 74; refine (HR1.out _ _ _ r5 s5).mono ?_; rintro e w6 ⟨a6, c6, rfl, g6, l6, hb6⟩; have HT6 := HT.bel; replace HT := HT.next hb6)
        | (go_at_call 73; refine (standing_any (.slice a6 m c6) (.slice a7 n c7) ⟨a6, m, c6, rfl⟩ ⟨a7, n, c7, rfl⟩ w7).mono ?_; rintro e w8 ⟨rfl, rfl⟩; have HT8 := HT.bel; replace HT := HT.next (below2 w7 (.cells #[.slice a6 m c6] 35) (.cells #[.slice a7 n c7] 35))))
    have HF : Hid _ := (⟨_, _, _, _, _, _, rfl, (Cl.new w7 35 [.slice a6 m c6]).alloc _, by have := Cl.new (w7.alloc (.cells #[.slice a6 m c6] 35)) 35 [.slice a7 n c7]; simp only [World.size_alloc] at this; exact this, (g6.below hb7).below (below2 w7 _ _), g7.below (below2 w7 _ _), ⟨by have := HT8.size; omega, by have := HT8.size; omega, fun a e => by have := l6 a e; have := HT6.size; omega, fun a e => by have := l7 a e; have := HT7.size; omega⟩, HT.bel⟩ : ∃ p1 p2 a1 c1 a2 c2, Value.func (.func 90) #[] #[.pointer (some ⟨w7.heap.size, 0, none⟩), .pointer (some ⟨w7.heap.size + 1, 0, none⟩)] = .func (.func 90) #[] #[.pointer (some ⟨p1, 0, none⟩), .pointer (some ⟨p2, 0, none⟩)] ∧ Cl ((w7.alloc (.cells #[.slice a6 m c6] 35)).alloc (.cells #[.slice a7 n c7] 35)) p1 35 [.slice a1 m c1] ∧ Cl ((w7.alloc (.cells #[.slice a6 m c6] 35)).alloc (.cells #[.slice a7 n c7] 35)) p2 35 [.slice a2 n c2] ∧ Rd ((w7.alloc (.cells #[.slice a6 m c6] 35)).alloc (.cells #[.slice a7 n c7] 35)) a1 m (fun k => rgh (boN l m) (byL l k)) ∧ Rd ((w7.alloc (.cells #[.slice a6 m c6] 35)).alloc (.cells #[.slice a7 n c7] 35)) a2 n (fun i => rgh (boN l m) (wz i)) ∧ (V.heap.size ≤ p1 ∧ V.heap.size ≤ p2 ∧ (∀ a, a1 = some a → V.heap.size ≤ a.block) ∧ ∀ a, a2 = some a → V.heap.size ≤ a.block) ∧ Below V.heap.size V ((w7.alloc (.cells #[.slice a6 m c6] 35)).alloc (.cells #[.slice a7 n c7] 35)))
    clear HT HT5 HT6 HT7 HT8 HB HR1 HR2 g6 g7 r5 s5 l6 l7 hb5 hb6 hb7
    gi_wp2
    gi_meet
    exact HF.out
  case rest =>
    obtain ⟨p1, p2, a1, c1, a2, c2, rfl, f1, f2, g1, g2, ⟨q1, q2, q3, q4⟩, hVc⟩ := hcut
    clear HB HR1 HR2 hT
    have hD := hVc.size
    have kc1 := kV1.below hVc
    have kc2 := kV2.below hVc
    have lc1 := lV.below hVc
    have wc1 := wV.below hVc
    have KSc := KS.below hVc
    have KYc := KY2.below hVc
    have hWc : Below W.heap.size W wc := hV.trans (hVc.mono hV.size)
    have l1 := f1.lt
    have l2 := f2.lt
    have hlo : 0 < l.length → ∀ a, lo = some a → a.block < W.heap.size := fun hn a e => by
      obtain ⟨b, off, e', hb, _⟩ := lW hn
      rw [e] at e'
      cases e'
      exact hb
    have hwo : 0 < n → ∀ a, wo = some a → a.block < W.heap.size := fun hn a e => by
      obtain ⟨b, off, e', hb, _⟩ := wW.at_ hn
      rw [e] at e'
      cases e'
      exact hb
    have hb1l := kW1.lt
    have hb2l := kW2.lt
    have hseq := standing_seq (d - 1) (fun k => rgh (boN l m) (byL l k)) m (fun i => rgh (boN l m) (wz i)) n a1 a2 c1 c2 p1 p2 (fun k => k = p1 ∨ k = p2 ∨ (0 < m ∧ ∃ a, a1 = some a ∧ a.block = k) ∨ (0 < n ∧ ∃ a, a2 = some a ∧ a.block = k)) wc f1 f2 g1 g2 hm hn (.inl rfl) (.inr (.inl rfl)) (fun h a e => .inr (.inr (.inl ⟨h, a, e, rfl⟩))) (fun h a e => .inr (.inr (.inr ⟨h, a, e, rfl⟩)))
    have hold : ∀ k, (k = p1 ∨ k = p2 ∨ (0 < m ∧ ∃ a, a1 = some a ∧ a.block = k) ∨ (0 < n ∧ ∃ a, a2 = some a ∧ a.block = k)) → k < wc.heap.size ∧ V.heap.size ≤ k := by
      rintro k (rfl | rfl | ⟨hn, a, e, rfl⟩ | ⟨hn, a, e, rfl⟩)
      · exact ⟨l1, q1⟩
      · exact ⟨l2, q2⟩
      · obtain ⟨b, off, e', hb, _⟩ := g1.at_ hn
        rw [e] at e'
        cases e'
        exact ⟨hb, q3 _ e⟩
      · obtain ⟨b, off, e', hb, _⟩ := g2.at_ hn
        rw [e] at e'
        cases e'
        exact ⟨hb, q4 _ e⟩
    generalize hLe : cmP (stB (fun k => rgh (boN l m) (byL l k)) m (fun i => rgh (boN l m) (wz i)) n) (n + 1 - m) = L at *
    obtain ⟨P, hP⟩ : ∃ P : Nat → Bool, P = fun p : Nat => sv || atB l wz n (p : Int) := ⟨_, rfl⟩
    have hLP : L.filter P = plL l wz n (n + 1) := by
      have e1 : cmP (stB (fun k => rgh (boN l m) (byL l k)) m (fun i => rgh (boN l m) (wz i)) n) (n + 1) = L := by
        rw [← hLe]
        exact cmP_end (by omega) fun i hi => by
          rw [Bool.eq_false_iff]
          intro h
          have := (stB_iff.1 h).1
          omega
      rw [← e1, hP, hsv]
      subst hL
      exact places_eq hb (n + 1)
    have hget : ∀ i p, L[i]? = some p → p ≤ n := fun i p h => by
      rw [← hLe] at h
      have := List.mem_of_getElem? h
      unfold cmP at this
      have := (List.mem_filter.1 this).1
      rw [List.mem_range] at this
      omega
    have P0 : QI L P l m wz n lo wo lc wcp sv ly b1 b2 W.heap.size bs wc.heap.size J 0 (fun _ => False) wc := ⟨hBe 0 _ _ W wc h0 (TurnO.of_below hWc) (fun k hk h => by rcases h with h | h; exact h; omega), KYc, KSc, kc1, kc2, lc1, wc1, fun k hk => hk.elim, Nat.le_refl _⟩
    have hBD : W.heap.size + 3 ≤ wc.heap.size := by omega
    have hBV : W.heap.size ≤ V.heap.size := hV.size
    have hbsD : W.heap.size ≤ bs ∧ bs < wc.heap.size := by omega
    have hal : ∀ a : Nat, 0 < l.length → ∀ x : Addr, lo = some x → x.block = a → Old a := fun a hn x e h => by rw [← h]; exact ha (by omega) x e
    have hHY : Hid _ := hY
    have hHBe : Hid (Bears J) := hBe
    have hHold : Hid _ := hold
    have hHget : Hid _ := hget
    have HAT : Hid (∀ A (p : Nat), RdL A lo l → Rd A wo n wz → Calls Tryd.prog 16 #[.slice lo m lc, .slice wo n wcp, .int .i64 (p : Nat)] A (fun e w' => e = .returned (.bool (atB l wz n (p : Int))) ∧ Below A.heap.size A w')) := fun A p h1 h2 => by
      have := at_any lo wo lc wcp l n wz (p : Int) A h1 h2 (by omega) (by omega) hb
      rw [hL] at this
      exact this
    clear kc1 kc2 lc1 wc1 KSc KYc hWc f1 f2 g1 g2 kV1 kV2 lV wV KS KX2 hV h4 KY2 hY hBe hold hget h0 kW1 kW2 lW wW hVc
    gi_wp2_with fail
    refine wpIn_rangeFunc_own_steps (n := d) rfl (by omega) (gf := 90) (lb := #[.pointer (some ⟨p1, 0, none⟩), .pointer (some ⟨p2, 0, none⟩)]) rfl trivial (enters_of Tryd.func90 (by kernel_rfl) rfl) (fun k => k = p1 ∨ k = p2 ∨ (0 < m ∧ ∃ a, a1 = some a ∧ a.block = k) ∨ (0 < n ∧ ∃ a, a2 = some a ∧ a.block = k)) (fun k hk => (hHold.out k hk).1) hseq (fun i O vs W h => by obtain ⟨q, _, rfl⟩ := h; rfl)
      (QI L P l m wz n lo wo lc wcp sv ly b1 b2 W.heap.size bs wc.heap.size J) ?bears ?turn P0
      (fun i O vs a' A => ∃ p, L[i]? = some p ∧ Fr69 ly b1 b2 W.heap.size bx bs p a'.tmps ∧ a'.defers = []) (fun _ _ _ _ _ _ h _ => h) ?assign ?body ?done
    case bears =>
      rintro i O O' A C hP9 ht hO'
      refine hP9.keep (hHBe.out _ _ _ A C hP9.inv (ht.mono (fun k _ h => .inl h)) (fun k hk h => ?_)) ht.size (fun k hkA hk => ?_) (fun k hk => ?_)
      · rcases h with h | h
        · exact .inl (hO' k hk h)
        · exact .inr h
      · have hkD : k < wc.heap.size := by
          rcases hk with rfl | rfl | rfl | rfl | ⟨hn, a, e, rfl⟩ | ⟨hn, a, e, rfl⟩
          · omega
          · omega
          · omega
          · omega
          · have := hlo hn a e; omega
          · have := hwo hn a e; omega
        exact ht.block k hkA (fun h => by have := hP9.own k h; omega)
      · rcases Nat.lt_or_ge k A.heap.size with h | h
        · exact hP9.own k (hO' k h hk)
        · have := hP9.sz; omega
    case turn =>
      rintro i O A C hP9 ht
      refine hP9.keep (hHBe.out _ _ _ A C hP9.inv ⟨ht.os, ht.tape, ht.output, ht.size, fun k hk hn => ht.block k hk (by
        rcases Nat.lt_or_ge k wc.heap.size with h | h
        · exact .inl h
        · exact .inr (by
            have h1 : ¬ (W.heap.size ≤ k ∧ k ≤ wc.heap.size + 1) := fun e => hn (.inr e)
            omega))⟩ (fun k _ h => h)) ht.size (fun k hkA hk => ?_) hP9.own
      have hkD : k < wc.heap.size := by
        rcases hk with rfl | rfl | rfl | rfl | ⟨hn, a, e, rfl⟩ | ⟨hn, a, e, rfl⟩
        · omega
        · omega
        · omega
        · omega
        · have := hlo hn a e; omega
        · have := hwo hn a e; omega
      exact ht.block k hkA (.inl hkD)
    case assign =>
      rintro i O vs Wc K hi hP9 ⟨q, hq, rfl⟩ hsz hO hK
      rw [hLe] at hq
      have HK : Hid (∀ tm, Fr69 ly b1 b2 W.heap.size bx bs q tm → K ⟨tm, []⟩ Wc) := fun tm h => hK _ _ ⟨Nat.le_refl _, fun _ _ _ => rfl⟩ hP9 ⟨q, hq, h, rfl⟩
      clear hK hP9 P0 hseq
      gi_wp2
      exact HK.out _ (Fr69.of _ rfl)
    case body =>
      rintro i O vs a' A hi hP9 ⟨q, hq, ⟨u, hfr⟩, hdf⟩ hsz hO
      obtain ⟨tm, dfs⟩ := a'
      dsimp only at hfr hdf
      subst hfr hdf
      unfold fr69
      have hqn := hHget.out i q hq
      have hKN : ∀ A', Below A.heap.size A A' → P q = false → KeepO (fun k => (k = p1 ∨ k = p2 ∨ (0 < m ∧ ∃ a, a1 = some a ∧ a.block = k) ∨ (0 < n ∧ ∃ a, a2 = some a ∧ a.block = k)) ∨ O k ∨ k = wc.heap.size ∨ k = wc.heap.size + 1) A A' ∧ QI L P l m wz n lo wo lc wcp sv ly b1 b2 W.heap.size bs wc.heap.size J (i + 1) O A' := fun A' hA hPq => ⟨⟨hA.size, fun k hk _ => hA.block k hk⟩, hP9.keep (by rw [cnt_no hq hPq]; exact hHBe.out _ _ _ A A' hP9.inv (TurnO.of_below hA) (fun _ _ h => h)) hA.size (fun k hk _ => hA.block k hk) hP9.own⟩
      have hKY : ∀ A', Below A.heap.size A A' → P q = true → YieldAt Fence.wide (d - 1) Tryd.prog ly #[.int .i64 (q : Nat)] A' (fun e W' => e = .returned (.bool true) ∧ KeepO (fun k => (k = p1 ∨ k = p2 ∨ (0 < m ∧ ∃ a, a1 = some a ∧ a.block = k) ∨ (0 < n ∧ ∃ a, a2 = some a ∧ a.block = k)) ∨ O k ∨ k = wc.heap.size ∨ k = wc.heap.size + 1) A W' ∧ QI L P l m wz n lo wo lc wcp sv ly b1 b2 W.heap.size bs wc.heap.size J (i + 1) O W') := by
        intro A' hA hPq
        obtain ⟨e1, e2⟩ := cnt_yes hq hPq
        have hJ8 := hHBe.out _ _ (fun k => O k ∨ (W.heap.size ≤ k ∧ k ≤ wc.heap.size + 1)) A A' hP9.inv (TurnO.of_below hA) (fun k _ h => h)
        rw [hLP] at e2
        obtain ⟨fn, tmps, assign, body, hy, hR⟩ := hHY.out (cnt L P i) _ #[.int .i64 (q : Nat)] A' (List.getElem?_eq_some_iff.1 e2).1 hJ8 ⟨q, e2, rfl⟩ (fun k hk => by
          have := hA.size
          rcases hk with h | h
          · have := (hO k h).1; omega
          · omega)
        refine ⟨fn, tmps, assign, body, hy, hR.mono ?_⟩
        rintro e W3 ⟨he, hJ3, hK3⟩
        have keep : ∀ k, k < A.heap.size → (Old k ∨ O k ∨ (W.heap.size ≤ k ∧ k ≤ wc.heap.size + 1)) → W3.heap[k]? = A.heap[k]? := fun k hk h => (hK3.2 k (Nat.lt_of_lt_of_le hk hA.size) h).trans (hA.block k hk)
        have hs3 : A.heap.size ≤ W3.heap.size := Nat.le_trans hA.size hK3.1
        refine ⟨he, ⟨hs3, fun k hk h => keep k hk ?_⟩, hP9.keep (by rw [e1]; exact hJ3) hs3 (fun k hk h => keep k hk ?_) hP9.own⟩
        · rcases h with h | h | h | h
          · have := hHold.out k h; exact .inr (.inr ⟨by omega, by omega⟩)
          · exact .inr (.inl h)
          · exact .inr (.inr ⟨by omega, by omega⟩)
          · exact .inr (.inr ⟨by omega, by omega⟩)
        · rcases h with rfl | rfl | rfl | rfl | ⟨hn, a, e, rfl⟩ | ⟨hn, a, e, rfl⟩
          · exact .inr (.inr ⟨by omega, by omega⟩)
          · exact .inr (.inr ⟨by omega, by omega⟩)
          · exact .inl h1
          · exact .inl h2
          · exact .inl (ha (by omega) a e)
          · exact .inl (hb' hn a e)
      have HKN : Hid _ := hKN
      have HKY : Hid _ := hKY
      have ds := hP9.ks.cell 0 rfl
      have dy := hP9.ky.cell 0 rfl
      have dl := hP9.k1.cell 0 rfl
      have dw := hP9.k2.cell 0 rfl
      have HA := HAT.out A q hP9.rl hP9.rw
      have HPq : Hid (P q = (sv || atB l wz n (q : Int))) := show P q = _ by rw [hP]
      have hyk := hP9.ky
      clear hKN hKY hP9 P0 hseq hP hLP hLe hq hsv hHget hHold hHY HAT
      cases sv with
      | true =>
        have hPt : P q = true := by rw [HPq.out]; rfl
        obtain ⟨fn, tmps, assign, body, hy, hR⟩ := HKY.out A (Below.refl _ _) hPt
        clear HKN HKY HPq HA hPt
        gi_wp2_with ((with_reducible refine And.intro ?_ ?_); (· exact trivial))
        refine ⟨fun hd => (by cases hd), (round_any hR).mono ?_⟩
        rintro e W3 ⟨rfl, hz⟩
        have HZ : Hid _ := hz
        clear hz hR hy
        gi_wp2
        exact HZ.out
      | false =>
        cases hat : atB l wz n (q : Int) with
        | true =>
          rw [hat] at HA
          have hPt : P q = true := by rw [HPq.out, hat]; rfl
          have HKY2 : Hid _ := fun A' hA => HKY.out A' hA hPt
          clear HKN HKY HPq hPt
          gi_wp2_with (refine ⟨trivial, fun hd => (by cases hd), ?_⟩; gi_at_call 16; refine (callsIn_wide.2 HA).mono ?_; rintro e w9 ⟨rfl, hb9⟩; have dy9 := (hyk.below hb9).cell 0 rfl; obtain ⟨fn, tmps, assign, body, hy, hR⟩ := HKY2.out w9 hb9)
          refine ⟨fun hd => (by cases hd), (round_any hR).mono ?_⟩
          rintro e W3 ⟨rfl, hz⟩
          have HZ : Hid _ := hz
          clear hz hR hy
          gi_wp2
          exact HZ.out
        | false =>
          rw [hat] at HA
          have hPf : P q = false := by rw [HPq.out, hat]; rfl
          have HKN2 : Hid _ := fun A' hA => HKN.out A' hA hPf
          clear HKN HKY HPq hPf
          gi_wp2_with (first | (refine ⟨trivial, fun hd => (by cases hd), ?_⟩; gi_at_call 16; refine (callsIn_wide.2 HA).mono ?_; rintro e w9 ⟨rfl, hb9⟩; have HZ : Hid _ := HKN2.out w9 hb9) | ((with_reducible refine And.intro ?_ ?_); (· exact fun _ _ => trivial)))
          exact HZ.out
    case done =>
      rintro O A hP9 hD9
      have hJ9 : J (plL l wz n (n + 1)).length (fun k => O k ∨ (W.heap.size ≤ k ∧ k ≤ wc.heap.size + 1)) (A.putObj wc.heap.size (.deferred none)) := by
        rw [← hLP, ← cnt_end]
        exact hHBe.out _ _ _ A _ hP9.inv ⟨rfl, rfl, rfl, by simp, fun k _ hn => World.putObj_heap_other (fun e => hn (.inr (by omega)))⟩ (fun k _ h => h)
      have HJ : Hid _ := hJ9
      clear hJ9 hP9 P0 hseq
      gi_wp2
      refine ⟨by simp, .inl ⟨_, _, rfl, run_takeDeferred hD9, ?_⟩⟩
      exact ⟨_, results_none rfl _ _ _, ⟨_, rfl⟩, _, HJ.out⟩
end Go.Proofs.YthbmfnibgjlkhaaDoor
