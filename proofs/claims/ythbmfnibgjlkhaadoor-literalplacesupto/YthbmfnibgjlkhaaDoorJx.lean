/- The iterator of the places of the parts: the walk. -/
import Derived.Test.YthbmfnibgjlkhaaDoorGTqTzBw
import Derived.Test.YthbmfnibgjlkhaaDoorGMiPq
import Derived.Test.YthbmfnibgjlkhaaDoorGMvEmGrJoRpJk
import Derived.Maps.OwnIn
import Derived.Sort.LoopGhostIn
namespace Go.Proofs.YthbmfnibgjlkhaaDoor
open Go.RowKit Go.Shelf
def rowL (st : List Nat) : List Value := st.map fun q => Value.int .i64 (q : Nat)
theorem rowL_len (st : List Nat) : (rowL st).length = st.length := by simp [rowL]
theorem rowL_app (st : List Nat) (q : Nat) : rowL (st ++ [q]) = rowL st ++ [.int .i64 (q : Nat)] := by simp [rowL]
theorem row_pop {W : World} {B : Nat} {ao : Option Addr} {n cap : Nat} {xs : List Value} {x : Value} (h : W.ownsRow B 3 1 (.slice ao (n + 1) cap) (n + 1) (xs ++ [x])) : W.ownsRow B 3 1 (.slice ao n cap) n xs := by
  rcases h.2 with ⟨h', _⟩ | ⟨g, cap', cur, e, hB, hc, hle, hmx, hsz, ht⟩
  · injection h' with e1 e2 e3; omega
  · injection e with e1 e2 e3
    subst e1 e3
    have hl : xs.length = n := by have := h.1; simp at this; omega
    refine ⟨by omega, .inr ⟨g, cap, cur, rfl, hB, hc, by omega, hmx, hsz, ?_⟩⟩
    have := congrArg (List.take n) ht
    rw [List.take_take, Nat.mul_one, Nat.min_eq_left (by omega)] at this
    rw [Nat.mul_one, this]
    rw [List.take_append_of_le_length (by omega), List.take_of_length_le (by omega)]
theorem row_top {W : World} {B : Nat} {ao : Option Addr} {n cap : Nat} {xs : List Value} {x : Value} (h : W.ownsRow B 3 1 (.slice ao (n + 1) cap) (n + 1) (xs ++ [x])) : ∃ g, ao = some ⟨g, 0, none⟩ ∧ W.cell? ⟨g, n, none⟩ = some x ∧ g < W.heap.size ∧ B ≤ g := by
  obtain ⟨g, e, hl, hB, hc, _⟩ := row_cell h (by omega)
  have hxs : xs.length = n := by have := h.1; simp at this; omega
  exact ⟨g, e, hc n x (by rw [List.getElem?_append_right (by omega)]; simp [hxs]), hl, hB⟩
theorem slice_pop50 (ao : Option Addr) (n cap x : Nat) (hx : x ≤ cap) (w : World) : (Instr.slice 42 (.slice ao n cap) none (some (.int .i64 (x : Nat))) none).run Tryd.prog w = .ok (.slice ao x cap) w := slice_to50 ao n cap x hx w
theorem row_cap3 {W : World} {B : Nat} {ao : Option Addr} {n cap : Nat} {xs : List Value} (h : W.ownsRow B 3 1 (.slice ao n cap) n xs) : n ≤ cap := by
  rcases h.2 with ⟨h', _⟩ | ⟨g, cap', cur, e, hB, hc, hle, _⟩
  · injection h' with e1 e2 e3; omega
  · injection e with e1 e2 e3; omega
/-- What stands at the head of the iterator's loop. -/
structure JS (t : Tre) (c : Int) (a : Addr) (cap b1 b2 B : Nat) (J : Nat → (Nat → Prop) → World → Prop) (st : List Nat) (i : Nat) (v : Value) (wr : World) : Prop where
  inv : J i (fun k => v.ownBlock = some k) wr
  row : wr.ownsRow B 3 1 v st.length (rowL st)
  rem : (pp c t (t.size - 1)).drop i = remS c t st
  ile : i ≤ (pp c t (t.size - 1)).length
  wle : wgt t st ≤ t.size
  lt : ∀ q ∈ st, q < t.size
  k1 : Cl wr b1 46 [.slice (some a) t.size cap]
  k2 : Cl wr b2 3 [.int .i64 c]
  rd : RdN wr (some a) t.size (nodes t)
  sz : B ≤ wr.heap.size
  own : ∀ k, v.ownBlock = some k → k < wr.heap.size ∧ k ≠ b1 ∧ k ≠ b2 ∧ k ≠ a.block
set_option maxRecDepth 100000 in
set_option maxHeartbeats 4000000 in
theorem joined_seq (m : Nat) (t : Tre) (ho : t.ok = true) (hs : t.size ≤ 2048) (c : Int) (a : Addr) (cap b1 b2 : Nat) (Old : Nat → Prop) (w : World) (k1 : Cl w b1 46 [.slice (some a) t.size cap]) (k2 : Cl w b2 3 [.int .i64 c]) (hr : RdN w (some a) t.size (nodes t)) (h1 : Old b1) (h2 : Old b2) (h3 : Old a.block) :
    SeqO Fence.wide m Tryd.prog Old 97 #[.pointer (some ⟨b1, 0, none⟩), .pointer (some ⟨b2, 0, none⟩)] (fun i _ vs _ => ∃ q : Nat, (pp c t (t.size - 1))[i]? = some q ∧ vs = #[.int .i64 (q : Nat)]) (pp c t (t.size - 1)).length w := by
  intro l J W hb _ hBe hY h0
  have px := t.size_pos
  have kW1 := k1.below hb
  have kW2 := k2.below hb
  have rW := hr.below hb
  have hlt : b1 < w.heap.size ∧ b2 < w.heap.size ∧ a.block < w.heap.size := by
    obtain ⟨bb, off, e, hlt, _⟩ := hr px
    obtain rfl := Option.some.inj e
    exact ⟨k1.lt, k2.lt, hlt⟩
  have hsW := hb.size
  obtain ⟨i0, hi, hz0, hz1, hz2⟩ := info_parts b_int
  clear k1 k2 hr hb
  simp only [List.append_toArray, List.cons_append, List.nil_append]
  refine callsIn_of_wp Tryd.func97 rfl trivial ?_ rfl
  simp only [Tryd.ntmps97, List.size_toArray, List.length_cons, List.length_nil, Nat.reduceAdd, Nat.reduceSub, Array.replicate_succ, Array.replicate_zero, List.push_toArray, List.append_toArray, List.nil_append, List.cons_append]
  have d0 := kW1.cell 0 rfl
  have hroot : tA t (t.size - 1) = t := tA_at (Tre.subs_last t)
  have hbA := below1 W (.cells #[.int .i64 ((t.size - 1 : Nat) : Int)] 3)
  have S0 : JS t c a cap b1 b2 W.heap.size J [t.size - 1] 0 (.slice (some ⟨W.heap.size, 0, none⟩) 1 1) (W.alloc (.cells #[.int .i64 ((t.size - 1 : Nat) : Int)] 3)) := by
    refine ⟨hBe 0 (fun _ => False) _ W _ h0 (TurnO.of_below hbA) (fun k hk h => ?_), ?_, ?_, Nat.zero_le _, by simp [wgt, hroot], by simp; omega, kW1.alloc _, kW2.alloc _, rW.below hbA, by simp, fun k hk => ?_⟩
    · have : k = W.heap.size := by simpa [Value.ownBlock] using h.symm
      omega
    · exact ⟨rfl, .inr ⟨W.heap.size, 1, #[.int .i64 ((t.size - 1 : Nat) : Int)], rfl, Nat.le_refl _, heap_alloc_new W _, Nat.le_refl _, by decide, rfl, rfl⟩⟩
    · simp [remS, hroot]
    · have : k = W.heap.size := by simpa [Value.ownBlock] using hk.symm
      simp; omega
  have hcast : ((t.size : Int) - 1) = ((t.size - 1 : Nat) : Int) := by omega
  gi_wp2
  clear d0 hcast
  generalize W.alloc (.cells #[.int .i64 ((t.size - 1 : Nat) : Int)] 3) = W1 at *
  gi_loopg [4] (t.size + 1) (fun k v wr => ∃ st i, wgt t st < k ∧ JS t c a cap b1 b2 W.heap.size J st i v wr)
  case atStart => exact ⟨[t.size - 1], 0, by simp [wgt, hroot], S0⟩
  case round =>
    obtain ⟨st, i, hk, S⟩ := hrel
    clear S0
    rcases List.eq_nil_or_concat st with rfl | ⟨st', q, rfl⟩
    · have hrow := S.row
      obtain ⟨ao, cv, rfl⟩ := ownsRow_slice hrow
      have hN : i = (pp c t (t.size - 1)).length := by
        have h := S.rem
        have := congrArg List.length h
        simp [remS] at this
        have := S.ile
        omega
      have HJ : Hid (∃ O, J (pp c t (t.size - 1)).length O wr) := ⟨_, by rw [← hN]; exact S.inv⟩
      clear hrow S hY h0
      gi_wp2
      go_end0
      exact ⟨⟨_, rfl⟩, HJ.out⟩
    · rw [List.concat_eq_append] at S hk
      have hrow := S.row
      rw [rowL_app, List.length_append, List.length_singleton] at hrow
      obtain ⟨ao, cv, rfl⟩ := ownsRow_slice hrow
      obtain ⟨g, rfl, hcell, hgl, hgB⟩ := row_top hrow
      have hpop := row_pop hrow
      have hcap := row_cap3 hrow
      have hq : q < t.size := S.lt q (by simp)
      obtain ⟨u, hu⟩ : ∃ u, t.subs[q]? = some u := ⟨_, List.getElem?_eq_getElem (by rw [Tre.subs_length]; exact hq)⟩
      have hnd : nodes t q = u.nd q := nodes_get hu
      have ou := subs_ok _ _ _ ho hu
      have d0 := S.k1.cell 0 rfl
      have d2 := S.k2.cell 0 rfl
      obtain ⟨bb, off, ea, hbb, hc⟩ := S.rd (by omega)
      obtain rfl := Option.some.inj ea
      obtain ⟨c0, c1, c2, c3, c4, c5, c6, c7, c8, c9⟩ := hc q hq
      have hw1 := wgt_len t (st' ++ [q])
      have hw2 := S.wle
      rw [List.length_append, List.length_singleton] at hw1
      rw [hnd] at c0 c1 c2 c3 c4 c5 c6 c7 c8 c9
      have hjo := joins_any c
      have hsl := slice_pop50 (some ⟨g, 0, none⟩) (st'.length + 1) cv st'.length (by omega)
      have hle1 : ((st'.length + 1 : Nat) : Int) > 0 := by omega
      have hle2 : (((st'.length + 1 : Nat) : Int) - 1) = (st'.length : Int) := by omega
      have hbN := below1 wr (.cells (ndL (u.nd q)).toArray 82)
      have kN := Cl.new wr 82 (ndL (u.nd q))
      have d2N := (S.k2.below hbN).cell 0 rfl
      have hOg : (Value.slice (some ⟨g, 0, none⟩) (st'.length + 1) cv).ownBlock = some g := by simp [Value.ownBlock]
      have hOg' : (Value.slice (some ⟨g, 0, none⟩) st'.length cv).ownBlock = some g := by simp [Value.ownBlock]
      obtain ⟨_, ng1, ng2, ng3⟩ := S.own g hOg
      dsimp only at ng3
      by_cases hA : ∃ x y, u = .two c x y
      · obtain ⟨x, y, rfl⟩ := hA
        obtain ⟨hxy, hy1, hx1⟩ := subs_two hu
        have px2 := x.size_pos
        have py2 := y.size_pos
        have hc34 : (c == 3 || c == 4) = true := by
          have := ou
          simp only [Tre.ok, Bool.and_eq_true] at this
          exact this.1.1
        rw [hc34] at hjo
        have hndE : (Tre.two c x y).nd (q : Int) = ⟨c, 0, 0, 0, 0, ((q - 1 - y.size : Nat) : Int), ((q - 1 : Nat) : Int), 0, 0, false⟩ := by simp only [Tre.nd]; congr 1 <;> omega
        obtain ⟨hr1, hr2⟩ := remS_two hu st'
        have HG : Hid (∀ (o o' : Obj) v' w2, w2.ownsRow W.heap.size 3 1 v' (st'.length + 2) (rowL st' ++ [.int .i64 ((q - 1 : Nat) : Int), .int .i64 ((q - 1 - y.size : Nat) : Int)]) → ((wr.alloc o).alloc o').grownBy w2 (Value.slice (some ⟨g, 0, none⟩) st'.length cv).ownBlock → (v'.ownBlock = (Value.slice (some ⟨g, 0, none⟩) st'.length cv).ownBlock ∨ v'.ownBlock = some ((wr.alloc o).alloc o').heap.size) → ∃ st i, wgt t st < wgt t (st' ++ [q]) ∧ JS t c ⟨bb, off, none⟩ cap b1 b2 W.heap.size J st i v' w2) := by
          intro o o' v' w2 g1 g2 g3
          rw [hOg'] at g2 g3
          have hb2' := below2 wr o o'
          have keep : ∀ k, k < wr.heap.size → k ≠ g → w2.heap[k]? = wr.heap[k]? := fun k hk hne => (g2.block k (by simp; omega) (fun e => hne (by simpa using e))).trans (hb2'.block k hk)
          have hs2 : wr.heap.size ≤ w2.heap.size := Nat.le_trans hb2'.size g2.size
          have hown2 : ∀ k, v'.ownBlock = some k → k = g ∨ wr.heap.size < k := fun k hk => by
            rcases g3 with h | h
            · rw [hk] at h; exact .inl (Option.some.inj h)
            · rw [hk] at h
              have := Option.some.inj h
              simp at this
              exact .inr (by omega)
          have hlt2 : ∀ k, v'.ownBlock = some k → k < w2.heap.size := fun k hk => by
            rcases g1.2 with ⟨h', _⟩ | ⟨g', cap', cur, e', hB', hc', _⟩
            · rw [h'] at hk; cases hk
            · rw [e'] at hk
              have : g' = k := by simpa [Value.ownBlock] using hk
              rw [← this]
              exact (Array.getElem?_eq_some_iff.1 hc').1
          refine ⟨st' ++ [q - 1] ++ [q - 1 - y.size], i, by omega, hBe i _ _ wr w2 S.inv ⟨g2.os.trans hb2'.os, g2.tape.trans hb2'.tape, g2.output.trans hb2'.output, hs2, fun k hk hne => keep k hk (fun e => hne (by rw [e]; exact hOg))⟩ (fun k hk h => ?_), ?_, by rw [hr1]; exact S.rem, S.ile, by omega, ?_, ?_, ?_, ?_, by have := S.sz; omega, fun k hk => ?_⟩
          · rcases hown2 k h with e | e
            · rw [e]; exact hOg
            · omega
          · have e1 : (st' ++ [q - 1] ++ [q - 1 - y.size]).length = st'.length + 2 := by simp
            have e2 : rowL (st' ++ [q - 1] ++ [q - 1 - y.size]) = rowL st' ++ [.int .i64 ((q - 1 : Nat) : Int), .int .i64 ((q - 1 - y.size : Nat) : Int)] := by rw [rowL_app, rowL_app]; simp
            rw [e1, e2]
            exact g1
          · intro q' hq'
            simp only [List.mem_append, List.mem_singleton] at hq'
            rcases hq' with (h | rfl) | rfl
            · exact S.lt q' (by simp [h])
            · omega
            · omega
          · unfold Cl; rw [keep b1 S.k1.lt ng1.symm]; exact S.k1
          · unfold Cl; rw [keep b2 S.k2.lt ng2.symm]; exact S.k2
          · intro hn
            refine ⟨bb, off, rfl, by omega, fun p hp => ?_⟩
            have q0 : ∀ j, w2.cell? ⟨bb, j, none⟩ = wr.cell? ⟨bb, j, none⟩ := fun j => by simp only [World.cell?, keep bb hbb ng3.symm]
            rw [q0, q0, q0, q0, q0, q0, q0, q0, q0, q0]
            exact hc p hp
          · have := hlt2 k hk
            have l1 := S.k1.lt
            have l2 := S.k2.lt
            rcases hown2 k hk with e | e
            · rw [e] at this ⊢; exact ⟨this, ng1, ng2, ng3⟩
            · exact ⟨this, by omega, by omega, by dsimp only; omega⟩
        have HR : Hid (∀ (o o' : Obj), ((wr.alloc o).alloc o').ownsRow W.heap.size 3 1 (.slice (some ⟨g, 0, none⟩) st'.length cv) st'.length (rowL st') ∧ W.heap.size ≤ ((wr.alloc o).alloc o').heap.size) := fun o o' => ⟨ownsRow_below hpop (below2 wr o o'), by have := S.sz; simp; omega⟩
        have HN : Hid (∀ (o : Obj) j u, [Value.int .i64 ((q - 1 : Nat) : Int), .int .i64 ((q - 1 - y.size : Nat) : Int)][j]? = some u → ((wr.alloc o).alloc (.cells #[.int .i64 ((q - 1 : Nat) : Int), .int .i64 ((q - 1 - y.size : Nat) : Int)] 3)).cell? (Addr.add ⟨wr.heap.size + 1, 0, none⟩ j) = some u) := fun o j u hj => by
          have k9 := Cl.new (wr.alloc o) 3 [.int .i64 ((q - 1 : Nat) : Int), .int .i64 ((q - 1 - y.size : Nat) : Int)]
          simp only [World.size_alloc] at k9
          have hjl := (List.getElem?_eq_some_iff.1 hj).1
          have := k9.cell j hj
          have e : Addr.add ⟨wr.heap.size + 1, 0, none⟩ j = ⟨wr.heap.size + 1, j, none⟩ := by
            by_cases h0 : j = 0
            · subst h0; simp [Addr.add]
            · simp [Addr.add, h0]
          rw [e]; exact this
        have hkk : wgt t (st' ++ [q]) < _ := hk
        rw [hndE] at c0 c1 c2 c3 c4 c5 c6 c7 c8 c9 kN d2N hbN
        clear hY h0 hc S hrow hpop hr1 hr2 hu hy1 hx1 ou hw1
        unfold ndL at kN d2N hbN
        obtain ⟨⟨f0, f1, f2, f3, f4, f5, f6, f7, f8, f9⟩, _⟩ := kN.ten
        have hcc : (c == c) = true := by simp
        have hlen3 : st'.length + 2 ≤ 4100 := by rw [wgt_app] at hw2; have := wgt_len t st'; omega
        generalize q - 1 - y.size = pa at *
        generalize q - 1 = pb at *
        gi_wp2_with (first | (gi_at_builtin; refine wpListIn_append_own_at _ rfl _ _ 42 rfl W.heap.size 3 i0 _ 1 8 Tryd.underlying42 hi hz0 hz1 hz2 rfl (by decide) _ _ _ rfl (HR.out _ _).1 ⟨wr.heap.size + 1, 0, none⟩ 2 2 [.int .i64 (pb : Nat), .int .i64 (pa : Nat)] rfl rfl (HN.out _) (by simp [Value.oneCell']) (by unfold maxLen; omega) (by omega) (HR.out _ _).2 ?_; intro v' w2 hown hgr hnil' hat; have HY : Hid _ := HG.out _ _ v' w2 hown hgr hat; clear hown hgr hnil' hat) | (refine ⟨trivial, fun hd => (by cases hd), ?_⟩; gi_at_call 98; refine (callsIn_wide.2 (hjo _)).mono ?_; rintro e w3 ⟨rfl, rfl⟩))
        gi_roundg (wgt t (st' ++ [q]))
        case rel => exact HY.out
        case measure => exact hkk
      · have hno : ((c == 3 || c == 4) && ((u.nd q).k == c)) = false := by
          rw [Bool.eq_false_iff]
          intro h
          simp only [Bool.and_eq_true, Bool.or_eq_true, beq_iff_eq] at h
          obtain ⟨hc34, hkc⟩ := h
          cases u with
          | leaf n =>
            have := lf_kind ou
            simp only [Tre.nd] at hkc
            omega
          | rep x l m z =>
            simp only [Tre.nd] at hkc
            omega
          | two k x y =>
            simp only [Tre.nd] at hkc
            subst hkc
            exact hA ⟨x, y, rfl⟩
        have hpp : pp c (tA t q) q = [q] := by rw [tA_at hu]; exact pp_one fun x y e => hA ⟨x, y, e⟩
        have hrem := S.rem
        rw [remS_app, hpp] at hrem
        have hil : i < (pp c t (t.size - 1)).length := by
          rcases Nat.lt_or_ge i (pp c t (t.size - 1)).length with h | h
          · exact h
          · rw [List.drop_eq_nil_of_le h] at hrem; cases hrem
        have hget : (pp c t (t.size - 1))[i]? = some q := by
          have := congrArg (fun l => l[0]?) hrem
          simpa using this
        have hdrop : (pp c t (t.size - 1)).drop (i + 1) = remS c t st' := by
          have := congrArg (List.drop 1) hrem
          simpa [List.drop_drop, Nat.add_comm] using this
        have hJ1 := hBe i _ (fun k => (Value.slice (some ⟨g, 0, none⟩) (st'.length + 1) cv).ownBlock = some k) wr _ S.inv (TurnO.of_below hbN) (fun _ _ h => h)
        obtain ⟨fn, tmps, assign, body, hy, hR⟩ := hY i _ #[.int .i64 (q : Nat)] _ hil hJ1 ⟨q, hget, rfl⟩ (fun k hk => by
          have := (S.own k hk).1
          simp; omega)
        have HZ : Hid (∀ W3, J (i + 1) (fun k => (Value.slice (some ⟨g, 0, none⟩) (st'.length + 1) cv).ownBlock = some k) W3 → KeepO (fun k => Old k ∨ (Value.slice (some ⟨g, 0, none⟩) (st'.length + 1) cv).ownBlock = some k) (wr.alloc (.cells (ndL (u.nd q)).toArray 82)) W3 → ∃ st i, wgt t st < wgt t (st' ++ [q]) ∧ JS t c ⟨bb, off, none⟩ cap b1 b2 W.heap.size J st i (.slice (some ⟨g, 0, none⟩) st'.length cv) W3) := by
          intro W3 hJ3 hK3
          have hsz3 := hK3.1
          simp only [World.size_alloc] at hsz3
          have keep : ∀ k, k < wr.heap.size → (Old k ∨ k = g) → W3.heap[k]? = wr.heap[k]? := fun k hk ho => (hK3.2 k (by simp; omega) (ho.imp id (fun e => by rw [e]; exact hOg))).trans (hbN.block k hk)
          refine ⟨st', i + 1, by rw [wgt_app]; have := (tA t q).size_pos; omega, ?_, ?_, hdrop, hil, by rw [wgt_app] at hw2; omega, fun q' hq' => S.lt q' (by simp [hq']), ?_, ?_, ?_, by have := S.sz; omega, fun k hk => ?_⟩
          · have e : (fun k => (Value.slice (some ⟨g, 0, none⟩) st'.length cv).ownBlock = some k) = (fun k => (Value.slice (some ⟨g, 0, none⟩) (st'.length + 1) cv).ownBlock = some k) := by funext k; rw [hOg, hOg']
            rw [e]; exact hJ3
          · rcases hpop.2 with ⟨h', _⟩ | ⟨g', cap', cur, e', hB', hc', r'⟩
            · cases h'
            · refine ⟨hpop.1, .inr ⟨g', cap', cur, e', hB', ?_, r'⟩⟩
              have eg : g' = g := by injection e' with e1; injection e1 with e1; injection e1 with e1; exact e1.symm
              rw [keep g' (by rw [eg]; exact hgl) (.inr eg)]
              exact hc'
          · unfold Cl; rw [keep b1 S.k1.lt (.inl h1)]; exact S.k1
          · unfold Cl; rw [keep b2 S.k2.lt (.inl h2)]; exact S.k2
          · intro hn
            refine ⟨bb, off, rfl, by omega, fun p hp => ?_⟩
            have q0 : ∀ j, W3.cell? ⟨bb, j, none⟩ = wr.cell? ⟨bb, j, none⟩ := fun j => by simp only [World.cell?, keep bb hbb (.inl h3)]
            rw [q0, q0, q0, q0, q0, q0, q0, q0, q0, q0]
            exact hc p hp
          · rw [hOg'] at hk
            obtain rfl := Option.some.inj hk
            exact ⟨by omega, ng1, ng2, ng3⟩
        have hkk : wgt t (st' ++ [q]) < _ := hk
        clear hJ1 hget hdrop hrem hpp hil hA ou hu hY h0 hc S hrow hpop
        unfold ndL at kN d2N HZ hbN hy hR
        obtain ⟨⟨f0, f1, f2, f3, f4, f5, f6, f7, f8, f9⟩, _⟩ := kN.ten
        generalize u.nd q = nq at *
        cases hj : (c == 3 || c == 4) with
        | true =>
          rw [hj, Bool.true_and] at hno
          rw [hj] at hjo
          gi_wp2_with (refine ⟨trivial, fun hd => (by cases hd), ?_⟩; gi_at_call 98; refine (callsIn_wide.2 (hjo _)).mono ?_; rintro e w3 ⟨rfl, rfl⟩)
          refine ⟨fun hd => (by cases hd), hR.mono ?_⟩
          rintro e W3 ⟨rfl, hJ3, hk3⟩
          have HY : Hid _ := HZ.out W3 hJ3 hk3
          clear f0 f1 f2 f3 f4 f5 f6 f7 f8 f9 hR hy hJ3 hk3
          gi_wp2
          gi_roundg (wgt t (st' ++ [q]))
          case rel => exact HY.out
          case measure => exact hkk
        | false =>
          rw [hj] at hjo
          gi_wp2_with (refine ⟨trivial, fun hd => (by cases hd), ?_⟩; gi_at_call 98; refine (callsIn_wide.2 (hjo _)).mono ?_; rintro e w3 ⟨rfl, rfl⟩)
          refine ⟨fun hd => (by cases hd), hR.mono ?_⟩
          rintro e W3 ⟨rfl, hJ3, hk3⟩
          have HY : Hid _ := HZ.out W3 hJ3 hk3
          clear f0 f1 f2 f3 f4 f5 f6 f7 f8 f9 hR hy hJ3 hk3
          gi_wp2
          gi_roundg (wgt t (st' ++ [q]))
          case rel => exact HY.out
          case measure => exact hkk
end Go.Proofs.YthbmfnibgjlkhaaDoor
