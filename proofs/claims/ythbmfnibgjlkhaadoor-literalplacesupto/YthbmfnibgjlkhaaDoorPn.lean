/- The iterator of Parts: the walk. -/
import Derived.Test.YthbmfnibgjlkhaaDoorGIxPmRdPo
import Derived.Sort.CutIn
import Derived.Test.YthbmfnibgjlkhaaDoorMc
import Derived.Test.YthbmfnibgjlkhaaDoorSc
import Derived.BigRegionIn
import Derived.Sort.BigQuietIn
namespace Go.Proofs.YthbmfnibgjlkhaaDoor
open Go.RowKit Go.Shelf
attribute [local go_sem] Oper.semAt_some
def fr62 (l b2 b3 b5 b4 : Nat) (q : Nat) (u : Nat → Value) : Array Value := #[.func (.yield l) #[] #[], .pointer (some ⟨b2, 0, none⟩), .pointer (some ⟨b3, 0, none⟩), .pointer (some ⟨b5, 0, none⟩), .pointer (some ⟨b4, 0, none⟩), .int .i64 (q : Nat), u 6, u 7, u 8, u 9, u 10, u 11, u 12, u 13, u 14, u 15, u 16, u 17, u 18, u 19, u 20]
def fr62b (l b2 b3 b5 b4 : Nat) (q : Nat) (u v : Nat → Value) : Array Value := #[.func (.yield l) #[] #[], .pointer (some ⟨b2, 0, none⟩), .pointer (some ⟨b3, 0, none⟩), .pointer (some ⟨b5, 0, none⟩), .pointer (some ⟨b4, 0, none⟩), .int .i64 (q : Nat), u 6, u 7, u 8, u 9, u 10, v 11, v 12, v 13, v 14, v 15, v 16, v 17, v 18, v 19, v 20]
def Frb (l b2 b3 b5 b4 q : Nat) (u : Nat → Value) (tm : Array Value) : Prop := ∃ v, tm = fr62b l b2 b3 b5 b4 q u v
theorem Frb.of {l b2 b3 b5 b4 q : Nat} {u : Nat → Value} (tm : Array Value) (h : tm = fr62b l b2 b3 b5 b4 q u (nth tm.toList)) : Frb l b2 b3 b5 b4 q u tm := ⟨_, h⟩
def Fr62 (l b2 b3 b5 b4 q : Nat) (tm : Array Value) : Prop := ∃ u, tm = fr62 l b2 b3 b5 b4 q u
theorem Fr62.of {l b2 b3 b5 b4 q : Nat} (tm : Array Value) (h : tm = fr62 l b2 b3 b5 b4 q (nth tm.toList)) : Fr62 l b2 b3 b5 b4 q tm := ⟨_, h⟩
/-- What the iterator of Parts gives. -/
def VPa (w : World) (x : Tre) (c : Int) (i : Nat) (O : Nat → Prop) (vs : Array Value) (W : World) : Prop := ∃ u g cap, (pt c x)[i]? = some u ∧ vs = #[.agg #[.slice (some ⟨g, 0, none⟩) u.size cap]] ∧ RdN W (some ⟨g, 0, none⟩) u.size (nodes u) ∧ u.size ≤ cap ∧ ¬ O g ∧ w.heap.size + 2 ≤ g ∧ g < W.heap.size
/-- What each operation of the round answers. -/
def vP (l q fr bf : Nat) (x : Tre) (ac : Addr) (ca : Nat) : Nat → Value
  | 0 => .func (.yield l) #[] #[]
  | 1 => .agg #[.slice (some ac) x.size ca]
  | 2 => .slice (some ⟨bf, 0, none⟩) x.size x.size
  | 3 => .int .i64 (q : Nat)
  | 4 => .pointer (some ⟨bf, q, none⟩)
  | 5 => .int .i64 (fr : Nat)
  | 6 => .int .i64 (q : Nat)
  | 8 => .bool true
  | _ => .bool false
def VP (N0 l q fr bf : Nat) (x u : Tre) (ac : Addr) (ca : Nat) (j : Nat) (v : Value) (d : Array Bool) (w : World) : Prop :=
  if j = 7 then ∃ g cap, v = .agg #[.slice (some ⟨g, 0, none⟩) u.size cap] ∧ u.size ≤ cap ∧ N0 ≤ g ∧ (d.getD 8 false = false → RdN w (some ⟨g, 0, none⟩) u.size (nodes u) ∧ g < w.heap.size) else v = vP l q fr bf x ac ca j
theorem VP.go {N0 l q fr bf : Nat} {x u : Tre} {ac : Addr} {ca : Nat} {j : Nat} {v : Value} {d d' : Array Bool} {w w' : World} (h : VP N0 l q fr bf x u ac ca j v d w) (hg : (d'.getD 8 false = false → d.getD 8 false = false) ∧ (d'.getD 8 false = true ∨ Below w.heap.size w w')) : VP N0 l q fr bf x u ac ca j v d' w' := by
  unfold VP at h ⊢
  by_cases h7 : j = 7
  · rw [if_pos h7] at h ⊢
    obtain ⟨g, cap, e, hc, hn0, hr⟩ := h
    refine ⟨g, cap, e, hc, hn0, fun h8 => ?_⟩
    rcases hg.2 with h' | h'
    · rw [h8] at h'; cases h'
    · obtain ⟨r1, r2⟩ := hr (hg.1 h8)
      exact ⟨r1.below h', Nat.lt_of_lt_of_le r2 h'.size⟩
  · rw [if_neg h7] at h ⊢
    exact h
theorem VP.is {N0 l q fr bf : Nat} {x u : Tre} {ac : Addr} {ca : Nat} {j : Nat} {v : Value} {d : Array Bool} {w : World} (h : VP N0 l q fr bf x u ac ca j v d w) (hj : j ≠ 7) : v = vP l q fr bf x ac ca j := by
  unfold VP at h
  rwa [if_neg hj] at h
theorem VP.of {N0 l q fr bf : Nat} {x u : Tre} {ac : Addr} {ca : Nat} {j : Nat} {d : Array Bool} {w : World} (hj : j ≠ 7) : VP N0 l q fr bf x u ac ca j (vP l q fr bf x ac ca j) d w := by
  unfold VP
  rw [if_neg hj]
theorem set8_ne {d : Array Bool} {i : Nat} (h : i ≠ 8) : (d.setIfInBounds i true).getD 8 false = d.getD 8 false := by
  simp only [Array.getD_eq_getD_getElem?, Array.getElem?_setIfInBounds_ne h]
theorem set8_eq {d : Array Bool} (h : 8 < d.size) : (d.setIfInBounds 8 true).getD 8 false = true := by
  simp only [Array.getD_eq_getD_getElem?, Array.getElem?_setIfInBounds_self_of_lt h]; rfl
/-- What stands within its loop. -/
structure PI (x : Tre) (c : Int) (l b b2 b5 b4 bf : Nat) (ac : Addr) (ca : Nat) (J : Nat → (Nat → Prop) → World → Prop) (i : Nat) (O : Nat → Prop) (W : World) : Prop where
  inv : J i (fun k => O k ∨ (b4 ≤ k ∧ k ≤ b + 1)) W
  k4 : Cl W b4 58 [.func (.yield l) #[] #[]]
  k2 : Cl W b2 48 [.slice (some ac) x.size ca]
  k5 : Cl W b5 42 [.slice (some ⟨bf, 0, none⟩) x.size x.size]
  kf : Cl W bf 3 (ints (stF x) x.size)
  rd : RdN W (some ac) x.size (nodes x)
  own : ∀ k, O k → b ≤ k
  sz : b ≤ W.heap.size
theorem RdN.at_blocks {A B : World} {a : Addr} {n : Nat} {F : Nat → Nd} (h : RdN A (some a) n F) (hk : B.heap[a.block]? = A.heap[a.block]?) (hs : A.heap.size ≤ B.heap.size) : RdN B (some a) n F := by
  intro hn
  obtain ⟨b, off, e, hb, hc⟩ := h hn
  obtain rfl := Option.some.inj e
  refine ⟨b, off, rfl, Nat.lt_of_lt_of_le hb hs, fun k hkn => ?_⟩
  have q : ∀ i, B.cell? ⟨b, i, none⟩ = A.cell? ⟨b, i, none⟩ := fun i => by simp only [World.cell?]; rw [hk]
  rw [q, q, q, q, q, q, q, q, q, q]
  exact hc k hkn
theorem PI.keep {x : Tre} {c : Int} {l b b2 b5 b4 bf : Nat} {ac : Addr} {ca : Nat} {J : Nat → (Nat → Prop) → World → Prop} {i i' : Nat} {O O' : Nat → Prop} {A B : World} (h : PI x c l b b2 b5 b4 bf ac ca J i O A) (hJ : J i' (fun k => O' k ∨ (b4 ≤ k ∧ k ≤ b + 1)) B) (hs : A.heap.size ≤ B.heap.size) (hk : ∀ k, k = b4 ∨ k = b2 ∨ k = b5 ∨ k = bf ∨ k = ac.block → B.heap[k]? = A.heap[k]?) (hO : ∀ k, O' k → b ≤ k) : PI x c l b b2 b5 b4 bf ac ca J i' O' B :=
  ⟨hJ, by unfold Cl; rw [hk b4 (.inl rfl)]; exact h.k4, by unfold Cl; rw [hk b2 (.inr (.inl rfl))]; exact h.k2, by unfold Cl; rw [hk b5 (.inr (.inr (.inl rfl)))]; exact h.k5, by unfold Cl; rw [hk bf (.inr (.inr (.inr (.inl rfl))))]; exact h.kf, h.rd.at_blocks (hk _ (.inr (.inr (.inr (.inr rfl))))) hs, hO, Nat.le_trans h.sz hs⟩
set_option maxRecDepth 100000 in
set_option maxHeartbeats 4000000 in
theorem parts_seq (m : Nat) (hm : 2 ≤ m) (x : Tre) (ox : x.ok = true) (sx : x.size ≤ 2048) (c : Int) (b2 b3 b5 bf : Nat) (ac : Addr) (ca : Nat) (Old : Nat → Prop) (w : World) (k2 : Cl w b2 48 [.slice (some ac) x.size ca]) (hr : RdN w (some ac) x.size (nodes x)) (hca : x.size ≤ ca) (k3 : Cl w b3 3 [.int .i64 c]) (k5 : Cl w b5 42 [.slice (some ⟨bf, 0, none⟩) x.size x.size]) (kf : Cl w bf 3 (ints (stF x) x.size)) (h2 : Old b2) (h5 : Old b5) (hf : Old bf) (ha : Old ac.block) :
    SeqO Fence.wide m Tryd.prog Old 80 #[.pointer (some ⟨b2, 0, none⟩), .pointer (some ⟨b3, 0, none⟩), .pointer (some ⟨b5, 0, none⟩)] (VPa w x c) (pt c x).length w := by
  intro l J W hb hWs hBe hY h0
  have px := x.size_pos
  have kW2 := k2.below hb
  have kW3 := k3.below hb
  have kW5 := k5.below hb
  have kWf := kf.below hb
  have rW := hr.below hb
  have hac : ac.block < W.heap.size := by
    obtain ⟨bb, off, e, hlt, _⟩ := rW px
    obtain rfl := Option.some.inj e
    exact hlt
  clear k2 k3 k5 kf hr hb
  simp only [List.append_toArray, List.cons_append, List.nil_append]
  refine callsIn_of_wp_marks Tryd.func80 rfl trivial ?_ rfl
  simp only [Tryd.ntmps80, List.size_toArray, List.length_cons, List.length_nil, Nat.reduceAdd, Nat.reduceSub, Array.replicate_succ, Array.replicate_zero, List.push_toArray, List.append_toArray, List.nil_append, List.cons_append]
  have hbA := below1 W (.cells #[.func (.yield l) #[] #[]] 58)
  have d2 := (kW2.alloc (.cells #[.func (.yield l) #[] #[]] 58)).cell 0 rfl
  have d3 := (kW3.alloc (.cells #[.func (.yield l) #[] #[]] 58)).cell 0 rfl
  gi_wp2_with (refine ⟨trivial, fun hd => (by cases hd), ?_⟩; gi_at_call 81; refine (callsIn_wide.2 (joined_mk _ _ _ _ _)).mono ?_; rintro e w2 ⟨rfl, rfl⟩)
  clear d2 d3
  have K4 := Cl.new W 58 [.func (.yield l) #[] #[]]
  have hs3 : (((W.alloc (.cells #[.func (.yield l) #[] #[]] 58)).alloc (.cells #[.slice (some ac) x.size ca] 46)).alloc (.cells #[.int .i64 c] 3)).heap.size = W.heap.size + 3 := by simp
  have hbW : Below W.heap.size W (((W.alloc (.cells #[.func (.yield l) #[] #[]] 58)).alloc (.cells #[.slice (some ac) x.size ca] 46)).alloc (.cells #[.int .i64 c] 3)) := (hbA.alloc (by simp) _).alloc (by simp; omega) _
  have q1 := (Cl.new (W.alloc (.cells #[.func (.yield l) #[] #[]] 58)) 46 [.slice (some ac) x.size ca]).alloc (.cells #[.int .i64 c] 3)
  have q2 := Cl.new ((W.alloc (.cells #[.func (.yield l) #[] #[]] 58)).alloc (.cells #[.slice (some ac) x.size ca] 46)) 3 [.int .i64 c]
  simp only [World.size_alloc] at q1 q2
  have K4' := (K4.alloc (.cells #[.slice (some ac) x.size ca] 46)).alloc (.cells #[.int .i64 c] 3)
  generalize (((W.alloc (.cells #[.func (.yield l) #[] #[]] 58)).alloc (.cells #[.slice (some ac) x.size ca] 46)).alloc (.cells #[.int .i64 c] 3)) = V at *
  have P0 : PI x c l V.heap.size b2 b5 W.heap.size bf ac ca J 0 (fun _ => False) V := ⟨hBe 0 _ _ W V h0 (TurnO.of_below hbW) (fun k hk h => by rcases h with h | h; exact h; omega), K4', kW2.below hbW, kW5.below hbW, kWf.below hbW, rW.below hbW, fun k hk => hk.elim, Nat.le_refl _⟩
  have hseq := joined_seq (m - 1) x ox sx c ac ca (W.heap.size + 1) (W.heap.size + 1 + 1) (fun k => k = W.heap.size + 1 ∨ k = W.heap.size + 1 + 1 ∨ k = ac.block) V q1 q2 (rW.below hbW) (.inl rfl) (.inr (.inl rfl)) (.inr (.inr rfl))
  have hblk : b2 < W.heap.size ∧ b5 < W.heap.size ∧ bf < W.heap.size := ⟨kW2.lt, kW5.lt, kWf.lt⟩
  refine wpIn_rangeFunc_own_steps (n := m) rfl (by omega) (gf := 97) (lb := #[.pointer (some ⟨W.heap.size + 1, 0, none⟩), .pointer (some ⟨W.heap.size + 1 + 1, 0, none⟩)]) rfl trivial (enters_of Tryd.func97 (by kernel_rfl) rfl) (fun k => k = W.heap.size + 1 ∨ k = W.heap.size + 1 + 1 ∨ k = ac.block) (fun k hk => by rw [hs3]; rcases hk with h | h | h <;> omega) hseq (fun i O vs W h => by obtain ⟨q, _, rfl⟩ := h; rfl)
    (PI x c l V.heap.size b2 b5 W.heap.size bf ac ca J) ?bears ?turn P0
    (fun i _ vs a' Wc => ∃ q : Nat, (pp c x (x.size - 1))[i]? = some q ∧ Fr62 l b2 b3 b5 W.heap.size q a'.tmps ∧ a'.defers = []) (fun _ _ _ _ _ _ h _ => h) ?assign ?body ?done
  case bears =>
    rintro i O O' A B hP ht hO'
    refine hP.keep (hBe i _ _ A B hP.inv (ht.mono (fun k _ h => .inl h)) (fun k hk h => ?_)) ht.size (fun k hk => ?_) (fun k hk => ?_)
    · rcases h with h | h
      · exact .inl (hO' k hk h)
      · exact .inr h
    · have hkl : k < V.heap.size := by rw [hs3]; rcases hk with h | h | h | h | h <;> omega
      exact ht.block k (Nat.lt_of_lt_of_le hkl hP.sz) (fun h => by have := hP.own k h; omega)
    · rcases Nat.lt_or_ge k A.heap.size with h | h
      · exact hP.own k (hO' k h hk)
      · have := hP.sz; omega
  case turn =>
    rintro i O A B hP ht
    refine hP.keep (hBe i _ _ A B hP.inv ⟨ht.os, ht.tape, ht.output, ht.size, fun k hk hn => ht.block k hk (by
      rcases Nat.lt_or_ge k V.heap.size with h | h
      · exact .inl h
      · exact .inr (by
          have h1 : ¬ (W.heap.size ≤ k ∧ k ≤ V.heap.size + 1) := fun e => hn (.inr e)
          omega))⟩ (fun k _ h => h)) ht.size (fun k hk => ?_) hP.own
    have hkl : k < V.heap.size := by rw [hs3]; rcases hk with h | h | h | h | h <;> omega
    exact ht.block k (Nat.lt_of_lt_of_le hkl hP.sz) (.inl hkl)
  case assign =>
    rintro i O vs Wc K hi hP ⟨q, hq, rfl⟩ hsz hO hK
    have HK : Hid (∀ tm, Fr62 l b2 b3 b5 W.heap.size q tm → K ⟨tm, []⟩ Wc) := fun tm h => hK _ _ ⟨Nat.le_refl _, fun _ _ _ => rfl⟩ hP ⟨q, hq, h, rfl⟩
    clear hK hP P0 hseq hY h0
    gi_wp2
    exact HK.out _ (Fr62.of _ rfl)
  case body =>
    rintro i O vs a' Wc hi hP ⟨q, hq, ⟨u, hfr⟩, hdf⟩ hsz hO
    obtain ⟨tm, dfs⟩ := a'
    dsimp only at hfr hdf
    subst hfr hdf
    unfold fr62
    gi_wp2
    have hpl := pp_at c x x (x.size - 1) (Tre.subs_last x) i q hq
    obtain ⟨uT, hpt, hsub⟩ := hpl
    have hqx : q < x.size := by have := (List.getElem?_eq_some_iff.1 hsub).1; rwa [Tre.subs_length] at this
    have hus := (subs_sub x q uT hsub).1
    have pu := uT.size_pos
    have hst : stF x q = ((q + 1 - uT.size : Nat) : Int) := by rw [stF_at hsub]; omega
    have hiN : i < (pt c x).length := (List.getElem?_eq_some_iff.1 hpt).1
    obtain ⟨bb, off, eac, hbb, _⟩ := hP.rd (by omega)
    obtain rfl := Option.some.inj eac
    gi_cut [20] from 11 (fun v wx => v = .bool false ∧ J (i + 1) (fun k => O k ∨ (W.heap.size ≤ k ∧ k ≤ V.heap.size + 1)) wx ∧ Wc.heap.size ≤ wx.heap.size ∧ ∀ k, k < Wc.heap.size → (Old k ∨ O k ∨ (W.heap.size ≤ k ∧ k ≤ V.heap.size + 1)) → wx.heap[k]? = Wc.heap[k]?)
    case first =>
      refine wpIn_region_inv (by kernel_rfl) (fun d w' => (d.getD 8 false = false → Below Wc.heap.size Wc w') ∧ (d.getD 8 false = true → J (i + 1) (fun k => O k ∨ (W.heap.size ≤ k ∧ k ≤ V.heap.size + 1)) w' ∧ Wc.heap.size ≤ w'.heap.size ∧ ∀ k, k < Wc.heap.size → (Old k ∨ O k ∨ (W.heap.size ≤ k ∧ k ≤ V.heap.size + 1)) → w'.heap[k]? = Wc.heap[k]?)) (VP Wc.heap.size l q (q + 1 - uT.size) bf x uT ⟨bb, off, none⟩ ca) (fun a => Frb l b2 b3 b5 W.heap.size q u a.tmps ∧ a.defers = []) (fun d w' d' w'' => (d'.getD 8 false = false → d.getD 8 false = false) ∧ (d'.getD 8 false = true ∨ Below w'.heap.size w' w'')) (fun j v d w1 d' w2 h hg => h.go hg) ?hF ?hd ?he ⟨fun _ => (Below.refl _ _).drew, fun h => by simp at h⟩ ⟨⟨u, rfl⟩, rfl⟩ ?hstep ?hend
      case hF =>
        rintro j o d v ⟨tm, dfs⟩ ho hd ⟨⟨u', hu'⟩, hdf'⟩
        dsimp only at hu' hdf'
        subst hu' hdf'
        have hj := (Array.getElem?_eq_some_iff.1 ho).1
        simp only [List.size_toArray, List.length_cons, List.length_nil, Nat.zero_add, Nat.reduceAdd] at hj
        rcases ten hj with rfl | rfl | rfl | rfl | rfl | rfl | rfl | rfl | rfl | rfl
        all_goals
          simp only [List.getElem?_toArray, List.getElem?_cons_zero, List.getElem?_cons_succ, Option.some.injEq] at ho
          subst ho
          simp only [Option.some.injEq] at hd
          subst hd
          exact ⟨⟨Frb.of _ rfl, rfl⟩, by simp [fr62b]⟩
      case hd =>
        intro i' j' oi oj d hi' hj' hdi hdj
        have li := (Array.getElem?_eq_some_iff.1 hi').1
        have lj := (Array.getElem?_eq_some_iff.1 hj').1
        simp only [List.size_toArray, List.length_cons, List.length_nil, Nat.zero_add, Nat.reduceAdd] at li lj
        clear hP hq hsub hpt P0 hseq hY h0
        rcases ten li with rfl | rfl | rfl | rfl | rfl | rfl | rfl | rfl | rfl | rfl
        all_goals
          simp only [List.getElem?_toArray, List.getElem?_cons_zero, List.getElem?_cons_succ, Option.some.injEq] at hi'
          subst hi'
          simp only [Option.some.injEq] at hdi
          subst hdi
          rcases ten lj with rfl | rfl | rfl | rfl | rfl | rfl | rfl | rfl | rfl | rfl
          all_goals
            simp only [List.getElem?_toArray, List.getElem?_cons_zero, List.getElem?_cons_succ, Option.some.injEq] at hj'
            subst hj'
            first | rfl | (simp at hdj)
      case he =>
        intro j o ho e he
        have hj := (Array.getElem?_eq_some_iff.1 ho).1
        simp only [List.size_toArray, List.length_cons, List.length_nil, Nat.zero_add, Nat.reduceAdd] at hj
        clear hP hq hsub hpt P0 hseq hY h0
        rcases ten hj with rfl | rfl | rfl | rfl | rfl | rfl | rfl | rfl | rfl | rfl
        all_goals
          simp only [List.getElem?_toArray, List.getElem?_cons_zero, List.getElem?_cons_succ, Option.some.injEq] at ho
          subst ho
          simp at he
          try (rcases he with rfl | rfl | rfl <;> decide)
          try (rcases he with rfl | rfl <;> decide)
          try (subst he; decide)
      case hstep =>
        rintro j o ho dn ⟨tm, dfs⟩ w' hdsz hdn hC ⟨⟨u', hu'⟩, hdf'⟩ hVd
        dsimp only at hu' hdf'
        subst hu' hdf'
        have hj := (Array.getElem?_eq_some_iff.1 ho).1
        simp only [List.size_toArray, List.length_cons, List.length_nil, Nat.zero_add, Nat.reduceAdd] at hj hdsz
        have hkeep : ∀ k, k < Wc.heap.size → (Old k ∨ O k ∨ (W.heap.size ≤ k ∧ k ≤ V.heap.size + 1)) → w'.heap[k]? = Wc.heap[k]? := fun k hk ho => by
          cases h8 : dn.getD 8 false with
          | false => exact (hC.1 h8).block k hk
          | true => exact (hC.2 h8).2.2 k hk ho
        have hsw : Wc.heap.size ≤ w'.heap.size := by
          cases h8 : dn.getD 8 false with
          | false => exact (hC.1 h8).size
          | true => exact (hC.2 h8).2.1
        have c4 : Cl w' W.heap.size 58 [.func (.yield l) #[] #[]] := by unfold Cl; rw [hkeep _ hP.k4.lt (.inr (.inr ⟨Nat.le_refl _, by omega⟩))]; exact hP.k4
        have c2 : Cl w' b2 48 [.slice (some ⟨bb, off, none⟩) x.size ca] := by unfold Cl; rw [hkeep _ hP.k2.lt (.inl h2)]; exact hP.k2
        have c5 : Cl w' b5 42 [.slice (some ⟨bf, 0, none⟩) x.size x.size] := by unfold Cl; rw [hkeep _ hP.k5.lt (.inl h5)]; exact hP.k5
        have cf : Cl w' bf 3 (ints (stF x) x.size) := by unfold Cl; rw [hkeep _ hP.kf.lt (.inl hf)]; exact hP.kf
        have rd' : RdN w' (some ⟨bb, off, none⟩) x.size (nodes x) := hP.rd.at_blocks (hkeep bb hbb (.inl ha)) hsw
        have e4 := c4.cell 0 rfl
        have e2 := c2.cell 0 rfl
        have e5 := c5.cell 0 rfl
        have ef := cf.cell q (ints_get _ hqx)
        rw [hst] at ef
        have hqi : (q : Int) < (x.size : Int) := by omega
        have hjust : ∀ jj, jj ≠ 8 → ((dn.setIfInBounds jj true).getD 8 false = false → Below Wc.heap.size Wc w') ∧ ((dn.setIfInBounds jj true).getD 8 false = true → J (i + 1) (fun k => O k ∨ (W.heap.size ≤ k ∧ k ≤ V.heap.size + 1)) w' ∧ Wc.heap.size ≤ w'.heap.size ∧ ∀ k, k < Wc.heap.size → (Old k ∨ O k ∨ (W.heap.size ≤ k ∧ k ≤ V.heap.size + 1)) → w'.heap[k]? = Wc.heap[k]?) := fun jj h => by rw [set8_ne h]; exact hC
        have hgust : ∀ jj, jj ≠ 8 → ((dn.setIfInBounds jj true).getD 8 false = false → dn.getD 8 false = false) ∧ ((dn.setIfInBounds jj true).getD 8 false = true ∨ Below w'.heap.size w' w') := fun jj h => ⟨by rw [set8_ne h]; exact id, .inr (Below.refl _ _)⟩
        rcases ten hj with rfl | rfl | rfl | rfl | rfl | rfl | rfl | rfl | rfl | rfl
        all_goals
          simp only [List.getElem?_toArray, List.getElem?_cons_zero, List.getElem?_cons_succ, Option.some.injEq] at ho
          subst ho
        · exact opIn_value rfl rfl (by intro c h; cases h) (v := .func (.yield l) #[] #[]) (w' := w') (by simp [execOp, go_sem, fr62b, e4]) ⟨_, rfl, VP.of (by decide), hjust 0 (by decide), hgust 0 (by decide)⟩
        · exact opIn_value rfl rfl (by intro c h; cases h) (v := .agg #[.slice (some ⟨bb, off, none⟩) x.size ca]) (w' := w') (by simp [execOp, go_sem, fr62b, e2]) ⟨_, rfl, VP.of (by decide), hjust 1 (by decide), hgust 1 (by decide)⟩
        · exact opIn_value rfl rfl (by intro c h; cases h) (v := .slice (some ⟨bf, 0, none⟩) x.size x.size) (w' := w') (by simp [execOp, go_sem, fr62b, e5]) ⟨_, rfl, VP.of (by decide), hjust 2 (by decide), hgust 2 (by decide)⟩
        · exact opIn_value rfl rfl (by intro c h; cases h) (v := .int .i64 (q : Nat)) (w' := w') (by simp [execOp, go_sem, fr62b]) ⟨_, rfl, VP.of (by decide), hjust 3 (by decide), hgust 3 (by decide)⟩
        · have v13 : u' 13 = .slice (some ⟨bf, 0, none⟩) x.size x.size := (hVd 2 _ 13 rfl rfl ⟨{ on := 2, ground := .data }, by simp, rfl, rfl⟩).is (by decide)
          have v14 : u' 14 = .int .i64 (q : Nat) := (hVd 3 _ 14 rfl rfl ⟨{ on := 3, ground := .data }, by simp, rfl, rfl⟩).is (by decide)
          exact opIn_value rfl rfl (by intro c h; cases h) (v := .pointer (some ⟨bf, q, none⟩)) (w' := w') (by simp [execOp, go_sem, fr62b, v13, v14, hqi]) ⟨_, rfl, VP.of (by decide), hjust 4 (by decide), hgust 4 (by decide)⟩
        · have v15 : u' 15 = .pointer (some ⟨bf, q, none⟩) := (hVd 4 _ 15 rfl rfl ⟨{ on := 4, ground := .data }, by simp, rfl, rfl⟩).is (by decide)
          exact opIn_value rfl rfl (by intro c h; cases h) (v := .int .i64 ((q + 1 - uT.size : Nat) : Int)) (w' := w') (by simp [execOp, go_sem, fr62b, v15, ef]) ⟨_, rfl, VP.of (by decide), hjust 5 (by decide), hgust 5 (by decide)⟩
        · exact opIn_value rfl rfl (by intro c h; cases h) (v := .int .i64 (q : Nat)) (w' := w') (by simp [execOp, go_sem, fr62b]) ⟨_, rfl, VP.of (by decide), hjust 6 (by decide), hgust 6 (by decide)⟩
        · have v12 : u' 12 = .agg #[.slice (some ⟨bb, off, none⟩) x.size ca] := (hVd 1 _ 12 rfl rfl ⟨{ on := 1, ground := .data }, by simp, rfl, rfl⟩).is (by decide)
          have v16 : u' 16 = .int .i64 ((q + 1 - uT.size : Nat) : Int) := (hVd 5 _ 16 rfl rfl ⟨{ on := 5, ground := .data }, by simp, rfl, rfl⟩).is (by decide)
          have v17 : u' 17 = .int .i64 (q : Nat) := (hVd 6 _ 17 rfl rfl ⟨{ on := 6, ground := .data }, by simp, rfl, rfl⟩).is (by decide)
          refine opIn_enter rfl rfl (by intro c h; cases h) (w' := w') (f := 82) (args := #[.agg #[.slice (some ⟨bb, off, none⟩) x.size ca], .int .i64 ((q + 1 - uT.size : Nat) : Int), .int .i64 (q : Nat)]) ?_ (cut_any bb off ca (q + 1 - uT.size) q x uT w' ox sx hca rd' hsub rfl) ?_
          · simp [execOp, go_sem, fr62b, v12, v16, v17, resolve, invoke]
          · rintro e w3 ⟨ao, cap, rfl, o3, b3⟩
            obtain ⟨g3, rfl, hg3, hg3B, _⟩ := o3.cells pu
            refine ⟨_, rfl, _, rfl, ?_, ?_, ?_⟩
            · unfold VP
              rw [if_pos rfl]
              exact ⟨g3, cap, rfl, ownsRow_cap o3, Nat.le_trans hsw hg3B, fun _ => ⟨o3.rd, hg3⟩⟩
            · rw [set8_ne (by decide)]
              exact ⟨fun h8 => (hC.1 h8).trans (b3.mono (hC.1 h8).size), fun h8 => ⟨hBe _ _ _ w' w3 (hC.2 h8).1 (TurnO.of_below b3) (fun k _ h => h), Nat.le_trans hsw b3.size, fun k hk ho => (b3.block k (Nat.lt_of_lt_of_le hk hsw)).trans (hkeep k hk ho)⟩⟩
            · rw [set8_ne (by decide)]
              exact ⟨id, .inr b3⟩
        · have h8f : dn.getD 8 false = false := by
            rw [Array.getD_eq_getD_getElem?] at hdn ⊢
            rw [Array.getElem?_eq_getElem (by omega)] at hdn ⊢
            simpa using hdn
          have v11 : u' 11 = .func (.yield l) #[] #[] := (hVd 0 _ 11 rfl rfl ⟨{ on := 0, ground := .data }, by simp, rfl, rfl⟩).is (by decide)
          have v18 := hVd 7 _ 18 rfl rfl ⟨{ on := 7, ground := .data }, by simp, rfl, rfl⟩
          unfold VP at v18
          rw [if_pos rfl] at v18
          obtain ⟨g3, cap, v18, hcap, hg3N, hrd8⟩ := v18
          have v18' : u' 18 = .agg #[.slice (some ⟨g3, 0, none⟩) uT.size cap] := v18
          obtain ⟨hrd9, hg3l⟩ := hrd8 h8f
          have hbel := hC.1 h8f
          have hJ8 := hBe i _ (fun k => O k ∨ (W.heap.size ≤ k ∧ k ≤ V.heap.size + 1)) Wc w' hP.inv (TurnO.of_below hbel) (fun k _ h => h)
          obtain ⟨fn, tmps, assign, body, hy, hR⟩ := hY i _ #[.agg #[.slice (some ⟨g3, 0, none⟩) uT.size cap]] w' hiN hJ8 ⟨uT, g3, cap, hpt, rfl, hrd9, hcap, fun h => by rcases h with h | h; have := (hO g3 h).1; omega; omega, by omega, hg3l⟩ (fun k hk => by
            rcases hk with h | h
            · have := (hO k h).1; omega
            · omega)
          refine opIn_round rfl rfl (by intro c h; cases h) (w' := w') ?_ (fun n' => round_any hR) ?_
          · simp [execOp, go_sem, fr62b, v11, v18', resolve, invoke, hy]
          · rintro e w3 ⟨rfl, hJ3, hK3⟩
            refine ⟨_, rfl, _, rfl, VP.of (by decide), ?_, ?_⟩
            · rw [set8_eq (by omega)]
              exact ⟨fun h => (by cases h), fun _ => ⟨hJ3, Nat.le_trans hsw hK3.1, fun k hk ho => (hK3.2 k (Nat.lt_of_lt_of_le hk hsw) ho).trans (hkeep k hk ho)⟩⟩
            · rw [set8_eq (by omega)]
              exact ⟨fun h => (by cases h), .inl rfl⟩
        · have v19 : u' 19 = .bool true := (hVd 8 _ 19 rfl rfl ⟨{ on := 8, ground := .data }, by simp, rfl, rfl⟩).is (by decide)
          exact opIn_value rfl rfl (by intro c h; cases h) (v := .bool false) (w' := w') (by simp [execOp, go_sem, fr62b, v19]) ⟨_, rfl, VP.of (by decide), hjust 9 (by decide), hgust 9 (by decide)⟩
      case hend =>
        rintro dn ⟨tm, dfs⟩ w' hall hC ⟨⟨u', hu'⟩, hdf'⟩ hVd
        dsimp only at hu' hdf'
        subst hu' hdf'
        have v20 : u' 20 = .bool false := (hVd 9 _ 20 rfl rfl).is (by decide)
        have h8 := hall 8 (by decide)
        obtain ⟨q1, q2, q3⟩ := hC.2 h8
        unfold fr62b
        gi_wp2
        gi_meet
        exact ⟨rfl, q1, q2, q3⟩
    case rest =>
      obtain ⟨rfl, hJ9, hs9, hk9⟩ := hcut
      have hPn : PI x c l V.heap.size b2 b5 W.heap.size bf ⟨bb, off, none⟩ ca J (i + 1) O wc := by
        refine hP.keep hJ9 hs9 (fun k hk => ?_) hP.own
        rcases hk with rfl | rfl | rfl | rfl | rfl
        · exact hk9 _ hP.k4.lt (.inr (.inr ⟨Nat.le_refl _, by omega⟩))
        · exact hk9 _ hP.k2.lt (.inl h2)
        · exact hk9 _ hP.k5.lt (.inl h5)
        · exact hk9 _ hP.kf.lt (.inl hf)
        · exact hk9 _ hbb (.inl ha)
      have HN : Hid (KeepO (fun k => (k = W.heap.size + 1 ∨ k = W.heap.size + 1 + 1 ∨ k = bb) ∨ O k ∨ k = V.heap.size ∨ k = V.heap.size + 1) Wc wc ∧ PI x c l V.heap.size b2 b5 W.heap.size bf ⟨bb, off, none⟩ ca J (i + 1) O wc) := by
        refine ⟨⟨hs9, fun k hkl hk => hk9 k hkl ?_⟩, hPn⟩
        rcases hk with (h | h | h) | h | h | h
        · exact .inr (.inr (by omega))
        · exact .inr (.inr (by omega))
        · rw [h]; exact .inl ha
        · exact .inr (.inl h)
        · exact .inr (.inr (by omega))
        · exact .inr (.inr (by omega))
      clear hPn hP hJ9 hk9 P0 hseq hY h0
      gi_wp2
      have hN9 := HN.out
      rw [hs3] at hN9
      exact hN9
  case done =>
    rintro O Wc hP hD
    rw [pp_len] at hP
    have hJ9 : J (pt c x).length (fun k => O k ∨ (W.heap.size ≤ k ∧ k ≤ V.heap.size + 1)) (Wc.putObj V.heap.size (.deferred none)) := hBe _ _ _ Wc _ hP.inv ⟨rfl, rfl, rfl, by simp, fun k _ hn => World.putObj_heap_other (fun e => hn (.inr (by omega)))⟩ (fun k _ h => h)
    have HJ : Hid _ := hJ9
    clear hJ9 hP P0 hseq hY h0
    gi_wp2
    refine ⟨by simp, .inl ⟨_, _, rfl, run_takeDeferred hD, ?_⟩⟩
    exact ⟨_, results_none rfl _ _ _, ⟨_, rfl⟩, _, HJ.out⟩
end Go.Proofs.YthbmfnibgjlkhaaDoor
