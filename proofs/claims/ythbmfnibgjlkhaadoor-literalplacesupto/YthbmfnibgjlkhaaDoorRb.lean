/- Best: the walk. -/
import Derived.Test.YthbmfnibgjlkhaaDoorRs
import Derived.Deep.DeepCutAuto
import Derived.Deep.QuietTactic
import Derived.Sort.QuietIn
namespace Go.Proofs.YthbmfnibgjlkhaaDoor
open Go.RowKit Go.Shelf K
attribute [local go_sem] Oper.semAt_some
/-- The better of what was best and a run. -/
def bS (o : Option (Nat × List (Nat × Bool))) (r : Nat × List (Nat × Bool)) : Option (Nat × List (Nat × Bool)) := if 2 ≤ r.2.length ∧ (o.elim 0 fun b => b.2.length) < r.2.length then some r else o
/-- The first of the longest runs. -/
def bstY (rs : List (Nat × List (Nat × Bool))) : Option (Nat × List (Nat × Bool)) := rs.foldl bS none
theorem bst_step {rs : List (Nat × List (Nat × Bool))} {i : Nat} {r : Nat × List (Nat × Bool)} (h : rs[i]? = some r) : (rs.take (i + 1)).foldl bS none = bS ((rs.take i).foldl bS none) r := by
  obtain ⟨hi, e⟩ := List.getElem?_eq_some_iff.1 h
  rw [← e, ← List.take_append_getElem hi, List.foldl_append]
  rfl
/-- What is held of the best run. -/
def Hld (lo : Nat) (o : Option (Nat × List (Nat × Bool))) (O : Nat → Prop) (W : World) (v : Value) (fr : Nat) : Prop := match o with
  | none => v = .slice none 0 0 ∧ fr = 0
  | some r => fr = r.1 ∧ ∃ g cap, v = .slice (some ⟨g, 0, none⟩) r.2.length cap ∧ RdL W (some ⟨g, 0, none⟩) r.2 ∧ 2 ≤ r.2.length ∧ r.2.length ≤ cap ∧ ¬ O g ∧ lo ≤ g ∧ g < W.heap.size
theorem RdL.at_ {A B : World} {g : Nat} {l : List (Nat × Bool)} (h : RdL A (some ⟨g, 0, none⟩) l) (hk : B.heap[g]? = A.heap[g]?) (hs : A.heap.size ≤ B.heap.size) : RdL B (some ⟨g, 0, none⟩) l := by
  intro hn
  obtain ⟨b, off, e, hlt, hc⟩ := h hn
  obtain ⟨rfl, rfl⟩ : g = b ∧ 0 = off := by simpa using e
  refine ⟨g, 0, rfl, Nat.lt_of_lt_of_le hlt hs, fun i x hi => ?_⟩
  have := hc i x hi
  simp only [World.cell?] at this ⊢
  rw [hk]
  exact this
theorem Hld.at_ {lo : Nat} {o : Option (Nat × List (Nat × Bool))} {O O' : Nat → Prop} {A B : World} {v : Value} {fr : Nat} (h : Hld lo o O A v fr) (hk : ∀ k, k < A.heap.size → lo ≤ k → ¬ O k → B.heap[k]? = A.heap[k]?) (hs : A.heap.size ≤ B.heap.size) (ho : ∀ k, k < A.heap.size → O' k → O k) : Hld lo o O' B v fr := by
  cases o with
  | none => exact h
  | some r =>
    obtain ⟨e, g, cap, e2, hr, h2, hc, hO, hlo, hlt⟩ := h
    exact ⟨e, g, cap, e2, hr.at_ (hk g hlt hlo hO) hs, h2, hc, fun h' => hO (ho g hlt h'), hlo, Nat.lt_of_lt_of_le hlt hs⟩
/-- What stands in its loop. -/
structure BI (w : World) (b : Nat) (rs : List (Nat × List (Nat × Bool))) (i : Nat) (O : Nat → Prop) (W : World) (v : Value) (fr : Nat) : Prop where
  k5 : Cl W (w.heap.size + 1) 34 [v]
  k6 : Cl W (w.heap.size + 2) 3 [.int .i64 (fr : Nat)]
  hld : Hld (b + 2) ((rs.take i).foldl bS none) O W v fr
  bel : Below w.heap.size w W
  oge : ∀ k, O k → b ≤ k
  sz : b ≤ W.heap.size
  lo : w.heap.size + 3 ≤ b
theorem BI.bears {w : World} {b : Nat} {rs : List (Nat × List (Nat × Bool))} {i : Nat} {O O' : Nat → Prop} {A B : World} {v : Value} {fr : Nat} (h : BI w b rs i O A v fr) (ht : TurnO O A B) (ho : ∀ k, k < A.heap.size → O' k → O k) : BI w b rs i O' B v fr := by
  have hl := h.lo
  have hn : ∀ k, k < b → ¬ O k := fun k hk h' => by have := h.oge k h'; omega
  refine ⟨?_, ?_, h.hld.at_ (fun k hk _ hO => ht.block k hk hO) ht.size ho, ⟨ht.os.trans h.bel.os, ht.tape.trans h.bel.tape, ht.output.trans h.bel.output, Nat.le_trans h.bel.size ht.size, fun k hk => (ht.block k (Nat.lt_of_lt_of_le hk h.bel.size) (hn k (by omega))).trans (h.bel.block k hk)⟩, fun k hk => ?_, Nat.le_trans h.sz ht.size, hl⟩
  · unfold Cl; rw [ht.block _ h.k5.lt (hn _ (by omega))]; exact h.k5
  · unfold Cl; rw [ht.block _ h.k6.lt (hn _ (by omega))]; exact h.k6
  · rcases Nat.lt_or_ge k A.heap.size with h' | h'
    · exact h.oge k (ho k h' hk)
    · have := h.sz; omega
theorem BI.turn {w : World} {b : Nat} {rs : List (Nat × List (Nat × Bool))} {i : Nat} {O : Nat → Prop} {A B : World} {v : Value} {fr : Nat} (h : BI w b rs i O A v fr) (ht : Turn b A B) : BI w b rs i O B v fr := by
  have hl := h.lo
  refine ⟨?_, ?_, h.hld.at_ (fun k hk hlo _ => ht.block k hk (.inr hlo)) ht.size (fun _ _ h' => h'), ⟨ht.os.trans h.bel.os, ht.tape.trans h.bel.tape, ht.output.trans h.bel.output, Nat.le_trans h.bel.size ht.size, fun k hk => (ht.block k (Nat.lt_of_lt_of_le hk h.bel.size) (.inl (by omega))).trans (h.bel.block k hk)⟩, h.oge, Nat.le_trans h.sz ht.size, hl⟩
  · unfold Cl; rw [ht.block _ h.k5.lt (.inl (by omega))]; exact h.k5
  · unfold Cl; rw [ht.block _ h.k6.lt (.inl (by omega))]; exact h.k6
def frB (a : Option Addr) (n c X : Nat) (fr g ll cap : Nat) (u : Nat → Value) : Array Value := #[.agg #[.slice a n c], .pointer (some ⟨X, 0, none⟩), u 2, u 3, u 4, .pointer (some ⟨X + 1, 0, none⟩), .pointer (some ⟨X + 2, 0, none⟩), .int .i64 (fr : Nat), .slice (some ⟨g, 0, none⟩) ll cap, u 9, u 10, u 11, u 12, u 13, u 14, u 15, u 16, u 17, u 18, u 19, u 20, u 21, u 22, u 23, u 24, u 25, u 26, u 27, u 28, u 29, u 30, u 31, u 32]
def FrB (a : Option Addr) (n c X : Nat) (fr g ll cap : Nat) (tm : Array Value) : Prop := ∃ u, tm = frB a n c X fr g ll cap u
theorem FrB.of {a : Option Addr} {n c X : Nat} {fr g ll cap : Nat} (tm : Array Value) (h : tm = frB a n c X fr g ll cap (nth tm.toList)) : FrB a n c X fr g ll cap tm := ⟨_, h⟩
/-- What Best answers. -/
def RetBe (w : World) (o : Option (Nat × List (Nat × Bool))) (e : Ending) (w' : World) : Prop := (match o with
  | none => e = .returned (.tuple #[.slice none 0 0, .int .i64 0, .bool false])
  | some r => ∃ g cap, e = .returned (.tuple #[.slice (some ⟨g, 0, none⟩) (min r.2.length 16) cap, .int .i64 (r.1 : Nat), .bool true]) ∧ RdL w' (some ⟨g, 0, none⟩) r.2 ∧ 2 ≤ r.2.length ∧ r.2.length ≤ cap) ∧ Below w.heap.size w w'
theorem Hld.slice {lo : Nat} {o : Option (Nat × List (Nat × Bool))} {O : Nat → Prop} {W : World} {v : Value} {fr : Nat} (h : Hld lo o O W v fr) : ∃ vo vc, v = .slice vo (o.elim 0 fun b => b.2.length) vc := by
  cases o with
  | none => exact ⟨none, 0, h.1⟩
  | some r =>
    obtain ⟨_, g, cap, e, _⟩ := h
    exact ⟨_, cap, e⟩
theorem BI.next {w : World} {b : Nat} {rs : List (Nat × List (Nat × Bool))} {i : Nat} {O : Nat → Prop} {A : World} {v : Value} {fr : Nat} {r : Nat × List (Nat × Bool)} (h : BI w b rs i O A v fr) (hr : rs[i]? = some r) (hno : ¬ (2 ≤ r.2.length ∧ (((rs.take i).foldl bS none).elim 0 fun b => b.2.length) < r.2.length)) : BI w b rs (i + 1) O A v fr := by
  refine ⟨h.k5, h.k6, ?_, h.bel, h.oge, h.sz, h.lo⟩
  rw [bst_step hr, bS, if_neg hno]
  exact h.hld
theorem BI.take {w : World} {b : Nat} {rs : List (Nat × List (Nat × Bool))} {i : Nat} {O : Nat → Prop} {A : World} {v : Value} {fr0 fr : Nat} {ls : List (Nat × Bool)} {g cap : Nat} (h : BI w b rs i O A v fr0) (hr : rs[i]? = some (fr, ls)) (hyes : 2 ≤ ls.length ∧ (((rs.take i).foldl bS none).elim 0 fun b => b.2.length) < ls.length) (hrd : RdL A (some ⟨g, 0, none⟩) ls) (hc : ls.length ≤ cap) (hO : ¬ O g) (hlo : b + 2 ≤ g) (hlt : g < A.heap.size) (Old : Nat → Prop) (hOld : ∀ k, Old k → k = 0 ∨ w.heap.size + 3 ≤ k) :
    KeepO (fun k => Old k ∨ O k ∨ k = b ∨ k = b + 1) A ((A.setCell ⟨w.heap.size + 1, 0, none⟩ (.slice (some ⟨g, 0, none⟩) ls.length cap)).setCell ⟨w.heap.size + 2, 0, none⟩ (.int .i64 (fr : Nat))) ∧ BI w b rs (i + 1) O ((A.setCell ⟨w.heap.size + 1, 0, none⟩ (.slice (some ⟨g, 0, none⟩) ls.length cap)).setCell ⟨w.heap.size + 2, 0, none⟩ (.int .i64 (fr : Nat))) (.slice (some ⟨g, 0, none⟩) ls.length cap) fr := by
  have hl := h.lo
  have hkeep : ∀ k, k ≠ w.heap.size + 1 → k ≠ w.heap.size + 2 → ((A.setCell ⟨w.heap.size + 1, 0, none⟩ (.slice (some ⟨g, 0, none⟩) ls.length cap)).setCell ⟨w.heap.size + 2, 0, none⟩ (.int .i64 (fr : Nat))).heap[k]? = A.heap[k]? := fun k h1 h2 => (set_heap _ _ _ _ h2).trans (set_heap _ _ _ _ h1)
  refine ⟨⟨by simp, fun k _ hk => ?_⟩, ?_, ?_, ?_, (h.bel.setCell (p := ⟨w.heap.size + 1, 0, none⟩) (by simp) _).setCell (p := ⟨w.heap.size + 2, 0, none⟩) (by simp) _, h.oge, by simpa using h.sz, hl⟩
  · have : w.heap.size + 3 ≤ k ∨ k = 0 := by
      rcases hk with hk | hk | hk | hk
      · have := hOld k hk; omega
      · have := h.oge k hk; omega
      · omega
      · omega
    exact hkeep k (by omega) (by omega)
  · have := (h.k5.set 0 (.slice (some ⟨g, 0, none⟩) ls.length cap)).other (k := w.heap.size + 2) (by omega) 0 (.int .i64 (fr : Nat))
    simpa using this
  · have := (h.k6.other (k := w.heap.size + 1) (by omega) 0 (.slice (some ⟨g, 0, none⟩) ls.length cap)).set 0 (.int .i64 (fr : Nat))
    simpa using this
  · rw [bst_step hr, bS, if_pos hyes]
    exact ⟨rfl, g, cap, rfl, hrd.at_ (hkeep g (by omega) (by omega)) (by simp), hyes.1, hc, hO, hlo, by simpa using hlt⟩
set_option maxRecDepth 100000 in
set_option maxHeartbeats 4000000 in
theorem best_any (a : Option Addr) (n c : Nat) (F : Nat → Nd) (w : World) (ha : RdN w a n F) (hn : (n : Int) ≤ 9223372036854775807) (hca : n ≤ c) (hwf : ∀ k, k < n → wfN (F k)) (hT : Tab w) : Calls Tryd.prog 25 #[.agg #[.slice a n c]] w (RetBe w (bstY (rsF F n))) := by
  have hW0 : Below w.heap.size w (((w.alloc (.cells #[.slice a n c] 48)).alloc (.cells #[.slice none 0 0] 34)).alloc (.cells #[.int .i64 0] 3)) := ((below1 w _).alloc (by simp) _).alloc (by simp; omega) _
  have k5 : Cl (((w.alloc (.cells #[.slice a n c] 48)).alloc (.cells #[.slice none 0 0] 34)).alloc (.cells #[.int .i64 0] 3)) (w.heap.size + 1) 34 [.slice none 0 0] := by
    have := (Cl.new (w.alloc (.cells #[.slice a n c] 48)) 34 [.slice none 0 0]).alloc (.cells #[.int .i64 0] 3)
    simpa only [World.size_alloc] using this
  have k6 : Cl (((w.alloc (.cells #[.slice a n c] 48)).alloc (.cells #[.slice none 0 0] 34)).alloc (.cells #[.int .i64 0] 3)) (w.heap.size + 2) 3 [.int .i64 ((0 : Nat) : Int)] := by
    have := Cl.new ((w.alloc (.cells #[.slice a n c] 48)).alloc (.cells #[.slice none 0 0] 34)) 3 [.int .i64 0]
    simp only [World.size_alloc] at this
    exact this
  have k1 : Cl (((w.alloc (.cells #[.slice a n c] 48)).alloc (.cells #[.slice none 0 0] 34)).alloc (.cells #[.int .i64 0] 3)) w.heap.size 48 [.slice a n c] := ((Cl.new w 48 [.slice a n c]).alloc _).alloc _
  have HR := runs_any a n c F _ (ha.below hW0) hn hca hwf (hT.below hW0)
  have hs3 : (((w.alloc (.cells #[.slice a n c] 48)).alloc (.cells #[.slice none 0 0] 34)).alloc (.cells #[.int .i64 0] 3)).heap.size = w.heap.size + 3 := by simp
  have d1 := k1.cell 0 rfl
  generalize rsF F n = rs at *
  clear ha hwf hT k1
  refine (callsIn_wide (n := 8)).1 ?_
  refine callsIn_of_wp_marks Tryd.func25 rfl trivial ?_ rfl
  simp only [Tryd.ntmps25, List.size_toArray, List.length_cons, List.length_nil, Nat.reduceAdd, Nat.reduceSub, Array.replicate_succ, Array.replicate_zero, List.push_toArray, List.append_toArray, List.nil_append, List.cons_append]
  gi_wp2_with (refine ⟨trivial, ?_⟩; gi_at_call 24; refine (callsIn_wide.2 HR).mono ?_; rintro e V ⟨gf, lb, Old, rfl, hent, hOld, hsq, hB⟩)
  have hBV := hW0.trans (hB.mono hW0.size)
  have hVs : w.heap.size + 3 ≤ V.heap.size := by have := hB.size; rwa [hs3] at this
  have I0 : BI w V.heap.size rs 0 (fun _ => False) V (.slice none 0 0) 0 := ⟨k5.below hB, k6.below hB, ⟨rfl, rfl⟩, hBV, fun k hk => hk.elim, Nat.le_refl _, hVs⟩
  have hseq := hsq 7 V (by decide) (Below.refl _ _)
  rw [hs3] at hOld
  clear hsq HR k5 k6 d1 hB hW0
  refine wpIn_rangeFunc_own_steps (n := 8) rfl (by decide) (gf := gf) (lb := lb) rfl trivial hent Old (fun k hk => (hOld k hk).1) hseq (fun i O vs W h => by obtain ⟨fr, ls, g, cap, _, rfl, _⟩ := h; rfl)
    (fun i O W => ∃ v fr, BI w V.heap.size rs i O W v fr) (fun i O O' A B ⟨v, fr, h⟩ ht ho => ⟨v, fr, h.bears ht ho⟩) (fun i O A B ⟨v, fr, h⟩ ht => ⟨v, fr, h.turn ht⟩) ⟨_, _, I0⟩
    (fun i O vs a' A => ∃ fr ls g cap, rs[i]? = some (fr, ls) ∧ RdL A (some ⟨g, 0, none⟩) ls ∧ 0 < ls.length ∧ ls.length ≤ cap ∧ (¬ O g ∧ V.heap.size + 2 ≤ g ∧ g < A.heap.size) ∧ FrB a n c w.heap.size fr g ls.length cap a'.tmps ∧ a'.defers = []) ?axst ?assign ?body ?done
  case axst =>
    rintro i O vs a' A B ⟨fr, ls, g, cap, q1, q2, q3, q4, ⟨q5, q6, q7⟩, q8, q9⟩ ht
    exact ⟨fr, ls, g, cap, q1, q2.at_ (ht.block g q7 (.inr q6)) ht.size, q3, q4, ⟨q5, q6, Nat.lt_of_lt_of_le q7 ht.size⟩, q8, q9⟩
  case assign =>
    rintro i O vs A K hi ⟨v, fr0, hI⟩ ⟨fr, ls, g, cap, q1, rfl, q2, q3, q4, q5, q6, q7⟩ hsz hOlt hK
    have HK : Hid (∀ tm, FrB a n c w.heap.size fr g ls.length cap tm → K ⟨tm, []⟩ A) := fun tm h => hK _ _ ⟨Nat.le_refl _, fun _ _ _ => rfl⟩ ⟨v, fr0, hI⟩ ⟨fr, ls, g, cap, q1, q2, q3, q4, ⟨q5, q6, q7⟩, h, rfl⟩
    clear hK hI q2 I0 hseq
    gi_wp2
    exact HK.out _ (FrB.of _ rfl)
  case body =>
    rintro i O vs a' A hi ⟨v, fr0, hI⟩ ⟨fr, ls, g, cap, q1, q2, q3, q4, ⟨q5, q6, q7⟩, ⟨uu, hfr⟩, hdf⟩ hsz hO
    obtain ⟨tm, dfs⟩ := a'
    dsimp only at hfr hdf
    subst hfr hdf
    unfold frB
    obtain ⟨vo, vc, rfl⟩ := hI.hld.slice
    have dB := hI.k5.cell 0 rfl
    by_cases h2 : 2 ≤ ls.length
    · by_cases hgt : (((rs.take i).foldl bS none).elim 0 fun b => b.2.length) < ls.length
      · have hz := hI.take q1 ⟨h2, hgt⟩ q2 q4 q5 q6 q7 Old (fun k hk => (hOld k hk).2)
        obtain ⟨dB1, dB2⟩ := hI.k5.one
        obtain ⟨dF1, dF2⟩ := (hI.k6.other (k := w.heap.size + 1) (by omega) 0 (.slice (some ⟨g, 0, none⟩) ls.length cap)).one
        have HZ : Hid _ := hz
        clear hz hI q2 I0 hseq q1 hO hOld
        generalize ls.length = ll at *
        generalize (((rs.take i).foldl bS none).elim 0 fun b => b.2.length) = bl at *
        have i1 : (ll : Int) ≥ 2 := by omega
        have i2 : (ll : Int) > (bl : Int) := by omega
        gi_wp2
        have hz9 := HZ.out
        exact ⟨hz9.1, _, _, hz9.2⟩
      · have hz := hI.next q1 (fun h => hgt h.2)
        have HZ : Hid _ := hz
        clear hz hI q2 I0 hseq q1 hO hOld
        generalize ls.length = ll at *
        generalize (((rs.take i).foldl bS none).elim 0 fun b => b.2.length) = bl at *
        have i1 : (ll : Int) ≥ 2 := by omega
        have i2 : ¬ (ll : Int) > (bl : Int) := by omega
        gi_wp2
        have hz9 := HZ.out
        exact ⟨⟨Nat.le_refl _, fun _ _ _ => rfl⟩, _, _, hz9⟩
    · have hz := hI.next q1 (fun h => h2 h.1)
      have HZ : Hid _ := hz
      clear hz hI q2 I0 hseq q1 hO hOld
      generalize ls.length = ll at *
      generalize (((rs.take i).foldl bS none).elim 0 fun b => b.2.length) = bl at *
      have i1 : ¬ (ll : Int) ≥ 2 := by omega
      gi_wp2
      have hz9 := HZ.out
      exact ⟨⟨Nat.le_refl _, fun _ _ _ => rfl⟩, _, _, hz9⟩
  case done =>
    rintro O A ⟨v, fr0, hI⟩ hD
    have hh := hI.hld
    rw [List.take_length] at hh
    have dB := hI.k5.cell 0 rfl
    have dF := hI.k6.cell 0 rfl
    have hBA := hI.bel.trans (belowK_b (w := w) (Nat.le_refl _) A V.heap.size _ (.deferred none) (by omega) hD rfl rfl)
    change Hld _ (bstY rs) O A v fr0 at hh
    cases hb : bstY rs with
    | none =>
      rw [hb] at hh
      obtain ⟨rfl, rfl⟩ := hh
      have HR : Hid (∀ k, RetBe w (bstY rs) (.returned (.tuple #[.slice none 0 0, .int .i64 0, .bool false])) ((A.drewN k).putObj V.heap.size (.deferred none))) := fun k => by rw [hb]; exact ⟨rfl, hBA.trans ⟨rfl, rfl, rfl, by simp, fun _ _ => rfl⟩⟩
      clear hI I0 hseq hBA hb
      gi_wp2_with fail
      gi_quiet (fail)
      gi_wp2
      refine ⟨by simp, .inl ⟨_, _, rfl, run_takeDeferred (by exact hD), ?_⟩⟩
      exact ⟨.tuple #[.slice none 0 0, .int .i64 0, .bool false], by simp [results, Tryd.results25, go_sem]; decide, HR.out _⟩
    | some r =>
      rw [hb] at hh
      obtain ⟨rfl, g, cap, rfl, hrd, h2, hc, hO, hlo, hlt⟩ := hh
      obtain ⟨rf, ls⟩ := r
      dsimp only at *
      have HR : Hid (∀ k, RetBe w (bstY rs) (.returned (.tuple #[.slice (some ⟨g, 0, none⟩) (min ls.length 16) cap, .int .i64 (rf : Nat), .bool true])) ((A.drewN k).putObj V.heap.size (.deferred none))) := fun k => by
        rw [hb]
        exact ⟨⟨g, cap, rfl, hrd.at_ (World.putObj_heap_other (by omega)) (by simp), h2, hc⟩, hBA.trans ⟨rfl, rfl, rfl, by simp, fun _ _ => rfl⟩⟩
      clear hI I0 hseq hBA hb hrd
      have em : min (ls.length : Int) 16 = ((min ls.length 16 : Nat) : Int) := by omega
      have hle : min ls.length 16 ≤ cap := by omega
      generalize min ls.length 16 = mm at *
      generalize ls.length = ll at *
      gi_wp2_with fail
      gi_quiet (fail)
      gi_wp2
      refine ⟨by simp, .inl ⟨_, _, rfl, run_takeDeferred (by exact hD), ?_⟩⟩
      exact ⟨.tuple #[.slice (some ⟨g, 0, none⟩) mm cap, .int .i64 (rf : Nat), .bool true], by simp [results, Tryd.results25, go_sem], HR.out _⟩
end Go.Proofs.YthbmfnibgjlkhaaDoor
