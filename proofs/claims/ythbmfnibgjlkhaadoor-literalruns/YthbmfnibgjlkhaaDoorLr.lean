/- LiteralRuns: the walk. -/
import Derived.Test.YthbmfnibgjlkhaaDoorRz
import Derived.Deep.DeepCutAuto
import Derived.Sort.QuietIn
namespace Go.Proofs.YthbmfnibgjlkhaaDoor
open Go.RowKit Go.Shelf K
attribute [local go_sem] Oper.semAt_some
theorem RdL.take {W : World} {ao : Option Addr} {l : List (Nat × Bool)} (h : RdL W ao l) (k : Nat) : RdL W ao (l.take k) := by
  intro hn
  obtain ⟨b, off, e, hlt, hc⟩ := h (by rw [List.length_take] at hn; omega)
  refine ⟨b, off, e, hlt, fun i x hi => hc i x ?_⟩
  rw [List.getElem?_take] at hi
  split at hi
  · exact hi
  · cases hi
theorem RW.at_ {lo : Nat} {rs : List (Nat × List (Nat × Bool))} {V W : World} {v : Value} {M : Nat → Value} {X : Nat} {vs : List Value} (h : RW lo rs V v M) (hX : Cl V X 3 vs) (hf : ∀ k, k < V.heap.size → k ≠ X → W.heap[k]? = V.heap[k]?) : RW lo rs W v M := by
  have hne : ∀ {B e s n : Nat} {v : Value} {xs : List Value}, V.ownsRow B e s v n xs → e ≠ 3 → W.ownsRow B e s v n xs := fun {B e s n v xs} hr he => row_at hr fun g hg => hf g (ownsRow_lt hr g hg) fun eg => by
    rcases hr.2 with ⟨q, _⟩ | ⟨g', cap', cur, q, _, hc, _⟩
    · rw [q] at hg; cases hg
    · rw [q] at hg
      have e1 : g' = g := by simpa [Value.ownBlock] using hg
      rw [e1, eg] at hc
      have := hX.symm.trans hc
      injection this with this
      injection this with _ this _
      exact he this.symm
  exact ⟨hne h.row (by decide), fun k r hr => hne (h.els k r hr) (by decide), h.dif⟩
/-- What stands in the law's loop. -/
structure LI (V : World) (X i : Nat) (O : Nat → Prop) (W : World) : Prop where
  k4 : Cl W X 3 [.int .i64 (i : Nat)]
  fr : ∀ k, k < V.heap.size → k ≠ X → W.heap[k]? = V.heap[k]?
  os : W.os = V.os ∧ W.tape = V.tape ∧ W.output = V.output
  oge : ∀ k, O k → V.heap.size ≤ k
  sz : V.heap.size ≤ W.heap.size
  hX : X < V.heap.size
theorem LI.bears {V : World} {X i : Nat} {O O' : Nat → Prop} {A B : World} (h : LI V X i O A) (ht : TurnO O A B) (ho : ∀ k, k < A.heap.size → O' k → O k) : LI V X i O' B := by
  have hn : ∀ k, k < V.heap.size → ¬ O k := fun k hk h' => by have := h.oge k h'; omega
  refine ⟨?_, fun k hk hx => (ht.block k (Nat.lt_of_lt_of_le hk h.sz) (hn k hk)).trans (h.fr k hk hx), ⟨ht.os.trans h.os.1, ht.tape.trans h.os.2.1, ht.output.trans h.os.2.2⟩, fun k hk => ?_, Nat.le_trans h.sz ht.size, h.hX⟩
  · unfold Cl; rw [ht.block _ h.k4.lt (hn _ h.hX)]; exact h.k4
  · rcases Nat.lt_or_ge k A.heap.size with h' | h'
    · exact h.oge k (ho k h' hk)
    · have := h.sz; omega
theorem LI.turn {V : World} {X i : Nat} {O : Nat → Prop} {A B : World} (h : LI V X i O A) (ht : Turn V.heap.size A B) : LI V X i O B :=
  ⟨by unfold Cl; rw [ht.block _ h.k4.lt (.inl h.hX)]; exact h.k4, fun k hk hx => (ht.block k (Nat.lt_of_lt_of_le hk h.sz) (.inl hk)).trans (h.fr k hk hx), ⟨ht.os.trans h.os.1, ht.tape.trans h.os.2.1, ht.output.trans h.os.2.2⟩, h.oge, Nat.le_trans h.sz ht.size, h.hX⟩
theorem LI.bel {V w : World} {X i : Nat} {O : Nat → Prop} {A : World} (h : LI V X i O A) (hw : Below w.heap.size w V) (hX : w.heap.size ≤ X) : Below w.heap.size w A :=
  ⟨h.os.1.trans hw.os, h.os.2.1.trans hw.tape, h.os.2.2.trans hw.output, Nat.le_trans hw.size h.sz, fun k hk => (h.fr k (Nat.lt_of_lt_of_le hk hw.size) (by omega)).trans (hw.block k hk)⟩
theorem LI.next {V : World} {X i : Nat} {O : Nat → Prop} {A w2 : World} (h : LI V X i O A) (hb : Below A.heap.size A w2) (Old : Nat → Prop) (hOld : ∀ k, Old k → k < A.heap.size ∧ k ≠ X) : Cl w2 X 3 [.int .i64 (i : Nat)] ∧ KeepO (fun k => Old k ∨ O k ∨ k = V.heap.size ∨ k = V.heap.size + 1) A (w2.setCell ⟨X, 0, none⟩ (.int .i64 ((i : Int) + 1))) ∧ LI V X (i + 1) O (w2.setCell ⟨X, 0, none⟩ (.int .i64 ((i : Int) + 1))) := by
  have k2 := h.k4.below hb
  have hX := h.hX
  have hsz := h.sz
  refine ⟨k2, ⟨by simpa using hb.size, fun k hk hkk => (set_heap _ _ _ _ ?_).trans (hb.block k hk)⟩, ?_, fun k hk hx => (set_heap _ _ _ _ hx).trans ((hb.block k (Nat.lt_of_lt_of_le hk h.sz)).trans (h.fr k hk hx)), ⟨hb.os.trans h.os.1, hb.tape.trans h.os.2.1, hb.output.trans h.os.2.2⟩, h.oge, by have := hb.size; simp; omega, hX⟩
  · show k ≠ X
    rcases hkk with q | q | q | q
    · exact (hOld k q).2
    · have := h.oge k q; omega
    · omega
    · omega
  · have := k2.set 0 (.int .i64 ((i + 1 : Nat) : Int))
    rw [show ((i + 1 : Nat) : Int) = (i : Int) + 1 from by omega] at this
    rw [show ((i + 1 : Nat) : Int) = (i : Int) + 1 from by omega]
    simpa using this
def fr5 (a : Option Addr) (n c X X3 X4 : Nat) (fv : Value) (fr g ll cap : Nat) (u : Nat → Value) : Array Value := #[.agg #[.slice a n c], .pointer (some ⟨X, 0, none⟩), .pointer (some ⟨X + 1, 0, none⟩), .pointer (some ⟨X3, 0, none⟩), .pointer (some ⟨X4, 0, none⟩), fv, .int .i64 (fr : Nat), .slice (some ⟨g, 0, none⟩) ll cap, u 8, u 9, u 10, u 11, u 12, u 13, u 14, u 15, u 16, u 17, u 18, u 19, u 20, u 21, u 22, u 23, u 24, u 25, u 26, u 27, u 28, u 29, u 30, u 31, u 32, u 33, u 34, u 35, u 36, u 37, u 38, u 39, u 40, u 41, u 42, u 43, u 44, u 45, u 46, u 47, u 48, u 49, u 50, u 51, u 52, u 53, u 54, u 55, u 56, u 57, u 58, u 59, u 60, u 61, u 62, u 63, u 64, u 65, u 66, u 67, u 68, u 69, u 70, u 71, u 72, u 73, u 74, u 75, u 76, u 77, u 78, u 79, u 80]
def Fr5 (a : Option Addr) (n c X X3 X4 : Nat) (fv : Value) (fr g ll cap : Nat) (tm : Array Value) : Prop := ∃ u, tm = fr5 a n c X X3 X4 fv fr g ll cap u
theorem Fr5.of {a : Option Addr} {n c X X3 X4 : Nat} {fv : Value} {fr g ll cap : Nat} (tm : Array Value) (h : tm = fr5 a n c X X3 X4 fv fr g ll cap (nth tm.toList)) : Fr5 a n c X X3 X4 fv fr g ll cap tm := ⟨_, h⟩
set_option maxRecDepth 100000 in
set_option maxHeartbeats 4000000 in
theorem runs_law (a : Option Addr) (n c : Nat) (F : Nat → Nd) (w : World) (ha : RdN w a n F) (hn : (n : Int) ≤ 9223372036854775807) (hca : n ≤ c) (hwf : ∀ k, k < n → wfN (F k)) (hT : Tab w) : Calls Tryd.prog 5 #[.agg #[.slice a n c]] w (fun e w' => e = .returned (.bool true) ∧ Below w.heap.size w w') := by
  have hW0 : Below w.heap.size w ((w.alloc (.cells #[.slice a n c] 48)).alloc (.cells #[.bool false] 4)) := (below1 w _).alloc (by simp) _
  have k1 : Cl ((w.alloc (.cells #[.slice a n c] 48)).alloc (.cells #[.bool false] 4)) w.heap.size 48 [.slice a n c] := (Cl.new w 48 [.slice a n c]).alloc _
  have k2 : Cl ((w.alloc (.cells #[.slice a n c] 48)).alloc (.cells #[.bool false] 4)) (w.heap.size + 1) 4 [.bool false] := by
    have := Cl.new (w.alloc (.cells #[.slice a n c] 48)) 4 [.bool false]
    simpa only [World.size_alloc] using this
  have H0 := live_any _ (hT.below hW0)
  have HR : Hid (∀ W, Below w.heap.size w W → Calls Tryd.prog 23 #[.agg #[.slice a n c]] W (RetRR W (rsF F n))) := fun W h => rruns_any a n c F W (ha.below h) hn hca hwf
  have HS : Hid (∀ W, Below w.heap.size w W → Calls Tryd.prog 24 #[.agg #[.slice a n c]] W (RetRs W (rsF F n))) := fun W h => runs_any a n c F W (ha.below h) hn hca hwf (hT.below h)
  have HB : Hid (∀ W, Below w.heap.size w W → Calls Tryd.prog 25 #[.agg #[.slice a n c]] W (RetBe W (bstY (rsF F n)))) := fun W h => best_any a n c F W (ha.below h) hn hca hwf (hT.below h)
  have HQ : Hid (∀ W, Below w.heap.size w W → Calls Tryd.prog 26 #[.agg #[.slice a n c]] W (RetBe W (bstY (rsF F n)))) := fun W h => rbest_any a n c F W (ha.below h) hn hca hwf
  have hpos : Hid (∀ (k : Nat) (r : Nat × List (Nat × Bool)), (rsF F n)[k]? = some r → 0 < r.2.length) := fun k r h => rsF_pos h
  have hlen : (rsF F n).length ≤ 2048 := by
    obtain ⟨ox, sx⟩ := snd_ok F n
    unfold rsF
    split
    · have := allY_len (ptL (snd F n)) (pt 3 (snd F n)).length
      have := pt_le 3 (snd F n)
      unfold allY at *
      unfold runsY
      omega
    · simp
  have heq : ∀ (fn : Fn) (a b : Array Value) (w : World), (Go.binOp BinOp.eql 52 (.func fn a b) .nilFunc).run Tryd.prog w = Result.ok (.bool false) w := fun _ _ _ _ => rfl
  generalize rsF F n = rs at *
  clear ha hwf hT
  refine (callsIn_wide (n := 8)).1 ?_
  refine callsIn_of_wp_marks Tryd.func5 rfl trivial ?_ rfl
  simp only [Tryd.ntmps5, List.size_toArray, List.length_cons, List.length_nil, Nat.reduceAdd, Nat.reduceSub, Array.replicate_succ, Array.replicate_zero, List.push_toArray, List.append_toArray, List.nil_append, List.cons_append]
  gi_wp2_with (first
    | (refine ⟨trivial, ?_⟩; gi_at_call 24; refine (callsIn_wide.2 (HS.out _ HB4.out)).mono ?_; rintro e V ⟨gf, lb, Old, rfl, hent, hOld, hsq, hB⟩)
    | (refine ⟨trivial, ?_⟩; gi_at_call 23; refine (callsIn_wide.2 (HR.out _ HB1.out)).mono ?_; rintro e w2 ⟨v, M, rfl, hRW, hb2⟩; obtain ⟨vo, vc, rfl⟩ := ownsRow_slice hRW.row; have HB2 : Hid _ := HB1.out.trans (hb2.mono HB1.out.size); have HB4 : Hid (Below w.heap.size w ((w2.alloc (.cells #[.slice vo rs.length vc] 49)).alloc (.cells #[.int .i64 0] 3))) := (HB2.out.alloc HB2.out.size _).alloc (Nat.le_trans HB2.out.size (by simp)) _; have e1 := ((k1.below hb2).alloc (.cells #[.slice vo rs.length vc] 49)).alloc (.cells #[.int .i64 0] 3); have d1 := e1.cell 0 rfl)
    | (refine ⟨trivial, ?_⟩; gi_at_call 7; refine (callsIn_wide.2 H0).mono ?_; rintro e w1 ⟨rfl, hb1⟩; have HB1 : Hid (Below w.heap.size w w1) := hW0.trans (hb1.mono (by simp; omega)); replace k1 := k1.below hb1; replace k2 := k2.below hb1; have c1 := k1.cell 0 rfl))
  have hs4 : ((w2.alloc (.cells #[.slice vo rs.length vc] 49)).alloc (.cells #[.int .i64 0] 3)).heap.size = w2.heap.size + 2 := by simp
  have hb4 : Below w2.heap.size w2 ((w2.alloc (.cells #[.slice vo rs.length vc] 49)).alloc (.cells #[.int .i64 0] 3)) := below2 w2 _ _
  have k4 : Cl V (w2.heap.size + 1) 3 [.int .i64 ((0 : Nat) : Int)] := by
    have := (Cl.new (w2.alloc (.cells #[.slice vo rs.length vc] 49)) 3 [.int .i64 0]).below hB
    simp only [World.size_alloc] at this
    exact this
  have k3 : Cl V w2.heap.size 49 [.slice vo rs.length vc] := ((Cl.new w2 49 [.slice vo rs.length vc]).alloc _).below hB
  have hBV := HB4.out.trans (hB.mono HB4.out.size)
  have hbV2 : Below w2.heap.size w2 V := hb4.trans (hB.mono hb4.size)
  have kk1 := k1.below (hb2.trans (hbV2.mono hb2.size))
  have kk2 := k2.below (hb2.trans (hbV2.mono hb2.size))
  have hRV := hRW.below hbV2
  have hw1 : w.heap.size + 2 ≤ w2.heap.size := by
    have := k2.lt
    have := hb2.size
    omega
  have hVs : w2.heap.size + 2 ≤ V.heap.size := by have := hB.size; rwa [hs4] at this
  have hseq := hsq 7 V (by decide) (Below.refl _ _)
  rw [hs4] at hOld
  have I0 : LI V (w2.heap.size + 1) 0 (fun _ => False) V := ⟨k4, fun _ _ _ => rfl, ⟨rfl, rfl, rfl⟩, fun k hk => hk.elim, Nat.le_refl _, by omega⟩
  obtain ⟨N, hN⟩ : ∃ N, N = rs.length := ⟨_, rfl⟩
  have HN : Hid (rs.length = N) := hN.symm
  rw [← hN] at k3 hlen hseq ⊢
  have hRV' : Hid (RW w1.heap.size rs V (.slice vo rs.length vc) M) := hRV
  clear hN hRV hRW hsq HS HR k1 k2 d1 c1 e1 hB hb4 hb2 hbV2 hb1 H0 HB4 HB1 HB2 hW0 heq
  refine wpIn_rangeFunc_own_steps (n := 8) rfl (by decide) (gf := gf) (lb := lb) rfl trivial hent Old (fun k hk => (hOld k hk).1) hseq (fun i O vs W h => by obtain ⟨fr, ls, g, cap, _, rfl, _⟩ := h; rfl)
    (fun i O W => LI V (w2.heap.size + 1) i O W) (fun i O O' A B h ht ho => h.bears ht ho) (fun i O A B h ht => h.turn ht) I0
    (fun i O vs a' A => ∃ fr ls g cap, rs[i]? = some (fr, ls) ∧ RdL A (some ⟨g, 0, none⟩) ls ∧ (V.heap.size + 2 ≤ g ∧ g < A.heap.size) ∧ Fr5 a n c w.heap.size w2.heap.size (w2.heap.size + 1) (.func (.func gf) #[] lb) fr g ls.length cap a'.tmps ∧ a'.defers = []) ?axst ?assign ?body ?done
  case axst =>
    rintro i O vs a' A B ⟨fr, ls, g, cap, q1, q2, ⟨q6, q7⟩, q8, q9⟩ ht
    exact ⟨fr, ls, g, cap, q1, q2.at_ (ht.block g q7 (.inr q6)) ht.size, ⟨q6, Nat.lt_of_lt_of_le q7 ht.size⟩, q8, q9⟩
  case assign =>
    rintro i O vs A K hi hI ⟨fr, ls, g, cap, q1, rfl, q2, q3, q4, q5, q6, q7⟩ hsz hOlt hK
    have HK : Hid (∀ tm, Fr5 a n c w.heap.size w2.heap.size (w2.heap.size + 1) (.func (.func gf) #[] lb) fr g ls.length cap tm → K ⟨tm, []⟩ A) := fun tm h => hK _ _ ⟨Nat.le_refl _, fun _ _ _ => rfl⟩ hI ⟨fr, ls, g, cap, q1, q2, ⟨q6, q7⟩, h, rfl⟩
    clear hK hI q2 I0 hseq
    gi_wp2
    exact HK.out _ (Fr5.of _ rfl)
  case body =>
    rintro i O vs a' A hi hI ⟨fr, ls, g, cap, q1, q2, ⟨q6, q7⟩, ⟨uu, hfr⟩, hdf⟩ hsz hO
    obtain ⟨tm, dfs⟩ := a'
    dsimp only at hfr hdf
    subst hfr hdf
    unfold fr5
    have hRA := hRV'.out.at_ k4 hI.fr
    obtain ⟨hiN, go, rfl, hgo, g', cap', dL, dF, hrd', _⟩ := hRA.at_place HN.out q1 (hpos.out i _ q1)
    dsimp only at dL dF hrd'
    have d3 : A.cell? ⟨w2.heap.size, 0, none⟩ = some (.slice (some ⟨go, 0, none⟩) N vc) := by
      have : Cl A w2.heap.size 49 [.slice (some ⟨go, 0, none⟩) N vc] := by unfold Cl; rw [hI.fr _ (by omega) (by omega)]; exact k3
      exact this.cell 0 rfl
    have d4 := hI.k4.cell 0 rfl
    have hls : ls.length ≤ 9223372036854775807 := by
      have hel := hRA.els i _ q1
      dsimp only at hel
      rcases hel.2 with ⟨_, h0⟩ | ⟨_, cap9, _, _, _, _, h1, h2, _⟩
      · omega
      · unfold maxLen at h2; omega
    have HSm : Hid (Calls Tryd.prog 22 #[.slice (some ⟨g, 0, none⟩) ls.length cap, .slice (some ⟨g', 0, none⟩) ls.length cap'] A (fun e w' => e = .returned (.bool true) ∧ Below A.heap.size A w')) := by
      have := rsame_any (some ⟨g, 0, none⟩) (some ⟨g', 0, none⟩) cap cap' ls ls A q2 hrd' (by omega) (by omega)
      rw [show decide (ls = ls) = true from decide_eq_true rfl] at this
      exact this
    have HNx : Hid (∀ W, Below A.heap.size A W → _) := fun W hW => hI.next hW Old (fun k hk => ⟨by have := (hOld k hk).1; have := hI.sz; omega, by have := (hOld k hk).2; omega⟩)
    have hii : (i : Int) < (N : Int) := by omega
    have hii2 : ¬ (i : Int) ≥ (N : Int) := by omega
    have hff : (((fr : Nat) : Int) != ((fr : Nat) : Int)) = false := by simp
    have hi2 : i ≤ 2048 := by omega
    clear hRA q2 hrd' I0 hseq hI q1 kk1 kk2 k3 k4 hRV' hpos HB HQ
    generalize ls.length = ll at *
    gi_wp2_with (first | (refine ⟨trivial, ?_⟩; gi_at_call 22; refine (callsIn_wide.2 HSm.out).mono ?_; rintro e W ⟨rfl, hbW⟩; obtain ⟨kX, hKp, hLn⟩ := HNx.out W hbW; obtain ⟨x1, x2⟩ := kX.one; have HZ : Hid _ := And.intro hKp hLn; clear hKp hLn kX))
    have hz := HZ.out
    exact ⟨hz.1, hz.2⟩
  case done =>
    rintro O A hI hD
    have hBA := hI.bel hBV (by omega)
    have hfrA : ∀ k, k < V.heap.size → k ≠ w2.heap.size + 1 → A.heap[k]? = V.heap[k]? := hI.fr
    have kA1 : Cl A w.heap.size 48 [.slice a n c] := by unfold Cl; rw [hfrA _ (by omega) (by omega)]; exact kk1
    have kA2 : Cl A (w.heap.size + 1) 4 [.bool false] := by unfold Cl; rw [hfrA _ (by omega) (by omega)]; exact kk2
    have kA3 : Cl A w2.heap.size 49 [.slice vo N vc] := by unfold Cl; rw [hfrA _ (by omega) (by omega)]; exact k3
    have kA4 := hI.k4
    have hVl : V.heap.size < A.heap.size := (Array.getElem?_eq_some_iff.1 hD).1
    have hNN : ((N : Int) == (N : Int)) = true := by simp
    have c1 := kA1.cell 0 rfl
    have HB1 := HB.out A hBA
    have HQ1 : Hid (∀ W, Below A.heap.size A W → Calls Tryd.prog 26 #[.agg #[.slice a n c]] W (RetBe W (bstY rs))) := fun W h => HQ.out W (hBA.trans (h.mono hBA.size))
    have HE : Hid (∀ W, Below A.heap.size A W → Below w.heap.size w ((W.setCell ⟨w.heap.size + 1, 0, none⟩ (.bool true)).putObj V.heap.size (.deferred none)) ∧ (W.setCell ⟨w.heap.size + 1, 0, none⟩ (.bool true)).heap[V.heap.size]? = some (.deferred (some [])) ∧ ((W.setCell ⟨w.heap.size + 1, 0, none⟩ (.bool true)).putObj V.heap.size (.deferred none)).cell? ⟨w.heap.size + 1, 0, none⟩ = some (.bool true)) := fun W hW => by
      have hne : V.heap.size ≠ w.heap.size + 1 := by omega
      have hd : (W.setCell ⟨w.heap.size + 1, 0, none⟩ (.bool true)).heap[V.heap.size]? = some (.deferred (some [])) := (set_heap _ _ _ _ hne).trans ((hW.block _ hVl).trans hD)
      have hb : Below w.heap.size w (W.setCell ⟨w.heap.size + 1, 0, none⟩ (.bool true)) := (hBA.trans (hW.mono hBA.size)).setCell (p := ⟨w.heap.size + 1, 0, none⟩) (by simp) _
      refine ⟨hb.trans (belowK_b (w := w) (Nat.le_refl _) _ V.heap.size _ (.deferred none) (by have := hBV.size; omega) hd rfl rfl), hd, ?_⟩
      have := (kA2.below hW).set 0 (.bool true)
      have hc : Cl ((W.setCell ⟨w.heap.size + 1, 0, none⟩ (.bool true)).putObj V.heap.size (.deferred none)) (w.heap.size + 1) 4 [.bool true] := by
        unfold Cl
        rw [World.putObj_heap_other (by omega)]
        simpa [Cl] using this
      exact hc.cell 0 rfl
    have HA4 : Hid (∀ W, Below A.heap.size A W → W.cell? ⟨w2.heap.size, 0, none⟩ = some (.slice vo N vc) ∧ W.cell? ⟨w2.heap.size + 1, 0, none⟩ = some (.int .i64 (N : Nat)) ∧ W.cell? ⟨w.heap.size, 0, none⟩ = some (.slice a n c) ∧ W.cell? ⟨w.heap.size + 1, 0, none⟩ = some (.bool false) ∧ W.frozen? ⟨w.heap.size + 1, 0, none⟩ = false) := fun W hW => ⟨(kA3.below hW).cell 0 rfl, (kA4.below hW).cell 0 rfl, (kA1.below hW).cell 0 rfl, (kA2.below hW).cell 0 rfl, (kA2.below hW).frozen 0⟩
    clear I0 hseq hI hD kA1 kA2 kA3 kA4 hfrA kk1 kk2 k3 k4 hRV' hpos HB HQ hBV hBA hOld hent
    cases hbe : bstY rs with
    | none =>
      rw [hbe] at HB1 HQ1
      have HSn : Hid (∀ W, Calls Tryd.prog 22 #[.slice none 0 0, .slice none 0 0] W (fun e w' => e = .returned (.bool true) ∧ Below W.heap.size W w')) := fun W => by
        have := rsame_any none none 0 0 [] [] W (fun h => by simp at h) (fun h => by simp at h) (by decide) (by decide)
        rw [show decide (([] : List (Nat × Bool)) = []) = true from decide_eq_true rfl] at this
        exact this
      clear hbe
      gi_wp2_with (first
        | (refine ⟨trivial, ?_⟩; gi_at_call 22; refine (callsIn_wide.2 (HSn.out _)).mono ?_; rintro e w7 ⟨rfl, hb7⟩; obtain ⟨_, _, _, f1, f2⟩ := HA4.out w7 (hb56.trans (hb7.mono hb56.size)); obtain ⟨e1, e2, e3⟩ := HE.out w7 (hb56.trans (hb7.mono hb56.size)); have HE1 : Hid _ := e1; clear e1)
        | (refine ⟨trivial, ?_⟩; gi_at_call 26; refine (callsIn_wide.2 (HQ1.out _ hb5)).mono ?_; rintro e w6 ⟨rfl, hb6⟩; have hb56 : Below A.heap.size A w6 := hb5.trans (hb6.mono hb5.size); obtain ⟨d1, d2, _⟩ := HA4.out w6 hb56)
        | (refine ⟨trivial, ?_⟩; gi_at_call 25; refine (callsIn_wide.2 HB1).mono ?_; rintro e w5 ⟨rfl, hb5⟩; obtain ⟨_, _, c5, _⟩ := HA4.out w5 hb5))
      refine ⟨by simp, .inl ⟨_, _, rfl, run_takeDeferred e2, ?_⟩⟩
      exact ⟨.bool true, by simp [results, Tryd.results5, go_sem, e3], rfl, HE1.out⟩
    | some r =>
      rw [hbe] at HB1 HQ1
      obtain ⟨rf, ls⟩ := r
      have HSm : Hid (∀ (W : World) (g cap g' cap' : Nat), RdL W (some ⟨g, 0, none⟩) ls → RdL W (some ⟨g', 0, none⟩) ls → Calls Tryd.prog 22 #[.slice (some ⟨g, 0, none⟩) (min ls.length 16) cap, .slice (some ⟨g', 0, none⟩) (min ls.length 16) cap'] W (fun e w' => e = .returned (.bool true) ∧ Below W.heap.size W w')) := fun W g cap g' cap' h1 h2 => by
        have hl : (ls.take 16).length = min ls.length 16 := by rw [List.length_take, Nat.min_comm]
        have := rsame_any (some ⟨g, 0, none⟩) (some ⟨g', 0, none⟩) cap cap' (ls.take 16) (ls.take 16) W (h1.take 16) (h2.take 16) (by omega) (by omega)
        rw [show decide (ls.take 16 = ls.take 16) = true from decide_eq_true rfl, hl] at this
        exact this
      clear hbe
      have HB2 := HB1.mono (R' := fun e w' => (∃ g cap, e = .returned (.tuple #[.slice (some ⟨g, 0, none⟩) (min ls.length 16) cap, .int .i64 (rf : Nat), .bool true]) ∧ RdL w' (some ⟨g, 0, none⟩) ls) ∧ Below A.heap.size A w') fun e w' h => by
        obtain ⟨⟨g, cap, h1, h2, _, _⟩, hb⟩ := h
        exact ⟨⟨g, cap, h1, h2⟩, hb⟩
      have HQ2 : Hid (∀ W, Below A.heap.size A W → Calls Tryd.prog 26 #[.agg #[.slice a n c]] W (fun e w' => (∃ g cap, e = .returned (.tuple #[.slice (some ⟨g, 0, none⟩) (min ls.length 16) cap, .int .i64 (rf : Nat), .bool true]) ∧ RdL w' (some ⟨g, 0, none⟩) ls) ∧ Below W.heap.size W w')) := fun W hW => (HQ1.out W hW).mono fun e w' h => by
        obtain ⟨⟨g, cap, h1, h2, _, _⟩, hb⟩ := h
        exact ⟨⟨g, cap, h1, h2⟩, hb⟩
      clear HB1 HQ1
      have hrr : (((rf : Nat) : Int) == ((rf : Nat) : Int)) = true := by simp
      generalize min ls.length 16 = mm at *
      gi_wp2_with (first
        | (refine ⟨trivial, ?_⟩; gi_at_call 22; refine (callsIn_wide.2 (HSm.out _ g cap g' cap' (hrd.below hb6) hrd')).mono ?_; rintro e w7 ⟨rfl, hb7⟩; obtain ⟨_, _, _, f1, f2⟩ := HA4.out w7 (hb56.trans (hb7.mono hb56.size)); obtain ⟨e1, e2, e3⟩ := HE.out w7 (hb56.trans (hb7.mono hb56.size)); have HE1 : Hid _ := e1; clear e1)
        | (refine ⟨trivial, ?_⟩; gi_at_call 26; refine (callsIn_wide.2 (HQ2.out _ hb5)).mono ?_; rintro e w6 ⟨⟨g', cap', rfl, hrd'⟩, hb6⟩; have hb56 : Below A.heap.size A w6 := hb5.trans (hb6.mono hb5.size); obtain ⟨d1, d2, _⟩ := HA4.out w6 hb56)
        | (refine ⟨trivial, ?_⟩; gi_at_call 25; refine (callsIn_wide.2 HB2).mono ?_; rintro e w5 ⟨⟨g, cap, rfl, hrd⟩, hb5⟩; obtain ⟨_, _, c5, _⟩ := HA4.out w5 hb5))
      refine ⟨by simp, .inl ⟨_, _, rfl, run_takeDeferred e2, ?_⟩⟩
      exact ⟨.bool true, by simp [results, Tryd.results5, go_sem, e3], rfl, HE1.out⟩
end Go.Proofs.YthbmfnibgjlkhaaDoor
