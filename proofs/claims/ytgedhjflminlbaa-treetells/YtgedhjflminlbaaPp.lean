/- The law's parts: the walk. -/
import Derived.Test.YtgedhjflminlbaaPn
import Derived.Test.YtgedhjflminlbaaVr
namespace Go.Proofs.Ytgedhjflminlbaa
open Go.RowKit Go.Shelf
attribute [local go_sem] Oper.semAt_some
theorem vals_snoc (M : Nat → Value) (n : Nat) : vals M (n + 1) = vals M n ++ [M n] := by simp [vals, List.range_succ]
theorem vals_congr {M M' : Nat → Value} {n : Nat} (h : ∀ i, i < n → M i = M' i) : vals M n = vals M' n := by
  apply List.map_congr_left
  intro i hi
  exact h i (by simpa using hi)
/-- A list of the parts that were told. -/
def Trs (x : Tre) (c : Int) (lo i : Nat) (O : Nat → Prop) (M : Nat → Value) (W : World) : Prop := ∀ p u, p < i → (pt c x)[p]? = some u → ∃ g cap, M p = .slice (some ⟨g, 0, none⟩) u.size cap ∧ RdN W (some ⟨g, 0, none⟩) u.size (nodes u) ∧ u.size ≤ cap ∧ ¬ O g ∧ lo ≤ g ∧ g < W.heap.size
structure TI (w : World) (x : Tre) (c : Int) (b b5 i : Nat) (O : Nat → Prop) (W : World) (v : Value) (M : Nat → Value) : Prop where
  box : Cl W b5 43 [v]
  row : W.ownsRow (b + 2) 24 1 v i (vals M i)
  trs : Trs x c (b + 2) i O M W
  bel : Below w.heap.size w W
  own : ∀ k, v.ownBlock = some k → ¬ O k ∧ k < W.heap.size
  oge : ∀ k, O k → b ≤ k
  sz : b ≤ W.heap.size
  z : i = 0 → v = .slice none 0 0
theorem row_at {W W' : World} {B e s n : Nat} {v : Value} {xs : List Value} (h : W.ownsRow B e s v n xs) (hs : ∀ g, v.ownBlock = some g → W'.heap[g]? = W.heap[g]?) : W'.ownsRow B e s v n xs := by
  refine ⟨h.1, ?_⟩
  rcases h.2 with h' | ⟨g, cap, cur, e', hB, hc, r⟩
  · exact .inl h'
  · refine .inr ⟨g, cap, cur, e', hB, ?_, r⟩
    rw [hs g (by rw [e']; simp [Value.ownBlock])]
    exact hc
theorem Trs.at_ {x : Tre} {c : Int} {lo i : Nat} {O O' : Nat → Prop} {M : Nat → Value} {A B : World} (h : Trs x c lo i O M A) (hs : A.heap.size ≤ B.heap.size) (hb : ∀ k, k < A.heap.size → lo ≤ k → ¬ O k → (∃ v, A.cell? ⟨k, 0, none⟩ = some (.int .i64 v)) → B.heap[k]? = A.heap[k]?) (ho : ∀ k, k < A.heap.size → O' k → O k) : Trs x c lo i O' M B := by
  intro p u hp hu
  obtain ⟨g, cap, e, hr, hc, hO, hlo, hlt⟩ := h p u hp hu
  refine ⟨g, cap, e, hr.at_blocks (hb g hlt hlo hO ?_) hs, hc, fun h' => hO (ho g hlt h'), hlo, Nat.lt_of_lt_of_le hlt hs⟩
  obtain ⟨bb, off, e', _, hcs⟩ := hr u.size_pos
  obtain ⟨rfl, rfl⟩ : g = bb ∧ 0 = off := by simpa using e'
  exact ⟨_, by simpa using (hcs 0 u.size_pos).1⟩
/-- What parts answers. -/
def RetPs (w : World) (x : Tre) (c : Int) (e : Ending) (w' : World) : Prop := ∃ ao cap M, e = .returned (.slice ao (pt c x).length cap) ∧ w'.ownsRow w.heap.size 24 1 (.slice ao (pt c x).length cap) (pt c x).length (vals M (pt c x).length) ∧ Trs x c w.heap.size (pt c x).length (fun _ => False) M w' ∧ Below w.heap.size w w'
theorem b_tree1 : (Try.prog.info? 24).map (fun i => (i.zero, i.size, i.bytes)) = some (some (.agg #[.slice none 0 0]), 1, 24) := b_tree
theorem pt_le (c : Int) : ∀ u : Tre, (pt c u).length ≤ u.size
  | .leaf _ => by simp [pt, Tre.size]
  | .two k x y => by
    unfold pt
    have := pt_le c x
    have := pt_le c y
    split
    · simp [Tre.size]; omega
    · simp [Tre.size]
  | .rep _ _ _ _ => by simp [pt, Tre.size]
theorem TI.bears {w : World} {x : Tre} {c : Int} {b b5 i : Nat} {O O' : Nat → Prop} {A B : World} {v : Value} {M : Nat → Value} (h : TI w x c b b5 i O A v M) (h5 : b5 < b) (hw : w.heap.size ≤ b) (ht : TurnO O A B) (ho : ∀ k, k < A.heap.size → O' k → O k) : TI w x c b b5 i O' B v M := by
  have hn5 : ¬ O b5 := fun h' => by have := h.oge b5 h'; omega
  refine ⟨by unfold Cl; rw [ht.block b5 h.box.lt hn5]; exact h.box, row_at h.row (fun g hg => ht.block g (h.own g hg).2 (h.own g hg).1), h.trs.at_ ht.size (fun k hk _ hO _ => ht.block k hk hO) ho, ⟨ht.os.trans h.bel.os, ht.tape.trans h.bel.tape, ht.output.trans h.bel.output, Nat.le_trans h.bel.size ht.size, fun k hk => (ht.block k (Nat.lt_of_lt_of_le hk h.bel.size) (fun h' => by have := h.oge k h'; omega)).trans (h.bel.block k hk)⟩, fun k hk => ⟨fun h' => (h.own k hk).1 (ho k (h.own k hk).2 h'), Nat.lt_of_lt_of_le (h.own k hk).2 ht.size⟩, fun k hk => ?_, Nat.le_trans h.sz ht.size, h.z⟩
  rcases Nat.lt_or_ge k A.heap.size with h' | h'
  · exact h.oge k (ho k h' hk)
  · have := h.sz; omega
theorem TI.turn {w : World} {x : Tre} {c : Int} {b b5 i : Nat} {O : Nat → Prop} {A B : World} {v : Value} {M : Nat → Value} (h : TI w x c b b5 i O A v M) (h5 : b5 < b) (hw : w.heap.size ≤ b) (ht : Turn b A B) : TI w x c b b5 i O B v M :=
  ⟨by unfold Cl; rw [ht.block b5 h.box.lt (.inl h5)]; exact h.box, row_at h.row (fun g hg => ht.block g (h.own g hg).2 (.inr (ownsRow_own h.row g hg))), h.trs.at_ ht.size (fun k hk hlo _ _ => ht.block k hk (.inr hlo)) (fun _ _ h' => h'), ⟨ht.os.trans h.bel.os, ht.tape.trans h.bel.tape, ht.output.trans h.bel.output, Nat.le_trans h.bel.size ht.size, fun k hk => (ht.block k (Nat.lt_of_lt_of_le hk h.bel.size) (.inl (by omega))).trans (h.bel.block k hk)⟩, fun k hk => ⟨(h.own k hk).1, Nat.lt_of_lt_of_le (h.own k hk).2 ht.size⟩, h.oge, Nat.le_trans h.sz ht.size, h.z⟩
def fr25 (a : Option Addr) (n c : Nat) (k : Int) (X nb : Nat) (u : Nat → Value) : Array Value := #[.agg #[.slice a n c], .int .i64 k, u 2, u 3, u 4, .pointer (some ⟨X, 0, none⟩), u 6, .pointer (some ⟨nb, 0, none⟩), u 8, u 9, u 10, u 11, u 12, u 13, u 14, u 15, u 16, u 17, u 18, u 19]
def Fr25 (a : Option Addr) (n c : Nat) (k : Int) (X nb : Nat) (tm : Array Value) : Prop := ∃ u, tm = fr25 a n c k X nb u
theorem Fr25.of {a : Option Addr} {n c : Nat} {k : Int} {X nb : Nat} (tm : Array Value) (h : tm = fr25 a n c k X nb (nth tm.toList)) : Fr25 a n c k X nb tm := ⟨_, h⟩
set_option maxRecDepth 100000 in
set_option maxHeartbeats 4000000 in
theorem lparts_any (a : Option Addr) (n c : Nat) (F : Nat → Nd) (k : Int) (w : World) (ha : RdN w a n F) (hn : (n : Int) ≤ 9223372036854775807) (hca : n ≤ c) : Calls Try.prog 25 #[.agg #[.slice a n c], .int .i64 k] w (RetPs w (snd F n) k) := by
  obtain ⟨ox, sx⟩ := snd_ok F n
  obtain ⟨i0, hi', hz0, hz1, hz2⟩ := info_parts b_tree1
  have heq : ∀ (fn : Fn) (a b : Array Value) (w : World), (Go.binOp BinOp.eql 74 (.func fn a b) .nilFunc).run Try.prog w = Result.ok (.bool false) w := fun _ _ _ _ => rfl
  have hW0 := below2 w (.cells #[.slice a n c] 24) (.cells #[.slice none 0 0] 43)
  have HP := tparts_any a n c F k _ (ha.below hW0) hn hca
  have ka : Cl ((w.alloc (.cells #[.slice a n c] 24)).alloc (.cells #[.slice none 0 0] 43)) w.heap.size 24 [.slice a n c] := (Cl.new w 24 [.slice a n c]).alloc _
  have kl : Cl ((w.alloc (.cells #[.slice a n c] 24)).alloc (.cells #[.slice none 0 0] 43)) (w.heap.size + 1) 43 [.slice none 0 0] := by
    have := Cl.new (w.alloc (.cells #[.slice a n c] 24)) 43 [.slice none 0 0]
    simpa only [World.size_alloc] using this
  have d0 := ka.cell 0 rfl
  clear ha
  generalize snd F n = x at *
  have hple := pt_le k x
  refine (callsIn_wide (n := 6)).1 ?_
  refine callsIn_of_wp_marks Try.func25 rfl trivial ?_ rfl
  simp only [Try.ntmps25, List.size_toArray, List.length_cons, List.length_nil, Nat.reduceAdd, Nat.reduceSub, Array.replicate_succ, Array.replicate_zero, List.push_toArray, List.append_toArray, List.nil_append, List.cons_append]
  gi_wp2_with (refine ⟨trivial, ?_⟩; gi_at_call 50; refine (callsIn_wide.2 HP).mono ?_; rintro e V ⟨b2, b3, b5, bf, ac, ca, rfl, k2, hr, hcc, k3, k5, kf, hlow, hB⟩)
  clear HP d0 ka
  have hsz2 : ((w.alloc (.cells #[.slice a n c] 24)).alloc (.cells #[.slice none 0 0] 43)).heap.size = w.heap.size + 2 := by simp
  rw [hsz2] at hlow
  obtain ⟨hl2, hl3, hl5⟩ := hlow
  have kl1 := kl.below hB
  have hBV := hW0.trans (hB.mono (by rw [hsz2]; omega))
  have hVs : w.heap.size + 2 ≤ V.heap.size := by have := hB.size; rw [hsz2] at this; exact this
  have hbf : bf ≠ w.heap.size + 1 := by
    rintro rfl
    have := kf.symm.trans kl1
    simp at this
  have hac : ac.block < V.heap.size ∧ ac.block ≠ w.heap.size + 1 := by
    obtain ⟨bb, off, e, hlt, hc⟩ := hr x.size_pos
    obtain rfl := Option.some.inj e
    refine ⟨hlt, ?_⟩
    dsimp only
    rintro rfl
    have h1 := (hc 0 x.size_pos).2.1
    rw [World.cell?, show V.heap[w.heap.size + 1]? = _ from kl1] at h1
    simp at h1
  have T0 : TI w x k V.heap.size (w.heap.size + 1) 0 (fun _ => False) V (.slice none 0 0) (fun _ => .slice none 0 0) := ⟨kl1, World.ownsRow_nil _ _ _ _, fun p u hp => by omega, hBV, fun k hk => by simp [Value.ownBlock] at hk, fun k hk => hk.elim, Nat.le_refl _, fun _ => rfl⟩
  have hseq := parts_seq 5 (by decide) x ox sx k b2 b3 b5 bf ac ca (fun j => j = b2 ∨ j = b3 ∨ j = b5 ∨ j = bf ∨ j = ac.block) V k2 hr hcc k3 k5 kf (.inl rfl) (.inr (.inr (.inl rfl))) (.inr (.inr (.inr (.inl rfl)))) (.inr (.inr (.inr (.inr rfl))))
  have hblk : b2 < V.heap.size ∧ b3 < V.heap.size ∧ b5 < V.heap.size ∧ bf < V.heap.size := ⟨k2.lt, k3.lt, k5.lt, kf.lt⟩
  clear kl hB hW0 k2 hr k3 k5 kf
  refine wpIn_rangeFunc_own_steps (n := 6) rfl (by decide) (gf := 62) (lb := #[.pointer (some ⟨b2, 0, none⟩), .pointer (some ⟨b3, 0, none⟩), .pointer (some ⟨b5, 0, none⟩)]) rfl trivial (enters_of Try.func62 (by kernel_rfl) rfl) (fun j => j = b2 ∨ j = b3 ∨ j = b5 ∨ j = bf ∨ j = ac.block) (fun j hj => by rcases hj with h | h | h | h | h <;> omega) hseq (fun i O vs W h => by obtain ⟨u, g, cap, _, rfl, _⟩ := h; rfl)
    (fun i O W => ∃ v M, TI w x k V.heap.size (w.heap.size + 1) i O W v M) (fun i O O' A B ⟨v, M, h⟩ ht ho => ⟨v, M, h.bears (by omega) (by omega) ht ho⟩) (fun i O A B ⟨v, M, h⟩ ht => ⟨v, M, h.turn (by omega) (by omega) ht⟩) ⟨_, _, T0⟩
    (fun i O vs a' W => ∃ nb u g cap, (pt k x)[i]? = some u ∧ Cl W nb 24 [.slice (some ⟨g, 0, none⟩) u.size cap] ∧ RdN W (some ⟨g, 0, none⟩) u.size (nodes u) ∧ u.size ≤ cap ∧ ¬ O g ∧ V.heap.size + 2 ≤ g ∧ g < W.heap.size ∧ V.heap.size + 2 ≤ nb ∧ Fr25 a n c k (w.heap.size + 1) nb a'.tmps ∧ a'.defers = []) ?axst ?assign ?body ?done
  case axst =>
    rintro i O vs a' A B ⟨nb, u, g, cap, q1, q2, q3, q4, q5, q6, q7, q8, q9⟩ ht
    exact ⟨nb, u, g, cap, q1, by unfold Cl; rw [ht.block nb q2.lt (.inr q8)]; exact q2, q3.at_blocks (ht.block g q7 (.inr q6)) ht.size, q4, q5, q6, Nat.lt_of_lt_of_le q7 ht.size, q8, q9⟩
  case assign =>
    rintro i O vs W K hi ⟨v, M, hT⟩ ⟨u, g, cap, hpt, rfl, hr, hcap, hO, hg2, hgl⟩ hsz hOlt hK
    have hbA := below1 W (.cells #[.slice (some ⟨g, 0, none⟩) u.size cap] 24)
    have HK : Hid (∀ tm, Fr25 a n c k (w.heap.size + 1) W.heap.size tm → K ⟨tm, []⟩ (W.alloc (.cells #[.slice (some ⟨g, 0, none⟩) u.size cap] 24))) := fun tm h => hK _ _ ⟨by simp, fun j hj _ => hbA.block j hj⟩ ⟨v, M, hT.bears (by omega) (by omega) (TurnO.of_below hbA) (fun _ _ h => h)⟩ ⟨W.heap.size, u, g, cap, hpt, Cl.new _ _ _, hr.below hbA, hcap, hO, hg2, by simp; omega, hsz, h, rfl⟩
    clear hK hT hr T0 hseq
    gi_wp2
    exact HK.out _ (Fr25.of _ rfl)
  case body =>
    rintro i O vs a' W hi ⟨v, M, hT⟩ ⟨nb, u, g, cap, hpt, kN, hr, hcap, hOg, hg2, hgl, hnb, ⟨uu, hfr⟩, hdf⟩ hsz hO
    obtain ⟨tm, dfs⟩ := a'
    dsimp only at hfr hdf
    subst hfr hdf
    unfold fr25
    have dB := hT.box.cell 0 rfl
    have dN := kN.cell 0 rfl
    have hrow := hT.row
    obtain ⟨av, cv, rfl⟩ := ownsRow_slice hrow
    have hbA := below1 W (.cells #[.slice (some ⟨g, 0, none⟩) u.size cap] 24)
    have HZ : Hid (∀ v' w2, w2.ownsRow (V.heap.size + 2) 24 1 v' (i + 1) (vals M i ++ [.slice (some ⟨g, 0, none⟩) u.size cap]) → (W.alloc (.cells #[.slice (some ⟨g, 0, none⟩) u.size cap] 24)).grownBy w2 (Value.slice av i cv).ownBlock → (v'.ownBlock = (Value.slice av i cv).ownBlock ∨ v'.ownBlock = some (W.alloc (.cells #[.slice (some ⟨g, 0, none⟩) u.size cap] 24)).heap.size) → Cl w2 (w.heap.size + 1) 43 [.slice av i cv] ∧ KeepO (fun j => (j = b2 ∨ j = b3 ∨ j = b5 ∨ j = bf ∨ j = ac.block) ∨ O j ∨ j = V.heap.size ∨ j = V.heap.size + 1) W (w2.setCell ⟨w.heap.size + 1, 0, none⟩ v') ∧ ∃ v M, TI w x k V.heap.size (w.heap.size + 1) (i + 1) O (w2.setCell ⟨w.heap.size + 1, 0, none⟩ v') v M) := by
      intro v' w2 g1 g2 g3
      have hownB := ownsRow_own hT.row
      have keep2 : ∀ j, j < W.heap.size → (Value.slice av i cv).ownBlock ≠ some j → w2.heap[j]? = W.heap[j]? := fun j hj hne => (g2.block j (by simp; omega) (fun e => hne e.symm)).trans (hbA.block j hj)
      have hs2 : W.heap.size ≤ w2.heap.size := Nat.le_trans hbA.size g2.size
      have keep3 : ∀ j, j < W.heap.size → (Value.slice av i cv).ownBlock ≠ some j → j ≠ w.heap.size + 1 → (w2.setCell ⟨w.heap.size + 1, 0, none⟩ v').heap[j]? = W.heap[j]? := fun j hj hne hnx => (set_heap _ _ _ _ hnx).trans (keep2 j hj hne)
      have hbx : (Value.slice av i cv).ownBlock ≠ some (w.heap.size + 1) := fun e => by have := hownB _ e; omega
      have kB2 : Cl w2 (w.heap.size + 1) 43 [.slice av i cv] := by unfold Cl; rw [keep2 _ hT.box.lt hbx]; exact hT.box
      have hownlt : ∀ j, v'.ownBlock = some j → j < w2.heap.size := fun j hj => by
        rcases g1.2 with ⟨h', _⟩ | ⟨g', cap', cur, e', hB', hc', _⟩
        · rw [h'] at hj; cases hj
        · rw [e'] at hj
          have : g' = j := by simpa [Value.ownBlock] using hj
          rw [← this]
          exact (Array.getElem?_eq_some_iff.1 hc').1
      refine ⟨kB2, ⟨by simpa using hs2, fun j hj hk => keep3 j hj (fun e => ?_) ?_⟩, v', updV M i (.slice (some ⟨g, 0, none⟩) u.size cap), ?_, ?_, ?_, ?_, fun j hj => ?_, hT.oge, by simpa using Nat.le_trans hT.sz hs2, fun h => by omega⟩
      · have h1 := hownB _ e
        rcases hk with (h | h | h | h | h) | h | h | h
        · omega
        · omega
        · omega
        · omega
        · omega
        · exact (hT.own j e).1 h
        · omega
        · omega
      · rcases hk with (h | h | h | h | h) | h | h | h
        · omega
        · omega
        · omega
        · omega
        · have := hac.2; omega
        · have := (hO j h).2; omega
        · omega
        · omega
      · have := kB2.set 0 v'
        simpa using this
      · have e : vals (updV M i (.slice (some ⟨g, 0, none⟩) u.size cap)) (i + 1) = vals M i ++ [.slice (some ⟨g, 0, none⟩) u.size cap] := by
          rw [vals_snoc, vals_congr (M' := M) (fun j hj => by simp [updV, show ¬ j = i by omega])]
          simp [updV]
        rw [e]
        exact row_at g1 (fun j hj => set_heap _ _ _ _ (by have := ownsRow_own g1 j hj; dsimp only; omega))
      · intro p u' hp hu'
        have hrow0 : ∀ j, (Value.slice av i cv).ownBlock = some j → ∀ z, W.cell? ⟨j, 0, none⟩ ≠ some (.int .i64 z) := fun j hj z hz => by
          have hi0 : 0 < i := by
            rcases Nat.eq_zero_or_pos i with h | h
            · rw [hT.z h] at hj; cases hj
            · exact h
          obtain ⟨g', e', _, _, hc', _⟩ := row_cell hT.row hi0
          have e2 : g' = j := by rw [e'] at hj; simpa [Value.ownBlock] using hj
          have h1 := hc' 0 _ (vals_get M hi0)
          rw [e2, hz] at h1
          obtain ⟨u0, hu0⟩ : ∃ u0, (pt k x)[0]? = some u0 := ⟨_, List.getElem?_eq_getElem (by omega)⟩
          obtain ⟨g9, c9, e9, _⟩ := hT.trs 0 u0 hi0 hu0
          rw [e9] at h1
          simp at h1
        by_cases hpi : p = i
        · subst hpi
          rw [hpt] at hu'
          obtain rfl := Option.some.inj hu'
          have hne : (Value.slice av p cv).ownBlock ≠ some g := fun e => by
            obtain ⟨bb, off, e', _, hcs⟩ := hr u.size_pos
            obtain ⟨rfl, rfl⟩ : g = bb ∧ 0 = off := by simpa using e'
            exact hrow0 g e _ (by simpa using (hcs 0 u.size_pos).1)
          exact ⟨g, cap, by simp [updV], hr.at_blocks (keep3 g hgl hne (by omega)) (by simpa using hs2), hcap, hOg, hg2, by simp; omega⟩
        · obtain ⟨g9, c9, e9, r9, q9, o9, l9, t9⟩ := hT.trs p u' (by omega) hu'
          have hne : (Value.slice av i cv).ownBlock ≠ some g9 := fun e => by
            obtain ⟨bb, off, e', _, hcs⟩ := r9 u'.size_pos
            obtain ⟨rfl, rfl⟩ : g9 = bb ∧ 0 = off := by simpa using e'
            exact hrow0 g9 e _ (by simpa using (hcs 0 u'.size_pos).1)
          exact ⟨g9, c9, by simp [updV, hpi, e9], r9.at_blocks (keep3 g9 t9 hne (by omega)) (by simpa using hs2), q9, o9, l9, by simp; omega⟩
      · have hgB : Below w.heap.size w w2 := ⟨g2.os.trans (hbA.os.trans hT.bel.os), g2.tape.trans (hbA.tape.trans hT.bel.tape), g2.output.trans (hbA.output.trans hT.bel.output), Nat.le_trans hT.bel.size hs2, fun j hj => (keep2 j (Nat.lt_of_lt_of_le hj hT.bel.size) (fun e => by have := hownB _ e; omega)).trans (hT.bel.block j hj)⟩
        exact hgB.setCell (p := ⟨w.heap.size + 1, 0, none⟩) (by simp) _
      · refine ⟨fun h => ?_, by simpa using hownlt j hj⟩
        rcases g3 with h' | h'
        · rw [hj] at h'; exact (hT.own j h'.symm).1 h
        · rw [hj] at h'
          have := Option.some.inj h'
          simp at this
          have := (hO j h).1
          omega
    have HRo : Hid ((W.alloc (.cells #[.slice (some ⟨g, 0, none⟩) u.size cap] 24)).ownsRow (V.heap.size + 2) 24 1 (.slice av i cv) i (vals M i)) := ownsRow_below hrow hbA
    have HN : Hid (∀ j z, [Value.slice (some ⟨g, 0, none⟩) u.size cap][j]? = some z → (W.alloc (.cells #[.slice (some ⟨g, 0, none⟩) u.size cap] 24)).cell? (Addr.add ⟨W.heap.size, 0, none⟩ j) = some z) := fun j z hj => by
      have hj0 : j = 0 := by
        have := (List.getElem?_eq_some_iff.1 hj).1
        simpa using this
      subst hj0
      simpa [Addr.add] using (Cl.new W 24 [.slice (some ⟨g, 0, none⟩) u.size cap]).cell 0 hj
    clear hT hr hrow T0 hseq kN
    generalize u.size = us at *
    gi_wp2_with (gi_at_builtin; refine wpListIn_append_own_at _ rfl _ _ 43 rfl (V.heap.size + 2) 24 i0 _ 1 24 Try.underlying43 hi' hz0 hz1 hz2 rfl (by decide) _ _ _ rfl HRo.out ⟨W.heap.size, 0, none⟩ 1 1 [.slice (some ⟨g, 0, none⟩) us cap] rfl rfl HN.out (by simp [Value.oneCell']) (by unfold maxLen; omega) (by omega) (by simp; omega) ?_; intro v' w2 hown hgr hnil' hat; obtain ⟨a9, c9, rfl⟩ := ownsRow_slice hown; obtain ⟨kB9, hk9⟩ := HZ.out _ w2 hown hgr hat; clear hown hgr hnil' hat; obtain ⟨dB1, dB2⟩ := kB9.one; have HK9 : Hid _ := hk9; clear hk9)
    exact HK9.out
  case done =>
    rintro O W ⟨v, M, hT⟩ hD
    have dB := hT.box.cell 0 rfl
    obtain ⟨ao, cap, rfl⟩ := ownsRow_slice hT.row
    have hput : ∀ j, j ≠ V.heap.size → (W.putObj V.heap.size (.deferred none)).heap[j]? = W.heap[j]? := fun j hj => World.putObj_heap_other hj
    have H1 : Hid _ := ownsRow_base (row_at hT.row (fun j hj => hput j (by have := ownsRow_own hT.row j hj; omega))) (show w.heap.size ≤ V.heap.size + 2 by omega)
    have H2 : Hid (Trs x k w.heap.size (pt k x).length (fun _ => False) M (W.putObj V.heap.size (.deferred none))) := fun p u hp hu => by
      obtain ⟨g, cg, q1, q2, q3, q4, q5, q6⟩ := hT.trs p u hp hu
      exact ⟨g, cg, q1, q2.at_blocks (hput g (by omega)) (by simp), q3, fun h => h, by omega, by simpa using q6⟩
    have H3 := hT.bel.trans (belowK_b (w := w) (Nat.le_refl _) W V.heap.size _ (.deferred none) (by omega) hD rfl rfl)
    clear hT T0 hseq
    gi_wp2
    refine ⟨by simp, .inl ⟨_, _, rfl, run_takeDeferred hD, ?_⟩⟩
    exact ⟨_, results_tmp rfl _ _ _, ao, cap, M, rfl, H1.out, H2.out, H3⟩
end Go.Proofs.Ytgedhjflminlbaa
