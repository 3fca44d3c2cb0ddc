/- The iterator of Runs: the walk. -/
import Derived.Test.YthbmfnibgjlkhaaDoorLg
import Derived.Test.YthbmfnibgjlkhaaDoorGVrPp
namespace Go.Proofs.YthbmfnibgjlkhaaDoor
open Go.RowKit Go.Shelf K
attribute [local go_sem] Oper.semAt_some
/-- The letters of a tree's parts. -/
def ptL (x : Tre) : Nat → Option (Nat × Bool) := fun i => ((pt 3 x)[i]?).bind ltT
/-- What the iterator of Runs gives. -/
def VRu (w : World) (p : Nat → Option (Nat × Bool)) (n : Nat) (i : Nat) (O : Nat → Prop) (vs : Array Value) (W : World) : Prop := ∃ fr ls g cap, (runsY p n)[i]? = some (fr, ls) ∧ vs = #[.int .i64 (fr : Nat), .slice (some ⟨g, 0, none⟩) ls.length cap] ∧ RdL W (some ⟨g, 0, none⟩) ls ∧ 0 < ls.length ∧ ls.length ≤ cap ∧ ¬ O g ∧ w.heap.size + 2 ≤ g ∧ g < W.heap.size
def fr49 (l bp b4 nb : Nat) (u : Nat → Value) : Array Value := #[.func (.yield l) #[] #[], .pointer (some ⟨bp, 0, none⟩), .pointer (some ⟨b4, 0, none⟩), .pointer (some ⟨b4 + 1, 0, none⟩), .pointer (some ⟨b4 + 2, 0, none⟩), .pointer (some ⟨nb, 0, none⟩), u 6, u 7, u 8, u 9, u 10, u 11, u 12, u 13, u 14, u 15, u 16, u 17, u 18, u 19, u 20, u 21, u 22, u 23, u 24, u 25, u 26, u 27, u 28, u 29, u 30, u 31, u 32, u 33, u 34, u 35, u 36, u 37, u 38, u 39, u 40]
def Fr49 (l bp b4 nb : Nat) (tm : Array Value) : Prop := ∃ u, tm = fr49 l bp b4 nb u
theorem Fr49.of {l bp b4 nb : Nat} (tm : Array Value) (h : tm = fr49 l bp b4 nb (nth tm.toList)) : Fr49 l bp b4 nb tm := ⟨_, h⟩
theorem b_letter : (Tryd.prog.info? 26).map (fun i => (i.zero, i.size, i.bytes)) = some (some (.agg #[.int .u8 0, .bool false]), 2, 2) := by kernel_rfl
/-- What stands within its loop. -/
structure RI (p : Nat → Option (Nat × Bool)) (l b4 : Nat) (J : Nat → (Nat → Prop) → World → Prop) (i : Nat) (O : Nat → Prop) (W : World) (v : Value) : Prop where
  inv : J (stY p i).length (fun k => O k ∨ (b4 ≤ k ∧ k ≤ b4 + 4) ∨ v.ownBlock = some k) W
  ky : Cl W b4 83 [.func (.yield l) #[] #[]]
  kr : Cl W (b4 + 1) 34 [v]
  ka : Cl W (b4 + 2) 3 [.int .i64 (i : Nat)]
  row : W.ownsRow (b4 + 5) 26 2 v (curY p i).length (lcs (curY p i))
  own : ∀ k, v.ownBlock = some k → ¬ O k ∧ k < W.heap.size
  oge : ∀ k, O k → b4 + 3 ≤ k
  sz : b4 + 3 ≤ W.heap.size
  tab : Tab W
  z : curY p i = [] → v = .slice none 0 0
theorem tab_at {A B : World} (h : Tab A) (hs : A.heap.size ≤ B.heap.size) (hk : B.heap[0]? = A.heap[0]?) : Tab B := by
  refine ⟨Nat.lt_of_lt_of_le h.lt hs, fun i hi => ?_⟩
  have := h.cell i hi
  simp only [World.cell?] at this ⊢
  rw [hk]
  exact this
theorem ownsRow_lt {W : World} {B e s n : Nat} {v : Value} {xs : List Value} (h : W.ownsRow B e s v n xs) : ∀ k, v.ownBlock = some k → k < W.heap.size := by
  intro k hk
  rcases h.2 with ⟨h', _⟩ | ⟨g', cap', cur, e', hB', hc', _⟩
  · rw [h'] at hk; cases hk
  · rw [e'] at hk
    have : g' = k := by simpa [Value.ownBlock] using hk
    rw [← this]
    exact (Array.getElem?_eq_some_iff.1 hc').1
/-- A letter is put to the run. -/
theorem RI.push {p : Nat → Option (Nat × Bool)} {l b4 : Nat} {J : Nat → (Nat → Prop) → World → Prop} {i : Nat} {O : Nat → Prop} {A A2 w2 : World} {v v' : Value} {x : Nat × Bool} (h : RI p l b4 J i O A v) (hBe : Bears J) {bV : Nat} (hV : bV = b4 + 3) (hp : p i = some x) (hO : ∀ k, O k → k < A.heap.size ∧ b4 + 5 ≤ k) (hA : Below A.heap.size A A2)
    (g1 : w2.ownsRow (b4 + 5) 26 2 v' ((curY p i).length + 1) (lcs (curY p i) ++ [.int .u8 (x.1 : Nat), .bool x.2])) (g2 : A2.grownBy w2 v.ownBlock) (g3 : v'.ownBlock = v.ownBlock ∨ v'.ownBlock = some A2.heap.size) (Old : Nat → Prop) (hOld : ∀ k, Old k → k < b4) :
    Cl w2 (b4 + 1) 34 [v] ∧ Cl (w2.setCell ⟨b4 + 1, 0, none⟩ v') (b4 + 2) 3 [.int .i64 (i : Nat)] ∧ KeepO (fun k => Old k ∨ O k ∨ k = bV ∨ k = bV + 1) A ((w2.setCell ⟨b4 + 1, 0, none⟩ v').setCell ⟨b4 + 2, 0, none⟩ (.int .i64 ((i + 1 : Nat) : Int))) ∧ RI p l b4 J (i + 1) O ((w2.setCell ⟨b4 + 1, 0, none⟩ v').setCell ⟨b4 + 2, 0, none⟩ (.int .i64 ((i + 1 : Nat) : Int))) v' := by
  subst hV
  have hownB := ownsRow_own h.row
  have hs2 : A.heap.size ≤ w2.heap.size := Nat.le_trans hA.size g2.size
  have keep2 : ∀ j, j < A.heap.size → v.ownBlock ≠ some j → w2.heap[j]? = A.heap[j]? := fun j hj hne => (g2.block j (Nat.lt_of_lt_of_le hj hA.size) (fun e => hne e.symm)).trans (hA.block j hj)
  have keep3 : ∀ j, j < A.heap.size → v.ownBlock ≠ some j → j ≠ b4 + 1 → j ≠ b4 + 2 → ((w2.setCell ⟨b4 + 1, 0, none⟩ v').setCell ⟨b4 + 2, 0, none⟩ (.int .i64 ((i + 1 : Nat) : Int))).heap[j]? = A.heap[j]? := fun j hj hne n1 n2 => (set_heap _ _ _ _ n2).trans ((set_heap _ _ _ _ n1).trans (keep2 j hj hne))
  have hlow : ∀ j, j ≤ b4 + 4 → v.ownBlock ≠ some j := fun j hj e => by have := hownB _ e; omega
  have kR : Cl w2 (b4 + 1) 34 [v] := by unfold Cl; rw [keep2 _ h.kr.lt (hlow _ (by omega))]; exact h.kr
  have kA : Cl w2 (b4 + 2) 3 [.int .i64 (i : Nat)] := by unfold Cl; rw [keep2 _ h.ka.lt (hlow _ (by omega))]; exact h.ka
  have kA2 := kA.other (k := b4 + 1) (by omega) 0 v'
  have hv2 := ownsRow_own g1
  have hsF : ((w2.setCell ⟨b4 + 1, 0, none⟩ v').setCell ⟨b4 + 2, 0, none⟩ (.int .i64 ((i + 1 : Nat) : Int))).heap.size = w2.heap.size := by simp
  refine ⟨kR, kA2, ⟨by rw [hsF]; exact hs2, fun j hj hk => keep3 j hj (fun e => ?_) (fun e => ?_) (fun e => ?_)⟩, ?_⟩
  · rcases hk with hk | hk | hk | hk
    · have := hownB _ e; have := hOld j hk; omega
    · exact (h.own j e).1 hk
    · have := hownB _ e; omega
    · have := hownB _ e; omega
  · rcases hk with hk | hk | hk | hk
    · have := hOld j hk; omega
    · have := (hO j hk).2; omega
    · omega
    · omega
  · rcases hk with hk | hk | hk | hk
    · have := hOld j hk; omega
    · have := (hO j hk).2; omega
    · omega
    · omega
  · refine ⟨?_, ?_, ?_, ?_, ?_, fun k hk => ⟨fun hk' => ?_, by rw [hsF]; exact ownsRow_lt g1 k hk⟩, h.oge, by rw [hsF]; exact Nat.le_trans h.sz hs2, tab_at h.tab (by rw [hsF]; exact hs2) (keep3 0 h.tab.lt (hlow 0 (by omega)) (by omega) (by omega)), fun e => ?_⟩
    · rw [stY_some hp]
      refine hBe _ _ _ A _ h.inv ⟨?_, ?_, ?_, by rw [hsF]; exact hs2, fun k hk hn => keep3 k hk (fun e => hn (.inr (.inr e))) (fun e => hn (.inr (.inl (by omega)))) (fun e => hn (.inr (.inl (by omega))))⟩ (fun k hk hk' => ?_)
      · exact g2.os.trans hA.os
      · exact g2.tape.trans hA.tape
      · exact g2.output.trans hA.output
      · rcases hk' with hk' | hk' | hk'
        · exact .inl hk'
        · exact .inr (.inl hk')
        · rcases g3 with e | e
          · rw [e] at hk'; exact .inr (.inr hk')
          · rw [e] at hk'
            have := Option.some.inj hk'
            have := hA.size
            omega
    · unfold Cl; rw [keep3 _ h.ky.lt (hlow _ (by omega)) (by omega) (by omega)]; exact h.ky
    · have := (kR.set 0 v').other (k := b4 + 2) (by omega) 0 (.int .i64 ((i + 1 : Nat) : Int))
      simpa using this
    · have := kA2.set 0 (.int .i64 ((i + 1 : Nat) : Int))
      simpa using this
    · rw [curY_some hp, lcs_snoc, List.length_append, List.length_singleton]
      exact row_at (row_at g1 (fun j hj => set_heap _ _ _ _ (by have := hv2 j hj; dsimp only; omega))) (fun j hj => set_heap _ _ _ _ (by have := hv2 j hj; dsimp only; omega))
    · rcases g3 with e | e
      · rw [hk] at e; exact (h.own k e.symm).1 hk'
      · rw [hk] at e
        have := Option.some.inj e
        have := (hO k hk').1
        have := hA.size
        omega
    · rw [curY_some hp] at e
      simp at e
/-- A part without a letter, and no run is open. -/
theorem RI.skip {p : Nat → Option (Nat × Bool)} {l b4 : Nat} {J : Nat → (Nat → Prop) → World → Prop} {i : Nat} {O : Nat → Prop} {A A2 : World} {v : Value} (h : RI p l b4 J i O A v) (hBe : Bears J) {bV : Nat} (hV : bV = b4 + 3) (hp : p i = none) (hc : curY p i = []) (hO : ∀ k, O k → k < A.heap.size ∧ b4 + 5 ≤ k) (hA : Below A.heap.size A A2) (Old : Nat → Prop) (hOld : ∀ k, Old k → k < b4) :
    Cl A2 (b4 + 2) 3 [.int .i64 (i : Nat)] ∧ KeepO (fun k => Old k ∨ O k ∨ k = bV ∨ k = bV + 1) A (A2.setCell ⟨b4 + 2, 0, none⟩ (.int .i64 ((i + 1 : Nat) : Int))) ∧ RI p l b4 J (i + 1) O (A2.setCell ⟨b4 + 2, 0, none⟩ (.int .i64 ((i + 1 : Nat) : Int))) v := by
  subst hV
  have hv := h.z hc
  subst hv
  have kA := h.ka.below hA
  have hsF : (A2.setCell ⟨b4 + 2, 0, none⟩ (.int .i64 ((i + 1 : Nat) : Int))).heap.size = A2.heap.size := by simp
  have keep3 : ∀ j, j < A.heap.size → j ≠ b4 + 2 → (A2.setCell ⟨b4 + 2, 0, none⟩ (.int .i64 ((i + 1 : Nat) : Int))).heap[j]? = A.heap[j]? := fun j hj n2 => (set_heap _ _ _ _ n2).trans (hA.block j hj)
  refine ⟨kA, ⟨by rw [hsF]; exact hA.size, fun j hj hk => keep3 j hj (fun e => ?_)⟩, ?_⟩
  · rcases hk with hk | hk | hk | hk
    · have := hOld j hk; omega
    · have := (hO j hk).2; omega
    · omega
    · omega
  · refine ⟨?_, ?_, ?_, ?_, ?_, fun k hk => by simp [Value.ownBlock] at hk, h.oge, by rw [hsF]; exact Nat.le_trans h.sz hA.size, tab_at h.tab (by rw [hsF]; exact hA.size) (keep3 0 h.tab.lt (by omega)), fun _ => rfl⟩
    · rw [stY_len_nil hp hc]
      exact hBe _ _ _ A _ h.inv ⟨hA.os, hA.tape, hA.output, by rw [hsF]; exact hA.size, fun k hk hn => keep3 k hk (fun e => hn (.inr (.inl (by omega))))⟩ (fun k _ hk' => hk')
    · unfold Cl; rw [keep3 _ h.ky.lt (by omega)]; exact h.ky
    · unfold Cl; rw [keep3 _ h.kr.lt (by omega)]; exact h.kr
    · have := kA.set 0 (.int .i64 ((i + 1 : Nat) : Int))
      simpa using this
    · rw [curY_none hp]
      exact World.ownsRow_nil _ _ _ _
/-- A run is told. -/
theorem RI.give {p : Nat → Option (Nat × Bool)} {l b4 : Nat} {J : Nat → (Nat → Prop) → World → Prop} {i : Nat} {O : Nat → Prop} {A A2 : World} {v : Value} (h : RI p l b4 J i O A v) (hBe : Bears J) {bV : Nat} (hV : bV = b4 + 3) (hp : p i = none) (hc : curY p i ≠ []) (hO : ∀ k, O k → k < A.heap.size ∧ b4 + 5 ≤ k) (hA : Below A.heap.size A A2) (Old OldP : Nat → Prop) (hOld : ∀ k, OldP k → k < b4 ∧ Old k) (h0 : Old 0) :
    J (stY p i).length (fun k => O k ∨ (b4 ≤ k ∧ k ≤ b4 + 4)) A2 ∧ (∀ k, O k ∨ (b4 ≤ k ∧ k ≤ b4 + 4) → k < A2.heap.size ∨ k = b4 + 3 ∨ k = b4 + 4) ∧
    ∀ W3, J ((stY p i).length + 1) (fun k => O k ∨ (b4 ≤ k ∧ k ≤ b4 + 4)) W3 → KeepO (fun k => Old k ∨ O k ∨ (b4 ≤ k ∧ k ≤ b4 + 4)) A2 W3 →
      Cl W3 (b4 + 1) 34 [v] ∧ Cl (W3.setCell ⟨b4 + 1, 0, none⟩ (.slice none 0 0)) (b4 + 2) 3 [.int .i64 (i : Nat)] ∧ KeepO (fun k => OldP k ∨ O k ∨ k = bV ∨ k = bV + 1) A ((W3.setCell ⟨b4 + 1, 0, none⟩ (.slice none 0 0)).setCell ⟨b4 + 2, 0, none⟩ (.int .i64 ((i + 1 : Nat) : Int))) ∧ RI p l b4 J (i + 1) O ((W3.setCell ⟨b4 + 1, 0, none⟩ (.slice none 0 0)).setCell ⟨b4 + 2, 0, none⟩ (.int .i64 ((i + 1 : Nat) : Int))) (.slice none 0 0) := by
  subst hV
  have hz := h.sz
  refine ⟨hBe _ _ _ A A2 h.inv (TurnO.of_below hA) (fun k _ hk => ?_), fun k hk => ?_, fun W3 hJ hK => ?_⟩
  · rcases hk with hk | hk
    · exact .inl hk
    · exact .inr (.inl hk)
  · rcases hk with hk | hk
    · exact .inl (Nat.lt_of_lt_of_le (hO k hk).1 hA.size)
    · have := hA.size
      rcases Nat.lt_or_ge k (b4 + 3) with h' | h'
      · exact .inl (by omega)
      · exact .inr (by omega)
  · have hs2 : A.heap.size ≤ W3.heap.size := Nat.le_trans hA.size hK.1
    have keep : ∀ j, j < A.heap.size → (Old j ∨ O j ∨ (b4 ≤ j ∧ j ≤ b4 + 4)) → W3.heap[j]? = A.heap[j]? := fun j hj hk => (hK.2 j (Nat.lt_of_lt_of_le hj hA.size) hk).trans (hA.block j hj)
    have kR : Cl W3 (b4 + 1) 34 [v] := by unfold Cl; rw [keep _ h.kr.lt (.inr (.inr ⟨by omega, by omega⟩))]; exact h.kr
    have kA : Cl W3 (b4 + 2) 3 [.int .i64 (i : Nat)] := by unfold Cl; rw [keep _ h.ka.lt (.inr (.inr ⟨by omega, by omega⟩))]; exact h.ka
    have kY : Cl W3 b4 83 [.func (.yield l) #[] #[]] := by unfold Cl; rw [keep _ h.ky.lt (.inr (.inr ⟨by omega, by omega⟩))]; exact h.ky
    have kA2 := kA.other (k := b4 + 1) (by omega) 0 (.slice none 0 0)
    have hsF : ((W3.setCell ⟨b4 + 1, 0, none⟩ (.slice none 0 0)).setCell ⟨b4 + 2, 0, none⟩ (.int .i64 ((i + 1 : Nat) : Int))).heap.size = W3.heap.size := by simp
    have keep3 : ∀ j, j ≠ b4 + 1 → j ≠ b4 + 2 → ((W3.setCell ⟨b4 + 1, 0, none⟩ (.slice none 0 0)).setCell ⟨b4 + 2, 0, none⟩ (.int .i64 ((i + 1 : Nat) : Int))).heap[j]? = W3.heap[j]? := fun j n1 n2 => (set_heap _ _ _ _ n2).trans (set_heap _ _ _ _ n1)
    refine ⟨kR, kA2, ⟨by rw [hsF]; exact hs2, fun j hj hk => ?_⟩, ?_⟩
    · have hne : j ≠ b4 + 1 ∧ j ≠ b4 + 2 := by
        rcases hk with hk | hk | hk | hk
        · have := (hOld j hk).1; omega
        · have := (hO j hk).2; omega
        · omega
        · omega
      rw [keep3 j hne.1 hne.2]
      refine keep j hj ?_
      rcases hk with hk | hk | hk | hk
      · exact .inl (hOld j hk).2
      · exact .inr (.inl hk)
      · exact .inr (.inr (by omega))
      · exact .inr (.inr (by omega))
    · refine ⟨?_, ?_, ?_, ?_, ?_, fun k hk => by simp [Value.ownBlock] at hk, h.oge, by rw [hsF]; exact Nat.le_trans h.sz hs2, tab_at h.tab (by rw [hsF]; exact hs2) ((keep3 0 (by omega) (by omega)).trans (keep 0 h.tab.lt (.inl h0))), fun _ => rfl⟩
      · rw [stY_len_none hp hc]
        refine hBe _ _ _ W3 _ hJ ⟨rfl, rfl, rfl, by rw [hsF]; exact Nat.le_refl _, fun k hk hn => keep3 k (fun e => hn (.inr (by omega))) (fun e => hn (.inr (by omega)))⟩ (fun k _ hk' => ?_)
        rcases hk' with hk' | hk' | hk'
        · exact .inl hk'
        · exact .inr hk'
        · simp [Value.ownBlock] at hk'
      · unfold Cl; rw [keep3 _ (by omega) (by omega)]; exact kY
      · have := (kR.set 0 (.slice none 0 0)).other (k := b4 + 2) (by omega) 0 (.int .i64 ((i + 1 : Nat) : Int))
        simpa using this
      · have := kA2.set 0 (.int .i64 ((i + 1 : Nat) : Int))
        simpa using this
      · rw [curY_none hp]
        exact World.ownsRow_nil _ _ _ _
theorem RI.bears {p : Nat → Option (Nat × Bool)} {l b4 : Nat} {J : Nat → (Nat → Prop) → World → Prop} {i : Nat} {O O' : Nat → Prop} {A B : World} {v : Value} (h : RI p l b4 J i O A v) (hBe : Bears J) (ht : TurnO O A B) (ho : ∀ k, k < A.heap.size → O' k → O k) : RI p l b4 J i O' B v := by
  have hn : ∀ k, k < b4 + 3 → ¬ O k := fun k hk h' => by have := h.oge k h'; omega
  refine ⟨hBe _ _ _ A B h.inv (ht.mono fun k _ h' => .inl h') (fun k hk h' => ?_), ?_, ?_, ?_, row_at h.row (fun g hg => ht.block g (h.own g hg).2 (h.own g hg).1), fun k hk => ⟨fun h' => (h.own k hk).1 (ho k (h.own k hk).2 h'), Nat.lt_of_lt_of_le (h.own k hk).2 ht.size⟩, fun k hk => ?_, Nat.le_trans h.sz ht.size, tab_at h.tab ht.size (ht.block 0 h.tab.lt (hn 0 (by omega))), h.z⟩
  · rcases h' with h' | h'
    · exact .inl (ho k hk h')
    · exact .inr h'
  · unfold Cl; rw [ht.block _ h.ky.lt (hn _ (by omega))]; exact h.ky
  · unfold Cl; rw [ht.block _ h.kr.lt (hn _ (by omega))]; exact h.kr
  · unfold Cl; rw [ht.block _ h.ka.lt (hn _ (by omega))]; exact h.ka
  · rcases Nat.lt_or_ge k A.heap.size with h' | h'
    · exact h.oge k (ho k h' hk)
    · have := h.sz; omega
theorem RI.turn {p : Nat → Option (Nat × Bool)} {l b4 : Nat} {J : Nat → (Nat → Prop) → World → Prop} {i : Nat} {O : Nat → Prop} {A B : World} {v : Value} (h : RI p l b4 J i O A v) (hBe : Bears J) (ht : Turn (b4 + 3) A B) : RI p l b4 J i O B v := by
  refine ⟨hBe _ _ _ A B h.inv ⟨ht.os, ht.tape, ht.output, ht.size, fun k hk hn => ht.block k hk ?_⟩ (fun k _ h' => h'), ?_, ?_, ?_, row_at h.row (fun g hg => ht.block g (h.own g hg).2 (.inr (by have := ownsRow_own h.row g hg; omega))), fun k hk => ⟨(h.own k hk).1, Nat.lt_of_lt_of_le (h.own k hk).2 ht.size⟩, h.oge, Nat.le_trans h.sz ht.size, tab_at h.tab ht.size (ht.block 0 h.tab.lt (.inl (by omega))), h.z⟩
  · rcases Nat.lt_or_ge k (b4 + 3) with h' | h'
    · exact .inl h'
    · exact .inr (by
        have : ¬ (b4 ≤ k ∧ k ≤ b4 + 4) := fun e => hn (.inr (.inl e))
        omega)
  · unfold Cl; rw [ht.block _ h.ky.lt (.inl (by omega))]; exact h.ky
  · unfold Cl; rw [ht.block _ h.kr.lt (.inl (by omega))]; exact h.kr
  · unfold Cl; rw [ht.block _ h.ka.lt (.inl (by omega))]; exact h.ka
end Go.Proofs.YthbmfnibgjlkhaaDoor
