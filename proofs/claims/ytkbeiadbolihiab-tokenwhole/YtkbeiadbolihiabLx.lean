/- token: Lex: the walk. -/
import Derived.Test.YtkbeiadbolihiabWs
import Derived.Maps.AppendAt
import Derived.Shelf.RegionOpen
namespace Go.Proofs.Ytkbeiadbolihiab
open Go.RowKit Go.Shelf
attribute [local go_sem] Oper.semAt_some
set_option maxHeartbeats 400000 in
theorem words_any (ao : Option Addr) (n cap : Nat) (w : World) : Calls Try.prog 7 #[.slice ao n cap] w fun e w' => e = .returned (.func (.func 8) #[] #[.pointer (some ⟨w.heap.size, 0, none⟩)]) ∧ w' = w.alloc (.cells #[.slice ao n cap] 22) := by
  go_enter Try.func7, Try.ntmps7
  go_wp2
  go_ret
  exact ⟨rfl, rfl⟩
theorem b_tok : (Try.prog.info? 32).map (fun i => (i.zero, i.size, i.bytes)) = some (some (.agg #[.int .i64 0, .int .u8 0, .int .u64 0, .int .u64 0, .int .u64 0, .int .u64 0, .bool false, .int .i64 0, .int .i64 0, .bool false, .int .i64 0]), 11, 88) := by kernel_rfl
/-- The cells of tokens, one behind the other. -/
def tokL (l : List TokS) : List Value := l.flatMap tokC
theorem tokL_snoc (l : List TokS) (x : TokS) : tokL (l ++ [x]) = tokL l ++ tokC x := by simp [tokL]
theorem ownsRow_at {W W' : World} {base e size k : Nat} {v : Value} {xs : List Value} (h : W.ownsRow base e size v k xs) (hs : ∀ g, base ≤ g → g < W.heap.size → W'.heap[g]? = W.heap[g]?) : W'.ownsRow base e size v k xs :=
  ⟨h.1, h.2.imp id fun ⟨g, cap, cur, hv, hg, hc, r⟩ => ⟨g, cap, cur, hv, hg, (hs g hg (Array.getElem?_eq_some_iff.1 hc).1).trans hc, r⟩⟩
theorem ownsRow_own {W : World} {base e size k : Nat} {v : Value} {xs : List Value} (h : W.ownsRow base e size v k xs) : ∀ g, v.ownBlock = some g → base ≤ g := by
  intro g hg
  rcases h.2 with ⟨rfl, _⟩ | ⟨g', cap, cur, rfl, hb, _⟩
  · cases hg
  · simp [Value.ownBlock] at hg; omega
theorem ownsRow_slice {W : World} {base e size k : Nat} {v : Value} {xs : List Value} (h : W.ownsRow base e size v k xs) : ∃ ao cap, v = .slice ao k cap := by
  rcases h.2 with ⟨h, h0⟩ | ⟨g, cap, cur, h, _⟩
  · exact ⟨none, 0, by rw [h, h0]⟩
  · exact ⟨_, cap, h⟩
theorem ownsRow_base {W : World} {base base' e size k : Nat} {v : Value} {xs : List Value} (h : W.ownsRow base e size v k xs) (hb : base' ≤ base) : W.ownsRow base' e size v k xs :=
  ⟨h.1, h.2.imp id fun ⟨g, cap, cur, hv, hg, r⟩ => ⟨g, cap, cur, hv, Nat.le_trans hb hg, r⟩⟩
/-- What Lex holds between rounds: the tokens in a row of their own, none of them bad. -/
structure LxI (w : World) (pre : List TokS) (W : World) : Prop where
  row : ∃ v, Cl W (w.heap.size + 1 + 1 + 1) 23 [v] ∧ W.ownsRow (w.heap.size + 9) 32 11 v pre.length (tokL pre)
  r0 : Cl W w.heap.size 23 [.slice none 0 0]
  r1 : Cl W (w.heap.size + 1) 3 [.int .i64 0]
  r2 : Cl W (w.heap.size + 1 + 1) 24 [.int .i64 0]
  bel : Below w.heap.size w W
  good : ∀ s, s ∈ pre → s.er = 0
/-- What it has stored where a word is bad. -/
structure LxX (w : World) (pre : List TokS) (W : World) : Prop where
  bad : ∃ s, s ∈ pre ∧ s.er ≠ 0 ∧ Cl W (w.heap.size + 1) 3 [.int .i64 (s.en : Nat)] ∧ Cl W (w.heap.size + 1 + 1) 24 [.int .i64 s.er]
  r0 : Cl W w.heap.size 23 [.slice none 0 0]
  bel : Below w.heap.size w W
theorem Cl.turn {A B : World} {b k : Nat} {t : TypeId} {vs : List Value} (h : Cl A k t vs) (ht : Turn b A B) (hk : k < b ∨ b + 4 ≤ k) : Cl B k t vs := h.same (ht.block k h.lt hk)
theorem Turn.below {N b : Nat} {w A B : World} (ht : Turn b A B) (h : Below N w A) (hN : N ≤ b) (hs : N ≤ A.heap.size) : Below N w B :=
  ⟨ht.os.trans h.os, ht.tape.trans h.tape, ht.output.trans h.output, Nat.le_trans h.size ht.size, fun k hk => (ht.block k (by omega) (by omega)).trans (h.block k hk)⟩
theorem LxI.turn {w A B : World} {pre : List TokS} (h : LxI w pre A) (ht : Turn (w.heap.size + 5) A B) : LxI w pre B := by
  obtain ⟨⟨v, hv, hrow⟩, h0, h1, h2, hb, hg⟩ := h
  exact ⟨⟨v, hv.turn ht (by omega), ownsRow_at hrow fun g hg hl => ht.block g hl (by omega)⟩, h0.turn ht (by omega), h1.turn ht (by omega), h2.turn ht (by omega), ht.below hb (by omega) (Nat.le_of_lt h0.lt), hg⟩
theorem LxX.turn {w A B : World} {pre : List TokS} (h : LxX w pre A) (ht : Turn (w.heap.size + 5) A B) : LxX w pre B := by
  obtain ⟨⟨s, hs, he, h1, h2⟩, h0, hb⟩ := h
  exact ⟨⟨s, hs, he, h1.turn ht (by omega), h2.turn ht (by omega)⟩, h0.turn ht (by omega), ht.below hb (by omega) (Nat.le_of_lt h0.lt)⟩
/-- The loop's variables in a round. -/
def LxA (w : World) (ao : Option Addr) (n cap : Nat) (x : TokS) (a' : Act) (W : World) : Prop :=
  ∃ p, w.heap.size + 9 ≤ p ∧ a' = ⟨#[.slice ao n cap, undef, .pointer (some ⟨w.heap.size, 0, none⟩), .pointer (some ⟨w.heap.size + 1, 0, none⟩), .pointer (some ⟨w.heap.size + 1 + 1, 0, none⟩), .pointer (some ⟨w.heap.size + 1 + 1 + 1, 0, none⟩), .pointer (some ⟨p, 0, none⟩), .pointer (some ⟨p + 1, 0, none⟩), .slice ao n cap, .int .i64 (n : Nat), .bool false, .slice ao n cap, .func (.func 8) #[] #[.pointer (some ⟨w.heap.size + 1 + 1 + 1 + 1, 0, none⟩)], tokOf x, markV x.en x.er, undef, undef, undef, undef, undef, undef, undef, undef, undef, undef, undef, undef, undef, undef], []⟩ ∧ Cl W p 32 (tokC x) ∧ Cl W (p + 1) 39 [.int .i64 (x.en : Nat), .int .i64 x.er]
def LxOld (w : World) (k : Nat) : Prop := k < w.heap.size ∨ k = w.heap.size + 4
theorem KeepT.of_below {w A B : World} (h : Below A.heap.size A B) (hs : w.heap.size + 9 ≤ A.heap.size) : KeepT (w.heap.size + 5) (LxOld w) A B :=
  ⟨h.size, fun k hk => h.block k (by unfold LxOld at hk; omega)⟩
theorem lx_step {w W w2 : World} {pre : List TokS} {x : TokS} {v v' : Value} {tmp : Obj} (h : LxI w pre W) (he : x.er = 0) (hsz : w.heap.size + 9 ≤ W.heap.size) (hv : Cl W (w.heap.size + 1 + 1 + 1) 23 [v]) (hrow : W.ownsRow (w.heap.size + 9) 32 11 v pre.length (tokL pre))
    (hown' : w2.ownsRow (w.heap.size + 9) 32 11 v' (pre.length + 1) (tokL pre ++ tokC x)) (hgrow : (W.alloc tmp).grownBy w2 v.ownBlock) :
    Cl w2 (w.heap.size + 1 + 1 + 1) 23 [v] ∧ KeepT (w.heap.size + 5) (LxOld w) W (w2.setCell ⟨w.heap.size + 1 + 1 + 1, 0, none⟩ v') ∧ LxI w (pre ++ [x]) (w2.setCell ⟨w.heap.size + 1 + 1 + 1, 0, none⟩ v') := by
  have hsm : ∀ k, k < W.heap.size → k < w.heap.size + 9 → w2.heap[k]? = W.heap[k]? := fun k hk hk9 => by
    rw [hgrow.block k (by simp; omega) (fun e => by have := ownsRow_own hrow k e.symm; omega), Below.heap_alloc W tmp k hk]
  have hss : ∀ k, k ≠ w.heap.size + 1 + 1 + 1 → (w2.setCell ⟨w.heap.size + 1 + 1 + 1, 0, none⟩ v').heap[k]? = w2.heap[k]? := fun k hk => Below.heap_setCell _ _ _ _ hk
  have hv2 := hv.same (hsm _ hv.lt (by omega))
  have hsize : W.heap.size ≤ w2.heap.size := by have := hgrow.size; simp at this; omega
  have hsz2 : (w2.setCell ⟨w.heap.size + 1 + 1 + 1, 0, none⟩ v').heap.size = w2.heap.size := by simp
  refine ⟨hv2, ⟨by omega, fun k hk => ?_⟩, ⟨⟨v', ?_, ?_⟩, ?_, ?_, ?_, ?_, ?_⟩⟩
  · unfold LxOld at hk
    rw [hss k (by omega), hsm k (by omega) (by omega)]
  · exact hv2.set 0 v'
  · rw [List.length_append, List.length_singleton, tokL_snoc]
    exact ownsRow_at hown' fun g hg _ => hss g (by omega)
  · exact (h.r0.same (hsm _ h.r0.lt (by omega))).same (hss _ (by omega))
  · exact (h.r1.same (hsm _ h.r1.lt (by omega))).same (hss _ (by omega))
  · exact (h.r2.same (hsm _ h.r2.lt (by omega))).same (hss _ (by omega))
  · exact ⟨hgrow.os.trans h.bel.os, hgrow.tape.trans h.bel.tape, hgrow.output.trans h.bel.output, by rw [hsz2]; exact Nat.le_trans h.bel.size hsize, fun k hk => by rw [hss k (by omega), hsm k (by omega) (by omega)]; exact h.bel.block k hk⟩
  · intro s hs
    rcases List.mem_append.1 hs with hs | hs
    · exact h.good s hs
    · rw [List.mem_singleton.1 hs]; exact he
theorem put3 {w W : World} {pre : List TokS} (h : LxI w pre W) (x y z : Value) :
    Cl ((((W.setCell ⟨w.heap.size, 0, none⟩ x).setCell ⟨w.heap.size + 1, 0, none⟩ y).setCell ⟨w.heap.size + 1 + 1, 0, none⟩ z)) w.heap.size 23 [x] ∧ Cl ((((W.setCell ⟨w.heap.size, 0, none⟩ x).setCell ⟨w.heap.size + 1, 0, none⟩ y).setCell ⟨w.heap.size + 1 + 1, 0, none⟩ z)) (w.heap.size + 1) 3 [y] ∧ Cl ((((W.setCell ⟨w.heap.size, 0, none⟩ x).setCell ⟨w.heap.size + 1, 0, none⟩ y).setCell ⟨w.heap.size + 1 + 1, 0, none⟩ z)) (w.heap.size + 1 + 1) 24 [z] ∧
    Below w.heap.size w ((((W.setCell ⟨w.heap.size, 0, none⟩ x).setCell ⟨w.heap.size + 1, 0, none⟩ y).setCell ⟨w.heap.size + 1 + 1, 0, none⟩ z)) ∧ (∀ k, k ≠ w.heap.size → k ≠ w.heap.size + 1 → k ≠ w.heap.size + 1 + 1 → ((((W.setCell ⟨w.heap.size, 0, none⟩ x).setCell ⟨w.heap.size + 1, 0, none⟩ y).setCell ⟨w.heap.size + 1 + 1, 0, none⟩ z)).heap[k]? = W.heap[k]?) := by
  refine ⟨((h.r0.set 0 x).other (by omega) 0 y).other (by omega) 0 z, ((h.r1.other (by omega) 0 x).set 0 y).other (by omega) 0 z, ((h.r2.other (by omega) 0 x).other (by omega) 0 y).set 0 z, ((h.bel.setCell (p := ⟨w.heap.size, 0, none⟩) (Nat.le_refl _) x).setCell (p := ⟨w.heap.size + 1, 0, none⟩) (by show w.heap.size ≤ w.heap.size + 1; omega) y).setCell (p := ⟨w.heap.size + 1 + 1, 0, none⟩) (by show w.heap.size ≤ w.heap.size + 1 + 1; omega) z, fun k h0 h1 h2 => ?_⟩
  rw [Below.heap_setCell _ ⟨w.heap.size + 1 + 1, 0, none⟩ _ _ h2, Below.heap_setCell _ ⟨w.heap.size + 1, 0, none⟩ _ _ h1, Below.heap_setCell _ ⟨w.heap.size, 0, none⟩ _ _ h0]
theorem eleven_new (w : World) (x0 x1 x2 x3 x4 x5 x6 x7 x8 x9 x10 : Value) (t : TypeId) : ∀ j u, [x0, x1, x2, x3, x4, x5, x6, x7, x8, x9, x10][j]? = some u → (w.alloc (.cells #[x0, x1, x2, x3, x4, x5, x6, x7, x8, x9, x10] t)).cell? ((⟨w.heap.size, 0, none⟩ : Addr).add j) = some u := by
  intro j u hj
  have h := (Cl.new w t [x0, x1, x2, x3, x4, x5, x6, x7, x8, x9, x10]).cell j hj
  have e : (⟨w.heap.size, 0, none⟩ : Addr).add j = ⟨w.heap.size, j, none⟩ := by simp [Addr.add]; exact fun h => h.symm
  rw [e]
  exact h
/-- What Lex answers. -/
def RetLx (w : World) (z : Nat → Nat) (n : Nat) (e : Ending) (w' : World) : Prop :=
  (∃ ao cap, (∀ s, s ∈ wl z n 1100 0 → s.er = 0) ∧ e = .returned (.tuple #[.slice ao (wl z n 1100 0).length cap, .int .i64 (n : Nat), .int .i64 0]) ∧ w'.ownsRow w.heap.size 32 11 (.slice ao (wl z n 1100 0).length cap) (wl z n 1100 0).length (tokL (wl z n 1100 0)) ∧ Below w.heap.size w w') ∨
  (∃ s, s ∈ wl z n 1100 0 ∧ s.er ≠ 0 ∧ e = .returned (.tuple #[.slice none 0 0, .int .i64 (s.en : Nat), .int .i64 s.er]) ∧ Below w.heap.size w w')
end Go.Proofs.Ytkbeiadbolihiab
