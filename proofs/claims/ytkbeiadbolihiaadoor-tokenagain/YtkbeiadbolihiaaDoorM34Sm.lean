/- token: Lex: the walk. token: Print, and the reference's Print: the walks. token: Same, and the reference's: the walks. -/
import Derived.Test.YtkbeiadbolihiaaDoorM33Ws
import Derived.Maps.AppendAt
import Derived.Shelf.RegionOpen
import Derived.Test.YtkbeiadbolihiaaDoorM32Xw
import Derived.Lib.AppendStr
import Derived.Lib.AppendIntMem
import Derived.Test.YtkbeiadbolihiaaDoorM20Bt
namespace Go.Proofs.YtkbeiadbolihiaaDoor
open Go.RowKit Go.Shelf
attribute [local go_sem] Oper.semAt_some
set_option maxHeartbeats 400000 in
theorem words_any (ao : Option Addr) (n cap : Nat) (w : World) : Calls Tryd.prog 30 #[.slice ao n cap] w fun e w' => e = .returned (.func (.func 46) #[] #[.pointer (some ⟨w.heap.size, 0, none⟩)]) ∧ w' = w.alloc (.cells #[.slice ao n cap] 34) := by
  go_enter Tryd.func30, Tryd.ntmps30
  go_wp2
  go_ret
  exact ⟨rfl, rfl⟩
theorem b_tok : (Tryd.prog.info? 26).map (fun i => (i.zero, i.size, i.bytes)) = some (some (.agg #[.int .i64 0, .int .u8 0, .int .u64 0, .int .u64 0, .int .u64 0, .int .u64 0, .bool false, .int .i64 0, .int .i64 0, .bool false, .int .i64 0]), 11, 88) := by kernel_rfl
/-- The cells of tokens, one behind the other. -/
def tokL (l : List TokS) : List Value := l.flatMap tokC
theorem tokL_snoc (l : List TokS) (x : TokS) : tokL (l ++ [x]) = tokL l ++ tokC x := by simp [tokL]
theorem ownsRow_at {W W' : World} {base e size k : Nat} {v : Value} {xs : List Value} (h : W.ownsRow base e size v k xs) (hs : ∀ g, base ≤ g → g < W.heap.size → W'.heap[g]? = W.heap[g]?) : W'.ownsRow base e size v k xs :=
  ⟨h.1, h.2.imp id fun ⟨g, cap, cur, hv, hg, hc, r⟩ => ⟨g, cap, cur, hv, hg, (hs g hg (Array.getElem?_eq_some_iff.1 hc).1).trans hc, r⟩⟩
theorem ownsRow_own {W : World} {base e size k : Nat} {v : Value} {xs : List Value} (h : W.ownsRow base e size v k xs) : ∀ g, v.ownBlock = some g → base ≤ g := by
  intro g hg
  rcases h.2 with ⟨rfl, _⟩ | ⟨g', cap, cur, rfl, hb, _⟩
  · cases hg
  · simp [Value.ownBlock] at hg; omega
theorem ownsRow_slice {W : World} {base e size k : Nat} {v : Value} {xs : List Value} (h : W.ownsRow base e size v k xs) : ∃ ao cap, v = .slice ao k cap := by
  rcases h.2 with ⟨h, h0⟩ | ⟨g, cap, cur, h, _⟩
  · exact ⟨none, 0, by rw [h, h0]⟩
  · exact ⟨_, cap, h⟩
theorem ownsRow_base {W : World} {base base' e size k : Nat} {v : Value} {xs : List Value} (h : W.ownsRow base e size v k xs) (hb : base' ≤ base) : W.ownsRow base' e size v k xs :=
  ⟨h.1, h.2.imp id fun ⟨g, cap, cur, hv, hg, r⟩ => ⟨g, cap, cur, hv, Nat.le_trans hb hg, r⟩⟩
/-- What Lex holds between rounds: the tokens in a row of their own, none of them bad. -/
structure LxI (w : World) (pre : List TokS) (W : World) : Prop where
  row : ∃ v, Cl W (w.heap.size + 1 + 1 + 1) 32 [v] ∧ W.ownsRow (w.heap.size + 9) 26 11 v pre.length (tokL pre)
  r0 : Cl W w.heap.size 32 [.slice none 0 0]
  r1 : Cl W (w.heap.size + 1) 3 [.int .i64 0]
  r2 : Cl W (w.heap.size + 1 + 1) 28 [.int .i64 0]
  bel : Below w.heap.size w W
  good : ∀ s, s ∈ pre → s.er = 0
/-- What it has stored where a word is bad. -/
structure LxX (w : World) (pre : List TokS) (W : World) : Prop where
  bad : ∃ s, s ∈ pre ∧ s.er ≠ 0 ∧ Cl W (w.heap.size + 1) 3 [.int .i64 (s.en : Nat)] ∧ Cl W (w.heap.size + 1 + 1) 28 [.int .i64 s.er]
  r0 : Cl W w.heap.size 32 [.slice none 0 0]
  bel : Below w.heap.size w W
theorem Cl.turn {A B : World} {b k : Nat} {t : TypeId} {vs : List Value} (h : Cl A k t vs) (ht : Turn b A B) (hk : k < b ∨ b + 4 ≤ k) : Cl B k t vs := h.same (ht.block k h.lt hk)
theorem Turn.below {N b : Nat} {w A B : World} (ht : Turn b A B) (h : Below N w A) (hN : N ≤ b) (hs : N ≤ A.heap.size) : Below N w B :=
  ⟨ht.os.trans h.os, ht.tape.trans h.tape, ht.output.trans h.output, Nat.le_trans h.size ht.size, fun k hk => (ht.block k (by omega) (by omega)).trans (h.block k hk)⟩
theorem LxI.turn {w A B : World} {pre : List TokS} (h : LxI w pre A) (ht : Turn (w.heap.size + 5) A B) : LxI w pre B := by
  obtain ⟨⟨v, hv, hrow⟩, h0, h1, h2, hb, hg⟩ := h
  exact ⟨⟨v, hv.turn ht (by omega), ownsRow_at hrow fun g hg hl => ht.block g hl (by omega)⟩, h0.turn ht (by omega), h1.turn ht (by omega), h2.turn ht (by omega), ht.below hb (by omega) (Nat.le_of_lt h0.lt), hg⟩
theorem LxX.turn {w A B : World} {pre : List TokS} (h : LxX w pre A) (ht : Turn (w.heap.size + 5) A B) : LxX w pre B := by
  obtain ⟨⟨s, hs, he, h1, h2⟩, h0, hb⟩ := h
  exact ⟨⟨s, hs, he, h1.turn ht (by omega), h2.turn ht (by omega)⟩, h0.turn ht (by omega), ht.below hb (by omega) (Nat.le_of_lt h0.lt)⟩
/-- The loop's variables in a round. -/
def LxA (w : World) (ao : Option Addr) (n cap : Nat) (x : TokS) (a' : Act) (W : World) : Prop :=
  ∃ p, w.heap.size + 9 ≤ p ∧ a' = ⟨#[.slice ao n cap, undef, .pointer (some ⟨w.heap.size, 0, none⟩), .pointer (some ⟨w.heap.size + 1, 0, none⟩), .pointer (some ⟨w.heap.size + 1 + 1, 0, none⟩), .pointer (some ⟨w.heap.size + 1 + 1 + 1, 0, none⟩), .pointer (some ⟨p, 0, none⟩), .pointer (some ⟨p + 1, 0, none⟩), .slice ao n cap, .int .i64 (n : Nat), .bool false, .slice ao n cap, .func (.func 46) #[] #[.pointer (some ⟨w.heap.size + 1 + 1 + 1 + 1, 0, none⟩)], tokOf x, markV x.en x.er, undef, undef, undef, undef, undef, undef, undef, undef, undef, undef, undef, undef, undef, undef], []⟩ ∧ Cl W p 26 (tokC x) ∧ Cl W (p + 1) 53 [.int .i64 (x.en : Nat), .int .i64 x.er]
def LxOld (w : World) (k : Nat) : Prop := k < w.heap.size ∨ k = w.heap.size + 4
theorem KeepT.of_below {w A B : World} (h : Below A.heap.size A B) (hs : w.heap.size + 9 ≤ A.heap.size) : KeepT (w.heap.size + 5) (LxOld w) A B :=
  ⟨h.size, fun k hk => h.block k (by unfold LxOld at hk; omega)⟩
theorem lx_step {w W w2 : World} {pre : List TokS} {x : TokS} {v v' : Value} {tmp : Obj} (h : LxI w pre W) (he : x.er = 0) (hsz : w.heap.size + 9 ≤ W.heap.size) (hv : Cl W (w.heap.size + 1 + 1 + 1) 32 [v]) (hrow : W.ownsRow (w.heap.size + 9) 26 11 v pre.length (tokL pre))
    (hown' : w2.ownsRow (w.heap.size + 9) 26 11 v' (pre.length + 1) (tokL pre ++ tokC x)) (hgrow : (W.alloc tmp).grownBy w2 v.ownBlock) :
    Cl w2 (w.heap.size + 1 + 1 + 1) 32 [v] ∧ KeepT (w.heap.size + 5) (LxOld w) W (w2.setCell ⟨w.heap.size + 1 + 1 + 1, 0, none⟩ v') ∧ LxI w (pre ++ [x]) (w2.setCell ⟨w.heap.size + 1 + 1 + 1, 0, none⟩ v') := by
  have hsm : ∀ k, k < W.heap.size → k < w.heap.size + 9 → w2.heap[k]? = W.heap[k]? := fun k hk hk9 => by
    rw [hgrow.block k (by simp; omega) (fun e => by have := ownsRow_own hrow k e.symm; omega), Below.heap_alloc W tmp k hk]
  have hss : ∀ k, k ≠ w.heap.size + 1 + 1 + 1 → (w2.setCell ⟨w.heap.size + 1 + 1 + 1, 0, none⟩ v').heap[k]? = w2.heap[k]? := fun k hk => Below.heap_setCell _ _ _ _ hk
  have hv2 := hv.same (hsm _ hv.lt (by omega))
  have hsize : W.heap.size ≤ w2.heap.size := by have := hgrow.size; simp at this; omega
  have hsz2 : (w2.setCell ⟨w.heap.size + 1 + 1 + 1, 0, none⟩ v').heap.size = w2.heap.size := by simp
  refine ⟨hv2, ⟨by omega, fun k hk => ?_⟩, ⟨⟨v', ?_, ?_⟩, ?_, ?_, ?_, ?_, ?_⟩⟩
  · unfold LxOld at hk
    rw [hss k (by omega), hsm k (by omega) (by omega)]
  · exact hv2.set 0 v'
  · rw [List.length_append, List.length_singleton, tokL_snoc]
    exact ownsRow_at hown' fun g hg _ => hss g (by omega)
  · exact (h.r0.same (hsm _ h.r0.lt (by omega))).same (hss _ (by omega))
  · exact (h.r1.same (hsm _ h.r1.lt (by omega))).same (hss _ (by omega))
  · exact (h.r2.same (hsm _ h.r2.lt (by omega))).same (hss _ (by omega))
  · exact ⟨hgrow.os.trans h.bel.os, hgrow.tape.trans h.bel.tape, hgrow.output.trans h.bel.output, by rw [hsz2]; exact Nat.le_trans h.bel.size hsize, fun k hk => by rw [hss k (by omega), hsm k (by omega) (by omega)]; exact h.bel.block k hk⟩
  · intro s hs
    rcases List.mem_append.1 hs with hs | hs
    · exact h.good s hs
    · rw [List.mem_singleton.1 hs]; exact he
theorem put3 {w W : World} {pre : List TokS} (h : LxI w pre W) (x y z : Value) :
    Cl ((((W.setCell ⟨w.heap.size, 0, none⟩ x).setCell ⟨w.heap.size + 1, 0, none⟩ y).setCell ⟨w.heap.size + 1 + 1, 0, none⟩ z)) w.heap.size 32 [x] ∧ Cl ((((W.setCell ⟨w.heap.size, 0, none⟩ x).setCell ⟨w.heap.size + 1, 0, none⟩ y).setCell ⟨w.heap.size + 1 + 1, 0, none⟩ z)) (w.heap.size + 1) 3 [y] ∧ Cl ((((W.setCell ⟨w.heap.size, 0, none⟩ x).setCell ⟨w.heap.size + 1, 0, none⟩ y).setCell ⟨w.heap.size + 1 + 1, 0, none⟩ z)) (w.heap.size + 1 + 1) 28 [z] ∧
    Below w.heap.size w ((((W.setCell ⟨w.heap.size, 0, none⟩ x).setCell ⟨w.heap.size + 1, 0, none⟩ y).setCell ⟨w.heap.size + 1 + 1, 0, none⟩ z)) ∧ (∀ k, k ≠ w.heap.size → k ≠ w.heap.size + 1 → k ≠ w.heap.size + 1 + 1 → ((((W.setCell ⟨w.heap.size, 0, none⟩ x).setCell ⟨w.heap.size + 1, 0, none⟩ y).setCell ⟨w.heap.size + 1 + 1, 0, none⟩ z)).heap[k]? = W.heap[k]?) := by
  refine ⟨((h.r0.set 0 x).other (by omega) 0 y).other (by omega) 0 z, ((h.r1.other (by omega) 0 x).set 0 y).other (by omega) 0 z, ((h.r2.other (by omega) 0 x).other (by omega) 0 y).set 0 z, ((h.bel.setCell (p := ⟨w.heap.size, 0, none⟩) (Nat.le_refl _) x).setCell (p := ⟨w.heap.size + 1, 0, none⟩) (by show w.heap.size ≤ w.heap.size + 1; omega) y).setCell (p := ⟨w.heap.size + 1 + 1, 0, none⟩) (by show w.heap.size ≤ w.heap.size + 1 + 1; omega) z, fun k h0 h1 h2 => ?_⟩
  rw [Below.heap_setCell _ ⟨w.heap.size + 1 + 1, 0, none⟩ _ _ h2, Below.heap_setCell _ ⟨w.heap.size + 1, 0, none⟩ _ _ h1, Below.heap_setCell _ ⟨w.heap.size, 0, none⟩ _ _ h0]
theorem eleven_new (w : World) (x0 x1 x2 x3 x4 x5 x6 x7 x8 x9 x10 : Value) (t : TypeId) : ∀ j u, [x0, x1, x2, x3, x4, x5, x6, x7, x8, x9, x10][j]? = some u → (w.alloc (.cells #[x0, x1, x2, x3, x4, x5, x6, x7, x8, x9, x10] t)).cell? ((⟨w.heap.size, 0, none⟩ : Addr).add j) = some u := by
  intro j u hj
  have h := (Cl.new w t [x0, x1, x2, x3, x4, x5, x6, x7, x8, x9, x10]).cell j hj
  have e : (⟨w.heap.size, 0, none⟩ : Addr).add j = ⟨w.heap.size, j, none⟩ := by simp [Addr.add]; exact fun h => h.symm
  rw [e]
  exact h
/-- What Lex answers. -/
def RetLx (w : World) (z : Nat → Nat) (n : Nat) (e : Ending) (w' : World) : Prop :=
  (∃ ao cap, (∀ s, s ∈ wl z n 1100 0 → s.er = 0) ∧ e = .returned (.tuple #[.slice ao (wl z n 1100 0).length cap, .int .i64 (n : Nat), .int .i64 0]) ∧ w'.ownsRow w.heap.size 26 11 (.slice ao (wl z n 1100 0).length cap) (wl z n 1100 0).length (tokL (wl z n 1100 0)) ∧ Below w.heap.size w w') ∨
  (∃ s, s ∈ wl z n 1100 0 ∧ s.er ≠ 0 ∧ e = .returned (.tuple #[.slice none 0 0, .int .i64 (s.en : Nat), .int .i64 s.er]) ∧ Below w.heap.size w w')
end Go.Proofs.YtkbeiadbolihiaaDoor
namespace Go.Proofs.YtkbeiadbolihiaaDoor
open Go.RowKit Go.Shelf
/-- A token that can be read, with the class of its words. -/
structure TkR where
  k : Int
  b : Nat
  a0 : Nat
  a1 : Nat
  a2 : Nat
  a3 : Nat
  P : Nat → Bool
  nt : Bool
  l : Int
  m : Int
  lz : Bool
  t : Int
def TkR.text (x : TkR) : List UInt8 := tokB x.k x.b x.P x.nt x.l x.m x.lz x.t
structure TkR.ok (x : TkR) : Prop where
  hb : x.b < 256
  h4 : C4 x.P x.a0 x.a1 x.a2 x.a3
/-- The cells of a slice of tokens can be read. -/
structure RdK (w : World) (ao : Option Addr) (n : Nat) (F : Nat → TkR) : Prop where
  ok : ∀ i, i < n → (F i).ok
  at_ : 0 < n → ∃ bb off, ao = some ⟨bb, off, none⟩ ∧ bb < w.heap.size ∧ ∀ i, i < n → w.cell? ⟨bb, off + i * 11, none⟩ = some (.int .i64 (F i).k) ∧ w.cell? ⟨bb, off + i * 11 + 1, none⟩ = some (.int .u8 ((F i).b : Nat)) ∧ w.cell? ⟨bb, off + i * 11 + 2, none⟩ = some (.int .u64 ((F i).a0 : Nat)) ∧ w.cell? ⟨bb, off + i * 11 + 3, none⟩ = some (.int .u64 ((F i).a1 : Nat)) ∧ w.cell? ⟨bb, off + i * 11 + 4, none⟩ = some (.int .u64 ((F i).a2 : Nat)) ∧ w.cell? ⟨bb, off + i * 11 + 5, none⟩ = some (.int .u64 ((F i).a3 : Nat)) ∧ w.cell? ⟨bb, off + i * 11 + 6, none⟩ = some (.bool (F i).nt) ∧ w.cell? ⟨bb, off + i * 11 + 7, none⟩ = some (.int .i64 (F i).l) ∧ w.cell? ⟨bb, off + i * 11 + 8, none⟩ = some (.int .i64 (F i).m) ∧ w.cell? ⟨bb, off + i * 11 + 9, none⟩ = some (.bool (F i).lz) ∧ w.cell? ⟨bb, off + i * 11 + 10, none⟩ = some (.int .i64 (F i).t)
/-- The texts of the first n tokens. -/
def prB (F : Nat → TkR) : Nat → List UInt8
  | 0 => []
  | n + 1 => prB F n ++ (F n).text
theorem rep_len (l : Nat) (m : Int) (lz : Bool) (hl : l ≤ 1000) (hm : m ≤ 1000) : (repB l m lz).length ≤ 13 := by
  have := bnd_len l m hl hm
  unfold repB
  split
  · rw [List.length_append, List.length_singleton]; omega
  · omega
theorem tok_len (x : TkR) : x.text.length ≤ 3002 := by
  unfold TkR.text tokB
  split
  · rename_i hc
    have h1 : (litB x.b).length ≤ 3002 := by unfold litB numB; repeat' split; all_goals simp
    have h2 : (clsB x.P x.nt).length ≤ 3002 := by
      have := (cls_len x.P).2
      unfold clsB
      split
      · simp; omega
      · omega
    unfold txtB
    rcases chk_kind hc with e | ⟨e, _⟩ | e | e | e | e | ⟨e, n, hn, hl, hm⟩ | e | e
    all_goals simp [e]
    · exact h1
    · exact h2
    · have := rep_len n x.m x.lz hn (by omega)
      rw [hl]
      simp
      omega
  · simp
theorem pr_len (F : Nat → TkR) : ∀ n, (prB F n).length ≤ 3002 * n
  | 0 => by simp [prB]
  | n + 1 => by
    have := pr_len F n
    have := tok_len (F n)
    rw [prB, List.length_append]
    omega
def RetPr (w : World) (l : List UInt8) (e : Ending) (w' : World) : Prop := ∃ ao cap, e = .returned (.slice ao l.length cap) ∧ w'.ownsRow w.heap.size 5 1 (.slice ao l.length cap) l.length (Lib.byteCells l) ∧ Below w.heap.size w w'
theorem row_sl {W : World} {base e size k : Nat} {v : Value} {xs : List Value} (h : W.ownsRow base e size v k xs) : ∃ ao cap, v = .slice ao k cap := by
  rcases h.2 with ⟨h, h0⟩ | ⟨g, cap, cur, h, _⟩
  · exact ⟨none, 0, by rw [h, h0]⟩
  · exact ⟨_, cap, h⟩
theorem row_own5 {W : World} {base e size k : Nat} {v : Value} {xs : List Value} (h : W.ownsRow base e size v k xs) : ∀ g, v.ownBlock = some g → base ≤ g := by
  intro g hg
  rcases h.2 with ⟨rfl, _⟩ | ⟨g', cap, cur, rfl, hb, _⟩
  · cases hg
  · simp [Value.ownBlock] at hg; omega
/-- What Print holds between rounds. -/
structure PrI (w : World) (F : Nat → TkR) (k : Nat) (v : Value) (wr : World) : Prop where
  row : wr.ownsRow w.heap.size 5 1 v (prB F k).length (Lib.byteCells (prB F k))
  bel : Below w.heap.size w wr
theorem PrI.below {w wr W : World} {F : Nat → TkR} {k : Nat} {v : Value} (h : PrI w F k v wr) (hb : Below wr.heap.size wr W) : PrI w F k v W :=
  ⟨ownsRow_at h.row fun g _ hg => hb.block g hg, h.bel.trans (hb.mono h.bel.size)⟩
theorem PrI.next {w W w2 : World} {F : Nat → TkR} {k : Nat} {v v' : Value} (h : PrI w F k v W) {S : ByteArray} (hS : S = ⟨(F k).text.toArray⟩) (hown : w2.ownsRow w.heap.size 5 1 v' ((prB F k).length + S.size) (Lib.byteCells (prB F k) ++ Lib.strCells S)) (hg : W.grownBy w2 v.ownBlock) : PrI w F (k + 1) v' w2 := by
  subst hS
  refine ⟨?_, h.bel.grown hg h.bel.size fun g hg' => row_own5 h.row g hg'⟩
  rw [prB, List.length_append]
  rw [Lib.strCells_toArray, size_str] at hown
  have e : Lib.byteCells (prB F k ++ (F k).text) = Lib.byteCells (prB F k) ++ Lib.byteCells (F k).text := by simp [Lib.byteCells]
  rw [e]
  exact hown
set_option maxRecDepth 20000 in
set_option maxHeartbeats 2000000 in
theorem rprint_any (ao : Option Addr) (n cap : Nat) (F : Nat → TkR) (w : World) (hr : RdK w ao n F) (hn : (n : Int) ≤ 1048576) : Calls Tryd.prog 16 #[.slice ao n cap] w (RetPr w (prB F n)) := by
  obtain ⟨i0, hi, hz0, hz1, hz2⟩ := info_parts b_byte
  have hI0 : PrI w F 0 (.slice none 0 0) w := ⟨World.ownsRow_nil _ _ _ _, Below.refl _ _⟩
  go_enter Tryd.func16, Tryd.ntmps16
  go_wp2
  go_loopw [3, 4] (fun v i wr => ∃ k : Nat, k ≤ n ∧ i = .int .i64 (k : Nat) ∧ PrI w F k v wr) (fun _ i _ => n - (intOf i).toNat)
  case atStart => exact ⟨0, Nat.zero_le _, rfl, hI0⟩
  case round =>
    obtain ⟨k, hk, rfl, hI⟩ := hrel
    clear hI0
    by_cases hlt : k < n
    · obtain ⟨bb, off, rfl, hbb, hc⟩ := hr.at_ (by omega)
      have hok := hr.ok k hlt
      have hki : (k : Int) < (n : Int) := by omega
      obtain ⟨c0, c1, c2, c3, c4, c5, c6, c7, c8, c9, c10⟩ := hc k hlt
      rw [← hI.bel.cell (p := ⟨bb, off + k * 11, none⟩) hbb] at c0
      rw [← hI.bel.cell (p := ⟨bb, off + k * 11 + 1, none⟩) hbb] at c1
      rw [← hI.bel.cell (p := ⟨bb, off + k * 11 + 2, none⟩) hbb] at c2
      rw [← hI.bel.cell (p := ⟨bb, off + k * 11 + 3, none⟩) hbb] at c3
      rw [← hI.bel.cell (p := ⟨bb, off + k * 11 + 4, none⟩) hbb] at c4
      rw [← hI.bel.cell (p := ⟨bb, off + k * 11 + 5, none⟩) hbb] at c5
      rw [← hI.bel.cell (p := ⟨bb, off + k * 11 + 6, none⟩) hbb] at c6
      rw [← hI.bel.cell (p := ⟨bb, off + k * 11 + 7, none⟩) hbb] at c7
      rw [← hI.bel.cell (p := ⟨bb, off + k * 11 + 8, none⟩) hbb] at c8
      rw [← hI.bel.cell (p := ⟨bb, off + k * 11 + 9, none⟩) hbb] at c9
      rw [← hI.bel.cell (p := ⟨bb, off + k * 11 + 10, none⟩) hbb] at c10
      have hT := rtext_all (F k).k (F k).b (F k).a0 (F k).a1 (F k).a2 (F k).a3 (F k).nt (F k).l (F k).m (F k).lz (F k).t wr hok.hb hok.h4
      have hpl := pr_len F k
      have htl := tok_len (F k)
      obtain ⟨S, hS⟩ : ∃ S : ByteArray, S = ⟨(F k).text.toArray⟩ := ⟨_, rfl⟩
      have hsz : S.size ≤ 3002 := by rw [hS, size_str]; exact htl
      have HN : Hid (∀ v v' W w2, PrI w F k v W → w2.ownsRow w.heap.size 5 1 v' ((prB F k).length + S.size) (Lib.byteCells (prB F k) ++ Lib.strCells S) → W.grownBy w2 v.ownBlock → PrI w F (k + 1) v' w2) := fun v v' W w2 h ho hg => h.next hS ho hg
      unfold RetS tokI at hT
      rw [show (⟨(tokB (F k).k (F k).b (F k).P (F k).nt (F k).l (F k).m (F k).lz (F k).t).toArray⟩ : ByteArray) = S from hS.symm] at hT
      obtain ⟨aq, cq, rfl⟩ := row_sl hI.row
      clear hok hc hr hS htl
      generalize F k = q at *
      go_wp2_with fail
      refine hT.mono ?_
      rintro e w1 ⟨rfl, hb⟩
      have hI1 := hI.below hb
      have hsz1 : w.heap.size ≤ w1.heap.size := hI1.bel.size
      have hrow := hI1.row
      generalize (prB F k).length = len at *
      clear c0 c1 c2 c3 c4 c5 c6 c7 c8 c9 c10 hT hb hI
      go_wp2_with (at_builtin; refine Lib.wpList_append_own_string _ rfl _ _ 34 9 rfl w.heap.size 5 i0 Tryd.underlying34 Tryd.underlying9 hi hz0 hz1 hz2 _ _ _ rfl hrow S rfl (by unfold maxLen; omega) (by omega) (by omega) ?_; intro v' w2 hown hgrow _; have HX : Hid (PrI w F (k + 1) v' w2) := HN.out _ _ _ _ hI1 hown hgrow; clear hown hgrow)
      go_roundw
      case rel => exact ⟨k + 1, by omega, by go_num, HX.out⟩
      case measure => simp [intOf]; omega
    · obtain rfl : k = n := by omega
      have hki : ¬ (k : Int) < (k : Int) := by omega
      obtain ⟨aq, cq, rfl⟩ := row_sl hI.row
      have HR : Hid (RetPr w (prB F k) (.returned (.slice aq (prB F k).length cq)) wr) := ⟨aq, cq, rfl, hI.row, hI.bel⟩
      clear hI
      generalize (prB F k).length = len at *
      go_wp2
      go_ret
      exact HR.out
set_option maxRecDepth 20000 in
set_option maxHeartbeats 2000000 in
theorem print_any (ao : Option Addr) (n cap : Nat) (F : Nat → TkR) (w : World) (hr : RdK w ao n F) (hn : (n : Int) ≤ 1048576) (hTb : Tab w) (hPw : Pow w) : Calls Tryd.prog 15 #[.slice ao n cap] w (RetPr w (prB F n)) := by
  obtain ⟨i0, hi, hz0, hz1, hz2⟩ := info_parts b_byte
  have hI0 : PrI w F 0 (.slice none 0 0) w := ⟨World.ownsRow_nil _ _ _ _, Below.refl _ _⟩
  go_enter Tryd.func15, Tryd.ntmps15
  go_wp2
  go_loopw [3, 8] (fun v i wr => ∃ k : Nat, k ≤ n ∧ i = .int .i64 (k : Nat) ∧ PrI w F k v wr) (fun _ i _ => n - (intOf i).toNat)
  case atStart => exact ⟨0, Nat.zero_le _, rfl, hI0⟩
  case round =>
    obtain ⟨k, hk, rfl, hI⟩ := hrel
    clear hI0
    by_cases hlt : k < n
    · obtain ⟨bb, off, rfl, hbb, hc⟩ := hr.at_ (by omega)
      have hok := hr.ok k hlt
      have hki : (k : Int) < (n : Int) := by omega
      obtain ⟨c0, c1, c2, c3, c4, c5, c6, c7, c8, c9, c10⟩ := hc k hlt
      rw [← hI.bel.cell (p := ⟨bb, off + k * 11, none⟩) hbb] at c0
      rw [← hI.bel.cell (p := ⟨bb, off + k * 11 + 1, none⟩) hbb] at c1
      rw [← hI.bel.cell (p := ⟨bb, off + k * 11 + 2, none⟩) hbb] at c2
      rw [← hI.bel.cell (p := ⟨bb, off + k * 11 + 3, none⟩) hbb] at c3
      rw [← hI.bel.cell (p := ⟨bb, off + k * 11 + 4, none⟩) hbb] at c4
      rw [← hI.bel.cell (p := ⟨bb, off + k * 11 + 5, none⟩) hbb] at c5
      rw [← hI.bel.cell (p := ⟨bb, off + k * 11 + 6, none⟩) hbb] at c6
      rw [← hI.bel.cell (p := ⟨bb, off + k * 11 + 7, none⟩) hbb] at c7
      rw [← hI.bel.cell (p := ⟨bb, off + k * 11 + 8, none⟩) hbb] at c8
      rw [← hI.bel.cell (p := ⟨bb, off + k * 11 + 9, none⟩) hbb] at c9
      rw [← hI.bel.cell (p := ⟨bb, off + k * 11 + 10, none⟩) hbb] at c10
      have hI9 := hI.below (W := wr.alloc (.cells #[.int .i64 (F k).k, .int .u8 ((F k).b : Nat), .int .u64 ((F k).a0 : Nat), .int .u64 ((F k).a1 : Nat), .int .u64 ((F k).a2 : Nat), .int .u64 ((F k).a3 : Nat), .bool (F k).nt, .int .i64 (F k).l, .int .i64 (F k).m, .bool (F k).lz, .int .i64 (F k).t] 26)) ((Below.refl _ _).alloc (Nat.le_refl _) _)
      have hT := text_all (F k).k (F k).b (F k).a0 (F k).a1 (F k).a2 (F k).a3 (F k).nt (F k).l (F k).m (F k).lz (F k).t (wr.alloc (.cells #[.int .i64 (F k).k, .int .u8 ((F k).b : Nat), .int .u64 ((F k).a0 : Nat), .int .u64 ((F k).a1 : Nat), .int .u64 ((F k).a2 : Nat), .int .u64 ((F k).a3 : Nat), .bool (F k).nt, .int .i64 (F k).l, .int .i64 (F k).m, .bool (F k).lz, .int .i64 (F k).t] 26)) hok.hb (hTb.below hI9.bel) (hPw.below hI9.bel) hok.h4
      have hpl := pr_len F k
      have htl := tok_len (F k)
      obtain ⟨S, hS⟩ : ∃ S : ByteArray, S = ⟨(F k).text.toArray⟩ := ⟨_, rfl⟩
      have hsz : S.size ≤ 3002 := by rw [hS, size_str]; exact htl
      have HN : Hid (∀ v v' W w2, PrI w F k v W → w2.ownsRow w.heap.size 5 1 v' ((prB F k).length + S.size) (Lib.byteCells (prB F k) ++ Lib.strCells S) → W.grownBy w2 v.ownBlock → PrI w F (k + 1) v' w2) := fun v v' W w2 h ho hg => h.next hS ho hg
      unfold RetS tokI at hT
      rw [show (⟨(tokB (F k).k (F k).b (F k).P (F k).nt (F k).l (F k).m (F k).lz (F k).t).toArray⟩ : ByteArray) = S from hS.symm] at hT
      obtain ⟨aq, cq, rfl⟩ := row_sl hI.row
      clear hok hc hr hS htl
      generalize F k = q at *
      go_wp2_with fail
      refine hT.mono ?_
      rintro e w1 ⟨rfl, hb⟩
      have hI1 := hI9.below hb
      have hsz1 : w.heap.size ≤ w1.heap.size := hI1.bel.size
      have hrow := hI1.row
      generalize (prB F k).length = len at *
      clear c0 c1 c2 c3 c4 c5 c6 c7 c8 c9 c10 hT hb hI hI9
      go_wp2_with (at_builtin; refine Lib.wpList_append_own_string _ rfl _ _ 34 9 rfl w.heap.size 5 i0 Tryd.underlying34 Tryd.underlying9 hi hz0 hz1 hz2 _ _ _ rfl hrow S rfl (by unfold maxLen; omega) (by omega) (by omega) ?_; intro v' w2 hown hgrow _; have HX : Hid (PrI w F (k + 1) v' w2) := HN.out _ _ _ _ hI1 hown hgrow; clear hown hgrow)
      go_roundw
      case rel => exact ⟨k + 1, by omega, by go_num, HX.out⟩
      case measure => simp [intOf]; omega
    · obtain rfl : k = n := by omega
      have hki : ¬ (k : Int) < (k : Int) := by omega
      obtain ⟨aq, cq, rfl⟩ := row_sl hI.row
      have HR : Hid (RetPr w (prB F k) (.returned (.slice aq (prB F k).length cq)) wr) := ⟨aq, cq, rfl, hI.row, hI.bel⟩
      clear hI
      generalize (prB F k).length = len at *
      go_wp2
      go_ret
      exact HR.out
end Go.Proofs.YtkbeiadbolihiaaDoor
namespace Go.Proofs.YtkbeiadbolihiaaDoor
open Go.RowKit
set_option maxRecDepth 20000 in
set_option maxHeartbeats 1000000 in
theorem same12 (k : Int) (b a0 a1 a2 a3 : Nat) (nt : Bool) (l m : Int) (lz : Bool) (t : Int) (k' : Int) (b' a0' a1' a2' a3' : Nat) (nt' : Bool) (l' m' : Int) (lz' : Bool) (t' : Int) (w : World) : Calls Tryd.prog 12 #[tokI k b a0 a1 a2 a3 nt l m lz t, tokI k' b' a0' a1' a2' a3' nt' l' m' lz' t'] w (RetB w (eqT k b a0 a1 a2 a3 nt l m lz t' k' b' a0' a1' a2' a3' nt' l' m' lz' t')) := by
  have hn := run_eql26 k b a0 a1 a2 a3 nt l m lz t' k' b' a0' a1' a2' a3' nt' l' m' lz' t'
  have hB := below2 w (.cells #[.int .i64 k, .int .u8 (b : Nat), .int .u64 (a0 : Nat), .int .u64 (a1 : Nat), .int .u64 (a2 : Nat), .int .u64 (a3 : Nat), .bool nt, .int .i64 l, .int .i64 m, .bool lz, .int .i64 t'] 26) (.cells #[.int .i64 k', .int .u8 (b' : Nat), .int .u64 (a0' : Nat), .int .u64 (a1' : Nat), .int .u64 (a2' : Nat), .int .u64 (a3' : Nat), .bool nt', .int .i64 l', .int .i64 m', .bool lz', .int .i64 t'] 26)
  generalize eqT k b a0 a1 a2 a3 nt l m lz t' k' b' a0' a1' a2' a3' nt' l' m' lz' t' = x at *
  unfold tokI
  go_enter Tryd.func12, Tryd.ntmps12
  go_wp2
  go_ret
  exact ⟨rfl, hB⟩
set_option maxRecDepth 20000 in
set_option maxHeartbeats 1000000 in
theorem same13 (k : Int) (b a0 a1 a2 a3 : Nat) (nt : Bool) (l m : Int) (lz : Bool) (t : Int) (k' : Int) (b' a0' a1' a2' a3' : Nat) (nt' : Bool) (l' m' : Int) (lz' : Bool) (t' : Int) (w : World) : Calls Tryd.prog 13 #[tokI k b a0 a1 a2 a3 nt l m lz t, tokI k' b' a0' a1' a2' a3' nt' l' m' lz' t'] w (RetB w (eqT k b a0 a1 a2 a3 nt l m lz t' k' b' a0' a1' a2' a3' nt' l' m' lz' t')) := by
  have hn := run_eql26 k b a0 a1 a2 a3 nt l m lz t' k' b' a0' a1' a2' a3' nt' l' m' lz' t'
  have hB := below2 w (.cells #[.int .i64 k, .int .u8 (b : Nat), .int .u64 (a0 : Nat), .int .u64 (a1 : Nat), .int .u64 (a2 : Nat), .int .u64 (a3 : Nat), .bool nt, .int .i64 l, .int .i64 m, .bool lz, .int .i64 t'] 26) (.cells #[.int .i64 k', .int .u8 (b' : Nat), .int .u64 (a0' : Nat), .int .u64 (a1' : Nat), .int .u64 (a2' : Nat), .int .u64 (a3' : Nat), .bool nt', .int .i64 l', .int .i64 m', .bool lz', .int .i64 t'] 26)
  generalize eqT k b a0 a1 a2 a3 nt l m lz t' k' b' a0' a1' a2' a3' nt' l' m' lz' t' = x at *
  unfold tokI
  go_enter Tryd.func13, Tryd.ntmps13
  go_wp2
  go_ret
  exact ⟨rfl, hB⟩
end Go.Proofs.YtkbeiadbolihiaaDoor
