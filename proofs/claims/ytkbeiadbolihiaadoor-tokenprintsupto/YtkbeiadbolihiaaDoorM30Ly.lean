/- token: Lex: the walk. token: Lex as a whole. -/
import Derived.Test.YtkbeiadbolihiaaDoorM29Ws
import Derived.Maps.AppendAt
import Derived.Shelf.RegionOpen
namespace Go.Proofs.YtkbeiadbolihiaaDoor
open Go.RowKit Go.Shelf
attribute [local go_sem] Oper.semAt_some
set_option maxHeartbeats 400000 in
theorem words_any (ao : Option Addr) (n cap : Nat) (w : World) : Calls Tryd.prog 30 #[.slice ao n cap] w fun e w' => e = .returned (.func (.func 46) #[] #[.pointer (some ⟨w.heap.size, 0, none⟩)]) ∧ w' = w.alloc (.cells #[.slice ao n cap] 34) := by
  go_enter Tryd.func30, Tryd.ntmps30
  go_wp2
  go_ret
  exact ⟨rfl, rfl⟩
theorem b_tok : (Tryd.prog.info? 26).map (fun i => (i.zero, i.size, i.bytes)) = some (some (.agg #[.int .i64 0, .int .u8 0, .int .u64 0, .int .u64 0, .int .u64 0, .int .u64 0, .bool false, .int .i64 0, .int .i64 0, .bool false, .int .i64 0]), 11, 88) := by kernel_rfl
/-- The cells of tokens, one behind the other. -/
def tokL (l : List TokS) : List Value := l.flatMap tokC
theorem tokL_snoc (l : List TokS) (x : TokS) : tokL (l ++ [x]) = tokL l ++ tokC x := by simp [tokL]
theorem ownsRow_at {W W' : World} {base e size k : Nat} {v : Value} {xs : List Value} (h : W.ownsRow base e size v k xs) (hs : ∀ g, base ≤ g → g < W.heap.size → W'.heap[g]? = W.heap[g]?) : W'.ownsRow base e size v k xs :=
  ⟨h.1, h.2.imp id fun ⟨g, cap, cur, hv, hg, hc, r⟩ => ⟨g, cap, cur, hv, hg, (hs g hg (Array.getElem?_eq_some_iff.1 hc).1).trans hc, r⟩⟩
theorem ownsRow_own {W : World} {base e size k : Nat} {v : Value} {xs : List Value} (h : W.ownsRow base e size v k xs) : ∀ g, v.ownBlock = some g → base ≤ g := by
  intro g hg
  rcases h.2 with ⟨rfl, _⟩ | ⟨g', cap, cur, rfl, hb, _⟩
  · cases hg
  · simp [Value.ownBlock] at hg; omega
theorem ownsRow_slice {W : World} {base e size k : Nat} {v : Value} {xs : List Value} (h : W.ownsRow base e size v k xs) : ∃ ao cap, v = .slice ao k cap := by
  rcases h.2 with ⟨h, h0⟩ | ⟨g, cap, cur, h, _⟩
  · exact ⟨none, 0, by rw [h, h0]⟩
  · exact ⟨_, cap, h⟩
theorem ownsRow_base {W : World} {base base' e size k : Nat} {v : Value} {xs : List Value} (h : W.ownsRow base e size v k xs) (hb : base' ≤ base) : W.ownsRow base' e size v k xs :=
  ⟨h.1, h.2.imp id fun ⟨g, cap, cur, hv, hg, r⟩ => ⟨g, cap, cur, hv, Nat.le_trans hb hg, r⟩⟩
/-- What Lex holds between rounds: the tokens in a row of their own, none of them bad. -/
structure LxI (w : World) (pre : List TokS) (W : World) : Prop where
  row : ∃ v, Cl W (w.heap.size + 1 + 1 + 1) 32 [v] ∧ W.ownsRow (w.heap.size + 9) 26 11 v pre.length (tokL pre)
  r0 : Cl W w.heap.size 32 [.slice none 0 0]
  r1 : Cl W (w.heap.size + 1) 3 [.int .i64 0]
  r2 : Cl W (w.heap.size + 1 + 1) 28 [.int .i64 0]
  bel : Below w.heap.size w W
  good : ∀ s, s ∈ pre → s.er = 0
/-- What it has stored where a word is bad. -/
structure LxX (w : World) (pre : List TokS) (W : World) : Prop where
  bad : ∃ s, s ∈ pre ∧ s.er ≠ 0 ∧ Cl W (w.heap.size + 1) 3 [.int .i64 (s.en : Nat)] ∧ Cl W (w.heap.size + 1 + 1) 28 [.int .i64 s.er]
  r0 : Cl W w.heap.size 32 [.slice none 0 0]
  bel : Below w.heap.size w W
theorem Cl.turn {A B : World} {b k : Nat} {t : TypeId} {vs : List Value} (h : Cl A k t vs) (ht : Turn b A B) (hk : k < b ∨ b + 4 ≤ k) : Cl B k t vs := h.same (ht.block k h.lt hk)
theorem Turn.below {N b : Nat} {w A B : World} (ht : Turn b A B) (h : Below N w A) (hN : N ≤ b) (hs : N ≤ A.heap.size) : Below N w B :=
  ⟨ht.os.trans h.os, ht.tape.trans h.tape, ht.output.trans h.output, Nat.le_trans h.size ht.size, fun k hk => (ht.block k (by omega) (by omega)).trans (h.block k hk)⟩
theorem LxI.turn {w A B : World} {pre : List TokS} (h : LxI w pre A) (ht : Turn (w.heap.size + 5) A B) : LxI w pre B := by
  obtain ⟨⟨v, hv, hrow⟩, h0, h1, h2, hb, hg⟩ := h
  exact ⟨⟨v, hv.turn ht (by omega), ownsRow_at hrow fun g hg hl => ht.block g hl (by omega)⟩, h0.turn ht (by omega), h1.turn ht (by omega), h2.turn ht (by omega), ht.below hb (by omega) (Nat.le_of_lt h0.lt), hg⟩
theorem LxX.turn {w A B : World} {pre : List TokS} (h : LxX w pre A) (ht : Turn (w.heap.size + 5) A B) : LxX w pre B := by
  obtain ⟨⟨s, hs, he, h1, h2⟩, h0, hb⟩ := h
  exact ⟨⟨s, hs, he, h1.turn ht (by omega), h2.turn ht (by omega)⟩, h0.turn ht (by omega), ht.below hb (by omega) (Nat.le_of_lt h0.lt)⟩
/-- The loop's variables in a round. -/
def LxA (w : World) (ao : Option Addr) (n cap : Nat) (x : TokS) (a' : Act) (W : World) : Prop :=
  ∃ p, w.heap.size + 9 ≤ p ∧ a' = ⟨#[.slice ao n cap, undef, .pointer (some ⟨w.heap.size, 0, none⟩), .pointer (some ⟨w.heap.size + 1, 0, none⟩), .pointer (some ⟨w.heap.size + 1 + 1, 0, none⟩), .pointer (some ⟨w.heap.size + 1 + 1 + 1, 0, none⟩), .pointer (some ⟨p, 0, none⟩), .pointer (some ⟨p + 1, 0, none⟩), .slice ao n cap, .int .i64 (n : Nat), .bool false, .slice ao n cap, .func (.func 46) #[] #[.pointer (some ⟨w.heap.size + 1 + 1 + 1 + 1, 0, none⟩)], tokOf x, markV x.en x.er, undef, undef, undef, undef, undef, undef, undef, undef, undef, undef, undef, undef, undef, undef], []⟩ ∧ Cl W p 26 (tokC x) ∧ Cl W (p + 1) 53 [.int .i64 (x.en : Nat), .int .i64 x.er]
def LxOld (w : World) (k : Nat) : Prop := k < w.heap.size ∨ k = w.heap.size + 4
theorem KeepT.of_below {w A B : World} (h : Below A.heap.size A B) (hs : w.heap.size + 9 ≤ A.heap.size) : KeepT (w.heap.size + 5) (LxOld w) A B :=
  ⟨h.size, fun k hk => h.block k (by unfold LxOld at hk; omega)⟩
theorem lx_step {w W w2 : World} {pre : List TokS} {x : TokS} {v v' : Value} {tmp : Obj} (h : LxI w pre W) (he : x.er = 0) (hsz : w.heap.size + 9 ≤ W.heap.size) (hv : Cl W (w.heap.size + 1 + 1 + 1) 32 [v]) (hrow : W.ownsRow (w.heap.size + 9) 26 11 v pre.length (tokL pre))
    (hown' : w2.ownsRow (w.heap.size + 9) 26 11 v' (pre.length + 1) (tokL pre ++ tokC x)) (hgrow : (W.alloc tmp).grownBy w2 v.ownBlock) :
    Cl w2 (w.heap.size + 1 + 1 + 1) 32 [v] ∧ KeepT (w.heap.size + 5) (LxOld w) W (w2.setCell ⟨w.heap.size + 1 + 1 + 1, 0, none⟩ v') ∧ LxI w (pre ++ [x]) (w2.setCell ⟨w.heap.size + 1 + 1 + 1, 0, none⟩ v') := by
  have hsm : ∀ k, k < W.heap.size → k < w.heap.size + 9 → w2.heap[k]? = W.heap[k]? := fun k hk hk9 => by
    rw [hgrow.block k (by simp; omega) (fun e => by have := ownsRow_own hrow k e.symm; omega), Below.heap_alloc W tmp k hk]
  have hss : ∀ k, k ≠ w.heap.size + 1 + 1 + 1 → (w2.setCell ⟨w.heap.size + 1 + 1 + 1, 0, none⟩ v').heap[k]? = w2.heap[k]? := fun k hk => Below.heap_setCell _ _ _ _ hk
  have hv2 := hv.same (hsm _ hv.lt (by omega))
  have hsize : W.heap.size ≤ w2.heap.size := by have := hgrow.size; simp at this; omega
  have hsz2 : (w2.setCell ⟨w.heap.size + 1 + 1 + 1, 0, none⟩ v').heap.size = w2.heap.size := by simp
  refine ⟨hv2, ⟨by omega, fun k hk => ?_⟩, ⟨⟨v', ?_, ?_⟩, ?_, ?_, ?_, ?_, ?_⟩⟩
  · unfold LxOld at hk
    rw [hss k (by omega), hsm k (by omega) (by omega)]
  · exact hv2.set 0 v'
  · rw [List.length_append, List.length_singleton, tokL_snoc]
    exact ownsRow_at hown' fun g hg _ => hss g (by omega)
  · exact (h.r0.same (hsm _ h.r0.lt (by omega))).same (hss _ (by omega))
  · exact (h.r1.same (hsm _ h.r1.lt (by omega))).same (hss _ (by omega))
  · exact (h.r2.same (hsm _ h.r2.lt (by omega))).same (hss _ (by omega))
  · exact ⟨hgrow.os.trans h.bel.os, hgrow.tape.trans h.bel.tape, hgrow.output.trans h.bel.output, by rw [hsz2]; exact Nat.le_trans h.bel.size hsize, fun k hk => by rw [hss k (by omega), hsm k (by omega) (by omega)]; exact h.bel.block k hk⟩
  · intro s hs
    rcases List.mem_append.1 hs with hs | hs
    · exact h.good s hs
    · rw [List.mem_singleton.1 hs]; exact he
theorem put3 {w W : World} {pre : List TokS} (h : LxI w pre W) (x y z : Value) :
    Cl ((((W.setCell ⟨w.heap.size, 0, none⟩ x).setCell ⟨w.heap.size + 1, 0, none⟩ y).setCell ⟨w.heap.size + 1 + 1, 0, none⟩ z)) w.heap.size 32 [x] ∧ Cl ((((W.setCell ⟨w.heap.size, 0, none⟩ x).setCell ⟨w.heap.size + 1, 0, none⟩ y).setCell ⟨w.heap.size + 1 + 1, 0, none⟩ z)) (w.heap.size + 1) 3 [y] ∧ Cl ((((W.setCell ⟨w.heap.size, 0, none⟩ x).setCell ⟨w.heap.size + 1, 0, none⟩ y).setCell ⟨w.heap.size + 1 + 1, 0, none⟩ z)) (w.heap.size + 1 + 1) 28 [z] ∧
    Below w.heap.size w ((((W.setCell ⟨w.heap.size, 0, none⟩ x).setCell ⟨w.heap.size + 1, 0, none⟩ y).setCell ⟨w.heap.size + 1 + 1, 0, none⟩ z)) ∧ (∀ k, k ≠ w.heap.size → k ≠ w.heap.size + 1 → k ≠ w.heap.size + 1 + 1 → ((((W.setCell ⟨w.heap.size, 0, none⟩ x).setCell ⟨w.heap.size + 1, 0, none⟩ y).setCell ⟨w.heap.size + 1 + 1, 0, none⟩ z)).heap[k]? = W.heap[k]?) := by
  refine ⟨((h.r0.set 0 x).other (by omega) 0 y).other (by omega) 0 z, ((h.r1.other (by omega) 0 x).set 0 y).other (by omega) 0 z, ((h.r2.other (by omega) 0 x).other (by omega) 0 y).set 0 z, ((h.bel.setCell (p := ⟨w.heap.size, 0, none⟩) (Nat.le_refl _) x).setCell (p := ⟨w.heap.size + 1, 0, none⟩) (by show w.heap.size ≤ w.heap.size + 1; omega) y).setCell (p := ⟨w.heap.size + 1 + 1, 0, none⟩) (by show w.heap.size ≤ w.heap.size + 1 + 1; omega) z, fun k h0 h1 h2 => ?_⟩
  rw [Below.heap_setCell _ ⟨w.heap.size + 1 + 1, 0, none⟩ _ _ h2, Below.heap_setCell _ ⟨w.heap.size + 1, 0, none⟩ _ _ h1, Below.heap_setCell _ ⟨w.heap.size, 0, none⟩ _ _ h0]
theorem eleven_new (w : World) (x0 x1 x2 x3 x4 x5 x6 x7 x8 x9 x10 : Value) (t : TypeId) : ∀ j u, [x0, x1, x2, x3, x4, x5, x6, x7, x8, x9, x10][j]? = some u → (w.alloc (.cells #[x0, x1, x2, x3, x4, x5, x6, x7, x8, x9, x10] t)).cell? ((⟨w.heap.size, 0, none⟩ : Addr).add j) = some u := by
  intro j u hj
  have h := (Cl.new w t [x0, x1, x2, x3, x4, x5, x6, x7, x8, x9, x10]).cell j hj
  have e : (⟨w.heap.size, 0, none⟩ : Addr).add j = ⟨w.heap.size, j, none⟩ := by simp [Addr.add]; exact fun h => h.symm
  rw [e]
  exact h
/-- What Lex answers. -/
def RetLx (w : World) (z : Nat → Nat) (n : Nat) (e : Ending) (w' : World) : Prop :=
  (∃ ao cap, (∀ s, s ∈ wl z n 1100 0 → s.er = 0) ∧ e = .returned (.tuple #[.slice ao (wl z n 1100 0).length cap, .int .i64 (n : Nat), .int .i64 0]) ∧ w'.ownsRow w.heap.size 26 11 (.slice ao (wl z n 1100 0).length cap) (wl z n 1100 0).length (tokL (wl z n 1100 0)) ∧ Below w.heap.size w w') ∨
  (∃ s, s ∈ wl z n 1100 0 ∧ s.er ≠ 0 ∧ e = .returned (.tuple #[.slice none 0 0, .int .i64 (s.en : Nat), .int .i64 s.er]) ∧ Below w.heap.size w w')
end Go.Proofs.YtkbeiadbolihiaaDoor
namespace Go.Proofs.YtkbeiadbolihiaaDoor
open Go.RowKit Go.Shelf
attribute [local go_sem] Oper.semAt_some
set_option maxRecDepth 100000 in
set_option maxHeartbeats 2000000 in
theorem lex_short (ao : Option Addr) (n cap : Nat) (z : Nat → Nat) (w : World) (hr : Rd w ao n z) (hn : (n : Int) ≤ 1024) : Calls Tryd.prog 17 #[.slice ao n cap] w (RetLx w z n) := by
  have hgt : ¬ ((n : Int) > 1024) := by omega
  have hB0 : Below w.heap.size w (((((w.alloc (.cells #[.slice none 0 0] 32)).alloc (.cells #[.int .i64 0] 3)).alloc (.cells #[.int .i64 0] 28)).alloc (.cells #[.slice none 0 0] 32)).alloc (.cells #[.slice ao n cap] 34)) := (bel4 w _ _ _ _).alloc (by simp; omega) _
  have hI0 : LxI w [] (((((w.alloc (.cells #[.slice none 0 0] 32)).alloc (.cells #[.int .i64 0] 3)).alloc (.cells #[.int .i64 0] 28)).alloc (.cells #[.slice none 0 0] 32)).alloc (.cells #[.slice ao n cap] 34)) := by
    refine ⟨⟨.slice none 0 0, ?_, World.ownsRow_nil _ _ _ _⟩, ?_, ?_, ?_, hB0, fun s hs => by cases hs⟩
    · have := (Cl.new (((w.alloc (.cells #[.slice none 0 0] 32)).alloc (.cells #[.int .i64 0] 3)).alloc (.cells #[.int .i64 0] 28)) 32 [.slice none 0 0]).alloc (.cells #[.slice ao n cap] 34)
      simpa using this
    · exact ((((Cl.new w 32 [.slice none 0 0]).alloc _).alloc _).alloc _).alloc _
    · have := (((Cl.new (w.alloc (.cells #[.slice none 0 0] 32)) 3 [.int .i64 0]).alloc (.cells #[.int .i64 0] 28)).alloc (.cells #[.slice none 0 0] 32)).alloc (.cells #[.slice ao n cap] 34)
      simpa using this
    · have := ((Cl.new ((w.alloc (.cells #[.slice none 0 0] 32)).alloc (.cells #[.int .i64 0] 3)) 28 [.int .i64 0]).alloc (.cells #[.slice none 0 0] 32)).alloc (.cells #[.slice ao n cap] 34)
      simpa using this
  have hP0 : Cl (((((w.alloc (.cells #[.slice none 0 0] 32)).alloc (.cells #[.int .i64 0] 3)).alloc (.cells #[.int .i64 0] 28)).alloc (.cells #[.slice none 0 0] 32)).alloc (.cells #[.slice ao n cap] 34)) (w.heap.size + 1 + 1 + 1 + 1) 34 [.slice ao n cap] := by
    have := Cl.new ((((w.alloc (.cells #[.slice none 0 0] 32)).alloc (.cells #[.int .i64 0] 3)).alloc (.cells #[.int .i64 0] 28)).alloc (.cells #[.slice none 0 0] 32)) 34 [.slice ao n cap]
    simpa using this
  have hW := words_any ao n cap
  refine (callsIn_wide (n := 5)).1 ?_
  refine callsIn_of_wp_marks Tryd.func17 rfl trivial ?_ rfl
  simp only [Tryd.ntmps17, List.size_toArray, List.length_cons, List.length_nil, Nat.reduceAdd, Nat.reduceSub, Array.replicate_succ, Array.replicate_zero, List.push_toArray, List.append_toArray, List.nil_append, List.cons_append]
  gi_wp2_with (refine ⟨trivial, ?_⟩; gi_at_call 30; refine (callsIn_wide.2 (hW _)).mono ?_; rintro e w1 ⟨rfl, rfl⟩)
  generalize hw1 : ((((w.alloc (.cells #[.slice none 0 0] 32)).alloc (.cells #[.int .i64 0] 3)).alloc (.cells #[.int .i64 0] 28)).alloc (.cells #[.slice none 0 0] 32)).alloc (.cells #[.slice ao n cap] 34) = w1 at *
  have hs : w1.heap.size = w.heap.size + 5 := by rw [← hw1]; simp
  have hold : ∀ k, k < w.heap.size → w1.heap[k]? = w.heap[k]? := fun k hk => hB0.block k hk
  clear hw1 hW
  obtain ⟨i0, hi, hz0, hz1, hz2⟩ := info_parts b_tok
  refine wpIn_rangeFunc_turn (n := 5) rfl (by decide) (gf := 46) (lb := #[.pointer (some ⟨w.heap.size + 1 + 1 + 1 + 1, 0, none⟩)]) rfl trivial (enters_of Tryd.func46 (by kernel_rfl) rfl)
    (encs := fun s : TokS => #[tokOf s, markV s.en s.er]) (S := fun ys => ys = wl z n 1100 0) (Sp := fun pre => pre <+: wl z n 1100 0) (N := 1024) (LxOld w) (fun k hk => by unfold LxOld at hk; omega)
    (words_seq 4 (by decide) w w1 (w.heap.size + 1 + 1 + 1 + 1) (LxOld w) (fun _ h => h) ao n cap z hr hn hP0 hold (by omega)) (fun _ => rfl)
    (LxI w) (fun c pre W => c = .ret ∧ LxX w pre W) (fun s A B h ht => h.turn (hs ▸ ht)) (fun c s A B h ht => ⟨h.1, h.2.turn (hs ▸ ht)⟩) hI0
    (LxA w ao n cap) (fun x a' A B h ht => ?_) ?assign ?body ?done ?stop
  · obtain ⟨p, hp, e, h1, h2⟩ := h
    exact ⟨p, hp, e, h1.turn ht (by omega), h2.turn ht (by omega)⟩
  case assign =>
    intro pre x W K hI hsz hK
    rw [hs] at hsz
    have HX : Hid (LxA w ao n cap x ⟨#[.slice ao n cap, undef, .pointer (some ⟨w.heap.size, 0, none⟩), .pointer (some ⟨w.heap.size + 1, 0, none⟩), .pointer (some ⟨w.heap.size + 1 + 1, 0, none⟩), .pointer (some ⟨w.heap.size + 1 + 1 + 1, 0, none⟩), .pointer (some ⟨W.heap.size, 0, none⟩), .pointer (some ⟨W.heap.size + 1, 0, none⟩), .slice ao n cap, .int .i64 (n : Nat), .bool false, .slice ao n cap, .func (.func 46) #[] #[.pointer (some ⟨w.heap.size + 1 + 1 + 1 + 1, 0, none⟩)], tokOf x, markV x.en x.er, undef, undef, undef, undef, undef, undef, undef, undef, undef, undef, undef, undef, undef, undef], []⟩ ((W.alloc (.cells #[.int .i64 x.k, .int .u8 (x.b : Nat), .int .u64 (wds x.P 0 : Nat), .int .u64 (wds x.P 1 : Nat), .int .u64 (wds x.P 2 : Nat), .int .u64 (wds x.P 3 : Nat), .bool x.nt, .int .i64 x.l, .int .i64 x.m, .bool x.lz, .int .i64 (x.at_ : Nat)] 26)).alloc (.cells #[.int .i64 (x.en : Nat), .int .i64 x.er] 53))) := by
      refine ⟨W.heap.size, by omega, rfl, (Cl.new W 26 _).alloc _, ?_⟩
      have := Cl.new (W.alloc (.cells #[.int .i64 x.k, .int .u8 (x.b : Nat), .int .u64 (wds x.P 0 : Nat), .int .u64 (wds x.P 1 : Nat), .int .u64 (wds x.P 2 : Nat), .int .u64 (wds x.P 3 : Nat), .bool x.nt, .int .i64 x.l, .int .i64 x.m, .bool x.lz, .int .i64 (x.at_ : Nat)] 26)) 53 [.int .i64 (x.en : Nat), .int .i64 x.er]
      simpa using this
    have HI : Hid (LxI w pre ((W.alloc (.cells #[.int .i64 x.k, .int .u8 (x.b : Nat), .int .u64 (wds x.P 0 : Nat), .int .u64 (wds x.P 1 : Nat), .int .u64 (wds x.P 2 : Nat), .int .u64 (wds x.P 3 : Nat), .bool x.nt, .int .i64 x.l, .int .i64 x.m, .bool x.lz, .int .i64 (x.at_ : Nat)] 26)).alloc (.cells #[.int .i64 (x.en : Nat), .int .i64 x.er] 53))) := hI.turn (Turn.of_below (bel2 W _ _))
    have HT : Hid (KeepT w1.heap.size (LxOld w) W ((W.alloc (.cells #[.int .i64 x.k, .int .u8 (x.b : Nat), .int .u64 (wds x.P 0 : Nat), .int .u64 (wds x.P 1 : Nat), .int .u64 (wds x.P 2 : Nat), .int .u64 (wds x.P 3 : Nat), .bool x.nt, .int .i64 x.l, .int .i64 x.m, .bool x.lz, .int .i64 (x.at_ : Nat)] 26)).alloc (.cells #[.int .i64 (x.en : Nat), .int .i64 x.er] 53))) := by rw [hs]; exact KeepT.of_below (bel2 W _ _) (by omega)
    clear hI hold hP0 hI0 hB0 hr
    unfold tokOf markV tokV at *
    gi_wp2
    exact hK _ _ HT.out HI.out HX.out
  case body =>
    rintro pre x a' W hI ⟨p, hp, rfl, ht, hm⟩ hsz hlen
    rw [hs] at hsz
    obtain ⟨v, hv, hrow⟩ := hI.row
    obtain ⟨⟨m0, m1⟩, n0, n1⟩ := hm.two
    obtain ⟨v0, v1⟩ := hv.one
    by_cases he : x.er = 0
    · have h9 : (x.er != 0) = false := by simp [he]
      have HC : Hid (Cl W p 26 [.int .i64 x.k, .int .u8 (x.b : Nat), .int .u64 (wds x.P 0 : Nat), .int .u64 (wds x.P 1 : Nat), .int .u64 (wds x.P 2 : Nat), .int .u64 (wds x.P 3 : Nat), .bool x.nt, .int .i64 x.l, .int .i64 x.m, .bool x.lz, .int .i64 (x.at_ : Nat)]) := ht
      obtain ⟨c0, c1, c2, c3, c4, c5, c6, c7, c8, c9, c10⟩ := HC.out.eleven.1
      obtain ⟨ao', cap', rfl⟩ := ownsRow_slice hrow
      have HS : Hid (∀ v' w2, w2.ownsRow (w.heap.size + 9) 26 11 v' (pre.length + 1) (tokL pre ++ [.int .i64 x.k, .int .u8 (x.b : Nat), .int .u64 (wds x.P 0 : Nat), .int .u64 (wds x.P 1 : Nat), .int .u64 (wds x.P 2 : Nat), .int .u64 (wds x.P 3 : Nat), .bool x.nt, .int .i64 x.l, .int .i64 x.m, .bool x.lz, .int .i64 (x.at_ : Nat)]) → (W.alloc (.cells #[.int .i64 x.k, .int .u8 (x.b : Nat), .int .u64 (wds x.P 0 : Nat), .int .u64 (wds x.P 1 : Nat), .int .u64 (wds x.P 2 : Nat), .int .u64 (wds x.P 3 : Nat), .bool x.nt, .int .i64 x.l, .int .i64 x.m, .bool x.lz, .int .i64 (x.at_ : Nat)] 26)).grownBy w2 (Value.slice ao' pre.length cap').ownBlock → _) := fun v' w2 ho hg => lx_step (x := x) hI he hsz hv hrow ho hg
      have hb : (pre.length : Int) < 1024 := by omega
      clear ht hm hI hv hold hP0 hI0 hB0 hr he
      unfold tokOf markV tokV
      generalize wds x.P 0 = a0 at *
      generalize wds x.P 1 = a1 at *
      generalize wds x.P 2 = a2 at *
      generalize wds x.P 3 = a3 at *
      gi_wp2_with (gi_at_builtin; refine wpListIn_append_own _ rfl _ _ 32 rfl (w.heap.size + 9) 26 i0 (.agg #[.int .i64 0, .int .u8 0, .int .u64 0, .int .u64 0, .int .u64 0, .int .u64 0, .bool false, .int .i64 0, .int .i64 0, .bool false, .int .i64 0]) 11 88 Tryd.underlying32 hi hz0 hz1 hz2 rfl (by decide) _ _ _ rfl (hrow.alloc _) ⟨W.heap.size, 0, none⟩ 1 1 [.int .i64 x.k, .int .u8 (x.b : Nat), .int .u64 (a0 : Nat), .int .u64 (a1 : Nat), .int .u64 (a2 : Nat), .int .u64 (a3 : Nat), .bool x.nt, .int .i64 x.l, .int .i64 x.m, .bool x.lz, .int .i64 (x.at_ : Nat)] rfl rfl (eleven_new _ _ _ _ _ _ _ _ _ _ _ _ _) (by simp [Value.oneCell']) (by unfold maxLen; omega) (by omega) (by simp; omega) ?_; intro v' w2 hown' hgrow _; obtain ⟨hv2, hk2, hi2⟩ := HS.out v' w2 hown' hgrow; obtain ⟨ao2, cap2, rfl⟩ := ownsRow_slice hown'; obtain ⟨q0, q1⟩ := hv2.one; have HZ : Hid (_ ∧ _) := ⟨hk2, hi2⟩; clear hk2 hi2 hv2 hgrow)
      exact ⟨by rw [hs]; exact HZ.out.1, HZ.out.2⟩
    · have h9 : (x.er != 0) = true := by simp [he]
      obtain ⟨p0, p1, p2, p3, p4⟩ := put3 hI (.slice none 0 0) (.int .i64 (x.en : Nat)) (.int .i64 x.er)
      have HX : Hid (LxX w (pre ++ [x]) ((((W.setCell ⟨w.heap.size, 0, none⟩ (.slice none 0 0)).setCell ⟨w.heap.size + 1, 0, none⟩ (.int .i64 (x.en : Nat))).setCell ⟨w.heap.size + 1 + 1, 0, none⟩ (.int .i64 x.er)).drew)) := ⟨⟨x, by simp, he, p1.drew, p2.drew⟩, p0.drew, p3.drew⟩
      have HK : Hid (KeepT w1.heap.size (LxOld w) W ((((W.setCell ⟨w.heap.size, 0, none⟩ (.slice none 0 0)).setCell ⟨w.heap.size + 1, 0, none⟩ (.int .i64 (x.en : Nat))).setCell ⟨w.heap.size + 1 + 1, 0, none⟩ (.int .i64 x.er)).drew)) := ⟨by show W.heap.size ≤ (((W.setCell _ _).setCell _ _).setCell _ _).heap.size; simp, fun k hk => by rw [hs] at hk; unfold LxOld at hk; exact p4 k (by omega) (by omega) (by omega)⟩
      obtain ⟨r0, r1⟩ := hI.r0.one
      obtain ⟨s0, s1⟩ := hI.r1.one
      obtain ⟨t0, t1⟩ := hI.r2.one
      have hmo : Tryd.prog.follows .mixedOrders = true := by kernel_rfl
      have np : p ≠ w.heap.size ∧ p ≠ w.heap.size + 1 ∧ p ≠ w.heap.size + 1 + 1 ∧ p + 1 ≠ w.heap.size ∧ p + 1 ≠ w.heap.size + 1 ∧ p + 1 ≠ w.heap.size + 1 + 1 := by omega
      obtain ⟨np0, np1, np2, np3, np4, np5⟩ := np
      clear ht hm hI hv hold hP0 hI0 hB0 hr he hrow p0 p1 p2 p3 p4
      unfold tokOf markV tokV
      gi_wp2_with fail
      gi_region_with_o (fail)
      all_goals gi_wp2
      all_goals exact ⟨HK.out, rfl, HX.out⟩
  case done =>
    rintro xs W rfl hI hD
    obtain ⟨v, hv, hrow⟩ := hI.row
    obtain ⟨ao', cap', rfl⟩ := ownsRow_slice hrow
    obtain ⟨v0, v1⟩ := hv.one
    obtain ⟨r0, r1⟩ := hI.r0.one
    obtain ⟨s0, s1⟩ := hI.r1.one
    obtain ⟨t0, t1⟩ := hI.r2.one
    have hg := hI.good
    obtain ⟨p0, p1, p2, p3, p4⟩ := put3 hI (.slice ao' (wl z n 1100 0).length cap') (.int .i64 (n : Nat)) (.int .i64 0)
    have HR : Hid (RetLx w z n (.returned (.tuple #[.slice ao' (wl z n 1100 0).length cap', .int .i64 (n : Nat), .int .i64 0])) (((((W.setCell ⟨w.heap.size, 0, none⟩ (.slice ao' (wl z n 1100 0).length cap')).setCell ⟨w.heap.size + 1, 0, none⟩ (.int .i64 (n : Nat))).setCell ⟨w.heap.size + 1 + 1, 0, none⟩ (.int .i64 0)).putObj w1.heap.size (.deferred none)))) := by
      refine .inl ⟨ao', cap', hg, rfl, ownsRow_base (ownsRow_at (ownsRow_at hrow fun g hg _ => p4 g (by omega) (by omega) (by omega)) fun g hg _ => World.putObj_heap_other (by omega)) (by omega), ?_⟩
      exact (Turn.put (b := w1.heap.size) (w1.heap.size) _ ⟨Nat.le_refl _, by omega⟩).below p3 (by omega) (Nat.le_trans (Nat.le_of_lt p0.lt) (Nat.le_refl _))
    have q0 := (p0.same (World.putObj_heap_other (r := w1.heap.size) (o := .deferred none) (by omega))).one.1
    have q1 := (p1.same (World.putObj_heap_other (r := w1.heap.size) (o := .deferred none) (by omega))).one.1
    have q2 := (p2.same (World.putObj_heap_other (r := w1.heap.size) (o := .deferred none) (by omega))).one.1
    have hD2 := (p4 w1.heap.size (by omega) (by omega) (by omega)).trans hD
    clear p0 p1 p2 p3 p4 hI hrow hg hv hold hP0 hI0 hB0 hr
    generalize (wl z n 1100 0).length = len at *
    gi_wp2
    refine ⟨by simp, .inl ⟨_, _, rfl, run_takeDeferred hD2, ?_⟩⟩
    exact ⟨.tuple #[.slice ao' len cap', .int .i64 (n : Nat), .int .i64 0], by simp [results, Tryd.results17, go_sem, q0, q1, q2], HR.out⟩
  case stop =>
    rintro pre W hSp ⟨-, ⟨s, hs1, he, h1, h2⟩, h0, hb⟩ hD
    have HR : Hid (RetLx w z n (.returned (.tuple #[.slice none 0 0, .int .i64 (s.en : Nat), .int .i64 s.er])) (W.putObj w1.heap.size (.deferred none))) :=
      .inr ⟨s, hSp.subset hs1, he, rfl, (Turn.put (b := w1.heap.size) (w1.heap.size) _ ⟨Nat.le_refl _, by omega⟩).below hb (by omega) (Nat.le_of_lt h0.lt)⟩
    have q0 := (h0.same (World.putObj_heap_other (r := w1.heap.size) (o := .deferred none) (by omega))).one.1
    have q1 := (h1.same (World.putObj_heap_other (r := w1.heap.size) (o := .deferred none) (by omega))).one.1
    have q2 := (h2.same (World.putObj_heap_other (r := w1.heap.size) (o := .deferred none) (by omega))).one.1
    clear h0 h1 h2 hb hSp hs1 he hold hP0 hI0 hB0 hr
    gi_wp2
    refine ⟨by simp, .inl ⟨_, _, rfl, run_takeDeferred hD, ?_⟩⟩
    exact ⟨.tuple #[.slice none 0 0, .int .i64 (s.en : Nat), .int .i64 s.er], by simp [results, Tryd.results17, go_sem, q0, q1, q2], HR.out⟩
set_option maxRecDepth 10000 in
set_option maxHeartbeats 400000 in
theorem lex_long (ao : Option Addr) (n cap : Nat) (w : World) (hn : (n : Int) > 1024) : Calls Tryd.prog 17 #[.slice ao n cap] w fun e w' => e = .returned (.tuple #[.slice none 0 0, .int .i64 0, .int .i64 3]) ∧ Below w.heap.size w w' := by
  go_enter Tryd.func17, Tryd.ntmps17
  go_wp2
  exact bodyPost_ret (v := .tuple #[.slice none 0 0, .int .i64 0, .int .i64 3]) (by simp [results, Tryd.results17, go_sem]) rfl ⟨rfl, bel3 _ _ _ _⟩
end Go.Proofs.YtkbeiadbolihiaaDoor
