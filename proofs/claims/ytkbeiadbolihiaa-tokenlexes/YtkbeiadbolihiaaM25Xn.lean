/- token: the iterator of words as a whole. token: Lex: the walk. The reference of token: first, given what one says. The reference of token: Lex, given what first says. -/
import Derived.Test.YtkbeiadbolihiaaM24Wp
import Derived.Maps.AppendAt
import Derived.Shelf.RegionOpen
import Derived.Test.YtkbeiadbolihiaaM22Kr
namespace Go.Proofs.Ytkbeiadbolihiaa
open Go.RowKit Go.Shelf
theorem wl_end {z : Nat → Nat} {n f i : Nat} (h : n ≤ i) : wl z n f i = [] := by
  cases f with
  | zero => rfl
  | succ f => rw [wl, if_pos h]
theorem wl_go {z : Nat → Nat} {n f i : Nat} (h : i < n) (e : (wrd z n i).er = 0) : wl z n (f + 1) i = wrd z n i :: wl z n f (wrd z n i).en := by rw [wl, if_neg (by omega), if_pos e]
theorem wl_bad {z : Nat → Nat} {n f i : Nat} (h : i < n) (e : (wrd z n i).er ≠ 0) : wl z n (f + 1) i = [wrd z n i] := by rw [wl, if_neg (by omega), if_neg e]
/-- What holds at the iterator's jumps, and what it answers. -/
def WoJ (wL : World) (b bp : Nat) (ao : Option Addr) (n cap : Nat) (z : Nat → Nat) (J : List TokS → World → Prop) (l m : Nat) (a : Act) (W : World) : Prop :=
  l = 0 ∧ ∃ u f i pre, m = f ∧ a = ⟨fr8 b bp u, []⟩ ∧ It8 wL b bp ao n cap i W ∧ J pre W ∧ pre.length ≤ i ∧ i ≤ n ∧ n - i < f ∧ pre ++ wl z n f i = wl z n 1100 0
def WoR (n : Nat) (z : Nat → Nat) (J Jx : List TokS → World → Prop) (e : Ending) (W' : World) : Prop := (∃ v, e = .returned v) ∧ ((∃ xs, xs = wl z n 1100 0 ∧ J xs W') ∨ (∃ pre, pre <+: wl z n 1100 0 ∧ Jx pre W'))
/-- The iterator of words. -/
theorem words_seq (mm : Nat) (hm : 1 ≤ mm) (wL w : World) (bp : Nat) (Old : Nat → Prop) (hOld : ∀ k, (k < wL.heap.size ∨ k = bp) → Old k) (ao : Option Addr) (n cap : Nat) (z : Nat → Nat) (hr : Rd wL ao n z) (hn : (n : Int) ≤ 1024)
    (hp : Cl w bp 22 [.slice ao n cap]) (hold : ∀ k, k < wL.heap.size → w.heap[k]? = wL.heap[k]?) (hbp : wL.heap.size ≤ bp) :
    SeqT Fence.wide mm Try.prog w.heap.size Old 16 #[.pointer (some ⟨bp, 0, none⟩)] (fun s : TokS => #[tokOf s, markV s.en s.er]) (fun ys => ys = wl z n 1100 0) (fun pre => pre <+: wl z n 1100 0) 1024 w := by
  intro J Jx W hb hs hJ hJx hY h0
  have hlt := hp.lt
  have key : ∀ (f i : Nat) (pre : List TokS) (u : Nat → Value) (W : World), It8 wL w.heap.size bp ao n cap i W → J pre W → pre.length ≤ i → i ≤ n → n - i < f → pre ++ wl z n f i = wl z n 1100 0 →
      Code.wp Try.prog (labelIn Try.f16 0) (jumps (fun l' a' w' => ∃ m', m' < f ∧ WoJ wL w.heap.size bp ao n cap z J l' m' a' w') (bodyPost Try.prog Try.f16 (WoR n z J Jx))) ⟨fr8 w.heap.size bp u, []⟩ W := by
    intro f i pre u W hI hj hpi hi hf hall
    obtain ⟨f, rfl⟩ : ∃ f', f = f' + 1 := ⟨f - 1, by omega⟩
    by_cases hin : i = n
    · rw [wl_end (by omega), List.append_nil] at hall
      exact w8_end wL _ bp ao n cap i u W hI hin (fun tm => bodyPost_ret (results_none rfl _ _ _) rfl ⟨⟨_, rfl⟩, .inl ⟨pre, hall, hj⟩⟩)
    have hin' : i < n := by omega
    have hrW : Rd W ao n z := hr.same (by have := hI.m.lt; have := hI.sz; omega) hI.old
    have HW := word_d ao n cap i z W hrW hn hin'
    have hsz : w.heap.size + 4 ≤ W.heap.size := by have := hI.m.lt; omega
    by_cases he : (wrd z n i).er = 0
    · rw [wl_go hin' he] at hall
      have hen := wrd_lt hin' he
      unfold RetD tokOf at HW
      rw [he] at HW
      refine w8_go mm hm wL _ bp Old hOld ao n cap i u W hI hin' _ _ _ _ _ _ _ _ _ _ _ _ (fun W' => J (pre ++ [wrd z n i]) W') (fun W' => Jx (pre ++ [wrd z n i]) W') HW (fun W1 ht => ?_) (fun tm W' hfr hI' hx => ?_) (fun tm W' hy => ?_)
      · have := hY pre (wrd z n i) W1 (hJ _ _ _ hj ht) (Nat.le_trans hsz ht.size) (by omega)
        dsimp only [tokOf] at this
        rw [he] at this
        exact this
      · obtain ⟨u', rfl⟩ := hfr
        exact ⟨f, by omega, rfl, u', f, _, _, rfl, rfl, hI', hx, by rw [List.length_append, List.length_singleton]; omega, hen.2.1, by omega, by rw [← hall]; simp⟩
      · exact bodyPost_end (results_none rfl _ _ _) rfl ⟨⟨_, rfl⟩, .inr ⟨_, ⟨wl z n f (wrd z n i).en, by rw [← hall]; simp⟩, hy⟩⟩
    · rw [wl_bad hin' he] at hall
      unfold RetD tokOf at HW
      refine w8_bad mm hm wL _ bp Old ao n cap i u W hI hin' _ _ _ _ _ _ _ _ _ _ _ _ _ he (fun W' => J (pre ++ [wrd z n i]) W') (fun W' => Jx (pre ++ [wrd z n i]) W') HW (fun W1 ht => ?_) (fun tm W' hx => ?_) (fun tm W' hy => ?_)
      · have := hY pre (wrd z n i) W1 (hJ _ _ _ hj ht) (Nat.le_trans hsz ht.size) (by omega)
        dsimp only [tokOf] at this
        exact this
      · exact bodyPost_end (results_none rfl _ _ _) rfl ⟨⟨_, rfl⟩, .inl ⟨_, hall, hx⟩⟩
      · exact bodyPost_end (results_none rfl _ _ _) rfl ⟨⟨_, rfl⟩, .inr ⟨_, ⟨[], by rw [List.append_nil]; exact hall⟩, hy⟩⟩
  show CallsIn Fence.wide mm Try.prog 16 _ W (WoR n z J Jx)
  refine callsIn_of_wp Try.func16 rfl trivial ?_ rfl
  refine wpIn_wide.2 ?_
  refine wp_scope_labels (WoJ wL w.heap.size bp ao n cap z J) ?_ ?_
  · have HK : Hid (∀ (tm : Array Value) W, Fr8 w.heap.size bp tm → It8 wL w.heap.size bp ao n cap 0 W → J [] W → Code.wp Try.prog (labelIn Try.f16 0) (jumps (fun l' a' w' => ∃ m', WoJ wL w.heap.size bp ao n cap z J l' m' a' w') (bodyPost Try.prog Try.f16 (WoR n z J Jx))) ⟨tm, []⟩ W) := fun tm W ⟨u, e⟩ hI hj => e ▸ Code.wp_mono (jumps_mono fun l a w' ⟨m, _, h⟩ => ⟨m, h⟩) (key 1100 0 [] u W hI hj (Nat.zero_le _) (Nat.zero_le _) (by omega) rfl)
    have hB : Below (w.heap.size + 2) W ((W.alloc (.cells #[.int .i64 0, .int .u8 0, .int .u64 0, .int .u64 0, .int .u64 0, .int .u64 0, .bool false, .int .i64 0, .int .i64 0, .bool false, .int .i64 0] 33)).alloc (.cells #[.int .i64 0, .int .i64 0] 45)) := by rw [← hs]; exact bel2 W _ _
    have HI : Hid (It8 wL w.heap.size bp ao n cap 0 ((W.alloc (.cells #[.int .i64 0, .int .u8 0, .int .u64 0, .int .u64 0, .int .u64 0, .int .u64 0, .bool false, .int .i64 0, .int .i64 0, .bool false, .int .i64 0] 33)).alloc (.cells #[.int .i64 0, .int .i64 0] 45))) := by
      have k0 := dl0 W (.cells #[.int .i64 0, .int .i64 0] 45)
      have k1 := dl1 W (.cells #[.int .i64 0, .int .u8 0, .int .u64 0, .int .u64 0, .int .u64 0, .int .u64 0, .bool false, .int .i64 0, .int .i64 0, .bool false, .int .i64 0] 33)
      rw [hs] at k0 k1
      refine ⟨⟨_, _, _, _, _, _, _, _, _, _, _, k0⟩, k1, ?_, fun k hk => ?_, hbp, hlt⟩
      · exact (hp.same (hb.block bp hlt)).same (hB.block bp (by omega))
      · rw [hB.block k (by omega), hb.block k (by omega)]; exact hold k hk
    have HJ : Hid (J [] ((W.alloc (.cells #[.int .i64 0, .int .u8 0, .int .u64 0, .int .u64 0, .int .u64 0, .int .u64 0, .bool false, .int .i64 0, .int .i64 0, .bool false, .int .i64 0] 33)).alloc (.cells #[.int .i64 0, .int .i64 0] 45))) := hJ _ _ _ h0 (TurnI.of_below (bel2 W _ _))
    clear key h0 hB hY hJ hJx hold hp hb hlt hbp hOld hr hm hn
    have hs1 : W.heap.size = w.heap.size + 1 + 1 := hs
    clear hs
    simp only [Try.ntmps16, List.size_toArray, List.length_cons, List.length_nil, Nat.reduceAdd, Nat.reduceSub, Array.replicate_succ, Array.replicate_zero, List.push_toArray, List.append_toArray, List.nil_append, List.cons_append]
    go_wp2_with fail
    go_step3
    rename_i K hK
    refine hK _ _ ?_
    clear hK
    exact HK.out _ _ (Fr8.of _ rfl) HI.out HJ.out
  · rintro l m a W' ⟨rfl, u, f, i, pre, rfl, rfl, hI, hj, hpi, hi, hf, hall⟩
    exact ⟨_, wo8_0, wp_skip_seq (key m i pre u W' hI hj hpi hi hf hall)⟩
end Go.Proofs.Ytkbeiadbolihiaa
namespace Go.Proofs.Ytkbeiadbolihiaa
open Go.RowKit Go.Shelf
attribute [local go_sem] Oper.semAt_some
set_option maxHeartbeats 400000 in
theorem words_any (ao : Option Addr) (n cap : Nat) (w : World) : Calls Try.prog 12 #[.slice ao n cap] w fun e w' => e = .returned (.func (.func 16) #[] #[.pointer (some ⟨w.heap.size, 0, none⟩)]) ∧ w' = w.alloc (.cells #[.slice ao n cap] 22) := by
  go_enter Try.func12, Try.ntmps12
  go_wp2
  go_ret
  exact ⟨rfl, rfl⟩
theorem b_tok : (Try.prog.info? 33).map (fun i => (i.zero, i.size, i.bytes)) = some (some (.agg #[.int .i64 0, .int .u8 0, .int .u64 0, .int .u64 0, .int .u64 0, .int .u64 0, .bool false, .int .i64 0, .int .i64 0, .bool false, .int .i64 0]), 11, 88) := by kernel_rfl
/-- The cells of tokens, one behind the other. -/
def tokL (l : List TokS) : List Value := l.flatMap tokC
theorem tokL_snoc (l : List TokS) (x : TokS) : tokL (l ++ [x]) = tokL l ++ tokC x := by simp [tokL]
theorem ownsRow_at {W W' : World} {base e size k : Nat} {v : Value} {xs : List Value} (h : W.ownsRow base e size v k xs) (hs : ∀ g, base ≤ g → g < W.heap.size → W'.heap[g]? = W.heap[g]?) : W'.ownsRow base e size v k xs :=
  ⟨h.1, h.2.imp id fun ⟨g, cap, cur, hv, hg, hc, r⟩ => ⟨g, cap, cur, hv, hg, (hs g hg (Array.getElem?_eq_some_iff.1 hc).1).trans hc, r⟩⟩
theorem ownsRow_own {W : World} {base e size k : Nat} {v : Value} {xs : List Value} (h : W.ownsRow base e size v k xs) : ∀ g, v.ownBlock = some g → base ≤ g := by
  intro g hg
  rcases h.2 with ⟨rfl, _⟩ | ⟨g', cap, cur, rfl, hb, _⟩
  · cases hg
  · simp [Value.ownBlock] at hg; omega
theorem ownsRow_slice {W : World} {base e size k : Nat} {v : Value} {xs : List Value} (h : W.ownsRow base e size v k xs) : ∃ ao cap, v = .slice ao k cap := by
  rcases h.2 with ⟨h, h0⟩ | ⟨g, cap, cur, h, _⟩
  · exact ⟨none, 0, by rw [h, h0]⟩
  · exact ⟨_, cap, h⟩
theorem ownsRow_base {W : World} {base base' e size k : Nat} {v : Value} {xs : List Value} (h : W.ownsRow base e size v k xs) (hb : base' ≤ base) : W.ownsRow base' e size v k xs :=
  ⟨h.1, h.2.imp id fun ⟨g, cap, cur, hv, hg, r⟩ => ⟨g, cap, cur, hv, Nat.le_trans hb hg, r⟩⟩
/-- What Lex holds between rounds: the tokens in a row of their own, none of them bad. -/
structure LxI (w : World) (pre : List TokS) (W : World) : Prop where
  row : ∃ v, Cl W (w.heap.size + 1 + 1 + 1) 23 [v] ∧ W.ownsRow (w.heap.size + 9) 33 11 v pre.length (tokL pre)
  r0 : Cl W w.heap.size 23 [.slice none 0 0]
  r1 : Cl W (w.heap.size + 1) 3 [.int .i64 0]
  r2 : Cl W (w.heap.size + 1 + 1) 24 [.int .i64 0]
  bel : Below w.heap.size w W
  good : ∀ s, s ∈ pre → s.er = 0
/-- What it has stored where a word is bad. -/
structure LxX (w : World) (pre : List TokS) (W : World) : Prop where
  bad : ∃ s, s ∈ pre ∧ s.er ≠ 0 ∧ Cl W (w.heap.size + 1) 3 [.int .i64 (s.en : Nat)] ∧ Cl W (w.heap.size + 1 + 1) 24 [.int .i64 s.er]
  r0 : Cl W w.heap.size 23 [.slice none 0 0]
  bel : Below w.heap.size w W
theorem Cl.turn {A B : World} {b k : Nat} {t : TypeId} {vs : List Value} (h : Cl A k t vs) (ht : Turn b A B) (hk : k < b ∨ b + 4 ≤ k) : Cl B k t vs := h.same (ht.block k h.lt hk)
theorem Turn.below {N b : Nat} {w A B : World} (ht : Turn b A B) (h : Below N w A) (hN : N ≤ b) (hs : N ≤ A.heap.size) : Below N w B :=
  ⟨ht.os.trans h.os, ht.tape.trans h.tape, ht.output.trans h.output, Nat.le_trans h.size ht.size, fun k hk => (ht.block k (by omega) (by omega)).trans (h.block k hk)⟩
theorem LxI.turn {w A B : World} {pre : List TokS} (h : LxI w pre A) (ht : Turn (w.heap.size + 5) A B) : LxI w pre B := by
  obtain ⟨⟨v, hv, hrow⟩, h0, h1, h2, hb, hg⟩ := h
  exact ⟨⟨v, hv.turn ht (by omega), ownsRow_at hrow fun g hg hl => ht.block g hl (by omega)⟩, h0.turn ht (by omega), h1.turn ht (by omega), h2.turn ht (by omega), ht.below hb (by omega) (Nat.le_of_lt h0.lt), hg⟩
theorem LxX.turn {w A B : World} {pre : List TokS} (h : LxX w pre A) (ht : Turn (w.heap.size + 5) A B) : LxX w pre B := by
  obtain ⟨⟨s, hs, he, h1, h2⟩, h0, hb⟩ := h
  exact ⟨⟨s, hs, he, h1.turn ht (by omega), h2.turn ht (by omega)⟩, h0.turn ht (by omega), ht.below hb (by omega) (Nat.le_of_lt h0.lt)⟩
/-- The loop's variables in a round. -/
def LxA (w : World) (ao : Option Addr) (n cap : Nat) (x : TokS) (a' : Act) (W : World) : Prop :=
  ∃ p, w.heap.size + 9 ≤ p ∧ a' = ⟨#[.slice ao n cap, undef, .pointer (some ⟨w.heap.size, 0, none⟩), .pointer (some ⟨w.heap.size + 1, 0, none⟩), .pointer (some ⟨w.heap.size + 1 + 1, 0, none⟩), .pointer (some ⟨w.heap.size + 1 + 1 + 1, 0, none⟩), .pointer (some ⟨p, 0, none⟩), .pointer (some ⟨p + 1, 0, none⟩), .slice ao n cap, .int .i64 (n : Nat), .bool false, .slice ao n cap, .func (.func 16) #[] #[.pointer (some ⟨w.heap.size + 1 + 1 + 1 + 1, 0, none⟩)], tokOf x, markV x.en x.er, undef, undef, undef, undef, undef, undef, undef, undef, undef, undef, undef, undef, undef, undef], []⟩ ∧ Cl W p 33 (tokC x) ∧ Cl W (p + 1) 45 [.int .i64 (x.en : Nat), .int .i64 x.er]
def LxOld (w : World) (k : Nat) : Prop := k < w.heap.size ∨ k = w.heap.size + 4
theorem KeepT.of_below {w A B : World} (h : Below A.heap.size A B) (hs : w.heap.size + 9 ≤ A.heap.size) : KeepT (w.heap.size + 5) (LxOld w) A B :=
  ⟨h.size, fun k hk => h.block k (by unfold LxOld at hk; omega)⟩
theorem lx_step {w W w2 : World} {pre : List TokS} {x : TokS} {v v' : Value} {tmp : Obj} (h : LxI w pre W) (he : x.er = 0) (hsz : w.heap.size + 9 ≤ W.heap.size) (hv : Cl W (w.heap.size + 1 + 1 + 1) 23 [v]) (hrow : W.ownsRow (w.heap.size + 9) 33 11 v pre.length (tokL pre))
    (hown' : w2.ownsRow (w.heap.size + 9) 33 11 v' (pre.length + 1) (tokL pre ++ tokC x)) (hgrow : (W.alloc tmp).grownBy w2 v.ownBlock) :
    Cl w2 (w.heap.size + 1 + 1 + 1) 23 [v] ∧ KeepT (w.heap.size + 5) (LxOld w) W (w2.setCell ⟨w.heap.size + 1 + 1 + 1, 0, none⟩ v') ∧ LxI w (pre ++ [x]) (w2.setCell ⟨w.heap.size + 1 + 1 + 1, 0, none⟩ v') := by
  have hsm : ∀ k, k < W.heap.size → k < w.heap.size + 9 → w2.heap[k]? = W.heap[k]? := fun k hk hk9 => by
    rw [hgrow.block k (by simp; omega) (fun e => by have := ownsRow_own hrow k e.symm; omega), Below.heap_alloc W tmp k hk]
  have hss : ∀ k, k ≠ w.heap.size + 1 + 1 + 1 → (w2.setCell ⟨w.heap.size + 1 + 1 + 1, 0, none⟩ v').heap[k]? = w2.heap[k]? := fun k hk => Below.heap_setCell _ _ _ _ hk
  have hv2 := hv.same (hsm _ hv.lt (by omega))
  have hsize : W.heap.size ≤ w2.heap.size := by have := hgrow.size; simp at this; omega
  have hsz2 : (w2.setCell ⟨w.heap.size + 1 + 1 + 1, 0, none⟩ v').heap.size = w2.heap.size := by simp
  refine ⟨hv2, ⟨by omega, fun k hk => ?_⟩, ⟨⟨v', ?_, ?_⟩, ?_, ?_, ?_, ?_, ?_⟩⟩
  · unfold LxOld at hk
    rw [hss k (by omega), hsm k (by omega) (by omega)]
  · exact hv2.set 0 v'
  · rw [List.length_append, List.length_singleton, tokL_snoc]
    exact ownsRow_at hown' fun g hg _ => hss g (by omega)
  · exact (h.r0.same (hsm _ h.r0.lt (by omega))).same (hss _ (by omega))
  · exact (h.r1.same (hsm _ h.r1.lt (by omega))).same (hss _ (by omega))
  · exact (h.r2.same (hsm _ h.r2.lt (by omega))).same (hss _ (by omega))
  · exact ⟨hgrow.os.trans h.bel.os, hgrow.tape.trans h.bel.tape, hgrow.output.trans h.bel.output, by rw [hsz2]; exact Nat.le_trans h.bel.size hsize, fun k hk => by rw [hss k (by omega), hsm k (by omega) (by omega)]; exact h.bel.block k hk⟩
  · intro s hs
    rcases List.mem_append.1 hs with hs | hs
    · exact h.good s hs
    · rw [List.mem_singleton.1 hs]; exact he
theorem put3 {w W : World} {pre : List TokS} (h : LxI w pre W) (x y z : Value) :
    Cl ((((W.setCell ⟨w.heap.size, 0, none⟩ x).setCell ⟨w.heap.size + 1, 0, none⟩ y).setCell ⟨w.heap.size + 1 + 1, 0, none⟩ z)) w.heap.size 23 [x] ∧ Cl ((((W.setCell ⟨w.heap.size, 0, none⟩ x).setCell ⟨w.heap.size + 1, 0, none⟩ y).setCell ⟨w.heap.size + 1 + 1, 0, none⟩ z)) (w.heap.size + 1) 3 [y] ∧ Cl ((((W.setCell ⟨w.heap.size, 0, none⟩ x).setCell ⟨w.heap.size + 1, 0, none⟩ y).setCell ⟨w.heap.size + 1 + 1, 0, none⟩ z)) (w.heap.size + 1 + 1) 24 [z] ∧
    Below w.heap.size w ((((W.setCell ⟨w.heap.size, 0, none⟩ x).setCell ⟨w.heap.size + 1, 0, none⟩ y).setCell ⟨w.heap.size + 1 + 1, 0, none⟩ z)) ∧ (∀ k, k ≠ w.heap.size → k ≠ w.heap.size + 1 → k ≠ w.heap.size + 1 + 1 → ((((W.setCell ⟨w.heap.size, 0, none⟩ x).setCell ⟨w.heap.size + 1, 0, none⟩ y).setCell ⟨w.heap.size + 1 + 1, 0, none⟩ z)).heap[k]? = W.heap[k]?) := by
  refine ⟨((h.r0.set 0 x).other (by omega) 0 y).other (by omega) 0 z, ((h.r1.other (by omega) 0 x).set 0 y).other (by omega) 0 z, ((h.r2.other (by omega) 0 x).other (by omega) 0 y).set 0 z, ((h.bel.setCell (p := ⟨w.heap.size, 0, none⟩) (Nat.le_refl _) x).setCell (p := ⟨w.heap.size + 1, 0, none⟩) (by show w.heap.size ≤ w.heap.size + 1; omega) y).setCell (p := ⟨w.heap.size + 1 + 1, 0, none⟩) (by show w.heap.size ≤ w.heap.size + 1 + 1; omega) z, fun k h0 h1 h2 => ?_⟩
  rw [Below.heap_setCell _ ⟨w.heap.size + 1 + 1, 0, none⟩ _ _ h2, Below.heap_setCell _ ⟨w.heap.size + 1, 0, none⟩ _ _ h1, Below.heap_setCell _ ⟨w.heap.size, 0, none⟩ _ _ h0]
theorem eleven_new (w : World) (x0 x1 x2 x3 x4 x5 x6 x7 x8 x9 x10 : Value) (t : TypeId) : ∀ j u, [x0, x1, x2, x3, x4, x5, x6, x7, x8, x9, x10][j]? = some u → (w.alloc (.cells #[x0, x1, x2, x3, x4, x5, x6, x7, x8, x9, x10] t)).cell? ((⟨w.heap.size, 0, none⟩ : Addr).add j) = some u := by
  intro j u hj
  have h := (Cl.new w t [x0, x1, x2, x3, x4, x5, x6, x7, x8, x9, x10]).cell j hj
  have e : (⟨w.heap.size, 0, none⟩ : Addr).add j = ⟨w.heap.size, j, none⟩ := by simp [Addr.add]; exact fun h => h.symm
  rw [e]
  exact h
/-- What Lex answers. -/
def RetLx (w : World) (z : Nat → Nat) (n : Nat) (e : Ending) (w' : World) : Prop :=
  (∃ ao cap, (∀ s, s ∈ wl z n 1100 0 → s.er = 0) ∧ e = .returned (.tuple #[.slice ao (wl z n 1100 0).length cap, .int .i64 (n : Nat), .int .i64 0]) ∧ w'.ownsRow w.heap.size 33 11 (.slice ao (wl z n 1100 0).length cap) (wl z n 1100 0).length (tokL (wl z n 1100 0)) ∧ Below w.heap.size w w') ∨
  (∃ s, s ∈ wl z n 1100 0 ∧ s.er ≠ 0 ∧ e = .returned (.tuple #[.slice none 0 0, .int .i64 (s.en : Nat), .int .i64 s.er]) ∧ Below w.heap.size w w')
end Go.Proofs.Ytkbeiadbolihiaa
namespace Go.Proofs.Ytkbeiadbolihiaa
open Go.RowKit Go.Shelf
/-- What first answers: the good tokens, and the first that is bad. -/
def RetF (w : World) (z : Nat → Nat) (n : Nat) (e : Ending) (w' : World) : Prop :=
  ∃ pre ao cap, (∀ s, s ∈ pre → s.er = 0) ∧ w'.ownsRow w.heap.size 33 11 (.slice ao pre.length cap) pre.length (tokL pre) ∧ Below w.heap.size w w' ∧
    ((wl z n 1100 0 = pre ∧ e = .returned (.tuple #[.slice ao pre.length cap, .int .i64 (n : Nat), .int .i64 0])) ∨
     ∃ s, s.er ≠ 0 ∧ wl z n 1100 0 = pre ++ [s] ∧ e = .returned (.tuple #[.slice ao pre.length cap, .int .i64 (s.en : Nat), .int .i64 s.er]))
/-- What first holds between rounds. -/
structure FtI (w : World) (z : Nat → Nat) (n at_ : Nat) (v : Value) (pre : List TokS) (W : World) : Prop where
  le : at_ ≤ n
  len : pre.length ≤ at_
  good : ∀ s, s ∈ pre → s.er = 0
  rest : wl z n 1100 0 = pre ++ wl z n (1100 - pre.length) at_
  row : W.ownsRow w.heap.size 33 11 v pre.length (tokL pre)
  bel : Below w.heap.size w W
theorem wlO {z : Nat → Nat} {n i : Nat} (f : Nat) (h : n ≤ i) : wl z n f i = [] := by
  cases f with
  | zero => rfl
  | succ f => rw [wl, if_pos h]
theorem wlB {z : Nat → Nat} {n i f : Nat} (hf : 0 < f) (h : i < n) (e : (wrd z n i).er ≠ 0) : wl z n f i = [wrd z n i] := by
  obtain ⟨f, rfl⟩ : ∃ g, f = g + 1 := ⟨f - 1, by omega⟩
  rw [wl, if_neg (by omega), if_neg e]
theorem wlG {z : Nat → Nat} {n i f : Nat} (hf : 0 < f) (h : i < n) (e : (wrd z n i).er = 0) : wl z n f i = wrd z n i :: wl z n (f - 1) (wrd z n i).en := by
  obtain ⟨f, rfl⟩ : ∃ g, f = g + 1 := ⟨f - 1, by omega⟩
  rw [wl, if_neg (by omega), if_pos e]; rfl
set_option maxRecDepth 20000 in
set_option maxHeartbeats 2000000 in
theorem rfirst_any (ao : Option Addr) (n cap : Nat) (z : Nat → Nat) (w : World) (hn : (n : Int) ≤ 1024) (HO : Hid (∀ at_, at_ < n → ∀ W, Below w.heap.size w W → Calls Try.prog 18 #[.slice ao n cap, .int .i64 (at_ : Nat)] W (RetO W (tokOf (wrd z n at_).z) (wrd z n at_).en (wrd z n at_).er))) : Calls Try.prog 13 #[.slice ao n cap] w (RetF w z n) := by
  obtain ⟨i0, hi, hz0, hz1, hz2⟩ := info_parts b_tok
  have hI0 : FtI w z n 0 (.slice none 0 0) [] w := by
    refine ⟨by omega, by simp, ?_, rfl, World.ownsRow_nil _ _ _ _, Below.refl _ _⟩
    intro s hs; cases hs
  go_enter Try.func13, Try.ntmps13
  go_wp2
  go_loopw [5, 6] (fun l i wr => ∃ (k : Nat) (pre : List TokS), i = .int .i64 (k : Nat) ∧ FtI w z n k l pre wr) (fun _ i _ => n - (intOf i).toNat)
  case atStart => exact ⟨0, [], rfl, hI0⟩
  case round =>
    obtain ⟨k, pre, rfl, hI⟩ := hrel
    obtain ⟨ao', cap', rfl⟩ := ownsRow_slice hI.row
    have hle := hI.le
    have hlen := hI.len
    by_cases hlt : k < n
    · have hki : (k : Int) < (n : Int) := by omega
      have HC := HO.out k hlt wr hI.bel
      have HW : Hid (∃ x, wrd z n k = x) := ⟨_, rfl⟩
      obtain ⟨x, hx⟩ := HW.out
      clear HW
      rw [hx] at HC
      unfold RetO at HC
      by_cases he : x.er = 0
      · have h9 : (x.er != 0) = false := by simp [he]
        have hw := wrd_lt hlt (by rw [hx]; exact he)
        rw [hx] at hw
        obtain ⟨hw1, hw2, hw3⟩ := hw
        have HS : Hid (∀ W v', Below w.heap.size w W → W.ownsRow w.heap.size 33 11 v' (pre.length + 1) (tokL pre ++ [.int .i64 x.k, .int .u8 (x.b : Nat), .int .u64 (wds x.P 0 : Nat), .int .u64 (wds x.P 1 : Nat), .int .u64 (wds x.P 2 : Nat), .int .u64 (wds x.P 3 : Nat), .bool x.nt, .int .i64 x.l, .int .i64 x.m, .bool x.lz, .int .i64 (k : Nat)]) → FtI w z n x.en v' (pre ++ [x]) W) := by
          intro W v' hb ho
          refine ⟨hw2, by simp; omega, ?_, ?_, ?_, hb⟩
          · intro s hs
            rcases List.mem_append.1 hs with hs | hs
            · exact hI.good s hs
            · rw [List.mem_singleton.1 hs]; exact he
          · rw [hI.rest, wlG (by omega) hlt (by rw [hx]; exact he), hx, List.append_assoc, List.length_append]
            rfl
          · rw [List.length_append, List.length_singleton, tokL_snoc]
            unfold tokC
            rw [hw3]
            exact ho
        have hrow := hI.row
        have hbel := hI.bel
        have hp1 : (pre.length : Int) < 1024 := by omega
        have hx2 : Hid (k < x.en ∧ x.en ≤ n) := ⟨hw1, hw2⟩
        clear hI hw1 hw2 hw3 he hx HO hI0
        unfold tokOf tokV TokS.z at HC
        simp only [] at HC
        generalize wds x.P 0 = a0 at *
        generalize wds x.P 1 = a1 at *
        generalize wds x.P 2 = a2 at *
        generalize wds x.P 3 = a3 at *
        go_wp2_with fail
        refine HC.mono ?_
        rintro e w1 ⟨rfl, hb⟩
        replace hbel := hbel.trans (hb.mono hbel.size)
        replace hrow := ownsRow_at hrow (fun g _ hg => hb.block g hg)
        clear HC hb
        have E := eleven_new (w1.alloc (.cells #[.int .i64 x.k, .int .u8 (x.b : Nat), .int .u64 (a0 : Nat), .int .u64 (a1 : Nat), .int .u64 (a2 : Nat), .int .u64 (a3 : Nat), .bool x.nt, .int .i64 x.l, .int .i64 x.m, .bool x.lz, .int .i64 (k : Nat)] 33)) (.int .i64 x.k) (.int .u8 (x.b : Nat)) (.int .u64 (a0 : Nat)) (.int .u64 (a1 : Nat)) (.int .u64 (a2 : Nat)) (.int .u64 (a3 : Nat)) (.bool x.nt) (.int .i64 x.l) (.int .i64 x.m) (.bool x.lz) (.int .i64 (k : Nat)) 33
        rw [World.size_alloc] at E
        have hsz := hbel.size
        go_wp2_with (at_builtin; refine wpList_append_own _ rfl _ _ 23 rfl w.heap.size 33 i0 (.agg #[.int .i64 0, .int .u8 0, .int .u64 0, .int .u64 0, .int .u64 0, .int .u64 0, .bool false, .int .i64 0, .int .i64 0, .bool false, .int .i64 0]) 11 88 Try.underlying23 hi hz0 hz1 hz2 rfl (by decide) _ _ _ rfl ((hrow.alloc _).alloc _) ⟨w1.heap.size + 1, 0, none⟩ 1 1 [.int .i64 x.k, .int .u8 (x.b : Nat), .int .u64 (a0 : Nat), .int .u64 (a1 : Nat), .int .u64 (a2 : Nat), .int .u64 (a3 : Nat), .bool x.nt, .int .i64 x.l, .int .i64 x.m, .bool x.lz, .int .i64 (k : Nat)] rfl rfl E (by simp [Value.oneCell']) (by unfold maxLen; omega) (by omega) (by simp; omega) ?_)
        intro v' w3 hown' hgrow _
        have hB3 : Below w.heap.size w w3 := Below.grown ((hbel.alloc hsz _).alloc (by simp; omega) _) hgrow (by simp; omega) (fun j e => (hrow.lt j e).1)
        have HN : Hid (FtI w z n x.en v' (pre ++ [x]) w3) := HS.out w3 v' hB3 hown'
        clear hown' hgrow hB3 HS hrow hbel E hsz
        go_wp2
        go_roundw
        case rel => exact ⟨x.en, pre ++ [x], rfl, HN.out⟩
        case measure => have := hx2.out; simp [intOf]; omega
      · have h9 : (x.er != 0) = true := by simp [he]
        have HF : Hid (∀ W, Below wr.heap.size wr W → ∀ o, RetF w z n (.returned (.tuple #[.slice ao' pre.length cap', .int .i64 (x.en : Nat), .int .i64 x.er])) (W.alloc o)) := by
          intro W hb o
          refine ⟨pre, ao', cap', hI.good, ownsRow_at (ownsRow_at hI.row fun g _ hg => hb.block g hg) (fun g _ hg => Below.heap_alloc W o g hg), (hI.bel.trans (hb.mono hI.bel.size)).alloc (Nat.le_trans hI.bel.size hb.size) o, .inr ⟨x, he, ?_, rfl⟩⟩
          rw [hI.rest, wlB (by omega) hlt (by rw [hx]; exact he), hx]
        clear hI he hx HO hI0
        unfold tokOf tokV at HC
        go_wp2_with fail
        refine HC.mono ?_
        rintro e w1 ⟨rfl, hb⟩
        go_wp2
        exact bodyPost_ret (v := .tuple #[.slice ao' pre.length cap', .int .i64 (x.en : Nat), .int .i64 x.er]) (by simp [results, Try.results13, go_sem]) rfl (HF.out _ hb _)
    · have hki : ¬ (k : Int) < (n : Int) := by omega
      obtain rfl : k = n := by omega
      have HF : Hid (RetF w z k (.returned (.tuple #[.slice ao' pre.length cap', .int .i64 (k : Nat), .int .i64 0])) wr) := ⟨pre, ao', cap', hI.good, hI.row, hI.bel, .inl ⟨by rw [hI.rest, wlO _ (Nat.le_refl _), List.append_nil], rfl⟩⟩
      clear hI HO hI0
      go_wp2
      exact bodyPost_ret (v := .tuple #[.slice ao' pre.length cap', .int .i64 (k : Nat), .int .i64 0]) (by simp [results, Try.results13, go_sem]) rfl HF.out
end Go.Proofs.Ytkbeiadbolihiaa
namespace Go.Proofs.Ytkbeiadbolihiaa
open Go.RowKit Go.Shelf
set_option maxRecDepth 20000 in
set_option maxHeartbeats 1000000 in
theorem rlex_long (ao : Option Addr) (n cap : Nat) (w : World) (hn : (n : Int) > 1024) : Calls Try.prog 6 #[.slice ao n cap] w fun e w' => e = .returned (.tuple #[.slice none 0 0, .int .i64 0, .int .i64 3]) ∧ Below w.heap.size w w' := by
  go_enter Try.func6, Try.ntmps6
  go_wp2
  exact bodyPost_ret (v := .tuple #[.slice none 0 0, .int .i64 0, .int .i64 3]) (by simp [results, Try.results6, go_sem]) rfl ⟨rfl, Below.refl _ _⟩
set_option maxRecDepth 20000 in
set_option maxHeartbeats 2000000 in
theorem rlex_short (ao : Option Addr) (n cap : Nat) (z : Nat → Nat) (w : World) (hn : (n : Int) ≤ 1024) (hF : Calls Try.prog 13 #[.slice ao n cap] w (RetF w z n)) : Calls Try.prog 6 #[.slice ao n cap] w (RetLx w z n) := by
  have hgt : ¬ ((n : Int) > 1024) := by omega
  go_enter Try.func6, Try.ntmps6
  go_wp2_with fail
  refine hF.mono ?_
  rintro e w1 ⟨pre, ao', cap', hg, hrow, hb, ⟨hw, rfl⟩ | ⟨s, hs, hw, rfl⟩⟩
  · have HR : Hid (RetLx w z n (.returned (.tuple #[.slice ao' pre.length cap', .int .i64 (n : Nat), .int .i64 0])) w1) := by
      refine .inl ⟨ao', cap', ?_⟩
      rw [hw]
      exact ⟨hg, rfl, hrow, hb⟩
    clear hg hrow hb hw hF
    generalize pre.length = len at *
    go_wp2
    exact bodyPost_ret (v := .tuple #[.slice ao' len cap', .int .i64 (n : Nat), .int .i64 0]) (by simp [results, Try.results6, go_sem]) rfl HR.out
  · have h9 : (s.er != 0) = true := by simp [hs]
    have HR : Hid (RetLx w z n (.returned (.tuple #[.slice none 0 0, .int .i64 (s.en : Nat), .int .i64 s.er])) w1) := .inr ⟨s, by rw [hw]; simp, hs, rfl, hb⟩
    clear hg hrow hb hw hF hs
    go_wp2
    exact bodyPost_ret (v := .tuple #[.slice none 0 0, .int .i64 (s.en : Nat), .int .i64 s.er]) (by simp [results, Try.results6, go_sem]) rfl HR.out
end Go.Proofs.Ytkbeiadbolihiaa
