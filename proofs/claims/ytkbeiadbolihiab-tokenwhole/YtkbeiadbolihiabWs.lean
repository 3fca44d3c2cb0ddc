/- token: the iterator of words as a whole. -/
import Derived.Test.YtkbeiadbolihiabWp
namespace Go.Proofs.Ytkbeiadbolihiab
open Go.RowKit Go.Shelf
theorem wl_end {z : Nat → Nat} {n f i : Nat} (h : n ≤ i) : wl z n f i = [] := by
  cases f with
  | zero => rfl
  | succ f => rw [wl, if_pos h]
theorem wl_go {z : Nat → Nat} {n f i : Nat} (h : i < n) (e : (wrd z n i).er = 0) : wl z n (f + 1) i = wrd z n i :: wl z n f (wrd z n i).en := by rw [wl, if_neg (by omega), if_pos e]
theorem wl_bad {z : Nat → Nat} {n f i : Nat} (h : i < n) (e : (wrd z n i).er ≠ 0) : wl z n (f + 1) i = [wrd z n i] := by rw [wl, if_neg (by omega), if_neg e]
/-- What holds at the iterator's jumps, and what it answers. -/
def WoJ (wL : World) (b bp : Nat) (ao : Option Addr) (n cap : Nat) (z : Nat → Nat) (J : List TokS → World → Prop) (l m : Nat) (a : Act) (W : World) : Prop :=
  l = 0 ∧ ∃ u f i pre, m = f ∧ a = ⟨fr8 b bp u, []⟩ ∧ It8 wL b bp ao n cap i W ∧ J pre W ∧ pre.length ≤ i ∧ i ≤ n ∧ n - i < f ∧ pre ++ wl z n f i = wl z n 1100 0
def WoR (n : Nat) (z : Nat → Nat) (J Jx : List TokS → World → Prop) (e : Ending) (W' : World) : Prop := (∃ v, e = .returned v) ∧ ((∃ xs, xs = wl z n 1100 0 ∧ J xs W') ∨ (∃ pre, pre <+: wl z n 1100 0 ∧ Jx pre W'))
/-- The iterator of words. -/
theorem words_seq (mm : Nat) (hm : 1 ≤ mm) (wL w : World) (bp : Nat) (Old : Nat → Prop) (hOld : ∀ k, (k < wL.heap.size ∨ k = bp) → Old k) (ao : Option Addr) (n cap : Nat) (z : Nat → Nat) (hr : Rd wL ao n z) (hn : (n : Int) ≤ 1024)
    (hp : Cl w bp 22 [.slice ao n cap]) (hold : ∀ k, k < wL.heap.size → w.heap[k]? = wL.heap[k]?) (hbp : wL.heap.size ≤ bp) :
    SeqT Fence.wide mm Try.prog w.heap.size Old 8 #[.pointer (some ⟨bp, 0, none⟩)] (fun s : TokS => #[tokOf s, markV s.en s.er]) (fun ys => ys = wl z n 1100 0) (fun pre => pre <+: wl z n 1100 0) 1024 w := by
  intro J Jx W hb hs hJ hJx hY h0
  have hlt := hp.lt
  have key : ∀ (f i : Nat) (pre : List TokS) (u : Nat → Value) (W : World), It8 wL w.heap.size bp ao n cap i W → J pre W → pre.length ≤ i → i ≤ n → n - i < f → pre ++ wl z n f i = wl z n 1100 0 →
      Code.wp Try.prog (labelIn Try.f8 0) (jumps (fun l' a' w' => ∃ m', m' < f ∧ WoJ wL w.heap.size bp ao n cap z J l' m' a' w') (bodyPost Try.prog Try.f8 (WoR n z J Jx))) ⟨fr8 w.heap.size bp u, []⟩ W := by
    intro f i pre u W hI hj hpi hi hf hall
    obtain ⟨f, rfl⟩ : ∃ f', f = f' + 1 := ⟨f - 1, by omega⟩
    by_cases hin : i = n
    · rw [wl_end (by omega), List.append_nil] at hall
      exact w8_end wL _ bp ao n cap i u W hI hin (fun tm => bodyPost_ret (results_none rfl _ _ _) rfl ⟨⟨_, rfl⟩, .inl ⟨pre, hall, hj⟩⟩)
    have hin' : i < n := by omega
    have hrW : Rd W ao n z := hr.same (by have := hI.m.lt; have := hI.sz; omega) hI.old
    have HW := word_d ao n cap i z W hrW hn hin'
    have hsz : w.heap.size + 4 ≤ W.heap.size := by have := hI.m.lt; omega
    by_cases he : (wrd z n i).er = 0
    · rw [wl_go hin' he] at hall
      have hen := wrd_lt hin' he
      unfold RetD tokOf at HW
      rw [he] at HW
      refine w8_go mm hm wL _ bp Old hOld ao n cap i u W hI hin' _ _ _ _ _ _ _ _ _ _ _ _ (fun W' => J (pre ++ [wrd z n i]) W') (fun W' => Jx (pre ++ [wrd z n i]) W') HW (fun W1 ht => ?_) (fun tm W' hfr hI' hx => ?_) (fun tm W' hy => ?_)
      · have := hY pre (wrd z n i) W1 (hJ _ _ _ hj ht) (Nat.le_trans hsz ht.size) (by omega)
        dsimp only [tokOf] at this
        rw [he] at this
        exact this
      · obtain ⟨u', rfl⟩ := hfr
        exact ⟨f, by omega, rfl, u', f, _, _, rfl, rfl, hI', hx, by rw [List.length_append, List.length_singleton]; omega, hen.2.1, by omega, by rw [← hall]; simp⟩
      · exact bodyPost_end (results_none rfl _ _ _) rfl ⟨⟨_, rfl⟩, .inr ⟨_, ⟨wl z n f (wrd z n i).en, by rw [← hall]; simp⟩, hy⟩⟩
    · rw [wl_bad hin' he] at hall
      unfold RetD tokOf at HW
      refine w8_bad mm hm wL _ bp Old ao n cap i u W hI hin' _ _ _ _ _ _ _ _ _ _ _ _ _ he (fun W' => J (pre ++ [wrd z n i]) W') (fun W' => Jx (pre ++ [wrd z n i]) W') HW (fun W1 ht => ?_) (fun tm W' hx => ?_) (fun tm W' hy => ?_)
      · have := hY pre (wrd z n i) W1 (hJ _ _ _ hj ht) (Nat.le_trans hsz ht.size) (by omega)
        dsimp only [tokOf] at this
        exact this
      · exact bodyPost_end (results_none rfl _ _ _) rfl ⟨⟨_, rfl⟩, .inl ⟨_, hall, hx⟩⟩
      · exact bodyPost_end (results_none rfl _ _ _) rfl ⟨⟨_, rfl⟩, .inr ⟨_, ⟨[], by rw [List.append_nil]; exact hall⟩, hy⟩⟩
  show CallsIn Fence.wide mm Try.prog 8 _ W (WoR n z J Jx)
  refine callsIn_of_wp Try.func8 rfl trivial ?_ rfl
  refine wpIn_wide.2 ?_
  refine wp_scope_labels (WoJ wL w.heap.size bp ao n cap z J) ?_ ?_
  · have HK : Hid (∀ (tm : Array Value) W, Fr8 w.heap.size bp tm → It8 wL w.heap.size bp ao n cap 0 W → J [] W → Code.wp Try.prog (labelIn Try.f8 0) (jumps (fun l' a' w' => ∃ m', WoJ wL w.heap.size bp ao n cap z J l' m' a' w') (bodyPost Try.prog Try.f8 (WoR n z J Jx))) ⟨tm, []⟩ W) := fun tm W ⟨u, e⟩ hI hj => e ▸ Code.wp_mono (jumps_mono fun l a w' ⟨m, _, h⟩ => ⟨m, h⟩) (key 1100 0 [] u W hI hj (Nat.zero_le _) (Nat.zero_le _) (by omega) rfl)
    have hB : Below (w.heap.size + 2) W ((W.alloc (.cells #[.int .i64 0, .int .u8 0, .int .u64 0, .int .u64 0, .int .u64 0, .int .u64 0, .bool false, .int .i64 0, .int .i64 0, .bool false, .int .i64 0] 32)).alloc (.cells #[.int .i64 0, .int .i64 0] 39)) := by rw [← hs]; exact bel2 W _ _
    have HI : Hid (It8 wL w.heap.size bp ao n cap 0 ((W.alloc (.cells #[.int .i64 0, .int .u8 0, .int .u64 0, .int .u64 0, .int .u64 0, .int .u64 0, .bool false, .int .i64 0, .int .i64 0, .bool false, .int .i64 0] 32)).alloc (.cells #[.int .i64 0, .int .i64 0] 39))) := by
      have k0 := dl0 W (.cells #[.int .i64 0, .int .i64 0] 39)
      have k1 := dl1 W (.cells #[.int .i64 0, .int .u8 0, .int .u64 0, .int .u64 0, .int .u64 0, .int .u64 0, .bool false, .int .i64 0, .int .i64 0, .bool false, .int .i64 0] 32)
      rw [hs] at k0 k1
      refine ⟨⟨_, _, _, _, _, _, _, _, _, _, _, k0⟩, k1, ?_, fun k hk => ?_, hbp, hlt⟩
      · exact (hp.same (hb.block bp hlt)).same (hB.block bp (by omega))
      · rw [hB.block k (by omega), hb.block k (by omega)]; exact hold k hk
    have HJ : Hid (J [] ((W.alloc (.cells #[.int .i64 0, .int .u8 0, .int .u64 0, .int .u64 0, .int .u64 0, .int .u64 0, .bool false, .int .i64 0, .int .i64 0, .bool false, .int .i64 0] 32)).alloc (.cells #[.int .i64 0, .int .i64 0] 39))) := hJ _ _ _ h0 (TurnI.of_below (bel2 W _ _))
    clear key h0 hB hY hJ hJx hold hp hb hlt hbp hOld hr hm hn
    have hs1 : W.heap.size = w.heap.size + 1 + 1 := hs
    clear hs
    simp only [Try.ntmps8, List.size_toArray, List.length_cons, List.length_nil, Nat.reduceAdd, Nat.reduceSub, Array.replicate_succ, Array.replicate_zero, List.push_toArray, List.append_toArray, List.nil_append, List.cons_append]
    go_wp2_with fail
    go_step3
    rename_i K hK
    refine hK _ _ ?_
    clear hK
    exact HK.out _ _ (Fr8.of _ rfl) HI.out HJ.out
  · rintro l m a W' ⟨rfl, u, f, i, pre, rfl, rfl, hI, hj, hpi, hi, hf, hall⟩
    exact ⟨_, wo8_0, wp_skip_seq (key m i pre u W' hI hj hpi hi hf hall)⟩
end Go.Proofs.Ytkbeiadbolihiab
