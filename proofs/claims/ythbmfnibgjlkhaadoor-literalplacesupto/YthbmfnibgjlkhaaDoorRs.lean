/- Runs: the walk. -/
import Derived.Test.YthbmfnibgjlkhaaDoorRo
import Derived.Test.YthbmfnibgjlkhaaDoorLf
import Derived.Laws.EntriesVeiled
namespace Go.Proofs.YthbmfnibgjlkhaaDoor
open Go.RowKit Go.Shelf K
attribute [local go_sem] Oper.semAt_some
/-- Runs that are told one by one. -/
def VRl (w : World) (rs : List (Nat × List (Nat × Bool))) (i : Nat) (O : Nat → Prop) (vs : Array Value) (W : World) : Prop := ∃ fr ls g cap, rs[i]? = some (fr, ls) ∧ vs = #[.int .i64 (fr : Nat), .slice (some ⟨g, 0, none⟩) ls.length cap] ∧ RdL W (some ⟨g, 0, none⟩) ls ∧ 0 < ls.length ∧ ls.length ≤ cap ∧ ¬ O g ∧ w.heap.size + 2 ≤ g ∧ g < W.heap.size
/-- The runs of nodes. -/
def rsF (F : Nat → Nd) (n : Nat) : List (Nat × List (Nat × Bool)) := if isB F n = true then runsY (ptL (snd F n)) (pt 3 (snd F n)).length else []
/-- What Runs answers. -/
def RetRs (w : World) (rs : List (Nat × List (Nat × Bool))) (e : Ending) (w' : World) : Prop := ∃ (gf : Nat) (lb : Array Value) (Old : Nat → Prop), e = .returned (.func (.func gf) #[] lb) ∧ (∀ args w, (callFunc gf args).run Tryd.prog w = .ok (.enter gf args) w) ∧ (∀ k, Old k → k < w'.heap.size ∧ (k = 0 ∨ w.heap.size ≤ k)) ∧ (∀ m W, 4 ≤ m → Below w'.heap.size w' W → SeqO Fence.wide m Tryd.prog Old gf lb (VRl W rs) rs.length W) ∧ Below w.heap.size w w'
theorem nd_wf {u : Tre} {p q : Int} (h : wfN (u.nd p)) : wfN (u.nd q) := by
  cases u <;> exact h
theorem parts_wf {x : Tre} (c : Int) (h : ∀ k, k < x.size → wfN (nodes x k)) (i : Nat) (u : Tre) (hu : (pt c x)[i]? = some u) : wfN (nodes u (u.size - 1)) := by
  have hi := (List.getElem?_eq_some_iff.1 hu).1
  rw [← pp_len c x (x.size - 1)] at hi
  obtain ⟨v, hv, hs⟩ := pp_at c x x (x.size - 1) (Tre.subs_last x) i _ (List.getElem?_eq_getElem hi)
  rw [hu] at hv
  obtain rfl := Option.some.inj hv
  have hq := (subs_sub x _ _ hs).2.1
  have := h _ hq
  rw [nodes_get hs] at this
  rw [nodes_get (Tre.subs_last u)]
  exact nd_wf this
set_option maxHeartbeats 400000 in
theorem none_seq (m : Nat) (Old : Nat → Prop) (V : Nat → (Nat → Prop) → Array Value → World → Prop) (w : World) : SeqO Fence.wide m Tryd.prog Old 47 #[] V 0 w := by
  intro l J W hb hWs hBe hY h0
  simp only [Array.append_empty]
  refine callsIn_of_wp Tryd.func47 rfl trivial ?_ rfl
  simp only [Tryd.ntmps47, List.size_toArray, List.length_cons, List.length_nil, Nat.reduceAdd, Nat.reduceSub, Array.replicate_succ, Array.replicate_zero, List.push_toArray, List.append_toArray, List.nil_append, List.cons_append]
  have HJ : Hid (∃ O, J 0 O W) := ⟨_, h0⟩
  clear hY h0
  gi_wp2
  go_end0
  exact ⟨⟨_, rfl⟩, HJ.out⟩
set_option maxRecDepth 10000 in
set_option maxHeartbeats 2000000 in
theorem runs_any (a : Option Addr) (n c : Nat) (F : Nat → Nd) (w : World) (ha : RdN w a n F) (hn : (n : Int) ≤ 9223372036854775807) (hca : n ≤ c) (hwf : ∀ k, k < n → wfN (F k)) (hT : Tab w) : Calls Tryd.prog 24 #[.agg #[.slice a n c]] w (RetRs w (rsF F n)) := by
  have hW0 := below1 w (.cells #[.slice a n c] 48)
  have k0 := Cl.new w 48 [.slice a n c]
  have HI := is_plain a n c F _ (ha.below hW0) hn
  have hmf := mk_func
  unfold rsF
  cases hb : isB F n with
  | false =>
    rw [if_neg (by simp)]
    rw [hb] at HI
    have HR : Hid (∀ W, Below w.heap.size w W → RetRs w [] (.returned (.func (.func 47) #[] #[])) W) := fun W hW => ⟨47, #[], fun _ => False, rfl, enters_of Tryd.func47 (by kernel_rfl) rfl, fun k hk => hk.elim, fun m _ _ _ => none_seq m _ _ _, hW⟩
    clear ha hT hwf hmf
    go_enter Tryd.func24, Tryd.ntmps24
    go_wp2_with (go_at_call 46; refine HI.mono ?_; rintro e w1 ⟨rfl, hb1⟩)
    go_ret
    exact HR.out _ (hW0.trans (hb1.mono (by simp)))
  | true =>
    rw [if_pos rfl]
    rw [hb] at HI
    obtain ⟨t, ht⟩ : ∃ t, treeOf F n = some t := by
      have : (treeOf F n).isSome = true := by
        unfold isB at hb
        simp only [Bool.and_eq_true] at hb
        exact hb.1
      exact Option.isSome_iff_exists.1 this
    have hsn : snd F n = t := by simp [snd, ht]
    obtain ⟨e1, e2, e3, e4⟩ := treeOf_some ht
    have HP : Hid (∀ W, Below w.heap.size w W → Calls Tryd.prog 48 #[.agg #[.slice a n c], .int .i64 3] W (RetPa W (snd F n) 3)) := fun W hW => tparts_any a n c F 3 W (ha.below hW) hn hca
    have HR : Hid (∀ W1 V, Below w.heap.size w W1 → w.heap.size + 1 ≤ W1.heap.size → ∀ (b2 b3 b5 bf : Nat) (ac : Addr) (ca : Nat), Cl V b2 48 [.slice (some ac) (snd F n).size ca] → RdN V (some ac) (snd F n).size (nodes (snd F n)) → (snd F n).size ≤ ca → Cl V b3 3 [.int .i64 3] → Cl V b5 42 [.slice (some ⟨bf, 0, none⟩) (snd F n).size (snd F n).size] → Cl V bf 3 (ints (stF (snd F n)) (snd F n).size) → (W1.heap.size ≤ b2 ∧ W1.heap.size ≤ b3 ∧ W1.heap.size ≤ b5 ∧ W1.heap.size ≤ bf ∧ W1.heap.size ≤ ac.block) → Below W1.heap.size W1 V → RetRs w (runsY (ptL (snd F n)) (pt 3 (snd F n)).length) (.returned (.func (.func 49) #[] #[.pointer (some ⟨V.heap.size, 0, none⟩)])) (V.alloc (.cells #[.func (.func 80) #[] #[.pointer (some ⟨b2, 0, none⟩), .pointer (some ⟨b3, 0, none⟩), .pointer (some ⟨b5, 0, none⟩)]] 85))) := by
      intro W1 V hW1 hsz1 b2 b3 b5 bf ac ca k2 hr hcc k3 k5 kf hlow hB
      rw [hsn] at k2 hr hcc k5 kf ⊢
      have hbA := below1 V (.cells #[.func (.func 80) #[] #[.pointer (some ⟨b2, 0, none⟩), .pointer (some ⟨b3, 0, none⟩), .pointer (some ⟨b5, 0, none⟩)]] 85)
      have hwV : Below w.heap.size w V := hW1.trans (hB.mono hW1.size)
      have hacl : ac.block < V.heap.size := by
        obtain ⟨bb, off, e, hlt, _⟩ := hr t.size_pos
        obtain rfl := Option.some.inj e
        exact hlt
      refine ⟨49, _, fun k => k = 0 ∨ k = b2 ∨ k = b3 ∨ k = b5 ∨ k = bf ∨ k = ac.block, rfl, enters_of Tryd.func49 (by kernel_rfl) rfl, fun k hk => ?_, fun m W hm hW => ?_, hwV.alloc hwV.size _⟩
      · have l2 := k2.lt
        have l3 := k3.lt
        have l5 := k5.lt
        have lf := kf.lt
        have l0 := hT.lt
        have lv := hwV.size
        have l1 := hW1.size
        simp only [World.size_alloc]
        rcases hk with rfl | rfl | rfl | rfl | rfl | rfl
        · exact ⟨by omega, .inl rfl⟩
        · exact ⟨by omega, .inr (by omega)⟩
        · exact ⟨by omega, .inr (by omega)⟩
        · exact ⟨by omega, .inr (by omega)⟩
        · exact ⟨by omega, .inr (by omega)⟩
        · exact ⟨by omega, .inr (by omega)⟩
      · have hVW : Below V.heap.size V W := hbA.trans (hW.mono hbA.size)
        exact runs_seq m hm t e2 (by omega) (parts_wf 3 fun k hk => by rw [← e4 k (by omega)]; exact hwf k (by omega)) V.heap.size b2 b3 b5 bf ac ca _ W (hT.below (hwV.trans (hVW.mono hwV.size))) ((Cl.new V 85 _).below hW) (k2.below hVW) (hr.below hVW) hcc (k3.below hVW) (k5.below hVW) (kf.below hVW) (.inl rfl) (.inr (.inl rfl)) (.inr (.inr (.inl rfl))) (.inr (.inr (.inr (.inl rfl)))) (.inr (.inr (.inr (.inr (.inl rfl))))) (.inr (.inr (.inr (.inr (.inr rfl)))))
    clear ha hT hwf ht hsn e1 e2 e3 e4 hb
    generalize runsY (ptL (snd F n)) (pt 3 (snd F n)).length = rs at *
    generalize snd F n = x at *
    go_enter Tryd.func24, Tryd.ntmps24
    go_wp2_with (first | (go_at_call 48; refine (HP.out _ (hW0.trans (hb1.mono (by simp)))).mono ?_; rintro e V ⟨b2, b3, b5, bf, ac, ca, rfl, k2, hr, hcc, k3, k5, kf, hlow, hB⟩) | (go_at_call 46; refine HI.mono ?_; rintro e w1 ⟨rfl, hb1⟩; have d1 := (k0.below hb1).cell 0 rfl))
    go_ret
    exact HR.out w1 V (hW0.trans (hb1.mono (by simp))) (by have := hb1.size; simpa using this) b2 b3 b5 bf ac ca k2 hr hcc k3 k5 kf hlow hB
end Go.Proofs.YthbmfnibgjlkhaaDoor
