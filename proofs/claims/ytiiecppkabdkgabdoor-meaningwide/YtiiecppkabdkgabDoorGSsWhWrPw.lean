/- star and its function: the walks. Pages: places, begins, ends, and the function of a class: the walks. where, for each function that it is handed, and leaf: the walks. leaf, power, repeat: the walks. -/
import Derived.Test.YtiiecppkabdkgabDoorGRbCtAl
import Derived.Test.YtiiecppkabdkgabDoorGHcRrWtTwSw
import Derived.Test.YtiiecppkabdkgabDoorGMpMq
import Derived.Deep.RegionHeld3
import Derived.Test.YtiiecppkabdkgabDoorGTailScWaWoWmWwMwMe
namespace Go.Proofs.YtiiecppkabdkgabDoor
open Go.RowKit Go.Shelf
attribute [local go_sem] Oper.semAt_some
/-- What stands between the rounds of star's function. -/
structure TI (W : World) (h0 k : Nat) (bv : Value) (f : Nat → Nat) (l : List Nat) (i : Nat) (A : World) : Prop where
  beh : Cl A h0 47 [bv]
  at_ : Cl A (h0 + 1) 3 [.int .i64 (k : Nat)]
  box : ∃ ao bl cap, Cl A (h0 + 3) 52 [.slice ao bl cap] ∧ OwR A (h0 + 2) (.slice ao bl cap) (acS f (l.take i)) ∧ ∀ g, (Value.slice ao bl cap).ownBlock = some g → g < A.heap.size ∧ (g = h0 + 2 ∨ h0 + 7 ≤ g)
  bel : Below h0 W A
theorem OwR.own_ {A B : World} {c x : Nat} {v : Value} (h : OwR A c v x) (hs : ∀ g, v.ownBlock = some g → B.heap[g]? = A.heap[g]?) : OwR B c v x :=
  ⟨h.1, h.2.imp id fun ⟨g, cap, cur, e, hB, hc, h0⟩ => ⟨g, cap, cur, e, hB, (hs g (by rw [e]; simp [Value.ownBlock])).trans hc, h0⟩⟩
theorem OwR.own_lt {A : World} {c x : Nat} {v : Value} (h : OwR A c v x) (h1 : 0 < x) : ∀ g, v.ownBlock = some g → g < A.heap.size := by
  intro g hg
  rcases h.2 with ⟨h0, _⟩ | ⟨g', cap, cur, e, _, hc, _⟩
  · omega
  · rw [e] at hg
    have : g' = g := by simpa [Value.ownBlock] using hg
    rw [← this]
    exact (Array.getElem?_eq_some_iff.1 hc).1
theorem TI.turn {W : World} {h0 k : Nat} {bv : Value} {f : Nat → Nat} {l : List Nat} {i : Nat} {A B : World} (h : TI W h0 k bv f l i A) (hW : h0 = W.heap.size) (ht : Turn (h0 + 5) A B) : TI W h0 k bv f l i B := by
  obtain ⟨ao, bl, cap, hk, ho, hg⟩ := h.box
  refine ⟨by unfold Cl; rw [ht.block h0 h.beh.lt (.inl (by omega))]; exact h.beh, by unfold Cl; rw [ht.block _ h.at_.lt (.inl (by omega))]; exact h.at_, ⟨ao, bl, cap, by unfold Cl; rw [ht.block _ hk.lt (.inl (by omega))]; exact hk, ho.own_ fun g e => ht.block g (hg g e).1 (by have := (hg g e).2; omega), fun g e => ⟨Nat.lt_of_lt_of_le (hg g e).1 ht.size, (hg g e).2⟩⟩, ?_⟩
  exact ⟨ht.os.trans h.bel.os, ht.tape.trans h.bel.tape, ht.output.trans h.bel.output, Nat.le_trans h.bel.size ht.size, fun j hj => (ht.block j (Nat.lt_of_lt_of_le (by omega) h.bel.size) (.inl (by omega))).trans (h.bel.block j hj)⟩
def fr88 (p h0 : Nat) (d : Int) (u : Nat → Value) : Array Value := #[u 0, u 1, .pointer (some ⟨p, 0, none⟩), .pointer (some ⟨h0, 0, none⟩), .pointer (some ⟨h0 + 1, 0, none⟩), u 5, .pointer (some ⟨h0 + 1 + 1 + 1, 0, none⟩), .int .i64 d, u 8, u 9, u 10, u 11, u 12, u 13, u 14, u 15, u 16, u 17, u 18, u 19, u 20, u 21, u 22, u 23, u 24, u 25, u 26, u 27, u 28]
def Fr88 (p h0 : Nat) (d : Int) (tm : Array Value) : Prop := ∃ u, tm = fr88 p h0 d u
theorem Fr88.of {p h0 : Nat} {d : Int} (tm : Array Value) (h : tm = fr88 p h0 d (nth tm.toList)) : Fr88 p h0 d tm := ⟨_, h⟩
set_option maxRecDepth 100000 in
set_option maxHeartbeats 4000000 in
theorem starf_any (N k p ta tb : Nat) (a : Tab) (W : World) (hN : N ≤ 25) (hk : k < N) (hp : Cl W p 47 [.slice (some ⟨ta, 0, none⟩) N N]) (hA : Rows W ta N 0 (wrd N a)) (hB : Rows W tb N (k + 1) (wrd N (tStar a))) (hT : TabZ W) :
    Calls Tryd.prog 59 #[.slice (some ⟨tb, 0, none⟩) N N, .int .i64 (k : Nat), .pointer (some ⟨p, 0, none⟩)] W fun e w' => ∃ r, e = .returned r ∧ RowV w' r (wrd N (tStar a) k) ∧ Below W.heap.size W w' := by
  have hki : (k : Int) < (N : Int) := by omega
  have hki2 : (k : Int) ≤ 25 := by omega
  obtain ⟨rao, rl, rcap, dr, hr, htal⟩ := hA.get hk
  have hacc := acS_star hN a hk
  have hb1 : Below W.heap.size W ((((W.alloc (.cells #[.slice (some ⟨tb, 0, none⟩) N N] 47)).alloc (.cells #[.int .i64 (k : Nat)] 3)).alloc (.cells #[.int .u64 1] 39)).alloc (.cells #[.slice (some ⟨W.heap.size + 1 + 1, 0, none⟩) 1 1] 52)) := (((below2 W _ _).alloc (by simp; omega) _).alloc (by simp; omega) _)
  have hb2 : Below W.heap.size W (((((W.alloc (.cells #[.slice (some ⟨tb, 0, none⟩) N N] 47)).alloc (.cells #[.int .i64 (k : Nat)] 3)).alloc (.cells #[.int .u64 1] 39)).alloc (.cells #[.slice (some ⟨W.heap.size + 1 + 1, 0, none⟩) 1 1] 52)).alloc (.cells #[.slice rao rl rcap] 52)) := hb1.trans ((below1 _ _).mono hb1.size)
  have e1 := (hp.below hb1).cell 0 rfl
  have e2 : ((((W.alloc (.cells #[.slice (some ⟨tb, 0, none⟩) N N] 47)).alloc (.cells #[.int .i64 (k : Nat)] 3)).alloc (.cells #[.int .u64 1] 39)).alloc (.cells #[.slice (some ⟨W.heap.size + 1 + 1, 0, none⟩) 1 1] 52)).cell? ⟨ta, k, none⟩ = some (.slice rao rl rcap) := (hb1.cell (p := ⟨ta, k, none⟩) htal).trans dr
  have q1 : Cl (((W.alloc (.cells #[.slice (some ⟨tb, 0, none⟩) N N] 47)).alloc (.cells #[.int .i64 (k : Nat)] 3))) (W.heap.size + 1) 3 [.int .i64 (k : Nat)] := by
    have := Cl.new (W.alloc (.cells #[.slice (some ⟨tb, 0, none⟩) N N] 47)) 3 [.int .i64 (k : Nat)]
    simpa only [World.size_alloc] using this
  have e3 := ((q1.alloc (.cells #[.int .u64 1] 39)).alloc (.cells #[.slice (some ⟨W.heap.size + 1 + 1, 0, none⟩) 1 1] 52)).cell 0 rfl
  have hsz6 : (((((W.alloc (.cells #[.slice (some ⟨tb, 0, none⟩) N N] 47)).alloc (.cells #[.int .i64 (k : Nat)] 3)).alloc (.cells #[.int .u64 1] 39)).alloc (.cells #[.slice (some ⟨W.heap.size + 1 + 1, 0, none⟩) 1 1] 52)).alloc (.cells #[.slice rao rl rcap] 52)).heap.size = W.heap.size + 5 := by simp
  have K0 : TI W W.heap.size k (.slice (some ⟨tb, 0, none⟩) N N) (fun d => wrd N (tStar a) (k + d)) (come (wrd N a k).testBit 64) 0 (((((W.alloc (.cells #[.slice (some ⟨tb, 0, none⟩) N N] 47)).alloc (.cells #[.int .i64 (k : Nat)] 3)).alloc (.cells #[.int .u64 1] 39)).alloc (.cells #[.slice (some ⟨W.heap.size + 1 + 1, 0, none⟩) 1 1] 52)).alloc (.cells #[.slice rao rl rcap] 52)) := by
    refine ⟨((((Cl.new W 47 [.slice (some ⟨tb, 0, none⟩) N N]).alloc _).alloc _).alloc _).alloc _, ((q1.alloc _).alloc _).alloc _, ⟨some ⟨W.heap.size + 1 + 1, 0, none⟩, 1, 1, ?_, ⟨by simp [acS], .inr ⟨W.heap.size + 1 + 1, 1, #[.int .u64 1], rfl, by omega, ?_, by simp [acS]⟩⟩, fun g hg => ?_⟩, hb2⟩
    · have := (Cl.new (((W.alloc (.cells #[.slice (some ⟨tb, 0, none⟩) N N] 47)).alloc (.cells #[.int .i64 (k : Nat)] 3)).alloc (.cells #[.int .u64 1] 39)) 52 [.slice (some ⟨W.heap.size + 1 + 1, 0, none⟩) 1 1]).alloc (.cells #[.slice rao rl rcap] 52)
      simpa only [World.size_alloc] using this
    · have := ((Cl.new ((W.alloc (.cells #[.slice (some ⟨tb, 0, none⟩) N N] 47)).alloc (.cells #[.int .i64 (k : Nat)] 3)) 39 [.int .u64 1]).alloc (.cells #[.slice (some ⟨W.heap.size + 1 + 1, 0, none⟩) 1 1] 52)).alloc (.cells #[.slice rao rl rcap] 52)
      simp only [World.size_alloc] at this
      exact this
    · have : W.heap.size + 1 + 1 = g := by simpa [Value.ownBlock] using hg
      rw [hsz6]; omega
  have KX : Cl (((((W.alloc (.cells #[.slice (some ⟨tb, 0, none⟩) N N] 47)).alloc (.cells #[.int .i64 (k : Nat)] 3)).alloc (.cells #[.int .u64 1] 39)).alloc (.cells #[.slice (some ⟨W.heap.size + 1 + 1, 0, none⟩) 1 1] 52)).alloc (.cells #[.slice rao rl rcap] 52)) (W.heap.size + 1 + 1 + 1 + 1) 52 [.slice rao rl rcap] := by
    have := Cl.new ((((W.alloc (.cells #[.slice (some ⟨tb, 0, none⟩) N N] 47)).alloc (.cells #[.int .i64 (k : Nat)] 3)).alloc (.cells #[.int .u64 1] 39)).alloc (.cells #[.slice (some ⟨W.heap.size + 1 + 1, 0, none⟩) 1 1] 52)) 52 [.slice rao rl rcap]
    simpa only [World.size_alloc] using this
  have hr6 := hr.below hb2
  have hT6 := hT.below hb2
  have hpos := hT.lt
  refine (callsIn_wide (n := 5)).1 ?_
  refine callsIn_of_wp_marks Tryd.func59 rfl trivial ?_ rfl
  simp only [Tryd.ntmps59, List.size_toArray, List.length_cons, List.length_nil, Nat.reduceAdd, Nat.reduceSub, Array.replicate_succ, Array.replicate_zero, List.push_toArray, List.append_toArray, List.nil_append, List.cons_append]
  gi_wp2_with (refine ⟨trivial, ?_⟩; gi_at_call 16; refine (callsIn_wide.2 (widths_mk _ _ _ _)).mono ?_; rintro e w2 ⟨rfl, rfl⟩)
  clear e1 e2 e3 dr hr hb1 q1
  generalize ((((W.alloc (.cells #[.slice (some ⟨tb, 0, none⟩) N N] 47)).alloc (.cells #[.int .i64 (k : Nat)] 3)).alloc (.cells #[.int .u64 1] 39)).alloc (.cells #[.slice (some ⟨W.heap.size + 1 + 1, 0, none⟩) 1 1] 52)).alloc (.cells #[.slice rao rl rcap] 52) = V6 at *
  have hseq := widths_seq V6.heap.size (W.heap.size + 1 + 1 + 1 + 1) (fun j => j = 0) rao rl rcap (wrd N a k) V6 hr6 KX hT6 rfl rfl
  refine wpIn_rangeFunc_steps (n := 5) rfl (by decide) (gf := 28) (lb := #[.pointer (some ⟨W.heap.size + 1 + 1 + 1 + 1, 0, none⟩)]) rfl trivial (enters_of Tryd.func28 (by kernel_rfl) rfl) (fun j => j = 0) (fun j hj => by rw [hsz6]; omega) hseq (fun _ => rfl)
    (fun i A => TI W W.heap.size k (.slice (some ⟨tb, 0, none⟩) N N) (fun d => wrd N (tStar a) (k + d)) (come (wrd N a k).testBit 64) i A) (fun i A B h ht => h.turn rfl (by rw [hsz6] at ht; exact ht)) K0
    (fun i a' A => Fr88 p W.heap.size (((come (wrd N a k).testBit 64).getD i 0 : Nat) : Int) a'.tmps ∧ a'.defers = []) (fun i a' A B h _ => h) ?assign ?body ?done
  case assign =>
    rintro i A K hi hC hsz hK
    have HK : Hid (∀ tm, Fr88 p W.heap.size (((come (wrd N a k).testBit 64).getD i 0 : Nat) : Int) tm → K ⟨tm, []⟩ A) := fun tm h => hK _ _ (KeepT.refl _ _ _) hC ⟨h, rfl⟩
    clear hK hC K0 KX hseq hr6
    generalize (come (wrd N a k).testBit 64).getD i 0 = d at *
    gi_wp2
    exact HK.out _ (Fr88.of _ rfl)
  case body =>
    rintro i a' A hi hC ⟨⟨u, hfr⟩, hdf⟩ hsz
    obtain ⟨tm, dfs⟩ := a'
    dsimp only at hfr hdf
    subst hfr hdf
    rw [hsz6] at hsz
    obtain ⟨d, hd⟩ : ∃ d, (come (wrd N a k).testBit 64)[i]? = some d := ⟨_, List.getElem?_eq_getElem hi⟩
    have hgd : (come (wrd N a k).testBit 64).getD i 0 = d := by simp [List.getD, hd]
    obtain ⟨hd64, hdb⟩ := come_lt hd
    have hdb0 := hdb
    rw [wrd_bit hN, Bool.and_eq_true, decide_eq_true_eq] at hdb
    have hkd := hdb.1
    have hSI := SI.all hN (a := a) hk ((come (wrd N a k).testBit 64).take i) (fun e he => (come_mem.1 (List.mem_of_mem_take he)).2)
    obtain ⟨ao, bl, cap, kB, ho, hg⟩ := hC.box
    have hbA := hC.bel
    have d1 := kB.cell 0 rfl
    rw [show W.heap.size + 3 = W.heap.size + 1 + 1 + 1 from rfl] at d1
    have hhas := rhas_any ho.row d hd64
    have hx0 : 0 < acS (fun d => wrd N (tStar a) (k + d)) ((come (wrd N a k).testBit 64).take i) := by
      rcases Nat.eq_zero_or_pos (acS (fun d => wrd N (tStar a) (k + d)) ((come (wrd N a k).testBit 64).take i)) with h | h
      · have := hSI.zero; rw [h] at this; simp at this
      · exact h
    have htk : acS (fun d => wrd N (tStar a) (k + d)) ((come (wrd N a k).testBit 64).take (i + 1)) = stp (fun d => wrd N (tStar a) (k + d)) (acS (fun d => wrd N (tStar a) (k + d)) ((come (wrd N a k).testBit 64).take i)) d := by rw [take_snoc hd, acS_app]
    rw [hgd]
    have hdi : (d : Int) ≤ 25 := by omega
    cases hxd : (acS (fun d => wrd N (tStar a) (k + d)) ((come (wrd N a k).testBit 64).take i)).testBit d with
    | true =>
      rw [hxd] at hhas
      have hst : stp (fun d => wrd N (tStar a) (k + d)) (acS (fun d => wrd N (tStar a) (k + d)) ((come (wrd N a k).testBit 64).take i)) d = acS (fun d => wrd N (tStar a) (k + d)) ((come (wrd N a k).testBit 64).take i) := by unfold stp; rw [if_pos hxd]
      have HF : Hid (stepPost V6.heap.size (fun j => j = 0) (fun i A => TI W W.heap.size k (.slice (some ⟨tb, 0, none⟩) N N) (fun d => wrd N (tStar a) (k + d)) (come (wrd N a k).testBit 64) i A) i A .normal ⟨#[], []⟩ A) := ⟨KeepT.refl _ _ _, hC.beh, hC.at_, ⟨ao, bl, cap, kB, by rw [htk, hst]; exact ho, hg⟩, hC.bel⟩
      clear K0 KX hseq hr6 hC hB hT hT6 hA hacc hp hSI htk hst ho kB
      unfold fr88
      gi_wp2_with (refine ⟨trivial, ?_⟩; gi_at_call 30; refine (calls_round hhas).mono ?_; rintro e A' ⟨rfl, rfl⟩)
      exact HF.out
    | false =>
      rw [hxd] at hhas
      have hd0 : 0 < d := by
        rcases Nat.eq_zero_or_pos d with h | h
        · subst h; have := hSI.zero; rw [hxd] at this; cases this
        · exact h
      have hst : stp (fun d => wrd N (tStar a) (k + d)) (acS (fun d => wrd N (tStar a) (k + d)) ((come (wrd N a k).testBit 64).take i)) d = acS (fun d => wrd N (tStar a) (k + d)) ((come (wrd N a k).testBit 64).take i) ||| wrd N (tStar a) (k + d) * 2 ^ d := by unfold stp; rw [if_neg (by rw [hxd]; decide)]
      obtain ⟨M, hM, hMr⟩ := hB.below hbA
      have hrow := hMr (k + d) (by omega) hkd
      obtain ⟨sao, sl, scap, es⟩ := hrow.slice
      have ds := hM.cell (k + d) (vals_get M hkd)
      rw [es] at ds hrow
      have htl := hM.lt
      have d2 := hC.beh.cell 0 rfl
      have d3 := hC.at_.cell 0 rfl
      have HF : Hid (∀ r A', OwR A' (W.heap.size + 2) r (acS (fun d => wrd N (tStar a) (k + d)) ((come (wrd N a k).testBit 64).take i) ||| wrd N (tStar a) (k + d) * 2 ^ d) → (∀ j, j < A.heap.size → (Value.slice ao bl cap).ownBlock ≠ some j → A'.heap[j]? = A.heap[j]?) → (r.ownBlock = (Value.slice ao bl cap).ownBlock ∨ ∃ g, r.ownBlock = some g ∧ A.heap.size ≤ g) → Below (W.heap.size + 2) A A' → (∃ x, A'.cell? ⟨W.heap.size + 1 + 1 + 1, 0, none⟩ = some x) ∧ A'.frozen? ⟨W.heap.size + 1 + 1 + 1, 0, none⟩ = false ∧ stepPost V6.heap.size (fun j => j = 0) (fun i A => TI W W.heap.size k (.slice (some ⟨tb, 0, none⟩) N N) (fun d => wrd N (tStar a) (k + d)) (come (wrd N a k).testBit 64) i A) i A .normal ⟨#[], []⟩ (A'.setCell ⟨W.heap.size + 1 + 1 + 1, 0, none⟩ r)) := by
        intro r A' h1 h2 h3 h4
        have hne : ∀ j, j ≠ W.heap.size + 2 → j < W.heap.size + 7 → (Value.slice ao bl cap).ownBlock ≠ some j := fun j h5 h6 e => by have := (hg j e).2; omega
        have kB' : Cl A' (W.heap.size + 3) 52 [.slice ao bl cap] := by unfold Cl; rw [h2 _ kB.lt (hne _ (by omega) (by omega))]; exact kB
        have hs2 := h4.size
        have hlt := h1.own_lt (by
          have := Nat.left_le_or (n := acS (fun d => wrd N (tStar a) (k + d)) ((come (wrd N a k).testBit 64).take i)) (m := wrd N (tStar a) (k + d) * 2 ^ d)
          omega)
        refine ⟨⟨_, kB'.cell 0 rfl⟩, kB'.frozen 0, ⟨by simpa using hs2, fun j hj => ?_⟩, ?_⟩
        · rw [hsz6] at hj
          rw [set_heap _ _ _ _ (by dsimp only; omega)]
          exact h2 j (by omega) (hne j (by omega) (by omega))
        · obtain ⟨ro, rl', rc, rfl⟩ := h1.row.slice
          refine ⟨?_, ?_, ⟨ro, rl', rc, by simpa using kB'.set 0 (.slice ro rl' rc), ?_, fun g e => ?_⟩, (hbA.trans (h4.mono (by omega))).setCell (p := ⟨W.heap.size + 1 + 1 + 1, 0, none⟩) (by simp; omega) _⟩
          · refine Cl.other ?_ (by omega) _ _
            unfold Cl; rw [h2 _ hC.beh.lt (hne _ (by omega) (by omega))]; exact hC.beh
          · refine Cl.other ?_ (by omega) _ _
            unfold Cl; rw [h2 _ hC.at_.lt (hne _ (by omega) (by omega))]; exact hC.at_
          · rw [htk, hst]
            exact h1.own_ fun g e => set_heap _ _ _ _ (by
              dsimp only
              rcases h3 with h | ⟨g', h, h'⟩
              · rw [e] at h; have := (hg g h.symm).2; omega
              · rw [e] at h; have := Option.some.inj h; omega)
          · refine ⟨by simpa using hlt g e, ?_⟩
            rcases h3 with h | ⟨g', h, h'⟩
            · rw [e] at h; exact (hg g h.symm).2
            · rw [e] at h; have := Option.some.inj h; omega
      have hmv := wrd_move hN (tStar a) (k := k) (d := d)
      have hd32 : d < 32 := by omega
      have hkdi : (k : Int) + (d : Int) < (N : Int) := by omega
      have hsk : ((k : Int) + (d : Int)).toNat = k + d := by omega
      have n1 := Near.cell d1 (by have := kB.lt; omega)
      have n2 := Near.cell d2 hC.beh.lt
      have n3 := Near.cell d3 hC.at_.lt
      have n4 := Near.cell ds htl
      clear K0 KX hseq hr6 hC hB hT hT6 hA hacc hp hSI htk hst kB d2 d3 ds hM hMr
      have hhas2 := hhas.mono (R' := fun e w' => e = .returned (.bool false) ∧ A = w') fun _ _ h => ⟨h.1, h.2.symm⟩
      clear hhas
      unfold fr88
      gi_wp2_with (refine ⟨trivial, ?_⟩; gi_at_call 30; refine (calls_round hhas2).mono ?_; rintro e A' ⟨rfl, rfl⟩)
      refine round_quiet_tail 8 (fun w' => ∃ u : World, w' = near A u) (by kernel_rfl) (by kernel_rfl) (by kernel_rfl) (fun ⟨_, _, h⟩ => h) (Near.start _) ?_
      simp only [List.take_succ_cons, List.take_zero, List.drop_succ_cons, List.drop_zero]
      repeat (go_big_quiet_step (fail))
      refine wpQuiet_nil ?_
      rintro _ ⟨u', rfl⟩
      have hnb := near_below A u'
      have HW := with_all (W.heap.size + 2) _ _ _ _ d _ (ho.below hnb) (hrow.below hnb) hd32 hmv (Nat.le_trans (by omega) hnb.size)
      clear n1 n2 n3 n4
      go_wp2_with (go_at_call 45; refine HW.mono ?_; rintro e A' ⟨r, rfl, hr', hb', hk1, hk2⟩; obtain ⟨ro, rl', rc, rfl⟩ := hr'.row.slice; obtain ⟨⟨x, dx⟩, fx, HS⟩ := HF.out _ A' hr' (fun j hj hn => (hk1 j (Nat.lt_of_lt_of_le hj hnb.size) hn).trans (hnb.block j hj)) (hk2.imp id fun ⟨g, e1, e2⟩ => ⟨g, e1, Nat.le_trans hnb.size e2⟩) ((hnb.mono (by omega)).trans hb'); have HS' : Hid _ := HS; clear HS)
      exact HS'.out
  case done =>
    rintro A hC hD
    obtain ⟨ao, bl, cap, kB, ho, hg⟩ := hC.box
    have hbA := hC.bel
    rw [List.take_of_length_le (Nat.le_refl _), hacc] at ho
    have d1 := kB.cell 0 rfl
    rw [show W.heap.size + 3 = W.heap.size + 1 + 1 + 1 from rfl] at d1
    rw [hsz6] at hD
    have hput : ∀ j, j ≠ W.heap.size + 5 → (A.putObj (W.heap.size + 5) (.deferred none)).heap[j]? = A.heap[j]? := fun j hj => World.putObj_heap_other hj
    have H1 : Hid (RowV (A.putObj (W.heap.size + 5) (.deferred none)) (.slice ao bl cap) (wrd N (tStar a) k)) := (ho.own_ fun g e => hput g (by have := (hg g e).2; omega)).row
    have H2 : Hid _ := hbA.trans (belowK_b (w := W) (Nat.le_refl _) A (W.heap.size + 5) _ (.deferred none) (by omega) hD rfl rfl)
    clear K0 KX hseq hr6 hC hB hT hT6 hA hacc hp ho kB
    rw [hsz6]
    gi_wp2
    refine ⟨by simp, .inl ⟨_, _, rfl, run_takeDeferred hD, ?_⟩⟩
    exact ⟨_, results_tmp rfl _ _ _, .slice ao bl cap, rfl, H1.out, H2.out⟩
set_option maxHeartbeats 1000000 in
theorem star_any (N ta : Nat) (a : Tab) (w : World) (hN : N ≤ 25) (hA : Rows w ta N 0 (wrd N a)) (hT : TabZ w) :
    Calls Tryd.prog 48 #[.slice (some ⟨ta, 0, none⟩) N N] w (RetTab w N (tStar a)) := by
  have hb1 := below1 w (.cells #[.slice (some ⟨ta, 0, none⟩) N N] 47)
  have k1 := Cl.new w 47 [.slice (some ⟨ta, 0, none⟩) N N]
  have HR := rbr88 (.pointer (some ⟨w.heap.size, 0, none⟩)) _ N (wrd N (tStar a)) hN (fun k t' W hk hW _ hR => starf_any N k w.heap.size ta t' a W hN hk (k1.below hW) ((hA.below hb1).below hW) hR ((hT.below hb1).below hW))
  have hmf := mk_func
  clear k1 hA hT
  go_enter Tryd.func48, Tryd.ntmps48
  go_wp2_with (go_at_call 43; refine HR.mono ?_; rintro e w2 ⟨t2, rfl, hr2, hb2, _⟩)
  go_ret
  exact ⟨t2, rfl, hr2, hb1.trans (hb2.mono (by simp))⟩
end Go.Proofs.YtiiecppkabdkgabDoor
namespace Go.Proofs.YtiiecppkabdkgabDoor
open Go.RowKit
/-- Bytes that can be read. -/
def RdB (w : World) (ao : Option Addr) (n : Nat) (f : Nat → Nat) : Prop := (∀ i, i < n → f i < 256) ∧ (0 < n → ∃ bb off, ao = some ⟨bb, off, none⟩ ∧ bb < w.heap.size ∧ ∀ i, i < n → w.cell? ⟨bb, off + i, none⟩ = some (.int .u8 (f i : Nat)))
theorem RdB.below {w w' : World} {ao : Option Addr} {n : Nat} {f : Nat → Nat} (h : RdB w ao n f) (hb : Below w.heap.size w w') : RdB w' ao n f :=
  ⟨h.1, fun hn => by
    obtain ⟨bb, off, e, hlt, hc⟩ := h.2 hn
    exact ⟨bb, off, e, Nat.lt_of_lt_of_le hlt hb.size, fun i hi => by rw [hb.cell (p := ⟨bb, off + i, none⟩) hlt]; exact hc i hi⟩⟩
/-- A page as a value. -/
abbrev pgV (ao : Option Addr) (n cap : Nat) (mu : Bool) (fr tt : Nat) : Value := .agg #[.slice ao n cap, .bool mu, .int .i64 (fr : Nat), .int .i64 (tt : Nat)]
abbrev pgL (ao : Option Addr) (n cap : Nat) (mu : Bool) (fr tt : Nat) : List Value := [.slice ao n cap, .bool mu, .int .i64 (fr : Nat), .int .i64 (tt : Nat)]
set_option maxHeartbeats 400000 in
theorem places_any (ao : Option Addr) (n cap : Nat) (mu : Bool) (fr tt : Nat) (w : World) (h : fr ≤ tt) (ht : tt ≤ 24) : Calls Tryd.prog 26 #[pgV ao n cap mu fr tt] w fun e w' => e = .returned (.int .i64 ((tt - fr + 1 : Nat) : Int)) ∧ Below w.heap.size w w' := by
  have h1 : (fr : Int) ≤ (tt : Int) := by omega
  have h2 : (tt : Int) ≤ 24 := by omega
  have h3 : ((tt - fr + 1 : Nat) : Int) = (tt : Int) - fr + 1 := by omega
  rw [h3]
  go_enter Tryd.func26, Tryd.ntmps26
  go_wp2
  go_ret
  exact ⟨rfl, below1 _ _⟩
theorem beq_nat10 (x : Nat) : (((x : Nat) : Int) == 10) = (x == 10) := by
  rw [Bool.eq_iff_iff]; simp; omega
set_option maxHeartbeats 1000000 in
theorem begins_any (ao : Option Addr) (n cap : Nat) (mu : Bool) (fr tt : Nat) (f : Nat → Nat) (i : Nat) (w : World) (hr : RdB w ao n f) (hn : n ≤ 24) (hi : i ≤ n) : Calls Tryd.prog 51 #[pgV ao n cap mu fr tt, .int .i64 (i : Nat)] w fun e w' => e = .returned (.bool (hatB f mu i)) ∧ Below w.heap.size w w' := by
  have hb := below1 w (.cells #[.slice ao n cap, .bool mu, .int .i64 (fr : Nat), .int .i64 (tt : Nat)] 50)
  by_cases h0 : i = 0
  · subst h0
    have e : hatB f mu 0 = true := by simp [hatB]
    rw [e]
    go_enter Tryd.func51, Tryd.ntmps51
    go_wp2
    go_ret
    exact ⟨rfl, hb⟩
  · have hi0 : ((i : Int) == 0) = false := by simpa using h0
    cases mu with
    | false =>
      have e : hatB f false i = false := by simp [hatB, h0]
      rw [e]
      go_enter Tryd.func51, Tryd.ntmps51
      go_wp2
      go_ret
      exact ⟨rfl, hb⟩
    | true =>
      obtain ⟨bb, off, rfl, hlt, hc⟩ := hr.2 (by omega)
      have d := hc (i - 1) (by omega)
      rw [← hb.cell (p := ⟨bb, off + (i - 1), none⟩) hlt] at d
      have e : hatB f true i = (((f (i - 1) : Nat) : Int) == 10) := by rw [beq_nat10]; simp [hatB, h0]
      have h1 : ((i : Int) - 1).toNat = i - 1 := by omega
      have h2 : (0 : Int) ≤ (i : Int) - 1 := by omega
      have h3 : (i : Int) - 1 < (n : Int) := by omega
      have h4 : (i : Int) ≤ 24 := by omega
      rw [e]
      generalize f (i - 1) = c at *
      go_enter Tryd.func51, Tryd.ntmps51
      go_wp2
      all_goals
        go_ret
        exact ⟨rfl, hb⟩
set_option maxHeartbeats 1000000 in
theorem ends_any (ao : Option Addr) (n cap : Nat) (mu : Bool) (fr tt : Nat) (f : Nat → Nat) (i : Nat) (w : World) (hr : RdB w ao n f) (hn : n ≤ 24) (hi : i ≤ n) : Calls Tryd.prog 52 #[pgV ao n cap mu fr tt, .int .i64 (i : Nat)] w fun e w' => e = .returned (.bool (dolB f n mu i)) ∧ Below w.heap.size w w' := by
  have hb := below1 w (.cells #[.slice ao n cap, .bool mu, .int .i64 (fr : Nat), .int .i64 (tt : Nat)] 50)
  by_cases h0 : i = n
  · subst h0
    have e : dolB f i mu i = true := by simp [dolB]
    rw [e]
    go_enter Tryd.func52, Tryd.ntmps52
    go_wp2
    go_ret
    exact ⟨rfl, hb⟩
  · have hi0 : ((i : Int) == (n : Int)) = false := by simp; omega
    cases mu with
    | false =>
      have e : dolB f n false i = false := by simp [dolB, h0]
      rw [e]
      go_enter Tryd.func52, Tryd.ntmps52
      go_wp2
      go_ret
      exact ⟨rfl, hb⟩
    | true =>
      obtain ⟨bb, off, rfl, hlt, hc⟩ := hr.2 (by omega)
      have d := hc i (by omega)
      rw [← hb.cell (p := ⟨bb, off + i, none⟩) hlt] at d
      have e : dolB f n true i = (((f i : Nat) : Int) == 10) := by rw [beq_nat10]; simp [dolB, h0]
      have h3 : (i : Int) < (n : Int) := by omega
      rw [e]
      generalize f i = c at *
      go_enter Tryd.func52, Tryd.ntmps52
      go_wp2
      all_goals
        go_ret
        exact ⟨rfl, hb⟩
/-- The words of a node's class are words. -/
def wfN (q : Nd) : Prop := (0 ≤ q.c0 ∧ q.c0 < 18446744073709551616) ∧ (0 ≤ q.c1 ∧ q.c1 < 18446744073709551616) ∧ (0 ≤ q.c2 ∧ q.c2 < 18446744073709551616) ∧ (0 ≤ q.c3 ∧ q.c3 < 18446744073709551616)
theorem c4_cls {q : Nd} (h : wfN q) : C4 (clsP q) q.c0.toNat q.c1.toNat q.c2.toNat q.c3.toNat := by
  obtain ⟨h0, h1, h2, h3⟩ := h
  refine ⟨by omega, by omega, by omega, by omega, fun j hj => ?_, fun j hj => ?_, fun j hj => ?_, fun j hj => ?_⟩
  · unfold clsP; rw [if_pos hj]
  · unfold clsP; rw [if_neg (by omega), if_pos (by omega), Nat.add_sub_cancel_left]
  · unfold clsP; rw [if_neg (by omega), if_neg (by omega), if_pos (by omega), Nat.add_sub_cancel_left]
  · unfold clsP; rw [if_neg (by omega), if_neg (by omega), if_neg (by omega), Nat.add_sub_cancel_left]
theorem chas_any (q : Nd) (x : Nat) (w : World) (h : wfN q) (hx : x < 256) : Calls Tryd.prog 54 #[.agg #[.int .u64 q.c0, .int .u64 q.c1, .int .u64 q.c2, .int .u64 q.c3], .int .u8 (x : Nat)] w fun e w' => e = .returned (.bool (clsP q x)) ∧ Below w.heap.size w w' := by
  have := has_c (c4_cls h) x w hx
  obtain ⟨h0, h1, h2, h3⟩ := h
  rwa [show ((q.c0.toNat : Nat) : Int) = q.c0 by omega, show ((q.c1.toNat : Nat) : Int) = q.c1 by omega, show ((q.c2.toNat : Nat) : Int) = q.c2 by omega, show ((q.c3.toNat : Nat) : Int) = q.c3 by omega] at this
set_option maxRecDepth 10000 in
set_option maxHeartbeats 2000000 in
theorem leaff_any (ao : Option Addr) (n cap : Nat) (mu : Bool) (fr tt : Nat) (f : Nat → Nat) (q : Nd) (i bp bn : Nat) (w : World) (hr : RdB w ao n f) (hn : n ≤ 24) (htn : tt ≤ n) (hq : wfN q) (kp : Cl w bp 50 (pgL ao n cap mu fr tt)) (kn : Cl w bn 43 (ndL q)) :
    Calls Tryd.prog 53 #[.int .i64 (i : Nat), .pointer (some ⟨bp, 0, none⟩), .pointer (some ⟨bn, 0, none⟩)] w fun e w' => e = .returned (.bool (decide (i < tt) && clsP q (f i))) ∧ Below w.heap.size w w' := by
  have p0 := kp.cell 0 rfl
  have p3 := kp.cell 3 rfl
  have hit : (decide ((i : Int) < (tt : Int))) = decide (i < tt) := by rw [decide_eq_decide]; omega
  by_cases h : i < tt
  · have hi' : (i : Int) < (tt : Int) := by omega
    have hin : (i : Int) < (n : Int) := by omega
    obtain ⟨bb, off, rfl, hlt, hc⟩ := hr.2 (by omega)
    have dc := hc i (by omega)
    have hx := hr.1 i (by omega)
    have HC : Hid (∀ W, Calls Tryd.prog 54 #[.agg #[.int .u64 q.c0, .int .u64 q.c1, .int .u64 q.c2, .int .u64 q.c3], .int .u8 (f i : Nat)] W fun e w' => e = .returned (.bool (clsP q (f i))) ∧ Below W.heap.size W w') := fun W => chas_any q (f i) W hq hx
    rw [show (decide (i < tt) && clsP q (f i)) = clsP q (f i) by simp [h]]
    generalize f i = c at *
    generalize clsP q c = z at *
    unfold ndL at kn
    have HX : Hid (∀ W, Below w.heap.size w W → (W.cell? ⟨bp, 0, none⟩ = some (.slice (some ⟨bb, off, none⟩) n cap) ∧ W.cell? ⟨bp, 3, none⟩ = some (.int .i64 (tt : Nat))) ∧ (W.cell? ⟨bn, 1, none⟩ = some (.int .u64 q.c0) ∧ W.cell? ⟨bn, 2, none⟩ = some (.int .u64 q.c1) ∧ W.cell? ⟨bn, 3, none⟩ = some (.int .u64 q.c2) ∧ W.cell? ⟨bn, 4, none⟩ = some (.int .u64 q.c3)) ∧ W.cell? ⟨bb, off + i, none⟩ = some (.int .u8 (c : Nat))) := fun W hW => ⟨⟨(kp.below hW).cell 0 rfl, (kp.below hW).cell 3 rfl⟩, ⟨(kn.below hW).cell 1 rfl, (kn.below hW).cell 2 rfl, (kn.below hW).cell 3 rfl, (kn.below hW).cell 4 rfl⟩, by rw [hW.cell (p := ⟨bb, off + i, none⟩) hlt]; exact dc⟩
    have tBd : Below w.heap.size w w.drew := (Below.refl _ _).drew
    have hS := HX.out _ tBd
    clear kp kn p0 p3 hr hq dc hc hit
    go_enter Tryd.func53, Tryd.ntmps53
    go_wp2_with fail
    go_region_held3 (fun W => (W.cell? ⟨bp, 0, none⟩ = some (.slice (some ⟨bb, off, none⟩) n cap) ∧ W.cell? ⟨bp, 3, none⟩ = some (.int .i64 (tt : Nat))) ∧ (W.cell? ⟨bn, 1, none⟩ = some (.int .u64 q.c0) ∧ W.cell? ⟨bn, 2, none⟩ = some (.int .u64 q.c1) ∧ W.cell? ⟨bn, 3, none⟩ = some (.int .u64 q.c2) ∧ W.cell? ⟨bn, 4, none⟩ = some (.int .u64 q.c3)) ∧ W.cell? ⟨bb, off + i, none⟩ = some (.int .u8 (c : Nat))) (exact hS)
      (first
        | (go_at_call 54; refine (HC.out _).mono ?_; rintro e w9 ⟨rfl, qq⟩; have tB := tBd.trans (qq.mono tBd.size); clear hS; have hS := HX.out _ tB))
    all_goals
      go_wp2_with fail
      go_ret
      exact ⟨rfl, tB⟩
  · have hi' : ¬ (i : Int) < (tt : Int) := by omega
    rw [show (decide (i < tt) && clsP q (f i)) = false by simp [h]]
    go_enter Tryd.func53, Tryd.ntmps53
    go_wp2_with fail
    go_quiet (fail)
    go_wp2_with fail
    go_ret
    exact ⟨rfl, below_drewN (Below.refl _ _) _⟩
end Go.Proofs.YtiiecppkabdkgabDoor
namespace Go.Proofs.YtiiecppkabdkgabDoor
open Go.RowKit
/-- Spans of one width, where something holds. -/
def tWh (m : Nat) (H : Nat → Bool) : Tab := fun i d => d == m && H i
theorem wh_word {N : Nat} (hN : N ≤ 25) (m : Nat) (H : Nat → Bool) (k : Nat) (h : H k = true → k + m < N) : (if H k = true then 2 ^ m else 0) = wrd N (tWh m H) k := by
  refine word_is hN fun d => ?_
  cases hH : H k with
  | false => simp [tWh, hH]
  | true =>
    rw [if_pos rfl, Nat.testBit_two_pow]
    have hk := h hH
    simp only [tWh, hH, Bool.and_true]
    by_cases e : m = d
    · subst e; simp [hk]
    · have e' : ¬ d = m := fun h => e h.symm
      simp [e, e']
theorem RowV.putB {W : World} {v : Value} {x : Nat} (h : RowV W v x) (o : Obj) : RowV (W.alloc o) v x := h.below (below1 _ _)
set_option maxRecDepth 10000 in
set_option maxHeartbeats 2000000 in
theorem wheref82 (N k hb pb ob m : Nat) (ao : Option Addr) (n cap : Nat) (mu : Bool) (fr tt : Nat) (H : Nat → Bool) (oo : Option Addr) (ol oc : Nat) (v : Value) (W : World) (hN : N ≤ 25) (hk : k < N) (hfr : fr ≤ 24) (kh : Cl W hb 67 [.func (.func 51) #[pgV ao n cap mu fr tt] #[]]) (kp : Cl W pb 50 (pgL ao n cap mu fr tt)) (ko : Cl W ob 52 [.slice oo ol oc]) (ho : RowV W (.slice oo ol oc) (2 ^ m)) (hH : H k = true → k + m < N)
    (HK : Calls Tryd.prog 51 #[pgV ao n cap mu fr tt, .int .i64 ((fr + k : Nat) : Int)] W fun e w' => e = .returned (.bool (H k)) ∧ Below W.heap.size W w') :
    Calls Tryd.prog 61 #[v, .int .i64 (k : Nat), .pointer (some ⟨hb, 0, none⟩), .pointer (some ⟨pb, 0, none⟩), .pointer (some ⟨ob, 0, none⟩)] W fun e w' => ∃ r, e = .returned r ∧ RowV w' r (wrd N (tWh m H) k) ∧ Below W.heap.size W w' := by
  have d0 := kh.cell 0 rfl
  have d1 := kp.cell 2 rfl
  have hw0 := wh_word hN m H k hH
  have hk1 : (k : Int) ≤ 25 := by omega
  have hk2 : (fr : Int) ≤ 25 := by omega
  have e1 : ((fr + k : Nat) : Int) = (fr : Int) + (k : Int) := by omega
  rw [e1] at HK
  clear e1
  cases hz : H k with
  | true =>
    rw [hz] at HK
    rw [hz, if_pos rfl] at hw0
    have hw : Hid (2 ^ m = wrd N (tWh m H) k) := hw0
    clear hH hw0
    go_enter Tryd.func61, Tryd.ntmps61
    go_wp2_with (go_at_call 51; refine HK.mono ?_; rintro e w2 ⟨rfl, hb2⟩; have d2 := (ko.below hb2).cell 0 rfl)
    go_ret
    exact ⟨.slice oo ol oc, rfl, by rw [← hw.out]; exact ho.below hb2, hb2⟩
  | false =>
    rw [hz] at HK
    rw [hz, if_neg (by decide)] at hw0
    have hw : Hid (0 = wrd N (tWh m H) k) := hw0
    clear hH hw0
    go_enter Tryd.func61, Tryd.ntmps61
    go_wp2_with (go_at_call 51; refine HK.mono ?_; rintro e w2 ⟨rfl, hb2⟩)
    go_ret
    exact ⟨.slice none 0 0, rfl, by rw [← hw.out]; exact RowV.nil _ _ _, hb2⟩
set_option maxRecDepth 10000 in
set_option maxHeartbeats 2000000 in
theorem where82 (N m : Nat) (ao : Option Addr) (n cap : Nat) (mu : Bool) (fr tt : Nat) (H : Nat → Bool) (w : World) (hN : N = tt - fr + 1) (hft : fr ≤ tt) (ht : tt ≤ 24) (hm : m ≤ 1) (hH : ∀ k, k < N → H k = true → k + m < N)
    (HK : ∀ k W, k < N → Below w.heap.size w W → Calls Tryd.prog 51 #[pgV ao n cap mu fr tt, .int .i64 ((fr + k : Nat) : Int)] W fun e w' => e = .returned (.bool (H k)) ∧ Below W.heap.size W w') :
    Calls Tryd.prog 50 #[pgV ao n cap mu fr tt, .int .i64 (m : Nat), .func (.func 51) #[pgV ao n cap mu fr tt] #[]] w (RetTab w N (tWh m H)) := by
  have hN25 : N ≤ 25 := by omega
  have hmi : (m : Int) ≤ 1 := by omega
  have hsh : IntKind.u64.wrap (1 * 2 ^ m) = ((2 ^ m : Nat) : Int) := by
    rcases Nat.le_one_iff_eq_zero_or_eq_one.1 hm with rfl | rfl <;> simp [IntKind.wrap_u64]
  have hsh2 : (IntKind.u64.wrap (2 ^ m)) = ((2 ^ m : Nat) : Int) := by
    rcases Nat.le_one_iff_eq_zero_or_eq_one.1 hm with rfl | rfl <;> simp [IntKind.wrap_u64]
  have h2m : 2 ^ m < 4294967296 := by
    rcases Nat.le_one_iff_eq_zero_or_eq_one.1 hm with rfl | rfl <;> decide
  have hb1 := below2 w (.cells #[.slice ao n cap, .bool mu, .int .i64 (fr : Nat), .int .i64 (tt : Nat)] 50) (.cells #[.func (.func 51) #[pgV ao n cap mu fr tt] #[]] 67)
  have hb2 : Below w.heap.size w ((((w.alloc (.cells #[.slice ao n cap, .bool mu, .int .i64 (fr : Nat), .int .i64 (tt : Nat)] 50)).alloc (.cells #[.func (.func 51) #[pgV ao n cap mu fr tt] #[]] 67)).alloc (.cells #[.int .u64 (2 ^ m)] 39)).alloc (.cells #[.slice (some ⟨w.heap.size + 1 + 1, 0, none⟩) 1 1] 52)) := (hb1.alloc (by simp; omega) _).alloc (by simp; omega) _
  have kp : Cl ((((w.alloc (.cells #[.slice ao n cap, .bool mu, .int .i64 (fr : Nat), .int .i64 (tt : Nat)] 50)).alloc (.cells #[.func (.func 51) #[pgV ao n cap mu fr tt] #[]] 67)).alloc (.cells #[.int .u64 (2 ^ m)] 39)).alloc (.cells #[.slice (some ⟨w.heap.size + 1 + 1, 0, none⟩) 1 1] 52)) w.heap.size 50 (pgL ao n cap mu fr tt) := (((Cl.new w 50 (pgL ao n cap mu fr tt)).alloc _).alloc _).alloc _
  have kh : Cl ((((w.alloc (.cells #[.slice ao n cap, .bool mu, .int .i64 (fr : Nat), .int .i64 (tt : Nat)] 50)).alloc (.cells #[.func (.func 51) #[pgV ao n cap mu fr tt] #[]] 67)).alloc (.cells #[.int .u64 (2 ^ m)] 39)).alloc (.cells #[.slice (some ⟨w.heap.size + 1 + 1, 0, none⟩) 1 1] 52)) (w.heap.size + 1) 67 [.func (.func 51) #[pgV ao n cap mu fr tt] #[]] := by
    have := ((Cl.new (w.alloc (.cells #[.slice ao n cap, .bool mu, .int .i64 (fr : Nat), .int .i64 (tt : Nat)] 50)) 67 [.func (.func 51) #[pgV ao n cap mu fr tt] #[]]).alloc (.cells #[.int .u64 (2 ^ m)] 39)).alloc (.cells #[.slice (some ⟨w.heap.size + 1 + 1, 0, none⟩) 1 1] 52)
    simpa only [World.size_alloc] using this
  have k6 : Cl ((((w.alloc (.cells #[.slice ao n cap, .bool mu, .int .i64 (fr : Nat), .int .i64 (tt : Nat)] 50)).alloc (.cells #[.func (.func 51) #[pgV ao n cap mu fr tt] #[]] 67)).alloc (.cells #[.int .u64 (2 ^ m)] 39)).alloc (.cells #[.slice (some ⟨w.heap.size + 1 + 1, 0, none⟩) 1 1] 52)) (w.heap.size + 1 + 1) 39 [.int .u64 (2 ^ m)] := by
    have := (Cl.new ((w.alloc (.cells #[.slice ao n cap, .bool mu, .int .i64 (fr : Nat), .int .i64 (tt : Nat)] 50)).alloc (.cells #[.func (.func 51) #[pgV ao n cap mu fr tt] #[]] 67)) 39 [.int .u64 (2 ^ m)]).alloc (.cells #[.slice (some ⟨w.heap.size + 1 + 1, 0, none⟩) 1 1] 52)
    simpa only [World.size_alloc] using this
  have ko : Cl ((((w.alloc (.cells #[.slice ao n cap, .bool mu, .int .i64 (fr : Nat), .int .i64 (tt : Nat)] 50)).alloc (.cells #[.func (.func 51) #[pgV ao n cap mu fr tt] #[]] 67)).alloc (.cells #[.int .u64 (2 ^ m)] 39)).alloc (.cells #[.slice (some ⟨w.heap.size + 1 + 1, 0, none⟩) 1 1] 52)) (w.heap.size + 1 + 1 + 1) 52 [.slice (some ⟨w.heap.size + 1 + 1, 0, none⟩) 1 1] := by
    have := Cl.new (((w.alloc (.cells #[.slice ao n cap, .bool mu, .int .i64 (fr : Nat), .int .i64 (tt : Nat)] 50)).alloc (.cells #[.func (.func 51) #[pgV ao n cap mu fr tt] #[]] 67)).alloc (.cells #[.int .u64 (2 ^ m)] 39)) 52 [.slice (some ⟨w.heap.size + 1 + 1, 0, none⟩) 1 1]
    simpa only [World.size_alloc] using this
  have ho : RowV ((((w.alloc (.cells #[.slice ao n cap, .bool mu, .int .i64 (fr : Nat), .int .i64 (tt : Nat)] 50)).alloc (.cells #[.func (.func 51) #[pgV ao n cap mu fr tt] #[]] 67)).alloc (.cells #[.int .u64 (2 ^ m)] 39)).alloc (.cells #[.slice (some ⟨w.heap.size + 1 + 1, 0, none⟩) 1 1] 52)) (.slice (some ⟨w.heap.size + 1 + 1, 0, none⟩) 1 1) (2 ^ m) := ⟨h2m, .inr ⟨_, 1, _, (0, 0), rfl, k6, by rw [Int.natCast_pow]; rfl⟩⟩
  have d3 := kp.cell 0 rfl
  have d4 := kp.cell 1 rfl
  have d5 := kp.cell 2 rfl
  have d6 := kp.cell 3 rfl
  have HR : Hid (∀ W, Below w.heap.size w W → Below (w.heap.size + 4) ((((w.alloc (.cells #[.slice ao n cap, .bool mu, .int .i64 (fr : Nat), .int .i64 (tt : Nat)] 50)).alloc (.cells #[.func (.func 51) #[pgV ao n cap mu fr tt] #[]] 67)).alloc (.cells #[.int .u64 (2 ^ m)] 39)).alloc (.cells #[.slice (some ⟨w.heap.size + 1 + 1, 0, none⟩) 1 1] 52)) W → Calls Tryd.prog 43 #[.int .i64 (N : Nat), .func (.func 61) #[] #[.pointer (some ⟨w.heap.size + 1, 0, none⟩), .pointer (some ⟨w.heap.size, 0, none⟩), .pointer (some ⟨w.heap.size + 1 + 1 + 1, 0, none⟩)]] W (RetTb W N (wrd N (tWh m H)))) := fun W hW hW2 => by
    have hs4 : ((((w.alloc (.cells #[.slice ao n cap, .bool mu, .int .i64 (fr : Nat), .int .i64 (tt : Nat)] 50)).alloc (.cells #[.func (.func 51) #[pgV ao n cap mu fr tt] #[]] 67)).alloc (.cells #[.int .u64 (2 ^ m)] 39)).alloc (.cells #[.slice (some ⟨w.heap.size + 1 + 1, 0, none⟩) 1 1] 52)).heap.size = w.heap.size + 4 := by simp
    rw [← hs4] at hW2
    exact rbr90 (.pointer (some ⟨w.heap.size + 1, 0, none⟩)) (.pointer (some ⟨w.heap.size, 0, none⟩)) (.pointer (some ⟨w.heap.size + 1 + 1 + 1, 0, none⟩)) W N (wrd N (tWh m H)) hN25 (fun k t' W' hk hW' _ _ => wheref82 N k (w.heap.size + 1) w.heap.size (w.heap.size + 1 + 1 + 1) m ao n cap mu fr tt  H (some ⟨w.heap.size + 1 + 1, 0, none⟩) 1 1 (.slice (some ⟨t', 0, none⟩) N N) W' hN25 hk (by omega) ((kh.below hW2).below hW') ((kp.below hW2).below hW') ((ko.below hW2).below hW') ((ho.below hW2).below hW') (hH k hk) (HK k W' hk (hW.trans (hW'.mono hW.size))))
  have HP : Hid (∀ W, Calls Tryd.prog 26 #[pgV ao n cap mu fr tt] W fun e w' => e = .returned (.int .i64 (N : Nat)) ∧ Below W.heap.size W w') := fun W => by
    rw [hN]; exact places_any ao n cap mu fr tt W hft ht
  have hmf := mk_func
  clear kh ko k6 kp ho HK hH hN
  go_enter Tryd.func50, Tryd.ntmps50
  go_upto_region 2 with fail
  have hsV : ((((w.alloc (.cells #[.slice ao n cap, .bool mu, .int .i64 (fr : Nat), .int .i64 (tt : Nat)] 50)).alloc (.cells #[.func (.func 51) #[pgV ao n cap mu fr tt] #[]] 67)).alloc (.cells #[.int .u64 (2 ^ m)] 39)).alloc (.cells #[.slice (some ⟨w.heap.size + 1 + 1, 0, none⟩) 1 1] 52)).heap.size = w.heap.size + 4 := by simp
  generalize (((w.alloc (.cells #[.slice ao n cap, .bool mu, .int .i64 (fr : Nat), .int .i64 (tt : Nat)] 50)).alloc (.cells #[.func (.func 51) #[pgV ao n cap mu fr tt] #[]] 67)).alloc (.cells #[.int .u64 (2 ^ m)] 39)).alloc (.cells #[.slice (some ⟨w.heap.size + 1 + 1, 0, none⟩) 1 1] 52) = V at *
  clear hsh hsh2
  go_wp2_with fail
  refine (HP.out V).mono ?_
  rintro e w2 ⟨rfl, hbp⟩
  have hbp4 : Below (w.heap.size + 4) V w2 := by rw [← hsV]; exact hbp
  have hb4 := hb2.trans (hbp.mono (by omega))
  have HR2 := HR.out w2 hb4 hbp4
  clear HR HP d3 d4 d5 d6 hbp hbp4
  go_wp2_with fail
  refine HR2.mono ?_
  rintro e w3 ⟨t2, rfl, hr2, hb3, _⟩
  go_wp2_with fail
  go_ret
  exact ⟨t2, rfl, hr2, hb4.trans (hb3.mono hb4.size)⟩
set_option maxRecDepth 10000 in
set_option maxHeartbeats 2000000 in
theorem wheref83 (N k hb pb ob m : Nat) (ao : Option Addr) (n cap : Nat) (mu : Bool) (fr tt : Nat) (H : Nat → Bool) (oo : Option Addr) (ol oc : Nat) (v : Value) (W : World) (hN : N ≤ 25) (hk : k < N) (hfr : fr ≤ 24) (kh : Cl W hb 67 [.func (.func 52) #[pgV ao n cap mu fr tt] #[]]) (kp : Cl W pb 50 (pgL ao n cap mu fr tt)) (ko : Cl W ob 52 [.slice oo ol oc]) (ho : RowV W (.slice oo ol oc) (2 ^ m)) (hH : H k = true → k + m < N)
    (HK : Calls Tryd.prog 52 #[pgV ao n cap mu fr tt, .int .i64 ((fr + k : Nat) : Int)] W fun e w' => e = .returned (.bool (H k)) ∧ Below W.heap.size W w') :
    Calls Tryd.prog 61 #[v, .int .i64 (k : Nat), .pointer (some ⟨hb, 0, none⟩), .pointer (some ⟨pb, 0, none⟩), .pointer (some ⟨ob, 0, none⟩)] W fun e w' => ∃ r, e = .returned r ∧ RowV w' r (wrd N (tWh m H) k) ∧ Below W.heap.size W w' := by
  have d0 := kh.cell 0 rfl
  have d1 := kp.cell 2 rfl
  have hw0 := wh_word hN m H k hH
  have hk1 : (k : Int) ≤ 25 := by omega
  have hk2 : (fr : Int) ≤ 25 := by omega
  have e1 : ((fr + k : Nat) : Int) = (fr : Int) + (k : Int) := by omega
  rw [e1] at HK
  clear e1
  cases hz : H k with
  | true =>
    rw [hz] at HK
    rw [hz, if_pos rfl] at hw0
    have hw : Hid (2 ^ m = wrd N (tWh m H) k) := hw0
    clear hH hw0
    go_enter Tryd.func61, Tryd.ntmps61
    go_wp2_with (go_at_call 52; refine HK.mono ?_; rintro e w2 ⟨rfl, hb2⟩; have d2 := (ko.below hb2).cell 0 rfl)
    go_ret
    exact ⟨.slice oo ol oc, rfl, by rw [← hw.out]; exact ho.below hb2, hb2⟩
  | false =>
    rw [hz] at HK
    rw [hz, if_neg (by decide)] at hw0
    have hw : Hid (0 = wrd N (tWh m H) k) := hw0
    clear hH hw0
    go_enter Tryd.func61, Tryd.ntmps61
    go_wp2_with (go_at_call 52; refine HK.mono ?_; rintro e w2 ⟨rfl, hb2⟩)
    go_ret
    exact ⟨.slice none 0 0, rfl, by rw [← hw.out]; exact RowV.nil _ _ _, hb2⟩
set_option maxRecDepth 10000 in
set_option maxHeartbeats 2000000 in
theorem where83 (N m : Nat) (ao : Option Addr) (n cap : Nat) (mu : Bool) (fr tt : Nat) (H : Nat → Bool) (w : World) (hN : N = tt - fr + 1) (hft : fr ≤ tt) (ht : tt ≤ 24) (hm : m ≤ 1) (hH : ∀ k, k < N → H k = true → k + m < N)
    (HK : ∀ k W, k < N → Below w.heap.size w W → Calls Tryd.prog 52 #[pgV ao n cap mu fr tt, .int .i64 ((fr + k : Nat) : Int)] W fun e w' => e = .returned (.bool (H k)) ∧ Below W.heap.size W w') :
    Calls Tryd.prog 50 #[pgV ao n cap mu fr tt, .int .i64 (m : Nat), .func (.func 52) #[pgV ao n cap mu fr tt] #[]] w (RetTab w N (tWh m H)) := by
  have hN25 : N ≤ 25 := by omega
  have hmi : (m : Int) ≤ 1 := by omega
  have hsh : IntKind.u64.wrap (1 * 2 ^ m) = ((2 ^ m : Nat) : Int) := by
    rcases Nat.le_one_iff_eq_zero_or_eq_one.1 hm with rfl | rfl <;> simp [IntKind.wrap_u64]
  have hsh2 : (IntKind.u64.wrap (2 ^ m)) = ((2 ^ m : Nat) : Int) := by
    rcases Nat.le_one_iff_eq_zero_or_eq_one.1 hm with rfl | rfl <;> simp [IntKind.wrap_u64]
  have h2m : 2 ^ m < 4294967296 := by
    rcases Nat.le_one_iff_eq_zero_or_eq_one.1 hm with rfl | rfl <;> decide
  have hb1 := below2 w (.cells #[.slice ao n cap, .bool mu, .int .i64 (fr : Nat), .int .i64 (tt : Nat)] 50) (.cells #[.func (.func 52) #[pgV ao n cap mu fr tt] #[]] 67)
  have hb2 : Below w.heap.size w ((((w.alloc (.cells #[.slice ao n cap, .bool mu, .int .i64 (fr : Nat), .int .i64 (tt : Nat)] 50)).alloc (.cells #[.func (.func 52) #[pgV ao n cap mu fr tt] #[]] 67)).alloc (.cells #[.int .u64 (2 ^ m)] 39)).alloc (.cells #[.slice (some ⟨w.heap.size + 1 + 1, 0, none⟩) 1 1] 52)) := (hb1.alloc (by simp; omega) _).alloc (by simp; omega) _
  have kp : Cl ((((w.alloc (.cells #[.slice ao n cap, .bool mu, .int .i64 (fr : Nat), .int .i64 (tt : Nat)] 50)).alloc (.cells #[.func (.func 52) #[pgV ao n cap mu fr tt] #[]] 67)).alloc (.cells #[.int .u64 (2 ^ m)] 39)).alloc (.cells #[.slice (some ⟨w.heap.size + 1 + 1, 0, none⟩) 1 1] 52)) w.heap.size 50 (pgL ao n cap mu fr tt) := (((Cl.new w 50 (pgL ao n cap mu fr tt)).alloc _).alloc _).alloc _
  have kh : Cl ((((w.alloc (.cells #[.slice ao n cap, .bool mu, .int .i64 (fr : Nat), .int .i64 (tt : Nat)] 50)).alloc (.cells #[.func (.func 52) #[pgV ao n cap mu fr tt] #[]] 67)).alloc (.cells #[.int .u64 (2 ^ m)] 39)).alloc (.cells #[.slice (some ⟨w.heap.size + 1 + 1, 0, none⟩) 1 1] 52)) (w.heap.size + 1) 67 [.func (.func 52) #[pgV ao n cap mu fr tt] #[]] := by
    have := ((Cl.new (w.alloc (.cells #[.slice ao n cap, .bool mu, .int .i64 (fr : Nat), .int .i64 (tt : Nat)] 50)) 67 [.func (.func 52) #[pgV ao n cap mu fr tt] #[]]).alloc (.cells #[.int .u64 (2 ^ m)] 39)).alloc (.cells #[.slice (some ⟨w.heap.size + 1 + 1, 0, none⟩) 1 1] 52)
    simpa only [World.size_alloc] using this
  have k6 : Cl ((((w.alloc (.cells #[.slice ao n cap, .bool mu, .int .i64 (fr : Nat), .int .i64 (tt : Nat)] 50)).alloc (.cells #[.func (.func 52) #[pgV ao n cap mu fr tt] #[]] 67)).alloc (.cells #[.int .u64 (2 ^ m)] 39)).alloc (.cells #[.slice (some ⟨w.heap.size + 1 + 1, 0, none⟩) 1 1] 52)) (w.heap.size + 1 + 1) 39 [.int .u64 (2 ^ m)] := by
    have := (Cl.new ((w.alloc (.cells #[.slice ao n cap, .bool mu, .int .i64 (fr : Nat), .int .i64 (tt : Nat)] 50)).alloc (.cells #[.func (.func 52) #[pgV ao n cap mu fr tt] #[]] 67)) 39 [.int .u64 (2 ^ m)]).alloc (.cells #[.slice (some ⟨w.heap.size + 1 + 1, 0, none⟩) 1 1] 52)
    simpa only [World.size_alloc] using this
  have ko : Cl ((((w.alloc (.cells #[.slice ao n cap, .bool mu, .int .i64 (fr : Nat), .int .i64 (tt : Nat)] 50)).alloc (.cells #[.func (.func 52) #[pgV ao n cap mu fr tt] #[]] 67)).alloc (.cells #[.int .u64 (2 ^ m)] 39)).alloc (.cells #[.slice (some ⟨w.heap.size + 1 + 1, 0, none⟩) 1 1] 52)) (w.heap.size + 1 + 1 + 1) 52 [.slice (some ⟨w.heap.size + 1 + 1, 0, none⟩) 1 1] := by
    have := Cl.new (((w.alloc (.cells #[.slice ao n cap, .bool mu, .int .i64 (fr : Nat), .int .i64 (tt : Nat)] 50)).alloc (.cells #[.func (.func 52) #[pgV ao n cap mu fr tt] #[]] 67)).alloc (.cells #[.int .u64 (2 ^ m)] 39)) 52 [.slice (some ⟨w.heap.size + 1 + 1, 0, none⟩) 1 1]
    simpa only [World.size_alloc] using this
  have ho : RowV ((((w.alloc (.cells #[.slice ao n cap, .bool mu, .int .i64 (fr : Nat), .int .i64 (tt : Nat)] 50)).alloc (.cells #[.func (.func 52) #[pgV ao n cap mu fr tt] #[]] 67)).alloc (.cells #[.int .u64 (2 ^ m)] 39)).alloc (.cells #[.slice (some ⟨w.heap.size + 1 + 1, 0, none⟩) 1 1] 52)) (.slice (some ⟨w.heap.size + 1 + 1, 0, none⟩) 1 1) (2 ^ m) := ⟨h2m, .inr ⟨_, 1, _, (0, 0), rfl, k6, by rw [Int.natCast_pow]; rfl⟩⟩
  have d3 := kp.cell 0 rfl
  have d4 := kp.cell 1 rfl
  have d5 := kp.cell 2 rfl
  have d6 := kp.cell 3 rfl
  have HR : Hid (∀ W, Below w.heap.size w W → Below (w.heap.size + 4) ((((w.alloc (.cells #[.slice ao n cap, .bool mu, .int .i64 (fr : Nat), .int .i64 (tt : Nat)] 50)).alloc (.cells #[.func (.func 52) #[pgV ao n cap mu fr tt] #[]] 67)).alloc (.cells #[.int .u64 (2 ^ m)] 39)).alloc (.cells #[.slice (some ⟨w.heap.size + 1 + 1, 0, none⟩) 1 1] 52)) W → Calls Tryd.prog 43 #[.int .i64 (N : Nat), .func (.func 61) #[] #[.pointer (some ⟨w.heap.size + 1, 0, none⟩), .pointer (some ⟨w.heap.size, 0, none⟩), .pointer (some ⟨w.heap.size + 1 + 1 + 1, 0, none⟩)]] W (RetTb W N (wrd N (tWh m H)))) := fun W hW hW2 => by
    have hs4 : ((((w.alloc (.cells #[.slice ao n cap, .bool mu, .int .i64 (fr : Nat), .int .i64 (tt : Nat)] 50)).alloc (.cells #[.func (.func 52) #[pgV ao n cap mu fr tt] #[]] 67)).alloc (.cells #[.int .u64 (2 ^ m)] 39)).alloc (.cells #[.slice (some ⟨w.heap.size + 1 + 1, 0, none⟩) 1 1] 52)).heap.size = w.heap.size + 4 := by simp
    rw [← hs4] at hW2
    exact rbr90 (.pointer (some ⟨w.heap.size + 1, 0, none⟩)) (.pointer (some ⟨w.heap.size, 0, none⟩)) (.pointer (some ⟨w.heap.size + 1 + 1 + 1, 0, none⟩)) W N (wrd N (tWh m H)) hN25 (fun k t' W' hk hW' _ _ => wheref83 N k (w.heap.size + 1) w.heap.size (w.heap.size + 1 + 1 + 1) m ao n cap mu fr tt  H (some ⟨w.heap.size + 1 + 1, 0, none⟩) 1 1 (.slice (some ⟨t', 0, none⟩) N N) W' hN25 hk (by omega) ((kh.below hW2).below hW') ((kp.below hW2).below hW') ((ko.below hW2).below hW') ((ho.below hW2).below hW') (hH k hk) (HK k W' hk (hW.trans (hW'.mono hW.size))))
  have HP : Hid (∀ W, Calls Tryd.prog 26 #[pgV ao n cap mu fr tt] W fun e w' => e = .returned (.int .i64 (N : Nat)) ∧ Below W.heap.size W w') := fun W => by
    rw [hN]; exact places_any ao n cap mu fr tt W hft ht
  have hmf := mk_func
  clear kh ko k6 kp ho HK hH hN
  go_enter Tryd.func50, Tryd.ntmps50
  go_upto_region 2 with fail
  have hsV : ((((w.alloc (.cells #[.slice ao n cap, .bool mu, .int .i64 (fr : Nat), .int .i64 (tt : Nat)] 50)).alloc (.cells #[.func (.func 52) #[pgV ao n cap mu fr tt] #[]] 67)).alloc (.cells #[.int .u64 (2 ^ m)] 39)).alloc (.cells #[.slice (some ⟨w.heap.size + 1 + 1, 0, none⟩) 1 1] 52)).heap.size = w.heap.size + 4 := by simp
  generalize (((w.alloc (.cells #[.slice ao n cap, .bool mu, .int .i64 (fr : Nat), .int .i64 (tt : Nat)] 50)).alloc (.cells #[.func (.func 52) #[pgV ao n cap mu fr tt] #[]] 67)).alloc (.cells #[.int .u64 (2 ^ m)] 39)).alloc (.cells #[.slice (some ⟨w.heap.size + 1 + 1, 0, none⟩) 1 1] 52) = V at *
  clear hsh hsh2
  go_wp2_with fail
  refine (HP.out V).mono ?_
  rintro e w2 ⟨rfl, hbp⟩
  have hbp4 : Below (w.heap.size + 4) V w2 := by rw [← hsV]; exact hbp
  have hb4 := hb2.trans (hbp.mono (by omega))
  have HR2 := HR.out w2 hb4 hbp4
  clear HR HP d3 d4 d5 d6 hbp hbp4
  go_wp2_with fail
  refine HR2.mono ?_
  rintro e w3 ⟨t2, rfl, hr2, hb3, _⟩
  go_wp2_with fail
  go_ret
  exact ⟨t2, rfl, hr2, hb4.trans (hb3.mono hb4.size)⟩
set_option maxRecDepth 10000 in
set_option maxHeartbeats 2000000 in
theorem wheref84 (N k hb pb ob m : Nat) (ao : Option Addr) (n cap : Nat) (mu : Bool) (fr tt : Nat) (bp bn : Nat) (H : Nat → Bool) (oo : Option Addr) (ol oc : Nat) (v : Value) (W : World) (hN : N ≤ 25) (hk : k < N) (hfr : fr ≤ 24) (kh : Cl W hb 67 [.func (.func 53) #[] #[.pointer (some ⟨bp, 0, none⟩), .pointer (some ⟨bn, 0, none⟩)]]) (kp : Cl W pb 50 (pgL ao n cap mu fr tt)) (ko : Cl W ob 52 [.slice oo ol oc]) (ho : RowV W (.slice oo ol oc) (2 ^ m)) (hH : H k = true → k + m < N)
    (HK : Calls Tryd.prog 53 #[.int .i64 ((fr + k : Nat) : Int), .pointer (some ⟨bp, 0, none⟩), .pointer (some ⟨bn, 0, none⟩)] W fun e w' => e = .returned (.bool (H k)) ∧ Below W.heap.size W w') :
    Calls Tryd.prog 61 #[v, .int .i64 (k : Nat), .pointer (some ⟨hb, 0, none⟩), .pointer (some ⟨pb, 0, none⟩), .pointer (some ⟨ob, 0, none⟩)] W fun e w' => ∃ r, e = .returned r ∧ RowV w' r (wrd N (tWh m H) k) ∧ Below W.heap.size W w' := by
  have d0 := kh.cell 0 rfl
  have d1 := kp.cell 2 rfl
  have hw0 := wh_word hN m H k hH
  have hk1 : (k : Int) ≤ 25 := by omega
  have hk2 : (fr : Int) ≤ 25 := by omega
  have e1 : ((fr + k : Nat) : Int) = (fr : Int) + (k : Int) := by omega
  rw [e1] at HK
  clear e1
  cases hz : H k with
  | true =>
    rw [hz] at HK
    rw [hz, if_pos rfl] at hw0
    have hw : Hid (2 ^ m = wrd N (tWh m H) k) := hw0
    clear hH hw0
    go_enter Tryd.func61, Tryd.ntmps61
    go_wp2_with (go_at_call 53; refine HK.mono ?_; rintro e w2 ⟨rfl, hb2⟩; have d2 := (ko.below hb2).cell 0 rfl)
    go_ret
    exact ⟨.slice oo ol oc, rfl, by rw [← hw.out]; exact ho.below hb2, hb2⟩
  | false =>
    rw [hz] at HK
    rw [hz, if_neg (by decide)] at hw0
    have hw : Hid (0 = wrd N (tWh m H) k) := hw0
    clear hH hw0
    go_enter Tryd.func61, Tryd.ntmps61
    go_wp2_with (go_at_call 53; refine HK.mono ?_; rintro e w2 ⟨rfl, hb2⟩)
    go_ret
    exact ⟨.slice none 0 0, rfl, by rw [← hw.out]; exact RowV.nil _ _ _, hb2⟩
set_option maxRecDepth 10000 in
set_option maxHeartbeats 2000000 in
theorem where84 (N m : Nat) (ao : Option Addr) (n cap : Nat) (mu : Bool) (fr tt : Nat) (bp bn : Nat) (H : Nat → Bool) (w : World) (hN : N = tt - fr + 1) (hft : fr ≤ tt) (ht : tt ≤ 24) (hm : m ≤ 1) (hH : ∀ k, k < N → H k = true → k + m < N)
    (HK : ∀ k W, k < N → Below w.heap.size w W → Calls Tryd.prog 53 #[.int .i64 ((fr + k : Nat) : Int), .pointer (some ⟨bp, 0, none⟩), .pointer (some ⟨bn, 0, none⟩)] W fun e w' => e = .returned (.bool (H k)) ∧ Below W.heap.size W w') :
    Calls Tryd.prog 50 #[pgV ao n cap mu fr tt, .int .i64 (m : Nat), .func (.func 53) #[] #[.pointer (some ⟨bp, 0, none⟩), .pointer (some ⟨bn, 0, none⟩)]] w (RetTab w N (tWh m H)) := by
  have hN25 : N ≤ 25 := by omega
  have hmi : (m : Int) ≤ 1 := by omega
  have hsh : IntKind.u64.wrap (1 * 2 ^ m) = ((2 ^ m : Nat) : Int) := by
    rcases Nat.le_one_iff_eq_zero_or_eq_one.1 hm with rfl | rfl <;> simp [IntKind.wrap_u64]
  have hsh2 : (IntKind.u64.wrap (2 ^ m)) = ((2 ^ m : Nat) : Int) := by
    rcases Nat.le_one_iff_eq_zero_or_eq_one.1 hm with rfl | rfl <;> simp [IntKind.wrap_u64]
  have h2m : 2 ^ m < 4294967296 := by
    rcases Nat.le_one_iff_eq_zero_or_eq_one.1 hm with rfl | rfl <;> decide
  have hb1 := below2 w (.cells #[.slice ao n cap, .bool mu, .int .i64 (fr : Nat), .int .i64 (tt : Nat)] 50) (.cells #[.func (.func 53) #[] #[.pointer (some ⟨bp, 0, none⟩), .pointer (some ⟨bn, 0, none⟩)]] 67)
  have hb2 : Below w.heap.size w ((((w.alloc (.cells #[.slice ao n cap, .bool mu, .int .i64 (fr : Nat), .int .i64 (tt : Nat)] 50)).alloc (.cells #[.func (.func 53) #[] #[.pointer (some ⟨bp, 0, none⟩), .pointer (some ⟨bn, 0, none⟩)]] 67)).alloc (.cells #[.int .u64 (2 ^ m)] 39)).alloc (.cells #[.slice (some ⟨w.heap.size + 1 + 1, 0, none⟩) 1 1] 52)) := (hb1.alloc (by simp; omega) _).alloc (by simp; omega) _
  have kp : Cl ((((w.alloc (.cells #[.slice ao n cap, .bool mu, .int .i64 (fr : Nat), .int .i64 (tt : Nat)] 50)).alloc (.cells #[.func (.func 53) #[] #[.pointer (some ⟨bp, 0, none⟩), .pointer (some ⟨bn, 0, none⟩)]] 67)).alloc (.cells #[.int .u64 (2 ^ m)] 39)).alloc (.cells #[.slice (some ⟨w.heap.size + 1 + 1, 0, none⟩) 1 1] 52)) w.heap.size 50 (pgL ao n cap mu fr tt) := (((Cl.new w 50 (pgL ao n cap mu fr tt)).alloc _).alloc _).alloc _
  have kh : Cl ((((w.alloc (.cells #[.slice ao n cap, .bool mu, .int .i64 (fr : Nat), .int .i64 (tt : Nat)] 50)).alloc (.cells #[.func (.func 53) #[] #[.pointer (some ⟨bp, 0, none⟩), .pointer (some ⟨bn, 0, none⟩)]] 67)).alloc (.cells #[.int .u64 (2 ^ m)] 39)).alloc (.cells #[.slice (some ⟨w.heap.size + 1 + 1, 0, none⟩) 1 1] 52)) (w.heap.size + 1) 67 [.func (.func 53) #[] #[.pointer (some ⟨bp, 0, none⟩), .pointer (some ⟨bn, 0, none⟩)]] := by
    have := ((Cl.new (w.alloc (.cells #[.slice ao n cap, .bool mu, .int .i64 (fr : Nat), .int .i64 (tt : Nat)] 50)) 67 [.func (.func 53) #[] #[.pointer (some ⟨bp, 0, none⟩), .pointer (some ⟨bn, 0, none⟩)]]).alloc (.cells #[.int .u64 (2 ^ m)] 39)).alloc (.cells #[.slice (some ⟨w.heap.size + 1 + 1, 0, none⟩) 1 1] 52)
    simpa only [World.size_alloc] using this
  have k6 : Cl ((((w.alloc (.cells #[.slice ao n cap, .bool mu, .int .i64 (fr : Nat), .int .i64 (tt : Nat)] 50)).alloc (.cells #[.func (.func 53) #[] #[.pointer (some ⟨bp, 0, none⟩), .pointer (some ⟨bn, 0, none⟩)]] 67)).alloc (.cells #[.int .u64 (2 ^ m)] 39)).alloc (.cells #[.slice (some ⟨w.heap.size + 1 + 1, 0, none⟩) 1 1] 52)) (w.heap.size + 1 + 1) 39 [.int .u64 (2 ^ m)] := by
    have := (Cl.new ((w.alloc (.cells #[.slice ao n cap, .bool mu, .int .i64 (fr : Nat), .int .i64 (tt : Nat)] 50)).alloc (.cells #[.func (.func 53) #[] #[.pointer (some ⟨bp, 0, none⟩), .pointer (some ⟨bn, 0, none⟩)]] 67)) 39 [.int .u64 (2 ^ m)]).alloc (.cells #[.slice (some ⟨w.heap.size + 1 + 1, 0, none⟩) 1 1] 52)
    simpa only [World.size_alloc] using this
  have ko : Cl ((((w.alloc (.cells #[.slice ao n cap, .bool mu, .int .i64 (fr : Nat), .int .i64 (tt : Nat)] 50)).alloc (.cells #[.func (.func 53) #[] #[.pointer (some ⟨bp, 0, none⟩), .pointer (some ⟨bn, 0, none⟩)]] 67)).alloc (.cells #[.int .u64 (2 ^ m)] 39)).alloc (.cells #[.slice (some ⟨w.heap.size + 1 + 1, 0, none⟩) 1 1] 52)) (w.heap.size + 1 + 1 + 1) 52 [.slice (some ⟨w.heap.size + 1 + 1, 0, none⟩) 1 1] := by
    have := Cl.new (((w.alloc (.cells #[.slice ao n cap, .bool mu, .int .i64 (fr : Nat), .int .i64 (tt : Nat)] 50)).alloc (.cells #[.func (.func 53) #[] #[.pointer (some ⟨bp, 0, none⟩), .pointer (some ⟨bn, 0, none⟩)]] 67)).alloc (.cells #[.int .u64 (2 ^ m)] 39)) 52 [.slice (some ⟨w.heap.size + 1 + 1, 0, none⟩) 1 1]
    simpa only [World.size_alloc] using this
  have ho : RowV ((((w.alloc (.cells #[.slice ao n cap, .bool mu, .int .i64 (fr : Nat), .int .i64 (tt : Nat)] 50)).alloc (.cells #[.func (.func 53) #[] #[.pointer (some ⟨bp, 0, none⟩), .pointer (some ⟨bn, 0, none⟩)]] 67)).alloc (.cells #[.int .u64 (2 ^ m)] 39)).alloc (.cells #[.slice (some ⟨w.heap.size + 1 + 1, 0, none⟩) 1 1] 52)) (.slice (some ⟨w.heap.size + 1 + 1, 0, none⟩) 1 1) (2 ^ m) := ⟨h2m, .inr ⟨_, 1, _, (0, 0), rfl, k6, by rw [Int.natCast_pow]; rfl⟩⟩
  have d3 := kp.cell 0 rfl
  have d4 := kp.cell 1 rfl
  have d5 := kp.cell 2 rfl
  have d6 := kp.cell 3 rfl
  have HR : Hid (∀ W, Below w.heap.size w W → Below (w.heap.size + 4) ((((w.alloc (.cells #[.slice ao n cap, .bool mu, .int .i64 (fr : Nat), .int .i64 (tt : Nat)] 50)).alloc (.cells #[.func (.func 53) #[] #[.pointer (some ⟨bp, 0, none⟩), .pointer (some ⟨bn, 0, none⟩)]] 67)).alloc (.cells #[.int .u64 (2 ^ m)] 39)).alloc (.cells #[.slice (some ⟨w.heap.size + 1 + 1, 0, none⟩) 1 1] 52)) W → Calls Tryd.prog 43 #[.int .i64 (N : Nat), .func (.func 61) #[] #[.pointer (some ⟨w.heap.size + 1, 0, none⟩), .pointer (some ⟨w.heap.size, 0, none⟩), .pointer (some ⟨w.heap.size + 1 + 1 + 1, 0, none⟩)]] W (RetTb W N (wrd N (tWh m H)))) := fun W hW hW2 => by
    have hs4 : ((((w.alloc (.cells #[.slice ao n cap, .bool mu, .int .i64 (fr : Nat), .int .i64 (tt : Nat)] 50)).alloc (.cells #[.func (.func 53) #[] #[.pointer (some ⟨bp, 0, none⟩), .pointer (some ⟨bn, 0, none⟩)]] 67)).alloc (.cells #[.int .u64 (2 ^ m)] 39)).alloc (.cells #[.slice (some ⟨w.heap.size + 1 + 1, 0, none⟩) 1 1] 52)).heap.size = w.heap.size + 4 := by simp
    rw [← hs4] at hW2
    exact rbr90 (.pointer (some ⟨w.heap.size + 1, 0, none⟩)) (.pointer (some ⟨w.heap.size, 0, none⟩)) (.pointer (some ⟨w.heap.size + 1 + 1 + 1, 0, none⟩)) W N (wrd N (tWh m H)) hN25 (fun k t' W' hk hW' _ _ => wheref84 N k (w.heap.size + 1) w.heap.size (w.heap.size + 1 + 1 + 1) m ao n cap mu fr tt bp bn H (some ⟨w.heap.size + 1 + 1, 0, none⟩) 1 1 (.slice (some ⟨t', 0, none⟩) N N) W' hN25 hk (by omega) ((kh.below hW2).below hW') ((kp.below hW2).below hW') ((ko.below hW2).below hW') ((ho.below hW2).below hW') (hH k hk) (HK k W' hk (hW.trans (hW'.mono hW.size))))
  have HP : Hid (∀ W, Calls Tryd.prog 26 #[pgV ao n cap mu fr tt] W fun e w' => e = .returned (.int .i64 (N : Nat)) ∧ Below W.heap.size W w') := fun W => by
    rw [hN]; exact places_any ao n cap mu fr tt W hft ht
  have hmf := mk_func
  clear kh ko k6 kp ho HK hH hN
  go_enter Tryd.func50, Tryd.ntmps50
  go_upto_region 2 with fail
  have hsV : ((((w.alloc (.cells #[.slice ao n cap, .bool mu, .int .i64 (fr : Nat), .int .i64 (tt : Nat)] 50)).alloc (.cells #[.func (.func 53) #[] #[.pointer (some ⟨bp, 0, none⟩), .pointer (some ⟨bn, 0, none⟩)]] 67)).alloc (.cells #[.int .u64 (2 ^ m)] 39)).alloc (.cells #[.slice (some ⟨w.heap.size + 1 + 1, 0, none⟩) 1 1] 52)).heap.size = w.heap.size + 4 := by simp
  generalize (((w.alloc (.cells #[.slice ao n cap, .bool mu, .int .i64 (fr : Nat), .int .i64 (tt : Nat)] 50)).alloc (.cells #[.func (.func 53) #[] #[.pointer (some ⟨bp, 0, none⟩), .pointer (some ⟨bn, 0, none⟩)]] 67)).alloc (.cells #[.int .u64 (2 ^ m)] 39)).alloc (.cells #[.slice (some ⟨w.heap.size + 1 + 1, 0, none⟩) 1 1] 52) = V at *
  clear hsh hsh2
  go_wp2_with fail
  refine (HP.out V).mono ?_
  rintro e w2 ⟨rfl, hbp⟩
  have hbp4 : Below (w.heap.size + 4) V w2 := by rw [← hsV]; exact hbp
  have hb4 := hb2.trans (hbp.mono (by omega))
  have HR2 := HR.out w2 hb4 hbp4
  clear HR HP d3 d4 d5 d6 hbp hbp4
  go_wp2_with fail
  refine HR2.mono ?_
  rintro e w3 ⟨t2, rfl, hr2, hb3, _⟩
  go_wp2_with fail
  go_ret
  exact ⟨t2, rfl, hr2, hb4.trans (hb3.mono hb4.size)⟩
end Go.Proofs.YtiiecppkabdkgabDoor
namespace Go.Proofs.YtiiecppkabdkgabDoor
open Go.RowKit
theorem wrd_fun {N : Nat} (hN : N ≤ 25) {T T' : Tab} (h : EqN N T T') : wrd N T = wrd N T' := funext fun i => wrd_congr hN h i
theorem RetTab.congr {w : World} {N : Nat} (hN : N ≤ 25) {T T' : Tab} (h : EqN N T T') {e : Ending} {w' : World} (hr : RetTab w N T e w') : RetTab w N T' e w' := by
  unfold RetTab at *
  rw [← wrd_fun hN h]; exact hr
theorem RetTab.from {w w1 : World} {N : Nat} {T : Tab} {e : Ending} {w' : World} (hr : RetTab w1 N T e w') (hb : Below w.heap.size w w1) : RetTab w N T e w' := by
  obtain ⟨tb, e1, h1, h2⟩ := hr
  exact ⟨tb, e1, h1, hb.trans (h2.mono hb.size)⟩
set_option maxRecDepth 10000 in
set_option maxHeartbeats 2000000 in
theorem leaf_any (ao : Option Addr) (n cap : Nat) (mu : Bool) (fr tt : Nat) (f : Nat → Nat) (q : Nd) (N : Nat) (w : World) (hr : RdB w ao n f) (hn : n ≤ 24) (htn : tt ≤ n) (hft : fr ≤ tt) (hN : N = tt - fr + 1) (hq : wfN q) :
    Calls Tryd.prog 40 #[pgV ao n cap mu fr tt, ndV q] w (RetTab w N (tSh fr (mLeaf f n mu q))) := by
  have hN25 : N ≤ 25 := by omega
  have hb1 := below2 w (.cells #[.slice ao n cap, .bool mu, .int .i64 (fr : Nat), .int .i64 (tt : Nat)] 50) (.cells (ndL q).toArray 43)
  have kp : Cl ((w.alloc (.cells #[.slice ao n cap, .bool mu, .int .i64 (fr : Nat), .int .i64 (tt : Nat)] 50)).alloc (.cells (ndL q).toArray 43)) w.heap.size 50 (pgL ao n cap mu fr tt) := (Cl.new w 50 (pgL ao n cap mu fr tt)).alloc _
  have kn : Cl ((w.alloc (.cells #[.slice ao n cap, .bool mu, .int .i64 (fr : Nat), .int .i64 (tt : Nat)] 50)).alloc (.cells (ndL q).toArray 43)) (w.heap.size + 1) 43 (ndL q) := by
    have := Cl.new (w.alloc (.cells #[.slice ao n cap, .bool mu, .int .i64 (fr : Nat), .int .i64 (tt : Nat)] 50)) 43 (ndL q)
    simpa only [World.size_alloc] using this
  have hr1 := hr.below hb1
  have HH : Hid (q.k = 6 → Calls Tryd.prog 50 #[pgV ao n cap mu fr tt, .int .i64 ((0 : Nat) : Int), .func (.func 51) #[pgV ao n cap mu fr tt] #[]] ((w.alloc (.cells #[.slice ao n cap, .bool mu, .int .i64 (fr : Nat), .int .i64 (tt : Nat)] 50)).alloc (.cells (ndL q).toArray 43)) (RetTab w N (tSh fr (mLeaf f n mu q)))) := fun h6 =>
    (where82 N 0 ao n cap mu fr tt (fun k => hatB f mu (fr + k)) _ hN hft (by omega) (by omega) (fun k hk _ => by omega) (fun k W hk hW => begins_any ao n cap mu fr tt f (fr + k) W (hr1.below hW) hn (by omega))).mono fun e w' h => RetTab.from (RetTab.congr hN25 (fun i d _ => by show (d == 0 && hatB f mu (fr + i)) = mLeaf f n mu q (fr + i) d; rw [mLeaf_hat h6]) h) hb1
  have HD : Hid (q.k = 7 → Calls Tryd.prog 50 #[pgV ao n cap mu fr tt, .int .i64 ((0 : Nat) : Int), .func (.func 52) #[pgV ao n cap mu fr tt] #[]] ((w.alloc (.cells #[.slice ao n cap, .bool mu, .int .i64 (fr : Nat), .int .i64 (tt : Nat)] 50)).alloc (.cells (ndL q).toArray 43)) (RetTab w N (tSh fr (mLeaf f n mu q)))) := fun h7 =>
    (where83 N 0 ao n cap mu fr tt (fun k => dolB f n mu (fr + k)) _ hN hft (by omega) (by omega) (fun k hk _ => by omega) (fun k W hk hW => ends_any ao n cap mu fr tt f (fr + k) W (hr1.below hW) hn (by omega))).mono fun e w' h => RetTab.from (RetTab.congr hN25 (fun i d _ => by show (d == 0 && dolB f n mu (fr + i)) = mLeaf f n mu q (fr + i) d; rw [mLeaf_dol h7]) h) hb1
  have HC : Hid (q.k = 2 → Calls Tryd.prog 50 #[pgV ao n cap mu fr tt, .int .i64 ((1 : Nat) : Int), .func (.func 53) #[] #[.pointer (some ⟨w.heap.size, 0, none⟩), .pointer (some ⟨w.heap.size + 1, 0, none⟩)]] ((w.alloc (.cells #[.slice ao n cap, .bool mu, .int .i64 (fr : Nat), .int .i64 (tt : Nat)] 50)).alloc (.cells (ndL q).toArray 43)) (RetTab w N (tSh fr (mLeaf f n mu q)))) := fun h2 =>
    (where84 N 1 ao n cap mu fr tt w.heap.size (w.heap.size + 1) (fun k => decide (fr + k < tt) && clsP q (f (fr + k))) _ hN hft (by omega) (by omega) (fun k hk h => by simp at h; omega) (fun k W hk hW => leaff_any ao n cap mu fr tt f q (fr + k) w.heap.size (w.heap.size + 1) W (hr1.below hW) hn htn hq (kp.below hW) (kn.below hW))).mono fun e w' h => RetTab.from (RetTab.congr hN25 (fun i d hd => by
      show (d == 1 && (decide (fr + i < tt) && clsP q (f (fr + i)))) = mLeaf f n mu q (fr + i) d
      rw [mLeaf_cls h2]
      by_cases hd1 : d = 1
      · subst hd1; simp [show fr + i < tt by omega, show fr + i < n by omega]
      · rw [nb hd1]; rfl) h) hb1
  have HP : Hid (∀ W, Calls Tryd.prog 26 #[pgV ao n cap mu fr tt] W fun e w' => e = .returned (.int .i64 (N : Nat)) ∧ Below W.heap.size W w') := fun W => by
    rw [hN]; exact places_any ao n cap mu fr tt W hft (by omega)
  have HE : Hid (q.k ≠ 2 → q.k ≠ 6 → q.k ≠ 7 → ∀ W, Below w.heap.size w W → Calls Tryd.prog 49 #[.int .i64 (N : Nat)] W (RetTab w N (tSh fr (mLeaf f n mu q)))) := fun h2 h6 h7 W hW =>
    (stay_any N W hN25).mono fun e w' h => RetTab.from (RetTab.congr hN25 (fun i d _ => by show (d == 0) = mLeaf f n mu q (fr + i) d; rw [mLeaf_emp h2 h6 h7]) h) hW
  have hmf := mk_func
  have d0 := kn.cell 0 rfl
  have p0 := kp.cell 0 rfl
  have p1 := kp.cell 1 rfl
  have p2 := kp.cell 2 rfl
  have p3 := kp.cell 3 rfl
  clear hr hr1 kp kn hN
  unfold ndL at *
  unfold ndV
  generalize tSh fr (mLeaf f n mu q) = TT at *
  by_cases h6 : q.k = 6
  · have HH' := HH.out h6
    have e6 : (q.k == 6) = true := by simpa using h6
    clear HH HD HC HE HP h6
    go_enter Tryd.func40, Tryd.ntmps40
    go_wp2_with fail
    refine HH'.mono ?_
    rintro e w2 ⟨t2, rfl, hr2, hb2⟩
    go_wp2_with fail
    go_ret
    exact ⟨t2, rfl, hr2, hb2⟩
  · have e6 : (q.k == 6) = false := by simpa using h6
    by_cases h7 : q.k = 7
    · have HH' := HD.out h7
      have e7 : (q.k == 7) = true := by simpa using h7
      clear HH HD HC HE HP h6 h7
      go_enter Tryd.func40, Tryd.ntmps40
      go_wp2_with fail
      refine HH'.mono ?_
      rintro e w2 ⟨t2, rfl, hr2, hb2⟩
      go_wp2_with fail
      go_ret
      exact ⟨t2, rfl, hr2, hb2⟩
    · have e7 : (q.k == 7) = false := by simpa using h7
      by_cases h2 : q.k = 2
      · have HH' := HC.out h2
        have e2 : (q.k == 2) = true := by simpa using h2
        clear HH HD HC HE HP h6 h7 h2
        go_enter Tryd.func40, Tryd.ntmps40
        go_wp2_with fail
        refine HH'.mono ?_
        rintro e w2 ⟨t2, rfl, hr2, hb2⟩
        go_wp2_with fail
        go_ret
        exact ⟨t2, rfl, hr2, hb2⟩
      · have e2 : (q.k == 2) = false := by simpa using h2
        have HE' := HE.out h2 h6 h7
        clear HH HD HC HE h6 h7 h2
        go_enter Tryd.func40, Tryd.ntmps40
        go_wp2_with fail
        refine (HP.out _).mono ?_
        rintro e w2 ⟨rfl, hb2⟩
        have HE2 := HE' w2 (hb1.trans (hb2.mono (by simp; omega)))
        clear HE' HP
        go_wp2_with fail
        refine HE2.mono ?_
        rintro e w3 ⟨t2, rfl, hr2, hb3⟩
        go_wp2_with fail
        go_ret
        exact ⟨t2, rfl, hr2, hb3⟩
theorem pow_half (a : Tab) (q : Nat) : tPow (tCat a a) q = tPow a (2 * q) := by
  have : tCat a a = tPow a 2 := by rw [tPow, pow_one]
  rw [this, pow_mul]
structure PwI (w : World) (N : Nat) (R : Tab) (ta tb m : Nat) (W : World) : Prop where
  ex : ∃ a b : Tab, Rows W ta N 0 (wrd N a) ∧ Rows W tb N 0 (wrd N b) ∧ tCat b (tPow a m) = R
  bel : Below w.heap.size w W
  tz : TabZ W
def fr78 (N ta tb : Nat) (k : Int) (u : Nat → Value) : Array Value := #[.slice (some ⟨ta, 0, none⟩) N N, .int .i64 k, u 2, u 3, u 4, .slice (some ⟨tb, 0, none⟩) N N, u 6, u 7, u 8, u 9, u 10, u 11, u 12, u 13, u 14, u 15, u 16, u 17, u 18, u 19, u 20, u 21, u 22]
def Fr78 (N ta tb : Nat) (k : Int) (tm : Array Value) : Prop := ∃ u, tm = fr78 N ta tb k u
theorem Fr78.of {N ta tb : Nat} {k : Int} (tm : Array Value) (h : tm = fr78 N ta tb k (nth tm.toList)) : Fr78 N ta tb k tm := ⟨_, h⟩
def PwJ (w : World) (N : Nat) (R : Tab) (l m : Nat) (a : Act) (W : World) : Prop := l = 0 ∧ ∃ tm ta tb, Fr78 N ta tb (m : Int) tm ∧ a = ⟨tm, []⟩ ∧ PwI w N R ta tb m W
theorem pw_label : findLabel (scopeIn Tryd.f47) 0 = some (Code.skip.seq (labelIn Tryd.f47 0)) := by kernel_rfl
set_option maxRecDepth 20000 in
set_option maxHeartbeats 2000000 in
theorem pw_pass (w : World) (N : Nat) (R : Tab) (hN : N ≤ 25) (ta tb m : Nat) (hm : m ≤ 9223372036854775807) (u : Nat → Value) (W : World) (hI : PwI w N R ta tb m W) :
    Code.wp Tryd.prog (labelIn Tryd.f47 0) (jumps (fun l' a' w' => ∃ m', m' < m ∧ PwJ w N R l' m' a' w') (bodyPost Tryd.prog Tryd.f47 (RetTab w N R))) ⟨fr78 N ta tb (m : Int) u, []⟩ W := by
  obtain ⟨⟨a, b, hA, hB, hR⟩, hbel, hT⟩ := hI
  have hm9 : (m : Int) ≤ 9223372036854775807 := by omega
  by_cases ho : m % 2 = 1
  · have ho' : ((m : Int) % 2 == 1) = true := by rw [beq_iff_eq]; omega
    have HC := cat_any N tb ta b a W hN hB hA hT
    by_cases h0 : m / 2 = 0
    · have hz : ((m : Int) / 2 == 0) = true := by rw [beq_iff_eq]; omega
      have h1 : m = 1 := by omega
      have HR : Hid (∀ t2 w2, Rows w2 t2 N 0 (wrd N (tCat b a)) → Below W.heap.size W w2 → RetTab w N R (.returned (.slice (some ⟨t2, 0, none⟩) N N)) w2) := fun t2 w2 h2 h3 => ⟨t2, rfl, by rw [← hR, h1, pow_one]; exact h2, hbel.trans (h3.mono hbel.size)⟩
      clear hA hB hR hbel hT h1 h0 ho
      unfold fr78
      conv => arg 2; whnf
      go_wp2_with fail
      refine HC.mono ?_
      rintro e w2 ⟨t2, rfl, hr2, hb2⟩
      go_wp2_with fail
      refine (show bodyPost Tryd.prog Tryd.f47 (RetTab w N R) Exit.ret _ _ from ?_)
      go_ret
      exact HR.out t2 w2 hr2 hb2
    · have hz : ((m : Int) / 2 == 0) = false := by rw [beq_eq_false_iff_ne]; omega
      have HC2 : Hid (∀ W2, Below W.heap.size W W2 → Calls Tryd.prog 37 #[.slice (some ⟨ta, 0, none⟩) N N, .slice (some ⟨ta, 0, none⟩) N N] W2 (RetTab W2 N (tCat a a))) := fun W2 h2 => cat_any N ta ta a a W2 hN (hA.below h2) (hA.below h2) (hT.below h2)
      have HR : Hid (∀ t2 w2 t3 w3 tm, Rows w2 t2 N 0 (wrd N (tCat b a)) → Below W.heap.size W w2 → Rows w3 t3 N 0 (wrd N (tCat a a)) → Below w2.heap.size w2 w3 → Fr78 N t3 t2 ((m : Int) / 2) tm → ∃ m', m' < m ∧ PwJ w N R 0 m' ⟨tm, []⟩ w3) := fun t2 w2 t3 w3 tm h2 h3 h4 h5 h6 => ⟨m / 2, by omega, rfl, tm, t3, t2, by rw [show ((m / 2 : Nat) : Int) = (m : Int) / 2 by omega]; exact h6, rfl, ⟨_, _, h4, h2.below h5, by
        rw [← hR, pow_half, ← cat_assoc]
        congr 1
        rw [show m = 2 * (m / 2) + 1 by omega, tPow]
        congr 2; omega⟩, (hbel.trans (h3.mono hbel.size)).trans (h5.mono (Nat.le_trans hbel.size h3.size)), (hT.below h3).below h5⟩
      clear hA hB hR hbel hT ho h0
      unfold fr78
      conv => arg 2; whnf
      go_wp2_with fail
      refine HC.mono ?_
      rintro e w2 ⟨t2, rfl, hr2, hb2⟩
      have HC3 := HC2.out w2 hb2
      clear HC2
      go_wp2_with fail
      refine HC3.mono ?_
      rintro e w3 ⟨t3, rfl, hr3, hb3⟩
      go_wp2_with fail
      first | (go_step3; exact HR.out t2 w2 t3 w3 _ hr2 hb2 hr3 hb3 (Fr78.of _ rfl)) | exact HR.out t2 w2 t3 w3 _ hr2 hb2 hr3 hb3 (Fr78.of _ rfl)
  · have ho' : ((m : Int) % 2 == 1) = false := by rw [beq_eq_false_iff_ne]; omega
    by_cases h0 : m / 2 = 0
    · have hz : ((m : Int) / 2 == 0) = true := by rw [beq_iff_eq]; omega
      have h1 : m = 0 := by omega
      have HR : Hid (RetTab w N R (.returned (.slice (some ⟨tb, 0, none⟩) N N)) W) := ⟨tb, rfl, by rw [← hR, h1, tPow, stay_cat]; exact hB, hbel⟩
      clear hA hB hR hbel hT h1 h0 ho
      unfold fr78
      conv => arg 2; whnf
      go_wp2_with fail
      refine (show bodyPost Tryd.prog Tryd.f47 (RetTab w N R) Exit.ret _ _ from ?_)
      go_ret
      exact HR.out
    · have hz : ((m : Int) / 2 == 0) = false := by rw [beq_eq_false_iff_ne]; omega
      have HC2 := cat_any N ta ta a a W hN hA hA hT
      have HR : Hid (∀ t3 w3 tm, Rows w3 t3 N 0 (wrd N (tCat a a)) → Below W.heap.size W w3 → Fr78 N t3 tb ((m : Int) / 2) tm → ∃ m', m' < m ∧ PwJ w N R 0 m' ⟨tm, []⟩ w3) := fun t3 w3 tm h4 h5 h6 => ⟨m / 2, by omega, rfl, tm, t3, tb, by rw [show ((m / 2 : Nat) : Int) = (m : Int) / 2 by omega]; exact h6, rfl, ⟨_, _, h4, hB.below h5, by
        rw [← hR, pow_half]
        congr 2; omega⟩, hbel.trans (h5.mono hbel.size), hT.below h5⟩
      clear hA hB hR hbel hT ho h0
      unfold fr78
      conv => arg 2; whnf
      go_wp2_with fail
      refine HC2.mono ?_
      rintro e w3 ⟨t3, rfl, hr3, hb3⟩
      go_wp2_with fail
      first | (go_step3; exact HR.out t3 w3 _ hr3 hb3 (Fr78.of _ rfl)) | exact HR.out t3 w3 _ hr3 hb3 (Fr78.of _ rfl)
set_option maxRecDepth 20000 in
set_option maxHeartbeats 2000000 in
theorem power_any (N ta m : Nat) (a : Tab) (w : World) (hN : N ≤ 25) (hm : m ≤ 9223372036854775807) (hA : Rows w ta N 0 (wrd N a)) (hT : TabZ w) :
    Calls Tryd.prog 47 #[.slice (some ⟨ta, 0, none⟩) N N, .int .i64 (m : Nat)] w (RetTab w N (tPow a m)) := by
  have HS := stay_any N w hN
  have HL : Hid (∀ l k a' W, k ≤ m → PwJ w N (tPow a m) l k a' W → ∃ rest, findLabel (scopeIn Tryd.f47) l = some rest ∧ rest.wp Tryd.prog (jumps (fun l' a' w' => ∃ m', m' < k ∧ (m' ≤ m ∧ PwJ w N (tPow a m) l' m' a' w')) (bodyPost Tryd.prog Tryd.f47 (RetTab w N (tPow a m)))) a' W) := by
    rintro l k a' W hkm ⟨rfl, tm, t1, t2, ⟨u, rfl⟩, rfl, hI⟩
    refine ⟨_, pw_label, wp_skip_seq (Code.wp_mono (jumps_mono (fun l a w hq => ?_)) (pw_pass w N (tPow a m) hN t1 t2 k (by omega) u W hI))⟩
    obtain ⟨m', h1, h2⟩ := hq
    exact ⟨m', h1, by omega, h2⟩
  have HP : Hid (∀ t2 w2 tm, Rows w2 t2 N 0 (wrd N tStay) → Below w.heap.size w w2 → Fr78 N ta t2 (m : Int) tm → Code.wp Tryd.prog (labelIn Tryd.f47 0) (jumps (fun l' a' w' => ∃ m', m' < m ∧ PwJ w N (tPow a m) l' m' a' w') (bodyPost Tryd.prog Tryd.f47 (RetTab w N (tPow a m)))) ⟨tm, []⟩ w2) := by
    rintro t2 w2 tm h1 h2 ⟨u, rfl⟩
    exact pw_pass w N (tPow a m) hN ta t2 m hm u w2 ⟨⟨a, tStay, hA.below h2, h1, cat_stay _⟩, h2, hT.below h2⟩
  clear hA hT
  go_enter Tryd.func47, Tryd.ntmps47
  go_wp2_with fail
  refine wp_scope_labels (fun l k a' W => k ≤ m ∧ PwJ w N (tPow a m) l k a' W) ?_ (fun l k a' W hJ => HL.out l k a' W hJ.1 hJ.2)
  go_wp2_with fail
  refine HS.mono ?_
  rintro e w2 ⟨t2, rfl, hr2, hb2⟩
  go_wp2_with fail
  go_step3
  rename_i K hK
  refine hK _ _ ?_
  clear hK
  refine Code.wp_mono (jumps_mono (fun l a w hq => ?_)) (HP.out t2 w2 _ hr2 hb2 (Fr78.of _ rfl))
  obtain ⟨m', h1, hm'⟩ := hq
  exact ⟨m', by omega, hm'⟩
set_option maxRecDepth 20000 in
set_option maxHeartbeats 2000000 in
theorem repeat_any (N ta : Nat) (a : Tab) (l m : Int) (w : World) (hN : N ≤ 25) (h1N : 1 ≤ N) (hlm : Tre.mayR l m = true) (hA : Rows w ta N 0 (wrd N a)) (hT : TabZ w) :
    Calls Tryd.prog 39 #[.slice (some ⟨ta, 0, none⟩) N N, .int .i64 l, .int .i64 m] w (RetTab w N (tRep a l m)) := by
  have hm0 := mayR_mid hlm
  have hm1 := mayR_in hlm
  have hprog := rep_prog N a l m hm0.1
  have hw : (N : Int) - 1 + 1 = (N : Nat) := by omega
  obtain ⟨q, hq⟩ : ∃ q : Nat, min l (N : Int) = (q : Nat) := ⟨(min l (N : Int)).toNat, by omega⟩
  have hmin : ∀ W, (Builtin.min_ #[3, 3] 3 #[.int .i64 l, .int .i64 (N : Nat)]).run Tryd.prog W = .ok (.int .i64 (q : Nat)) W := fun W => by
    rw [run_min_int2, ← hq]
    congr 2
    split <;> omega
  rw [hq, Int.toNat_natCast] at hprog
  have HP := power_any N ta q a w hN (by omega) hA hT
  have hl0 : 0 ≤ l := hm0.1
  have hl1 : l ≤ 1000 := hm1.2.1
  have hNi : (N : Int) ≤ 25 := by omega
  have hm9 : m ≤ 1000 := by omega
  have hm8 : -1 ≤ m := by omega
  by_cases hc : m = -1 ∨ m - l ≥ (N : Int) - 1
  · rw [if_pos hc] at hprog
    have HS : Hid (∀ W, Below w.heap.size w W → Calls Tryd.prog 48 #[.slice (some ⟨ta, 0, none⟩) N N] W (RetTab W N (tStar a))) := fun W h => star_any N ta a W hN (hA.below h) (hT.below h)
    have HC : Hid (∀ t1 t2 W, Below w.heap.size w W → Rows W t1 N 0 (wrd N (tPow a q)) → Rows W t2 N 0 (wrd N (tStar a)) → Calls Tryd.prog 37 #[.slice (some ⟨t1, 0, none⟩) N N, .slice (some ⟨t2, 0, none⟩) N N] W (RetTab w N (tRep a l m))) := fun t1 t2 W h h1 h2 => (cat_any N t1 t2 _ _ W hN h1 h2 (hT.below h)).mono fun e w' hr => RetTab.from (RetTab.congr hN hprog hr) h
    clear hA hT hprog hq hm0 hm1 hlm
    by_cases hm : m = -1
    · have e1 : (m == -1) = true := by simpa using hm
      clear hc hm
      go_enter Tryd.func39, Tryd.ntmps39
      go_wp2_with fail
      refine HP.mono ?_
      rintro e w2 ⟨t2, rfl, hr2, hb2⟩
      have HS2 := HS.out w2 hb2
      go_wp2_with fail
      refine HS2.mono ?_
      rintro e w3 ⟨t3, rfl, hr3, hb3⟩
      have HC3 := HC.out t2 t3 w3 (hb2.trans (hb3.mono hb2.size)) (hr2.below hb3) hr3
      clear HS HC hmin
      go_wp2_with fail
      refine HC3.mono ?_
      rintro e w4 ⟨t4, rfl, hr4, hb4⟩
      go_wp2_with fail
      go_ret
      exact ⟨t4, rfl, hr4, hb4⟩
    · have e1 : (m == -1) = false := by simpa using hm
      have e2 : m - l ≥ (N : Int) - 1 := by omega
      clear hc hm
      go_enter Tryd.func39, Tryd.ntmps39
      go_wp2_with fail
      refine HP.mono ?_
      rintro e w2 ⟨t2, rfl, hr2, hb2⟩
      have HS2 := HS.out w2 hb2
      go_wp2_with fail
      refine HS2.mono ?_
      rintro e w3 ⟨t3, rfl, hr3, hb3⟩
      have HC3 := HC.out t2 t3 w3 (hb2.trans (hb3.mono hb2.size)) (hr2.below hb3) hr3
      clear HS HC hmin
      go_wp2_with fail
      refine HC3.mono ?_
      rintro e w4 ⟨t4, rfl, hr4, hb4⟩
      go_wp2_with fail
      go_ret
      exact ⟨t4, rfl, hr4, hb4⟩
  · rw [if_neg hc] at hprog
    obtain ⟨r, hr⟩ : ∃ r : Nat, m - l = (r : Nat) := ⟨(m - l).toNat, by omega⟩
    rw [hr, Int.toNat_natCast] at hprog
    have HS : Hid (∀ W, Calls Tryd.prog 49 #[.int .i64 (N : Nat)] W (RetTab W N tStay)) := fun W => stay_any N W hN
    have HB : Hid (∀ t1 W, Below w.heap.size w W → Rows W t1 N 0 (wrd N tStay) → Calls Tryd.prog 38 #[.slice (some ⟨ta, 0, none⟩) N N, .slice (some ⟨t1, 0, none⟩) N N] W (RetTab W N (tAlt a tStay))) := fun t1 W h h1 => alt_any N ta t1 a tStay W hN (hA.below h) h1
    have HW : Hid (∀ t1 W, Below w.heap.size w W → Rows W t1 N 0 (wrd N (tAlt a tStay)) → Calls Tryd.prog 47 #[.slice (some ⟨t1, 0, none⟩) N N, .int .i64 (m - l)] W (RetTab W N (tPow (tAlt a tStay) r))) := fun t1 W h h1 => by rw [hr]; exact power_any N t1 r (tAlt a tStay) W hN (by omega) h1 (hT.below h)
    have HC : Hid (∀ t1 t2 W, Below w.heap.size w W → Rows W t1 N 0 (wrd N (tPow a q)) → Rows W t2 N 0 (wrd N (tPow (tAlt a tStay) r)) → Calls Tryd.prog 37 #[.slice (some ⟨t1, 0, none⟩) N N, .slice (some ⟨t2, 0, none⟩) N N] W (RetTab w N (tRep a l m))) := fun t1 t2 W h h1 h2 => (cat_any N t1 t2 _ _ W hN h1 h2 (hT.below h)).mono fun e w' hr => RetTab.from (RetTab.congr hN hprog hr) h
    have e1 : (m == -1) = false := by rw [beq_eq_false_iff_ne]; omega
    have e2 : ¬ m - l ≥ (N : Int) - 1 := by omega
    clear hA hT hprog hq hm0 hm1 hlm hr hc
    go_enter Tryd.func39, Tryd.ntmps39
    go_wp2_with fail
    refine HP.mono ?_
    rintro e w2 ⟨t2, rfl, hr2, hb2⟩
    go_wp2_with fail
    refine (HS.out _).mono ?_
    rintro e w3 ⟨t3, rfl, hr3, hb3⟩
    have b3 := hb2.trans (hb3.mono hb2.size)
    have HB3 := HB.out t3 w3 b3 hr3
    go_wp2_with fail
    refine HB3.mono ?_
    rintro e w4 ⟨t4, rfl, hr4, hb4⟩
    have b4 := b3.trans (hb4.mono b3.size)
    have HW4 := HW.out t4 w4 b4 hr4
    go_wp2_with fail
    refine HW4.mono ?_
    rintro e w5 ⟨t5, rfl, hr5, hb5⟩
    have HC5 := HC.out t2 t5 w5 (b4.trans (hb5.mono b4.size)) (((hr2.below hb3).below hb4).below hb5) hr5
    clear HS HB HW HC hmin
    go_wp2_with fail
    refine HC5.mono ?_
    rintro e w6 ⟨t6, rfl, hr6, hb6⟩
    go_wp2_with fail
    go_ret
    exact ⟨t6, rfl, hr6, hb6⟩
end Go.Proofs.YtiiecppkabdkgabDoor
