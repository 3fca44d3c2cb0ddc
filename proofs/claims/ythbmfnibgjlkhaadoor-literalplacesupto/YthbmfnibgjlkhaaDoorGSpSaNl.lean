/- startOf as a step of the scan. starts: the walk. Lists of nodes in memory of the call's own; slices.Clone of nodes. -/
import Derived.Test.YthbmfnibgjlkhaaDoorGStSo
import Derived.Laws.AppendOwn
import Derived.Laws.OwnMore
import Derived.Lib.SliceRun
namespace Go.Proofs.YthbmfnibgjlkhaaDoor
open Go.RowKit
theorem ofF_top (y : Tre) (r : List Tre) : (ofF (y :: r))[sizeF r + y.size - 1]? = some y := by
  have := y.size_pos
  unfold ofF
  rw [List.getElem?_append_right (by unfold sizeF; omega)]
  have e : sizeF r + y.size - 1 - (ofF r).length = y.size - 1 := by unfold sizeF; omega
  rw [e, Tre.subs_last]
theorem ofF_next (y x : Tre) (r : List Tre) : (ofF (y :: x :: r))[sizeF r + x.size - 1]? = some x := by
  have := x.size_pos
  have h : sizeF (x :: r) = (ofF (x :: r)).length := rfl
  rw [sizeF_cons] at h
  rw [ofF, List.getElem?_append_left (by omega)]
  exact ofF_top x r
/-- What startOf answers, by the scan. -/
def RetSt (w : World) (ts : List Tre) (p : Nat) (n : Nd) (e : Ending) (w' : World) : Prop := (∃ s' : Int, e = .returned (.tuple #[.int .i64 s', .bool (stepT ts p n).isSome]) ∧ ∀ u r, stepT ts p n = some (u :: r) → s' = (p : Int) + 1 - u.size) ∧ Below w.heap.size w w'
theorem RetSo.st {w : World} {s : Int} {b : Bool} {e : Ending} {w' : World} {ts : List Tre} {p : Nat} {n : Nd} (h : RetSo w s b e w') (hb : (stepT ts p n).isSome = b) (hs : ∀ u r, stepT ts p n = some (u :: r) → s = (p : Int) + 1 - u.size) : RetSt w ts p n e w' := by
  obtain ⟨⟨s', h1, h2⟩, h3⟩ := h
  refine ⟨⟨s', by rw [hb]; exact h2, fun u r hu => ?_⟩, h3⟩
  rw [h1 (by rw [← hb, hu]; rfl)]
  exact hs u r hu
theorem stepT_lf (ts : List Tre) (p : Nat) (n : Nd) (h : n.k ≠ 3 ∧ n.k ≠ 4 ∧ n.k ≠ 5) : stepT ts p n = if Tre.lf n = true then some (.leaf n :: ts) else none := by
  unfold stepT
  rw [if_neg (by omega), if_neg (by omega)]
theorem lf_1 {n : Nd} (h : n.k = 1 ∨ n.k = 6 ∨ n.k = 7) : Tre.lf n = n.eq ⟨n.k, 0, 0, 0, 0, 0, 0, 0, 0, false⟩ := by
  have h2 : (n.k == 2) = false := by simp; omega
  have h1 : (n.k == 1 || n.k == 6 || n.k == 7) = true := by simp; omega
  unfold Tre.lf
  rw [h1, h2]
  simp
theorem lf_2 {n : Nd} (h : n.k = 2) : Tre.lf n = n.eq ⟨2, n.c0, n.c1, n.c2, n.c3, 0, 0, 0, 0, false⟩ := by
  have h2 : (n.k == 2) = true := by simp [h]
  have h1 : (n.k == 1 || n.k == 6 || n.k == 7) = false := by simp [h]
  unfold Tre.lf
  rw [h1, h2]
  simp
theorem startOf_any (n : Nd) (ts : List Tre) (ao : Option Addr) (p cap : Nat) (f : Nat → Int) (w : World) (hr : RdI w ao p f) (hp : p ≤ 2048) (hsz : sizeF ts = p) (hf : ∀ i u, (ofF ts)[i]? = some u → f i = (i : Int) + 1 - u.size) :
    Calls Tryd.prog 101 #[ndV n, .slice ao p cap] w (RetSt w ts p n) := by
  have hpi : (p : Int) ≤ 2048 := by omega
  by_cases hk : 1 ≤ n.k ∧ n.k ≤ 7
  · have hlf : ∀ u r, n.k ≠ 3 ∧ n.k ≠ 4 ∧ n.k ≠ 5 → stepT ts p n = some (u :: r) → (p : Int) = (p : Int) + 1 - u.size := by
      intro u r h hu
      rw [stepT_lf ts p n h] at hu
      split at hu
      · obtain ⟨rfl, _⟩ := List.cons.inj (Option.some.inj hu)
        simp [Tre.size]
      · cases hu
    have hls : n.k ≠ 3 ∧ n.k ≠ 4 ∧ n.k ≠ 5 → (stepT ts p n).isSome = Tre.lf n := by
      intro h
      rw [stepT_lf ts p n h]
      cases Tre.lf n <;> rfl
    obtain ⟨k, c0, c1, c2, c3, a, b, l, m, z⟩ := n
    dsimp only at hk hlf hls
    have h34 : k = 3 ∨ k = 4 → Calls Tryd.prog 101 #[ndV ⟨k, c0, c1, c2, c3, a, b, l, m, z⟩, .slice ao p cap] w (RetSt w ts p ⟨k, c0, c1, c2, c3, a, b, l, m, z⟩) := by
      intro h3
      have hno : ∀ s1 s : Int, s1 = stA f (p - 1) → s = stA f (s1 - 1) → s1 ≤ p → -1 ≤ s1 → s < 0 → (stepT ts p ⟨k, c0, c1, c2, c3, a, b, l, m, z⟩) = none → Calls Tryd.prog 101 #[ndV ⟨k, c0, c1, c2, c3, a, b, l, m, z⟩, .slice ao p cap] w (RetSt w ts p ⟨k, c0, c1, c2, c3, a, b, l, m, z⟩) := by
        intro s1 s e1 e2 h1 h2 h4 h5
        rcases h3 with rfl | rfl
        · exact (startOf_3n c0 c1 c2 c3 a b l m z ao p cap f w hr hpi s1 s e1 e2 h1 h2 h4).mono fun e w' h => h.st (by rw [h5]; rfl) (fun u r hu => by rw [h5] at hu; cases hu)
        · exact (startOf_4n c0 c1 c2 c3 a b l m z ao p cap f w hr hpi s1 s e1 e2 h1 h2 h4).mono fun e w' h => h.st (by rw [h5]; rfl) (fun u r hu => by rw [h5] at hu; cases hu)
      match ts, hsz, hf, hno with
      | [], hsz, hf, hno =>
        have : p = 0 := by rw [← hsz]; rfl
        subst this
        exact hno (-1) (-1) (by simp [stA]) (by simp [stA]) (by omega) (by omega) (by omega) (by unfold stepT; rw [if_pos h3])
      | [y], hsz, hf, hno =>
        have sy := y.size_pos
        rw [sizeF_cons] at hsz
        have hz : sizeF [] = 0 := rfl
        have e1 := hf _ _ (ofF_top y [])
        have e2 : stA f (p - 1) = 0 := by
          unfold stA
          rw [if_neg (by omega), show ((p : Int) - 1).toNat = sizeF [] + y.size - 1 by omega, e1]; omega
        exact hno 0 (-1) e2.symm (by simp [stA]) (by omega) (by omega) (by omega) (by unfold stepT; rw [if_pos h3])
      | y :: x :: r, hsz, hf, _ =>
        have sy := y.size_pos
        have sx := x.size_pos
        rw [sizeF_cons, sizeF_cons] at hsz
        have e1 := hf _ _ (ofF_top y (x :: r))
        rw [sizeF_cons] at e1
        have e2 := hf _ _ (ofF_next y x r)
        have g1 : stA f (p - 1) = (p : Int) - y.size := by
          unfold stA
          rw [if_neg (by omega), show ((p : Int) - 1).toNat = sizeF r + x.size + y.size - 1 by omega, e1]; omega
        have g2 : stA f ((p : Int) - y.size - 1) = sizeF r := by
          unfold stA
          rw [if_neg (by omega), show ((p : Int) - y.size - 1).toNat = sizeF r + x.size - 1 by omega, e2]; omega
        have e4 : stepT (y :: x :: r) p ⟨k, c0, c1, c2, c3, a, b, l, m, z⟩ = if Nd.eq ⟨k, c0, c1, c2, c3, a, b, l, m, z⟩ ⟨k, 0, 0, 0, 0, (p : Int) - y.size - 1, p - 1, 0, 0, false⟩ = true then some (.two k x y :: r) else none := by
          have ey : (Tre.two k x y).nd p = ⟨k, 0, 0, 0, 0, (p : Int) - y.size - 1, p - 1, 0, 0, false⟩ := by simp only [Tre.nd, Nd.mk.injEq, true_and, and_true]; omega
          unfold stepT
          rw [if_pos h3]
          show (if Nd.eq _ ((Tre.two k x y).nd p) = true then some (Tre.two k x y :: r) else none) = _
          rw [ey]
        have hb : (stepT (y :: x :: r) p ⟨k, c0, c1, c2, c3, a, b, l, m, z⟩).isSome = Nd.eq ⟨k, c0, c1, c2, c3, a, b, l, m, z⟩ ⟨k, 0, 0, 0, 0, (p : Int) - y.size - 1, p - 1, 0, 0, false⟩ := by
          rw [e4]
          cases Nd.eq ⟨k, c0, c1, c2, c3, a, b, l, m, z⟩ ⟨k, 0, 0, 0, 0, (p : Int) - y.size - 1, p - 1, 0, 0, false⟩ <;> rfl
        have hs : ∀ u r', stepT (y :: x :: r) p ⟨k, c0, c1, c2, c3, a, b, l, m, z⟩ = some (u :: r') → ((sizeF r : Nat) : Int) = (p : Int) + 1 - u.size := by
          intro u r' hu
          rw [e4] at hu
          split at hu
          · obtain ⟨rfl, _⟩ := List.cons.inj (Option.some.inj hu)
            simp only [Tre.size]; omega
          · cases hu
        rcases h3 with rfl | rfl
        · exact (startOf_3 c0 c1 c2 c3 a b l m z ao p cap f w hr hpi _ _ g1.symm g2.symm (by omega) (by omega) (by omega)).mono fun e w' h => h.st hb hs
        · exact (startOf_4 c0 c1 c2 c3 a b l m z ao p cap f w hr hpi _ _ g1.symm g2.symm (by omega) (by omega) (by omega)).mono fun e w' h => h.st hb hs
    have hc : k = 1 ∨ k = 2 ∨ k = 3 ∨ k = 4 ∨ k = 5 ∨ k = 6 ∨ k = 7 := by omega
    rcases hc with rfl | rfl | rfl | rfl | rfl | rfl | rfl
    · exact (startOf_1 c0 c1 c2 c3 a b l m z ao p cap w).mono fun e w' h => h.st (by rw [hls (by decide)]; exact lf_1 (.inl rfl)) (fun u r => hlf u r (by decide))
    · exact (startOf_2 c0 c1 c2 c3 a b l m z ao p cap w).mono fun e w' h => h.st (by rw [hls (by decide)]; exact lf_2 rfl) (fun u r => hlf u r (by decide))
    · exact h34 (.inl rfl)
    · exact h34 (.inr rfl)
    · clear h34 hlf hls
      cases hm : Tre.mayR l m with
      | false =>
        have h5 : stepT ts p ⟨5, c0, c1, c2, c3, a, b, l, m, z⟩ = none := by
          unfold stepT
          rw [if_neg (by simp), if_pos rfl]
          split
          · rw [if_neg (by simp [hm])]
          · rfl
        exact (startOf_5m c0 c1 c2 c3 a b l m z ao p cap f w hr hpi _ rfl hm).mono fun e w' h => h.st (by rw [h5]; rfl) (fun u r hu => by rw [h5] at hu; cases hu)
      | true =>
        match ts, hsz, hf with
        | [], hsz, hf =>
          have : p = 0 := by rw [← hsz]; rfl
          subst this
          have h5 : stepT [] 0 ⟨5, c0, c1, c2, c3, a, b, l, m, z⟩ = none := by
            unfold stepT
            rw [if_neg (by simp), if_pos rfl]
          exact (startOf_5n c0 c1 c2 c3 a b l m z ao 0 cap f w hr hpi (-1) (by simp [stA]) hm (by omega)).mono fun e w' h => h.st (by rw [h5]; rfl) (fun u r hu => by rw [h5] at hu; cases hu)
        | x :: r, hsz, hf =>
          have sx := x.size_pos
          rw [sizeF_cons] at hsz
          have e1 := hf _ _ (ofF_top x r)
          have g1 : stA f (p - 1) = sizeF r := by
            unfold stA
            rw [if_neg (by omega), show ((p : Int) - 1).toNat = sizeF r + x.size - 1 by omega, e1]; omega
          have e4 : stepT (x :: r) p ⟨5, c0, c1, c2, c3, a, b, l, m, z⟩ = if Nd.eq ⟨5, c0, c1, c2, c3, a, b, l, m, z⟩ ⟨5, 0, 0, 0, 0, p - 1, 0, l, m, z⟩ = true then some (.rep x l m z :: r) else none := by
            unfold stepT
            rw [if_neg (by simp), if_pos rfl]
            simp only [Tre.nd, hm, Bool.true_and]
          have hb : (stepT (x :: r) p ⟨5, c0, c1, c2, c3, a, b, l, m, z⟩).isSome = Nd.eq ⟨5, c0, c1, c2, c3, a, b, l, m, z⟩ ⟨5, 0, 0, 0, 0, p - 1, 0, l, m, z⟩ := by
            rw [e4]
            cases Nd.eq ⟨5, c0, c1, c2, c3, a, b, l, m, z⟩ ⟨5, 0, 0, 0, 0, p - 1, 0, l, m, z⟩ <;> rfl
          exact (startOf_5 c0 c1 c2 c3 a b l m z ao p cap f w hr hpi _ g1.symm hm (by omega)).mono fun e w' h => h.st hb (by
            intro u r' hu
            rw [e4] at hu
            split at hu
            · obtain ⟨rfl, _⟩ := List.cons.inj (Option.some.inj hu)
              simp only [Tre.size]; omega
            · cases hu)
    · exact (startOf_6 c0 c1 c2 c3 a b l m z ao p cap w).mono fun e w' h => h.st (by rw [hls (by decide)]; exact lf_1 (.inr (.inl rfl))) (fun u r => hlf u r (by decide))
    · exact (startOf_7 c0 c1 c2 c3 a b l m z ao p cap w).mono fun e w' h => h.st (by rw [hls (by decide)]; exact lf_1 (.inr (.inr rfl))) (fun u r => hlf u r (by decide))
  · have h5 : stepT ts p n = none := by
      rw [stepT_lf ts p n (by omega), if_neg]
      intro h
      have := lf_kind h
      omega
    obtain ⟨k, c0, c1, c2, c3, a, b, l, m, z⟩ := n
    exact (startOf_no k c0 c1 c2 c3 a b l m z ao p cap w hk).mono fun e w' h => h.st (by rw [h5]; rfl) (fun u r hu => by rw [h5] at hu; cases hu)
end Go.Proofs.YthbmfnibgjlkhaaDoor
namespace Go.Proofs.YthbmfnibgjlkhaaDoor
open Go.RowKit
/-- Numbers as cells. -/
def ints (f : Nat → Int) (n : Nat) : List Value := (List.range n).map fun i => Value.int .i64 (f i)
def updI (f : Nat → Int) (i : Nat) (v : Int) : Nat → Int := fun j => if j = i then v else f j
theorem ints_length (f : Nat → Int) (n : Nat) : (ints f n).length = n := by simp [ints]
theorem ints_get (f : Nat → Int) {n i : Nat} (h : i < n) : (ints f n)[i]? = some (.int .i64 (f i)) := by simp [ints, h]
theorem ints_set (f : Nat → Int) (n i : Nat) (v : Int) : (ints f n).set i (.int .i64 v) = ints (updI f i v) n := by
  apply List.ext_getElem?
  intro j
  rw [List.getElem?_set]
  by_cases hj : j < n
  · rw [ints_get _ hj, ints_get _ hj]
    by_cases h : i = j
    · subst h; simp [updI, ints_length, hj]
    · rw [if_neg h]; simp [updI, Ne.symm h]
  · rw [List.getElem?_eq_none (by simp [ints_length]; omega), List.getElem?_eq_none (by simp [ints_length]; omega)]
    by_cases h : i = j
    · rw [if_pos h, if_neg (by simp [ints_length]; omega)]
    · rw [if_neg h]
theorem ints_congr {f g : Nat → Int} {n : Nat} (h : ∀ i, i < n → f i = g i) : ints f n = ints g n := by
  apply List.ext_getElem?
  intro j
  by_cases hj : j < n
  · rw [ints_get _ hj, ints_get _ hj, h j hj]
  · rw [List.getElem?_eq_none (by simp [ints_length]; omega), List.getElem?_eq_none (by simp [ints_length]; omega)]
theorem made_ints (n : Nat) : madeCells #[Value.int .i64 0] n = (ints (fun _ => 0) n).toArray := by
  apply Array.toList_inj.1
  rw [toList_madeCells_one]
  apply List.ext_getElem?
  intro j
  by_cases hj : j < n
  · simp [ints_get _ hj, hj]
  · rw [List.getElem?_eq_none (by simp; omega), List.getElem?_eq_none (by simp [ints_length]; omega)]
theorem rdI_of {w : World} {b n m : Nat} {f : Nat → Int} (h : Cl w b 3 (ints f n)) (hm : m ≤ n) : RdI w (some ⟨b, 0, none⟩) m f := by
  intro _
  refine ⟨b, 0, rfl, h.lt, fun i hi => ?_⟩
  rw [Nat.zero_add]
  exact h.cell i (ints_get f (by omega))
/-- Where a subtree starts. -/
def stF (t : Tre) (p : Nat) : Int := (p : Int) + 1 - ((t.subs[p]?).getD t).size
theorem scan_none {F : Nat → Nd} {k : Nat} (h : scanT F k = none) : ∀ j, k ≤ j → scanT F j = none := by
  intro j hj
  induction j with
  | zero => have : k = 0 := by omega
            subst this; exact h
  | succ j ih =>
    by_cases e : k = j + 1
    · subst e; exact h
    · simp [scanT, ih (by omega)]
/-- What starts answers. -/
def RetSts (w : World) (F : Nat → Nd) (n : Nat) (e : Ending) (w' : World) : Prop :=
  (∃ v, e = .returned (.tuple #[v, .bool (treeOf F n).isSome]) ∧ ∀ t, treeOf F n = some t → ∃ b, v = .slice (some ⟨b, 0, none⟩) n n ∧ w.heap.size ≤ b ∧ Cl w' b 3 (ints (stF t) n)) ∧ Below w.heap.size w w'
theorem slice_to50 (ao : Option Addr) (n cap x : Nat) (hx : x ≤ cap) (w : World) : (Instr.slice 42 (.slice ao n cap) none (some (.int .i64 (x : Nat))) none).run Tryd.prog w = .ok (.slice ao x cap) w := by
  have hxc : (x : Int) ≤ (cap : Int) := by omega
  by_cases h : cap = 0
  · subst h
    obtain rfl : x = 0 := by omega
    simp [go_sem, Tryd.underlying42]
  · simp [go_sem, Tryd.underlying42, hxc, h]
theorem b_int : (Tryd.prog.info? 3).map (fun i => (i.zero, i.size, i.bytes)) = some (some (.int .i64 0), 1, 8) := by kernel_rfl
theorem info_parts {P : Program} {t : TypeId} {z : Value} {s b : Nat} (h : (P.info? t).map (fun i => (i.zero, i.size, i.bytes)) = some (some z, s, b)) : ∃ i, P.info? t = some i ∧ i.zero = some z ∧ i.size = s ∧ i.bytes = b := by
  obtain ⟨i, hi, h⟩ := Option.map_eq_some_iff.1 h
  simp at h
  exact ⟨i, hi, h.1, h.2.1, h.2.2⟩
theorem make_ints (n : Nat) (hn : n ≤ 2048) (w : World) : (Instr.makeSlice 42 (.int .i64 (n : Nat)) (.int .i64 (n : Nat))).run Tryd.prog w = .ok (.slice (some ⟨w.heap.size, 0, none⟩) n n) (w.alloc (.cells (ints (fun _ => 0) n).toArray 3)) := by
  obtain ⟨i, hi, hz, hs, hb⟩ := info_parts b_int
  have := run_make (P := Tryd.prog) w 42 3 i (.int .i64 0) Tryd.underlying42 hi hz .i64 .i64 (n : Int) (n : Int) (by omega) (by omega) (by rw [hb]; omega) (by omega)
  rw [this, hs]
  simp [← made_ints, Value.cells]
set_option maxRecDepth 10000 in
set_option maxHeartbeats 1000000 in
theorem starts_any (ao : Option Addr) (n cap : Nat) (F : Nat → Nd) (w : World) (hr : RdN w ao n F) (hm : (n : Int) ≤ 9223372036854775807) : Calls Tryd.prog 93 #[.slice ao n cap] w (RetSts w F n) := by
  by_cases h0 : n = 0
  · subst h0
    have e : treeOf F 0 = none := by simp [treeOf, scanT]
    have hR : ∀ v, RetSts w F 0 (.returned (.tuple #[v, .bool false])) w := fun v => ⟨⟨v, by rw [e]; rfl, fun t ht => by rw [e] at ht; cases ht⟩, Below.refl _ _⟩
    clear hr
    go_enter Tryd.func93, Tryd.ntmps93
    go_wp2
    go_ret2
    exact hR _
  by_cases h1 : n > 2048
  · have e : treeOf F n = none := by simp [treeOf, h1]
    have hR : ∀ v, RetSts w F n (.returned (.tuple #[v, .bool false])) w := fun v => ⟨⟨v, by rw [e]; rfl, fun t ht => by rw [e] at ht; cases ht⟩, Below.refl _ _⟩
    have hz : ((n : Int) == 0) = false := by simp; omega
    have hg : (n : Int) > 2048 := by omega
    clear hr
    go_enter Tryd.func93, Tryd.ntmps93
    go_wp2
    go_ret2
    exact hR _
  have hz : ((n : Int) == 0) = false := by simp; omega
  have hg : ¬ (n : Int) > 2048 := by omega
  have hmk := make_ints n (by omega)
  have k0 := Cl.new w 3 (ints (fun _ => 0) n)
  have hB0 := below1 w (.cells (ints (fun _ => 0) n).toArray 3)
  go_enter Tryd.func93, Tryd.ntmps93
  go_wp2
  go_loopw [22] (fun i wr => ∃ (k : Nat) (ts : List Tre) (f : Nat → Int), k ≤ n ∧ i = .int .i64 (k : Nat) ∧ scanT F k = some ts ∧ (∀ p u, (ofF ts)[p]? = some u → f p = (p : Int) + 1 - u.size) ∧ Cl wr w.heap.size 3 (ints f n) ∧ Below w.heap.size w wr) (fun i _ => n - (intOf i).toNat)
  case atStart => exact ⟨0, [], fun _ => 0, Nat.zero_le _, rfl, rfl, fun p u h => by simp [ofF] at h, k0, hB0⟩
  case round =>
    obtain ⟨k, ts, f, hk, rfl, hsc, hf, hc, hb⟩ := hrel
    clear k0 hB0 hmk
    by_cases hlt : k < n
    · obtain ⟨bb, off, rfl, hbb, hcs⟩ := hr (by omega)
      obtain ⟨hs1, hs2, hs3⟩ := scanT_inv hsc
      obtain ⟨c0, c1, c2, c3, c4, c5, c6, c7, c8, c9⟩ := hcs k hlt
      rw [← hb.cell (p := ⟨bb, _, none⟩) hbb] at c0 c1 c2 c3 c4 c5 c6 c7 c8 c9
      have hki : (k : Int) < (n : Int) := by omega
      have hsl := slice_to50 (some ⟨w.heap.size, 0, none⟩) n n k (by omega)
      have HS : Hid (∀ W, Below wr.heap.size wr W → Calls Tryd.prog 101 #[ndV (F k), .slice (some ⟨w.heap.size, 0, none⟩) k n] W (RetSt W ts k (F k))) := fun W hW => startOf_any (F k) ts _ k n f W ((rdI_of hc (by omega)).below hW) (by omega) hs1 hf
      have HN : Hid (∀ u r, stepT ts k (F k) = some (u :: r) → scanT F (k + 1) = some (u :: r) ∧ ∀ p v, (ofF (u :: r))[p]? = some v → updI f k ((k : Int) + 1 - u.size) p = (p : Int) + 1 - v.size) := by
        intro u r hu
        have e1 : scanT F (k + 1) = some (u :: r) := by simp only [scanT, hsc]; exact hu
        refine ⟨e1, fun p v hv => ?_⟩
        obtain ⟨g1, g2, u', r', e', g4, g5⟩ := stepT_inv hu hs1 hs2
        obtain ⟨rfl, rfl⟩ := List.cons.inj e'
        rw [g4, List.getElem?_append] at hv
        unfold sizeF at hs1
        split at hv
        · rw [updI, if_neg (by omega)]; exact hf p v hv
        · have : p = k := by
            rcases Nat.lt_or_ge (p - (ofF ts).length) 1 with h | h
            · omega
            · rw [List.getElem?_eq_none (by simpa using h)] at hv; cases hv
          subst this
          simp [hs1] at hv
          subst hv
          simp [updI]
      unfold ndV at HS
      clear hr hcs hs1 hs2 hs3 hf
      cases hst : stepT ts k (F k) with
      | none =>
        have e : treeOf F n = none := by
          have : scanT F (k + 1) = none := by simp only [scanT, hsc]; exact hst
          unfold treeOf
          rw [scan_none this n (by omega)]
          split <;> rfl
        have hR : Hid (∀ v W, Below w.heap.size w W → RetSts w F n (.returned (.tuple #[v, .bool false])) W) := fun v W hW => ⟨⟨v, by rw [e]; rfl, fun t ht => by rw [e] at ht; cases ht⟩, hW⟩
        unfold RetSt at HS
        rw [hst] at HS
        clear hst HN hsc e
        generalize F k = q at *
        go_wp2
        go_region_with (go_at_call 101; refine (HS.out _ ?_).mono ?_; exact (below1 _ _).drew; rintro e W' ⟨⟨s', rfl, _⟩, hb'⟩)
        all_goals
          go_wp2
          go_ret2
          exact hR.out _ _ (hb.trans ((((below1 _ _).drew.trans (hb'.mono (by simp))).mono hb.size)))
      | some ts' =>
        obtain ⟨u, r, rfl⟩ : ∃ u r, ts' = u :: r := by
          obtain ⟨_, _, u, r, h, _⟩ := stepT_inv hst (scanT_inv hsc).1 (scanT_inv hsc).2.1
          exact ⟨u, r, h⟩
        obtain ⟨e1, e2⟩ := HN.out u r hst
        have HX : Hid (∀ W, Cl W w.heap.size 3 (ints (updI f k ((k : Int) + 1 - u.size)) n) → Below w.heap.size w W → ∃ (k' : Nat) (ts : List Tre) (f : Nat → Int), k' ≤ n ∧ (Value.int .i64 ((k : Int) + 1)) = .int .i64 (k' : Nat) ∧ scanT F k' = some ts ∧ (∀ p u, (ofF ts)[p]? = some u → f p = (p : Int) + 1 - u.size) ∧ Cl W w.heap.size 3 (ints f n) ∧ Below w.heap.size w W) := fun W h1 h2 => ⟨k + 1, _, _, hlt, by simp, e1, e2, h1, h2⟩
        unfold RetSt at HS
        rw [hst] at HS
        have HU : Hid (∀ s' : Int, (∀ u1 r1, some (u :: r) = some (u1 :: r1) → s' = (k : Int) + 1 - u1.size) → s' = (k : Int) + 1 - u.size) := fun s' h => h u r rfl
        clear hst HN hsc e1 e2
        generalize F k = q at *
        go_wp2
        go_region_with (go_at_call 101; refine (HS.out _ ?_).mono ?_; exact (below1 _ _).drew; rintro e W' ⟨⟨s', rfl, hs'⟩, hb'⟩; replace hs' := HU.out _ hs')
        all_goals
          have hc' : Cl W' w.heap.size 3 (ints f n) := ((hc.alloc _).drew).below (hb'.mono (by simp))
          have hb2 : Below w.heap.size w W' := hb.trans ((((below1 _ _).drew.trans (hb'.mono (by simp))).mono hb.size))
          have d0 := hc'.cell k (ints_get f hlt)
          have d1 := hc'.frozen k
          have hcx := hc'.set k (.int .i64 ((k : Int) + 1 - u.size))
          rw [ints_set] at hcx
          have hbx := hb2.setCell (p := ⟨w.heap.size, k, none⟩) (Nat.le_refl _) (.int .i64 ((k : Int) + 1 - u.size))
          have HY := HX.out _ hcx hbx
          clear hc hb hc' hb2 hcx hbx HX hb' HS HU c0 c1 c2 c3 c4 c5 c6 c7 c8 c9 hsl
          generalize ((k : Int) + 1 - u.size) = v at *
          subst hs'
          have HZ : Hid _ := HY
          clear HY
          go_wp2
          go_roundw
          case rel => exact HZ.out
          case measure => simp [intOf]; omega
    · obtain rfl : k = n := by omega
      have hki : ¬ (k : Int) < (k : Int) := by omega
      obtain ⟨hs1, hs2, hs3⟩ := scanT_inv hsc
      have d0 := hc.cell (k - 1) (ints_get f (by omega))
      have hR : Hid (∀ W, Cl W w.heap.size 3 (ints f k) → Below w.heap.size w W → RetSts w F k (.returned (.tuple #[.slice (some ⟨w.heap.size, 0, none⟩) k k, .bool (f (k - 1) == 0)])) W) := by
        intro W h1 h2
        have hb0 : (treeOf F k).isSome = (f (k - 1) == 0) := by
          unfold treeOf
          rw [if_neg (by omega), hsc]
          match ts, hs1, hf with
          | [], hs1, hf => exact absurd (show 0 = k from hs1) (by omega)
          | [t], hs1, hf =>
            have e := hf _ _ (ofF_top t [])
            rw [sizeF_cons] at hs1
            rw [hs1] at e
            rw [e]
            have hz : sizeF [] = 0 := rfl
            have := t.size_pos
            simp
            omega
          | t :: y :: r, hs1, hf =>
            have e := hf _ _ (ofF_top t (y :: r))
            rw [sizeF_cons] at hs1
            rw [hs1] at e
            rw [e]
            have h2 := sizeF_cons y r
            have := t.size_pos
            have := y.size_pos
            simp
            omega
        refine ⟨⟨_, by rw [hb0], fun t ht => ⟨_, rfl, Nat.le_refl _, ?_⟩⟩, h2⟩
        have e : ts = [t] := by
          unfold treeOf at ht
          rw [if_neg (by omega), hsc] at ht
          split at ht
          · rename_i t' h'
            rw [Option.some.inj h', Option.some.inj ht]
          · cases ht
        subst e
        have e2 : ofF [t] = t.subs := by simp [ofF]
        rw [e2] at hf
        rw [ints_congr (g := f)]
        · exact h1
        · intro i hi
          have hl : i < t.subs.length := by rw [← e2]; exact (show i < sizeF [t] by omega)
          rw [hf i _ (List.getElem?_eq_getElem hl), stF, List.getElem?_eq_getElem hl]
          rfl
      have hk1 : ((k : Int) - 1).toNat = k - 1 := by omega
      have hk2 : (0 : Int) ≤ (k : Int) - 1 := by omega
      have hk3 : (k : Int) - 1 < (k : Int) := by omega
      clear hs1 hs2 hs3 hsc hf hr
      generalize f (k - 1) = y at *
      go_wp2
      go_quiet (fail)
      go_wp2
      go_ret2
      exact hR.out _ (hc.below (below_drewN (Below.refl _ _) _)) (below_drewN hb _)
end Go.Proofs.YthbmfnibgjlkhaaDoor
namespace Go.Proofs.YthbmfnibgjlkhaaDoor
open Go.RowKit
/-- The cells of n nodes. -/
def ndsL (F : Nat → Nd) : Nat → List Value
  | 0 => []
  | n + 1 => ndsL F n ++ ndL (F n)
theorem ndL_len (x : Nd) : (ndL x).length = 10 := rfl
theorem ndsL_len (F : Nat → Nd) : ∀ n, (ndsL F n).length = n * 10
  | 0 => by simp [ndsL]
  | n + 1 => by rw [ndsL, List.length_append, ndsL_len F n, ndL_len]; omega
theorem ndsL_get (F : Nat → Nd) : ∀ (n i j : Nat), i < n → j < 10 → (ndsL F n)[i * 10 + j]? = (ndL (F i))[j]?
  | 0, i, j, h, _ => by omega
  | n + 1, i, j, h, hj => by
    have hl := ndsL_len F n
    rw [ndsL]
    by_cases hi : i < n
    · rw [List.getElem?_append_left (by omega)]; exact ndsL_get F n i j hi hj
    · have : i = n := by omega
      subst this
      rw [List.getElem?_append_right (by omega), hl]
      congr 1; omega
theorem ndsL_congr {F G : Nat → Nd} : ∀ {n : Nat}, (∀ i, i < n → F i = G i) → ndsL F n = ndsL G n
  | 0, _ => rfl
  | n + 1, h => by rw [ndsL, ndsL, ndsL_congr (fun i hi => h i (by omega)), h n (by omega)]
/-- One list of nodes behind another. -/
def catF (n : Nat) (F G : Nat → Nd) : Nat → Nd := fun i => if i < n then F i else G (i - n)
theorem ndsL_cat (n : Nat) (F G : Nat → Nd) : ∀ m, ndsL (catF n F G) (n + m) = ndsL F n ++ ndsL G m
  | 0 => by
    rw [ndsL, List.append_nil]
    exact ndsL_congr fun i hi => by simp only [Nat.add_zero] at hi; simp [catF, hi]
  | m + 1 => by
    rw [← Nat.add_assoc, ndsL, ndsL_cat n F G m, ndsL, List.append_assoc]
    congr 2
    simp only [catF]
    rw [if_neg (by omega), Nat.add_sub_cancel_left]
theorem ndsL_one (x : Nd) : ndsL (fun _ => x) 1 = ndL x := by simp [ndsL]
theorem ndsL_oneCell (F : Nat → Nd) : ∀ n, ∀ u ∈ ndsL F n, u.oneCell' = true
  | 0, u, h => by simp [ndsL] at h
  | n + 1, u, h => by
    rw [ndsL, List.mem_append] at h
    rcases h with h | h
    · exact ndsL_oneCell F n u h
    · simp [ndL] at h
      rcases h with rfl | rfl | rfl | rfl | rfl | rfl | rfl | rfl | rfl | rfl <;> rfl
theorem ten {j : Nat} (h : j < 10) : j = 0 ∨ j = 1 ∨ j = 2 ∨ j = 3 ∨ j = 4 ∨ j = 5 ∨ j = 6 ∨ j = 7 ∨ j = 8 ∨ j = 9 := by omega
/-- All cells of nodes that can be read, by one number. -/
theorem RdN.cells {w : World} {ao : Option Addr} {n : Nat} {F : Nat → Nd} (h : RdN w ao n F) (hn : 0 < n) : ∃ bb off, ao = some ⟨bb, off, none⟩ ∧ bb < w.heap.size ∧ ∀ j u, (ndsL F n)[j]? = some u → w.cell? ⟨bb, off + j, none⟩ = some u := by
  obtain ⟨bb, off, e, hlt, hc⟩ := h hn
  refine ⟨bb, off, e, hlt, fun j u hu => ?_⟩
  have hj := (List.getElem?_eq_some_iff.1 hu).1
  rw [ndsL_len] at hj
  have hd : j = j / 10 * 10 + j % 10 := by omega
  obtain ⟨c0, c1, c2, c3, c4, c5, c6, c7, c8, c9⟩ := hc (j / 10) (by omega)
  rw [hd, ndsL_get F n _ _ (by omega) (by omega)] at hu
  rw [hd, ← Nat.add_assoc]
  rcases ten (show j % 10 < 10 by omega) with e | e | e | e | e | e | e | e | e | e <;> rw [e] at hu ⊢ <;> simp [ndL] at hu <;> subst hu <;> simpa using by assumption
theorem ownsRow_at {W W' : World} {base e size k : Nat} {v : Value} {xs : List Value} (h : W.ownsRow base e size v k xs) (hs : ∀ g, base ≤ g → g < W.heap.size → W'.heap[g]? = W.heap[g]?) : W'.ownsRow base e size v k xs :=
  ⟨h.1, h.2.imp id fun ⟨g, cap, cur, hv, hg, hc, r⟩ => ⟨g, cap, cur, hv, hg, (hs g hg (Array.getElem?_eq_some_iff.1 hc).1).trans hc, r⟩⟩
theorem ownsRow_below {W W' : World} {base e size k : Nat} {v : Value} {xs : List Value} (h : W.ownsRow base e size v k xs) (hb : Below W.heap.size W W') : W'.ownsRow base e size v k xs := ownsRow_at h fun g _ hg => hb.block g hg
theorem ownsRow_own {W : World} {base e size k : Nat} {v : Value} {xs : List Value} (h : W.ownsRow base e size v k xs) : ∀ g, v.ownBlock = some g → base ≤ g := by
  intro g hg
  rcases h.2 with ⟨rfl, _⟩ | ⟨g', cap, cur, rfl, hb, _⟩
  · cases hg
  · simp [Value.ownBlock] at hg; omega
theorem ownsRow_slice {W : World} {base e size k : Nat} {v : Value} {xs : List Value} (h : W.ownsRow base e size v k xs) : ∃ ao cap, v = .slice ao k cap := by
  rcases h.2 with ⟨h, h0⟩ | ⟨g, cap, cur, h, _⟩
  · exact ⟨none, 0, by rw [h, h0]⟩
  · exact ⟨_, cap, h⟩
theorem ownsRow_base {W : World} {base base' e size k : Nat} {v : Value} {xs : List Value} (h : W.ownsRow base e size v k xs) (hb : base' ≤ base) : W.ownsRow base' e size v k xs :=
  ⟨h.1, h.2.imp id fun ⟨g, cap, cur, hv, hg, r⟩ => ⟨g, cap, cur, hv, Nat.le_trans hb hg, r⟩⟩
theorem row_cell {W : World} {base e size n cap : Nat} {ao : Option Addr} {xs : List Value} (h : W.ownsRow base e size (.slice ao n cap) n xs) (hn : 0 < n) :
    ∃ g, ao = some ⟨g, 0, none⟩ ∧ g < W.heap.size ∧ base ≤ g ∧ (∀ j u, xs[j]? = some u → W.cell? ⟨g, j, none⟩ = some u) ∧ ∀ j, W.frozen? ⟨g, j, none⟩ = false := by
  rcases h.2 with ⟨_, h0⟩ | ⟨g, cap', cur, hv, hg, hc, _, _, _, hx⟩
  · omega
  · cases hv
    refine ⟨g, rfl, (Array.getElem?_eq_some_iff.1 hc).1, hg, fun j u hj => ?_, fun j => frozen_of_row W g j cur e hc⟩
    rw [← hx, List.getElem?_take] at hj
    split at hj
    · rw [cell_of_row W g j _ e (0, 0) hc]
      simpa using hj
    · cases hj
/-- Nodes in a block of the call's own. -/
abbrev OwN (w : World) (B : Nat) (ao : Option Addr) (n cap : Nat) (F : Nat → Nd) : Prop := w.ownsRow B 82 10 (.slice ao n cap) n (ndsL F n)
theorem OwN.cells {w : World} {B : Nat} {ao : Option Addr} {n cap : Nat} {F : Nat → Nd} (h : OwN w B ao n cap F) (hn : 0 < n) : ∃ g, ao = some ⟨g, 0, none⟩ ∧ g < w.heap.size ∧ B ≤ g ∧ (∀ i j u, i < n → j < 10 → (ndL (F i))[j]? = some u → w.cell? ⟨g, i * 10 + j, none⟩ = some u) ∧ ∀ j, w.frozen? ⟨g, j, none⟩ = false := by
  obtain ⟨g, e, hl, hB, hc, hf⟩ := row_cell h hn
  exact ⟨g, e, hl, hB, fun i j u hi hj hu => hc _ _ (by rw [ndsL_get F n i j hi hj]; exact hu), hf⟩
theorem OwN.rd {w : World} {B : Nat} {ao : Option Addr} {n cap : Nat} {F : Nat → Nd} (h : OwN w B ao n cap F) : RdN w ao n F := by
  intro hn
  obtain ⟨g, e, hl, _, hc, _⟩ := h.cells hn
  refine ⟨g, 0, e, hl, fun i hi => ?_⟩
  simp only [Nat.zero_add]
  exact ⟨hc i 0 _ hi (by omega) rfl, hc i 1 _ hi (by omega) rfl, hc i 2 _ hi (by omega) rfl, hc i 3 _ hi (by omega) rfl, hc i 4 _ hi (by omega) rfl, hc i 5 _ hi (by omega) rfl, hc i 6 _ hi (by omega) rfl, hc i 7 _ hi (by omega) rfl, hc i 8 _ hi (by omega) rfl, hc i 9 _ hi (by omega) rfl⟩
/-- What a call answers that makes nodes. -/
def RetN (w : World) (n : Nat) (F : Nat → Nd) (e : Ending) (w' : World) : Prop := ∃ ao cap, e = .returned (.slice ao n cap) ∧ OwN w' w.heap.size ao n cap F ∧ Below w.heap.size w w'
theorem b_node : (Tryd.prog.info? 82).map (fun i => (i.zero, i.size, i.bytes)) = some (some (.agg #[.int .i64 0, .int .u64 0, .int .u64 0, .int .u64 0, .int .u64 0, .int .i64 0, .int .i64 0, .int .i64 0, .int .i64 0, .bool false]), 10, 80) := by kernel_rfl
/-- A slice that came: nil, or with an address. -/
def Shp (ao : Option Addr) (n cap : Nat) : Prop := (ao = none ∧ n = 0 ∧ cap = 0) ∨ ∃ a, ao = some a
end Go.Proofs.YthbmfnibgjlkhaaDoor
