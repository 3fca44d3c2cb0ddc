/- Ported: TtD. -/
import Derived.Test.YtobgmgpclcfkcaaTtC
namespace Go.Proofs.Ytobgmgpclcfkcaa.T
open Go.RowKit
theorem ofF_top (y : Tre) (r : List Tre) : (ofF (y :: r))[sizeF r + y.size - 1]? = some y := by
  have := y.size_pos
  unfold ofF
  rw [List.getElem?_append_right (by unfold sizeF; omega)]
  have e : sizeF r + y.size - 1 - (ofF r).length = y.size - 1 := by unfold sizeF; omega
  rw [e, Tre.subs_last]
theorem ofF_next (y x : Tre) (r : List Tre) : (ofF (y :: x :: r))[sizeF r + x.size - 1]? = some x := by
  have := x.size_pos
  have h : sizeF (x :: r) = (ofF (x :: r)).length := rfl
  rw [sizeF_cons] at h
  rw [ofF, List.getElem?_append_left (by omega)]
  exact ofF_top x r
/-- What startOf answers, by the scan. -/
def RetSt (w : World) (ts : List Tre) (p : Nat) (n : Nd) (e : Ending) (w' : World) : Prop := (∃ s' : Int, e = .returned (.tuple #[.int .i64 s', .bool (stepT ts p n).isSome]) ∧ ∀ u r, stepT ts p n = some (u :: r) → s' = (p : Int) + 1 - u.size) ∧ Below w.heap.size w w'
theorem RetSo.st {w : World} {s : Int} {b : Bool} {e : Ending} {w' : World} {ts : List Tre} {p : Nat} {n : Nd} (h : RetSo w s b e w') (hb : (stepT ts p n).isSome = b) (hs : ∀ u r, stepT ts p n = some (u :: r) → s = (p : Int) + 1 - u.size) : RetSt w ts p n e w' := by
  obtain ⟨⟨s', h1, h2⟩, h3⟩ := h
  refine ⟨⟨s', by rw [hb]; exact h2, fun u r hu => ?_⟩, h3⟩
  rw [h1 (by rw [← hb, hu]; rfl)]
  exact hs u r hu
theorem stepT_lf (ts : List Tre) (p : Nat) (n : Nd) (h : n.k ≠ 3 ∧ n.k ≠ 4 ∧ n.k ≠ 5) : stepT ts p n = if Tre.lf n = true then some (.leaf n :: ts) else none := by
  unfold stepT
  rw [if_neg (by omega), if_neg (by omega)]
theorem lf_1 {n : Nd} (h : n.k = 1 ∨ n.k = 6 ∨ n.k = 7) : Tre.lf n = n.eq ⟨n.k, 0, 0, 0, 0, 0, 0, 0, 0, false⟩ := by
  have h2 : (n.k == 2) = false := by simp; omega
  have h1 : (n.k == 1 || n.k == 6 || n.k == 7) = true := by simp; omega
  unfold Tre.lf
  rw [h1, h2]
  simp
theorem lf_2 {n : Nd} (h : n.k = 2) : Tre.lf n = n.eq ⟨2, n.c0, n.c1, n.c2, n.c3, 0, 0, 0, 0, false⟩ := by
  have h2 : (n.k == 2) = true := by simp [h]
  have h1 : (n.k == 1 || n.k == 6 || n.k == 7) = false := by simp [h]
  unfold Tre.lf
  rw [h1, h2]
  simp
theorem startOf_any (n : Nd) (ts : List Tre) (ao : Option Addr) (p cap : Nat) (f : Nat → Int) (w : World) (hr : RdI w ao p f) (hp : p ≤ 2048) (hsz : sizeF ts = p) (hf : ∀ i u, (ofF ts)[i]? = some u → f i = (i : Int) + 1 - u.size) :
    Calls Try.prog 72 #[ndV n, .slice ao p cap] w (RetSt w ts p n) := by
  have hpi : (p : Int) ≤ 2048 := by omega
  by_cases hk : 1 ≤ n.k ∧ n.k ≤ 7
  · have hlf : ∀ u r, n.k ≠ 3 ∧ n.k ≠ 4 ∧ n.k ≠ 5 → stepT ts p n = some (u :: r) → (p : Int) = (p : Int) + 1 - u.size := by
      intro u r h hu
      rw [stepT_lf ts p n h] at hu
      split at hu
      · obtain ⟨rfl, _⟩ := List.cons.inj (Option.some.inj hu)
        simp [Tre.size]
      · cases hu
    have hls : n.k ≠ 3 ∧ n.k ≠ 4 ∧ n.k ≠ 5 → (stepT ts p n).isSome = Tre.lf n := by
      intro h
      rw [stepT_lf ts p n h]
      cases Tre.lf n <;> rfl
    obtain ⟨k, c0, c1, c2, c3, a, b, l, m, z⟩ := n
    dsimp only at hk hlf hls
    have h34 : k = 3 ∨ k = 4 → Calls Try.prog 72 #[ndV ⟨k, c0, c1, c2, c3, a, b, l, m, z⟩, .slice ao p cap] w (RetSt w ts p ⟨k, c0, c1, c2, c3, a, b, l, m, z⟩) := by
      intro h3
      have hno : ∀ s1 s : Int, s1 = stA f (p - 1) → s = stA f (s1 - 1) → s1 ≤ p → -1 ≤ s1 → s < 0 → (stepT ts p ⟨k, c0, c1, c2, c3, a, b, l, m, z⟩) = none → Calls Try.prog 72 #[ndV ⟨k, c0, c1, c2, c3, a, b, l, m, z⟩, .slice ao p cap] w (RetSt w ts p ⟨k, c0, c1, c2, c3, a, b, l, m, z⟩) := by
        intro s1 s e1 e2 h1 h2 h4 h5
        rcases h3 with rfl | rfl
        · exact (startOf_3n c0 c1 c2 c3 a b l m z ao p cap f w hr hpi s1 s e1 e2 h1 h2 h4).mono fun e w' h => h.st (by rw [h5]; rfl) (fun u r hu => by rw [h5] at hu; cases hu)
        · exact (startOf_4n c0 c1 c2 c3 a b l m z ao p cap f w hr hpi s1 s e1 e2 h1 h2 h4).mono fun e w' h => h.st (by rw [h5]; rfl) (fun u r hu => by rw [h5] at hu; cases hu)
      match ts, hsz, hf, hno with
      | [], hsz, hf, hno =>
        have : p = 0 := by rw [← hsz]; rfl
        subst this
        exact hno (-1) (-1) (by simp [stA]) (by simp [stA]) (by omega) (by omega) (by omega) (by unfold stepT; rw [if_pos h3])
      | [y], hsz, hf, hno =>
        have sy := y.size_pos
        rw [sizeF_cons] at hsz
        have hz : sizeF [] = 0 := rfl
        have e1 := hf _ _ (ofF_top y [])
        have e2 : stA f (p - 1) = 0 := by
          unfold stA
          rw [if_neg (by omega), show ((p : Int) - 1).toNat = sizeF [] + y.size - 1 by omega, e1]; omega
        exact hno 0 (-1) e2.symm (by simp [stA]) (by omega) (by omega) (by omega) (by unfold stepT; rw [if_pos h3])
      | y :: x :: r, hsz, hf, _ =>
        have sy := y.size_pos
        have sx := x.size_pos
        rw [sizeF_cons, sizeF_cons] at hsz
        have e1 := hf _ _ (ofF_top y (x :: r))
        rw [sizeF_cons] at e1
        have e2 := hf _ _ (ofF_next y x r)
        have g1 : stA f (p - 1) = (p : Int) - y.size := by
          unfold stA
          rw [if_neg (by omega), show ((p : Int) - 1).toNat = sizeF r + x.size + y.size - 1 by omega, e1]; omega
        have g2 : stA f ((p : Int) - y.size - 1) = sizeF r := by
          unfold stA
          rw [if_neg (by omega), show ((p : Int) - y.size - 1).toNat = sizeF r + x.size - 1 by omega, e2]; omega
        have e4 : stepT (y :: x :: r) p ⟨k, c0, c1, c2, c3, a, b, l, m, z⟩ = if Nd.eq ⟨k, c0, c1, c2, c3, a, b, l, m, z⟩ ⟨k, 0, 0, 0, 0, (p : Int) - y.size - 1, p - 1, 0, 0, false⟩ = true then some (.two k x y :: r) else none := by
          have ey : (Tre.two k x y).nd p = ⟨k, 0, 0, 0, 0, (p : Int) - y.size - 1, p - 1, 0, 0, false⟩ := by simp only [Tre.nd, Nd.mk.injEq, true_and, and_true]; omega
          unfold stepT
          rw [if_pos h3]
          show (if Nd.eq _ ((Tre.two k x y).nd p) = true then some (Tre.two k x y :: r) else none) = _
          rw [ey]
        have hb : (stepT (y :: x :: r) p ⟨k, c0, c1, c2, c3, a, b, l, m, z⟩).isSome = Nd.eq ⟨k, c0, c1, c2, c3, a, b, l, m, z⟩ ⟨k, 0, 0, 0, 0, (p : Int) - y.size - 1, p - 1, 0, 0, false⟩ := by
          rw [e4]
          cases Nd.eq ⟨k, c0, c1, c2, c3, a, b, l, m, z⟩ ⟨k, 0, 0, 0, 0, (p : Int) - y.size - 1, p - 1, 0, 0, false⟩ <;> rfl
        have hs : ∀ u r', stepT (y :: x :: r) p ⟨k, c0, c1, c2, c3, a, b, l, m, z⟩ = some (u :: r') → ((sizeF r : Nat) : Int) = (p : Int) + 1 - u.size := by
          intro u r' hu
          rw [e4] at hu
          split at hu
          · obtain ⟨rfl, _⟩ := List.cons.inj (Option.some.inj hu)
            simp only [Tre.size]; omega
          · cases hu
        rcases h3 with rfl | rfl
        · exact (startOf_3 c0 c1 c2 c3 a b l m z ao p cap f w hr hpi _ _ g1.symm g2.symm (by omega) (by omega) (by omega)).mono fun e w' h => h.st hb hs
        · exact (startOf_4 c0 c1 c2 c3 a b l m z ao p cap f w hr hpi _ _ g1.symm g2.symm (by omega) (by omega) (by omega)).mono fun e w' h => h.st hb hs
    have hc : k = 1 ∨ k = 2 ∨ k = 3 ∨ k = 4 ∨ k = 5 ∨ k = 6 ∨ k = 7 := by omega
    rcases hc with rfl | rfl | rfl | rfl | rfl | rfl | rfl
    · exact (startOf_1 c0 c1 c2 c3 a b l m z ao p cap w).mono fun e w' h => h.st (by rw [hls (by decide)]; exact lf_1 (.inl rfl)) (fun u r => hlf u r (by decide))
    · exact (startOf_2 c0 c1 c2 c3 a b l m z ao p cap w).mono fun e w' h => h.st (by rw [hls (by decide)]; exact lf_2 rfl) (fun u r => hlf u r (by decide))
    · exact h34 (.inl rfl)
    · exact h34 (.inr rfl)
    · clear h34 hlf hls
      cases hm : Tre.mayR l m with
      | false =>
        have h5 : stepT ts p ⟨5, c0, c1, c2, c3, a, b, l, m, z⟩ = none := by
          unfold stepT
          rw [if_neg (by simp), if_pos rfl]
          split
          · rw [if_neg (by simp [hm])]
          · rfl
        exact (startOf_5m c0 c1 c2 c3 a b l m z ao p cap f w hr hpi _ rfl hm).mono fun e w' h => h.st (by rw [h5]; rfl) (fun u r hu => by rw [h5] at hu; cases hu)
      | true =>
        match ts, hsz, hf with
        | [], hsz, hf =>
          have : p = 0 := by rw [← hsz]; rfl
          subst this
          have h5 : stepT [] 0 ⟨5, c0, c1, c2, c3, a, b, l, m, z⟩ = none := by
            unfold stepT
            rw [if_neg (by simp), if_pos rfl]
          exact (startOf_5n c0 c1 c2 c3 a b l m z ao 0 cap f w hr hpi (-1) (by simp [stA]) hm (by omega)).mono fun e w' h => h.st (by rw [h5]; rfl) (fun u r hu => by rw [h5] at hu; cases hu)
        | x :: r, hsz, hf =>
          have sx := x.size_pos
          rw [sizeF_cons] at hsz
          have e1 := hf _ _ (ofF_top x r)
          have g1 : stA f (p - 1) = sizeF r := by
            unfold stA
            rw [if_neg (by omega), show ((p : Int) - 1).toNat = sizeF r + x.size - 1 by omega, e1]; omega
          have e4 : stepT (x :: r) p ⟨5, c0, c1, c2, c3, a, b, l, m, z⟩ = if Nd.eq ⟨5, c0, c1, c2, c3, a, b, l, m, z⟩ ⟨5, 0, 0, 0, 0, p - 1, 0, l, m, z⟩ = true then some (.rep x l m z :: r) else none := by
            unfold stepT
            rw [if_neg (by simp), if_pos rfl]
            simp only [Tre.nd, hm, Bool.true_and]
          have hb : (stepT (x :: r) p ⟨5, c0, c1, c2, c3, a, b, l, m, z⟩).isSome = Nd.eq ⟨5, c0, c1, c2, c3, a, b, l, m, z⟩ ⟨5, 0, 0, 0, 0, p - 1, 0, l, m, z⟩ := by
            rw [e4]
            cases Nd.eq ⟨5, c0, c1, c2, c3, a, b, l, m, z⟩ ⟨5, 0, 0, 0, 0, p - 1, 0, l, m, z⟩ <;> rfl
          exact (startOf_5 c0 c1 c2 c3 a b l m z ao p cap f w hr hpi _ g1.symm hm (by omega)).mono fun e w' h => h.st hb (by
            intro u r' hu
            rw [e4] at hu
            split at hu
            · obtain ⟨rfl, _⟩ := List.cons.inj (Option.some.inj hu)
              simp only [Tre.size]; omega
            · cases hu)
    · exact (startOf_6 c0 c1 c2 c3 a b l m z ao p cap w).mono fun e w' h => h.st (by rw [hls (by decide)]; exact lf_1 (.inr (.inl rfl))) (fun u r => hlf u r (by decide))
    · exact (startOf_7 c0 c1 c2 c3 a b l m z ao p cap w).mono fun e w' h => h.st (by rw [hls (by decide)]; exact lf_1 (.inr (.inr rfl))) (fun u r => hlf u r (by decide))
  · have h5 : stepT ts p n = none := by
      rw [stepT_lf ts p n (by omega), if_neg]
      intro h
      have := lf_kind h
      omega
    obtain ⟨k, c0, c1, c2, c3, a, b, l, m, z⟩ := n
    exact (startOf_no k c0 c1 c2 c3 a b l m z ao p cap w hk).mono fun e w' h => h.st (by rw [h5]; rfl) (fun u r hu => by rw [h5] at hu; cases hu)
def bareN (n : Nd) : Nd := if n.k = 2 then ⟨2, n.c0, n.c1, n.c2, n.c3, 0, 0, 0, 0, false⟩ else if n.k = 3 ∨ n.k = 4 then ⟨n.k, 0, 0, 0, 0, n.a, n.b, 0, 0, false⟩ else if n.k = 5 then ⟨5, 0, 0, 0, 0, n.a, 0, n.l, n.m, n.z⟩ else ⟨n.k, 0, 0, 0, 0, 0, 0, 0, 0, false⟩
theorem below3 (w : World) (o o' o'' : Obj) : Below w.heap.size w (((w.alloc o).alloc o').alloc o'') := (below2 w o o').alloc (by simp; omega) _
set_option maxRecDepth 10000 in
set_option maxHeartbeats 1000000 in
theorem bare_any (n : Nd) (w : World) : Calls Try.prog 73 #[ndV n] w fun e w' => e = .returned (ndV (bareN n)) ∧ Below w.heap.size w w' := by
  obtain ⟨k, c0, c1, c2, c3, a, b, l, m, z⟩ := n
  by_cases h2 : k = 2
  · subst h2
    have e : bareN ⟨2, c0, c1, c2, c3, a, b, l, m, z⟩ = ⟨2, c0, c1, c2, c3, 0, 0, 0, 0, false⟩ := by simp [bareN]
    rw [e]
    unfold ndV
    dsimp only
    go_enter Try.func73, Try.ntmps73
    go_wp2
    exact bodyPost_ret (by simp [results, Try.results73, go_sem]) rfl ⟨rfl, below3 _ _ _ _⟩
  by_cases h3 : k = 3
  · subst h3
    have e : bareN ⟨3, c0, c1, c2, c3, a, b, l, m, z⟩ = ⟨3, 0, 0, 0, 0, a, b, 0, 0, false⟩ := by simp [bareN]
    rw [e]
    unfold ndV
    dsimp only
    go_enter Try.func73, Try.ntmps73
    go_wp2
    exact bodyPost_ret (by simp [results, Try.results73, go_sem]) rfl ⟨rfl, below3 _ _ _ _⟩
  by_cases h4 : k = 4
  · subst h4
    have e : bareN ⟨4, c0, c1, c2, c3, a, b, l, m, z⟩ = ⟨4, 0, 0, 0, 0, a, b, 0, 0, false⟩ := by simp [bareN]
    rw [e]
    unfold ndV
    dsimp only
    go_enter Try.func73, Try.ntmps73
    go_wp2
    exact bodyPost_ret (by simp [results, Try.results73, go_sem]) rfl ⟨rfl, below3 _ _ _ _⟩
  by_cases h5 : k = 5
  · subst h5
    have e : bareN ⟨5, c0, c1, c2, c3, a, b, l, m, z⟩ = ⟨5, 0, 0, 0, 0, a, 0, l, m, z⟩ := by simp [bareN]
    rw [e]
    unfold ndV
    dsimp only
    go_enter Try.func73, Try.ntmps73
    go_wp2
    exact bodyPost_ret (by simp [results, Try.results73, go_sem]) rfl ⟨rfl, below3 _ _ _ _⟩
  have e : bareN ⟨k, c0, c1, c2, c3, a, b, l, m, z⟩ = ⟨k, 0, 0, 0, 0, 0, 0, 0, 0, false⟩ := by simp [bareN, h2, h3, h4, h5]
  rw [e]
  unfold ndV
  dsimp only
  have e2 : (k == 2) = false := by simpa using h2
  have e3 : (k == 3) = false := by simpa using h3
  have e4 : (k == 4) = false := by simpa using h4
  have e5 : (k == 5) = false := by simpa using h5
  clear h2 h3 h4 h5
  go_enter Try.func73, Try.ntmps73
  go_wp2
  exact bodyPost_ret (by simp [results, Try.results73, go_sem]) rfl ⟨rfl, below3 _ _ _ _⟩
/-- A node is its kind's own, by the reference's test, just as the scan has it. -/
theorem bare_lf {n : Nd} (h : 1 ≤ n.k ∧ n.k ≤ 7) (h3 : n.k ≠ 3 ∧ n.k ≠ 4 ∧ n.k ≠ 5) : n.eq (bareN n) = Tre.lf n := by
  unfold bareN
  by_cases h2 : n.k = 2
  · rw [if_pos h2, lf_2 h2]
  · rw [if_neg h2, if_neg (by omega), if_neg h3.2.2, lf_1 (by omega)]
def tm (a b : Int) : Int := if a = 0 ∨ b = 0 then 0 else if a = -1 ∨ b = -1 then -1 else if a > (1073741824 : Int).tdiv b then 1073741824 else a * b
end Go.Proofs.Ytobgmgpclcfkcaa.T
