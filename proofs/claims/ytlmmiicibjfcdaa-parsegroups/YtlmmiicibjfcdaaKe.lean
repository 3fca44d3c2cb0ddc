/- token: count: the walk. -/
import Derived.Test.YtlmmiicibjfcdaaKd
import Derived.ScopeJumps
import Derived.WalkMore
namespace Go.Proofs.Ytlmmiicibjfcdaa
open Go.RowKit
/-- A scope in which the run jumps at most once, ahead. -/
theorem wp_scope_once {P : Program} {c rest : Code} {Q : Exit → Act → World → Prop} {a : Act} {w : World} (l : Nat) (hf : findLabel c l = some rest)
    (h : c.wp P (Exit.jump l (fun a w => rest.wp P (Exit.noGoto Q) a w) Q) a w) : (Code.scope c).wp P Q a w := by
  refine wp_scope_jumps l (fun a w => rest.wp P (Exit.noGoto Q) a w) (fun _ _ => 0) hf h fun a w hJ => ?_
  refine Code.wp_mono ?_ hJ
  intro e a' w' hq
  cases e <;> first | exact hq | exact hq.elim
theorem numG_le (z : Nat → Nat) (n : Nat) : ∀ f k v, k ≤ n → v ≤ 10009 → k ≤ (numG z n f k v).2 ∧ (numG z n f k v).2 ≤ n ∧ (numG z n f k v).1 ≤ 10009 := by
  intro f
  induction f with
  | zero => intro k v h1 h2; exact ⟨Nat.le_refl _, h1, h2⟩
  | succ f ih =>
    intro k v h1 h2
    rw [numG]
    split
    · rename_i h
      simp only [Bool.and_eq_true, decide_eq_true_eq] at h
      have hd : z k - 48 ≤ 9 := by have := h.1.2; unfold digP at this; simp at this; omega
      have := ih (k + 1) (v * 10 + (z k - 48)) (by omega) (by omega)
      exact ⟨by omega, this.2⟩
    · exact ⟨Nat.le_refl _, h1, h2⟩
theorem numR_le (z : Nat → Nat) (n k : Nat) (h : k ≤ n) : k ≤ (numR z n k).2 ∧ (numR z n k).2 ≤ n ∧ (numR z n k).1 ≤ 10009 := numG_le z n _ k 0 h (by omega)
/-- What stands behind a brace: least, most, the place behind it, and the error. -/
def cntV (z : Nat → Nat) (n fr : Nat) : Int × Int × Nat × Int :=
  if numOk z n (fr + 1) = false then (0, 0, fr, 43)
  else if hasP z n (numR z n (fr + 1)).2 125 = true then ((numR z n (fr + 1)).1, (numR z n (fr + 1)).1, (numR z n (fr + 1)).2 + 1, 0)
  else if hasP z n (numR z n (fr + 1)).2 44 = false then (0, 0, fr, 43)
  else if hasP z n ((numR z n (fr + 1)).2 + 1) 125 = true then ((numR z n (fr + 1)).1, -1, (numR z n (fr + 1)).2 + 2, 0)
  else if numOk z n ((numR z n (fr + 1)).2 + 1) = false then (0, 0, fr, 43)
  else if repP (numR z n (fr + 1)).1 (numR z n ((numR z n (fr + 1)).2 + 1)).1 = false then (0, 0, fr, 43)
  else if hasP z n (numR z n ((numR z n (fr + 1)).2 + 1)).2 125 = false then (0, 0, fr, 43)
  else ((numR z n (fr + 1)).1, (numR z n ((numR z n (fr + 1)).2 + 1)).1, (numR z n ((numR z n (fr + 1)).2 + 1)).2 + 1, 0)
def RetCt (w : World) (v : Int × Int × Nat × Int) (e : Ending) (w' : World) : Prop := e = .returned (.tuple #[.int .i64 v.1, .int .i64 v.2.1, markV v.2.2.1 v.2.2.2]) ∧ Below w.heap.size w w'
theorem bel1 (w : World) (o : Obj) : Below w.heap.size w (w.alloc o) := (Below.refl _ _).alloc (Nat.le_refl _) _
set_option maxRecDepth 10000 in
set_option maxHeartbeats 2000000 in
theorem count_any (ao : Option Addr) (n cap fr : Nat) (z : Nat → Nat) (w : World) (hr : Rd w ao n z) (hn : (n : Int) ≤ 1024) (ha : fr < n) : Calls Try.prog 102 #[.slice ao n cap, .int .i64 (fr : Nat)] w (RetCt w (cntV z n fr)) := by
  have hN1 := fun W (hb : Below w.heap.size w W) => knumber_any ao n cap (fr + 1) z W (hr.below hb) hn (by omega)
  obtain ⟨hk1, hk2, hv1⟩ := numR_le z n (fr + 1) (by omega)
  have hH1 := fun W (hb : Below w.heap.size w W) => has_any ao n cap (numR z n (fr + 1)).2 125 z W (hr.below hb)
  have hH2 := fun W (hb : Below w.heap.size w W) => has_any ao n cap (numR z n (fr + 1)).2 44 z W (hr.below hb)
  have hH3 := fun W (hb : Below w.heap.size w W) => has_any ao n cap ((numR z n (fr + 1)).2 + 1) 125 z W (hr.below hb)
  have hlt : hasP z n (numR z n (fr + 1)).2 44 = true → (numR z n (fr + 1)).2 < n := fun h => by unfold hasP at h; simp at h; omega
  have hN2 := fun (h : (numR z n (fr + 1)).2 < n) W (hb : Below w.heap.size w W) => knumber_any ao n cap ((numR z n (fr + 1)).2 + 1) z W (hr.below hb) hn (by omega)
  have hL2 := fun (h : (numR z n (fr + 1)).2 < n) => numR_le z n ((numR z n (fr + 1)).2 + 1) (by omega)
  have hH4 := fun W (hb : Below w.heap.size w W) => has_any ao n cap (numR z n ((numR z n (fr + 1)).2 + 1)).2 125 z W (hr.below hb)
  unfold cntV
  generalize hv : (numR z n (fr + 1)).1 = v at *
  generalize hk : (numR z n (fr + 1)).2 = k at *
  generalize hx : (numR z n (k + 1)).1 = x at *
  generalize hy : (numR z n (k + 1)).2 = y at *
  have hM := fun W => mayRepeat_any (v : Int) (x : Int) W
  generalize numOk z n (fr + 1) = o1 at *
  generalize numOk z n (k + 1) = o2 at *
  generalize hasP z n k 125 = q1 at *
  generalize hasP z n k 44 = q2 at *
  generalize hasP z n (k + 1) 125 = q3 at *
  generalize hasP z n y 125 = q4 at *
  generalize repP (v : Int) (x : Int) = q5 at *
  clear hv hk hx hy hr
  cases o1 with
  | false =>
    rw [if_pos rfl]
    have N1 : Hid (∀ W, Below w.heap.size w W → Calls Try.prog 122 #[.slice ao n cap, .int .i64 ((fr : Int) + 1)] W fun e w' => e = .returned (.tuple #[.int .i64 (v : Nat), .int .i64 (k : Nat), .bool false]) ∧ w' = W) := hN1
    clear hN1 hH1 hH2 hH3 hlt hN2 hL2 hH4 hM
    go_enter Try.func102, Try.ntmps102
    go_wp2_with fail
    refine wp_scope_once 0 rfl ?_
    go_wp2_with fail
    refine (N1.out _ (bel1 _ _)).mono ?_
    rintro e w1 ⟨rfl, rfl⟩
    go_wp2_with fail
    go_step3
    refine And.intro rfl ?_
    go_wp2
    rw [Exit.noGoto_ret]
    exact bodyPost_ret (v := .tuple #[.int .i64 0, .int .i64 0, markV fr 43]) (by simp [results, Try.results102, go_sem, markV]) rfl ⟨rfl, bel1 _ _⟩
  | true =>
    rw [if_neg (by decide)]
    cases q1 with
    | true =>
      rw [if_pos rfl]
      have N1 : Hid (∀ W, Below w.heap.size w W → Calls Try.prog 122 #[.slice ao n cap, .int .i64 ((fr : Int) + 1)] W fun e w' => e = .returned (.tuple #[.int .i64 (v : Nat), .int .i64 (k : Nat), .bool true]) ∧ w' = W) := hN1
      have H1 : Hid (∀ W, Below w.heap.size w W → Calls Try.prog 99 #[.slice ao n cap, .int .i64 (k : Nat), .int .u8 125] W fun e w' => e = .returned (.bool true) ∧ w' = W) := hH1
      clear hN1 hH1 hH2 hH3 hlt hN2 hL2 hH4 hM
      go_enter Try.func102, Try.ntmps102
      go_wp2_with fail
      refine wp_scope_once 1 rfl ?_
      go_wp2_with fail
      refine (N1.out _ (bel1 _ _)).mono ?_
      rintro e w1 ⟨rfl, rfl⟩
      go_wp2_with fail
      refine (H1.out _ (bel1 _ _)).mono ?_
      rintro e w1 ⟨rfl, rfl⟩
      go_wp2_with fail
      go_step3
      refine And.intro rfl ?_
      go_wp2
      rw [Exit.noGoto_ret]
      exact bodyPost_ret (v := .tuple #[.int .i64 (v : Nat), .int .i64 (v : Nat), markV (k + 1) 0]) (by simp [results, Try.results102, go_sem, markV]) rfl ⟨rfl, bel1 _ _⟩
    | false =>
      rw [if_neg (by decide)]
      cases q2 with
      | false =>
        rw [if_pos rfl]
        have N1 : Hid (∀ W, Below w.heap.size w W → Calls Try.prog 122 #[.slice ao n cap, .int .i64 ((fr : Int) + 1)] W fun e w' => e = .returned (.tuple #[.int .i64 (v : Nat), .int .i64 (k : Nat), .bool true]) ∧ w' = W) := hN1
        have H1 : Hid (∀ W, Below w.heap.size w W → Calls Try.prog 99 #[.slice ao n cap, .int .i64 (k : Nat), .int .u8 125] W fun e w' => e = .returned (.bool false) ∧ w' = W) := hH1
        have H2 : Hid (∀ W, Below w.heap.size w W → Calls Try.prog 99 #[.slice ao n cap, .int .i64 (k : Nat), .int .u8 44] W fun e w' => e = .returned (.bool false) ∧ w' = W) := hH2
        clear hN1 hH1 hH2 hH3 hlt hN2 hL2 hH4 hM
        go_enter Try.func102, Try.ntmps102
        go_wp2_with fail
        refine wp_scope_once 0 rfl ?_
        go_wp2_with fail
        refine (N1.out _ (bel1 _ _)).mono ?_
        rintro e w1 ⟨rfl, rfl⟩
        go_wp2_with fail
        refine (H1.out _ (bel1 _ _)).mono ?_
        rintro e w1 ⟨rfl, rfl⟩
        go_wp2_with fail
        refine (H2.out _ (bel1 _ _)).mono ?_
        rintro e w1 ⟨rfl, rfl⟩
        go_wp2_with fail
        go_step3
        refine And.intro rfl ?_
        go_wp2
        rw [Exit.noGoto_ret]
        exact bodyPost_ret (v := .tuple #[.int .i64 0, .int .i64 0, markV fr 43]) (by simp [results, Try.results102, go_sem, markV]) rfl ⟨rfl, bel1 _ _⟩
      | true =>
        rw [if_neg (by decide)]
        have hkn := hlt rfl
        obtain ⟨hy1, hy2, hy3⟩ := hL2 hkn
        cases q3 with
        | true =>
          rw [if_pos rfl]
          have N1 : Hid (∀ W, Below w.heap.size w W → Calls Try.prog 122 #[.slice ao n cap, .int .i64 ((fr : Int) + 1)] W fun e w' => e = .returned (.tuple #[.int .i64 (v : Nat), .int .i64 (k : Nat), .bool true]) ∧ w' = W) := hN1
          have H1 : Hid (∀ W, Below w.heap.size w W → Calls Try.prog 99 #[.slice ao n cap, .int .i64 (k : Nat), .int .u8 125] W fun e w' => e = .returned (.bool false) ∧ w' = W) := hH1
          have H2 : Hid (∀ W, Below w.heap.size w W → Calls Try.prog 99 #[.slice ao n cap, .int .i64 (k : Nat), .int .u8 44] W fun e w' => e = .returned (.bool true) ∧ w' = W) := hH2
          have H3 : Hid (∀ W, Below w.heap.size w W → Calls Try.prog 99 #[.slice ao n cap, .int .i64 ((k : Int) + 1), .int .u8 125] W fun e w' => e = .returned (.bool true) ∧ w' = W) := hH3
          clear hN1 hH1 hH2 hH3 hlt hN2 hL2 hH4 hM
          go_enter Try.func102, Try.ntmps102
          go_wp2_with fail
          refine wp_scope_once 1 rfl ?_
          go_wp2_with fail
          refine (N1.out _ (bel1 _ _)).mono ?_
          rintro e w1 ⟨rfl, rfl⟩
          go_wp2_with fail
          refine (H1.out _ (bel1 _ _)).mono ?_
          rintro e w1 ⟨rfl, rfl⟩
          go_wp2_with fail
          refine (H2.out _ (bel1 _ _)).mono ?_
          rintro e w1 ⟨rfl, rfl⟩
          go_wp2_with fail
          refine (H3.out _ (bel1 _ _)).mono ?_
          rintro e w1 ⟨rfl, rfl⟩
          go_wp2_with fail
          go_step3
          refine And.intro rfl ?_
          go_wp2
          rw [Exit.noGoto_ret]
          exact bodyPost_ret (v := .tuple #[.int .i64 (v : Nat), .int .i64 (-1), markV (k + 2) 0]) (by simp [results, Try.results102, go_sem, markV]; omega) rfl ⟨rfl, bel1 _ _⟩
        | false =>
          rw [if_neg (by decide)]
          cases o2 with
          | false =>
            rw [if_pos rfl]
            have N1 : Hid (∀ W, Below w.heap.size w W → Calls Try.prog 122 #[.slice ao n cap, .int .i64 ((fr : Int) + 1)] W fun e w' => e = .returned (.tuple #[.int .i64 (v : Nat), .int .i64 (k : Nat), .bool true]) ∧ w' = W) := hN1
            have H1 : Hid (∀ W, Below w.heap.size w W → Calls Try.prog 99 #[.slice ao n cap, .int .i64 (k : Nat), .int .u8 125] W fun e w' => e = .returned (.bool false) ∧ w' = W) := hH1
            have H2 : Hid (∀ W, Below w.heap.size w W → Calls Try.prog 99 #[.slice ao n cap, .int .i64 (k : Nat), .int .u8 44] W fun e w' => e = .returned (.bool true) ∧ w' = W) := hH2
            have H3 : Hid (∀ W, Below w.heap.size w W → Calls Try.prog 99 #[.slice ao n cap, .int .i64 ((k : Int) + 1), .int .u8 125] W fun e w' => e = .returned (.bool false) ∧ w' = W) := hH3
            have N2 : Hid (∀ W, Below w.heap.size w W → Calls Try.prog 122 #[.slice ao n cap, .int .i64 ((k : Int) + 1)] W fun e w' => e = .returned (.tuple #[.int .i64 (x : Nat), .int .i64 (y : Nat), .bool false]) ∧ w' = W) := hN2 hkn
            clear hN1 hH1 hH2 hH3 hlt hN2 hL2 hH4 hM
            go_enter Try.func102, Try.ntmps102
            go_wp2_with fail
            refine wp_scope_once 0 rfl ?_
            go_wp2_with fail
            refine (N1.out _ (bel1 _ _)).mono ?_
            rintro e w1 ⟨rfl, rfl⟩
            go_wp2_with fail
            refine (H1.out _ (bel1 _ _)).mono ?_
            rintro e w1 ⟨rfl, rfl⟩
            go_wp2_with fail
            refine (H2.out _ (bel1 _ _)).mono ?_
            rintro e w1 ⟨rfl, rfl⟩
            go_wp2_with fail
            refine (H3.out _ (bel1 _ _)).mono ?_
            rintro e w1 ⟨rfl, rfl⟩
            go_wp2_with fail
            refine (N2.out _ (bel1 _ _)).mono ?_
            rintro e w1 ⟨rfl, rfl⟩
            go_wp2_with fail
            go_step3
            refine And.intro rfl ?_
            go_wp2
            rw [Exit.noGoto_ret]
            exact bodyPost_ret (v := .tuple #[.int .i64 0, .int .i64 0, markV fr 43]) (by simp [results, Try.results102, go_sem, markV]) rfl ⟨rfl, bel1 _ _⟩
          | true =>
            rw [if_neg (by decide)]
            cases q5 with
            | false =>
              rw [if_pos rfl]
              have N1 : Hid (∀ W, Below w.heap.size w W → Calls Try.prog 122 #[.slice ao n cap, .int .i64 ((fr : Int) + 1)] W fun e w' => e = .returned (.tuple #[.int .i64 (v : Nat), .int .i64 (k : Nat), .bool true]) ∧ w' = W) := hN1
              have H1 : Hid (∀ W, Below w.heap.size w W → Calls Try.prog 99 #[.slice ao n cap, .int .i64 (k : Nat), .int .u8 125] W fun e w' => e = .returned (.bool false) ∧ w' = W) := hH1
              have H2 : Hid (∀ W, Below w.heap.size w W → Calls Try.prog 99 #[.slice ao n cap, .int .i64 (k : Nat), .int .u8 44] W fun e w' => e = .returned (.bool true) ∧ w' = W) := hH2
              have H3 : Hid (∀ W, Below w.heap.size w W → Calls Try.prog 99 #[.slice ao n cap, .int .i64 ((k : Int) + 1), .int .u8 125] W fun e w' => e = .returned (.bool false) ∧ w' = W) := hH3
              have N2 : Hid (∀ W, Below w.heap.size w W → Calls Try.prog 122 #[.slice ao n cap, .int .i64 ((k : Int) + 1)] W fun e w' => e = .returned (.tuple #[.int .i64 (x : Nat), .int .i64 (y : Nat), .bool true]) ∧ w' = W) := hN2 hkn
              have M : Hid (∀ W, Calls Try.prog 64 #[.int .i64 (v : Nat), .int .i64 (x : Nat)] W fun e w' => e = .returned (.bool false) ∧ w' = W) := hM
              clear hN1 hH1 hH2 hH3 hlt hN2 hL2 hH4 hM
              go_enter Try.func102, Try.ntmps102
              go_wp2_with fail
              refine wp_scope_once 0 rfl ?_
              go_wp2_with fail
              refine (N1.out _ (bel1 _ _)).mono ?_
              rintro e w1 ⟨rfl, rfl⟩
              go_wp2_with fail
              refine (H1.out _ (bel1 _ _)).mono ?_
              rintro e w1 ⟨rfl, rfl⟩
              go_wp2_with fail
              refine (H2.out _ (bel1 _ _)).mono ?_
              rintro e w1 ⟨rfl, rfl⟩
              go_wp2_with fail
              refine (H3.out _ (bel1 _ _)).mono ?_
              rintro e w1 ⟨rfl, rfl⟩
              go_wp2_with fail
              refine (N2.out _ (bel1 _ _)).mono ?_
              rintro e w1 ⟨rfl, rfl⟩
              go_wp2_with fail
              refine (M.out _).mono ?_
              rintro e w1 ⟨rfl, rfl⟩
              go_wp2_with fail
              go_step3
              refine And.intro rfl ?_
              go_wp2
              rw [Exit.noGoto_ret]
              exact bodyPost_ret (v := .tuple #[.int .i64 0, .int .i64 0, markV fr 43]) (by simp [results, Try.results102, go_sem, markV]) rfl ⟨rfl, bel1 _ _⟩
            | true =>
              rw [if_neg (by decide)]
              cases q4 with
              | false =>
                rw [if_pos rfl]
                have N1 : Hid (∀ W, Below w.heap.size w W → Calls Try.prog 122 #[.slice ao n cap, .int .i64 ((fr : Int) + 1)] W fun e w' => e = .returned (.tuple #[.int .i64 (v : Nat), .int .i64 (k : Nat), .bool true]) ∧ w' = W) := hN1
                have H1 : Hid (∀ W, Below w.heap.size w W → Calls Try.prog 99 #[.slice ao n cap, .int .i64 (k : Nat), .int .u8 125] W fun e w' => e = .returned (.bool false) ∧ w' = W) := hH1
                have H2 : Hid (∀ W, Below w.heap.size w W → Calls Try.prog 99 #[.slice ao n cap, .int .i64 (k : Nat), .int .u8 44] W fun e w' => e = .returned (.bool true) ∧ w' = W) := hH2
                have H3 : Hid (∀ W, Below w.heap.size w W → Calls Try.prog 99 #[.slice ao n cap, .int .i64 ((k : Int) + 1), .int .u8 125] W fun e w' => e = .returned (.bool false) ∧ w' = W) := hH3
                have N2 : Hid (∀ W, Below w.heap.size w W → Calls Try.prog 122 #[.slice ao n cap, .int .i64 ((k : Int) + 1)] W fun e w' => e = .returned (.tuple #[.int .i64 (x : Nat), .int .i64 (y : Nat), .bool true]) ∧ w' = W) := hN2 hkn
                have M : Hid (∀ W, Calls Try.prog 64 #[.int .i64 (v : Nat), .int .i64 (x : Nat)] W fun e w' => e = .returned (.bool true) ∧ w' = W) := hM
                have H4 : Hid (∀ W, Below w.heap.size w W → Calls Try.prog 99 #[.slice ao n cap, .int .i64 (y : Nat), .int .u8 125] W fun e w' => e = .returned (.bool false) ∧ w' = W) := hH4
                clear hN1 hH1 hH2 hH3 hlt hN2 hL2 hH4 hM
                go_enter Try.func102, Try.ntmps102
                go_wp2_with fail
                refine wp_scope_once 0 rfl ?_
                go_wp2_with fail
                refine (N1.out _ (bel1 _ _)).mono ?_
                rintro e w1 ⟨rfl, rfl⟩
                go_wp2_with fail
                refine (H1.out _ (bel1 _ _)).mono ?_
                rintro e w1 ⟨rfl, rfl⟩
                go_wp2_with fail
                refine (H2.out _ (bel1 _ _)).mono ?_
                rintro e w1 ⟨rfl, rfl⟩
                go_wp2_with fail
                refine (H3.out _ (bel1 _ _)).mono ?_
                rintro e w1 ⟨rfl, rfl⟩
                go_wp2_with fail
                refine (N2.out _ (bel1 _ _)).mono ?_
                rintro e w1 ⟨rfl, rfl⟩
                go_wp2_with fail
                refine (M.out _).mono ?_
                rintro e w1 ⟨rfl, rfl⟩
                go_wp2_with fail
                refine (H4.out _ (bel1 _ _)).mono ?_
                rintro e w1 ⟨rfl, rfl⟩
                go_wp2_with fail
                go_step3
                refine And.intro rfl ?_
                go_wp2
                rw [Exit.noGoto_ret]
                exact bodyPost_ret (v := .tuple #[.int .i64 0, .int .i64 0, markV fr 43]) (by simp [results, Try.results102, go_sem, markV]) rfl ⟨rfl, bel1 _ _⟩
              | true =>
                rw [if_neg (by decide)]
                have N1 : Hid (∀ W, Below w.heap.size w W → Calls Try.prog 122 #[.slice ao n cap, .int .i64 ((fr : Int) + 1)] W fun e w' => e = .returned (.tuple #[.int .i64 (v : Nat), .int .i64 (k : Nat), .bool true]) ∧ w' = W) := hN1
                have H1 : Hid (∀ W, Below w.heap.size w W → Calls Try.prog 99 #[.slice ao n cap, .int .i64 (k : Nat), .int .u8 125] W fun e w' => e = .returned (.bool false) ∧ w' = W) := hH1
                have H2 : Hid (∀ W, Below w.heap.size w W → Calls Try.prog 99 #[.slice ao n cap, .int .i64 (k : Nat), .int .u8 44] W fun e w' => e = .returned (.bool true) ∧ w' = W) := hH2
                have H3 : Hid (∀ W, Below w.heap.size w W → Calls Try.prog 99 #[.slice ao n cap, .int .i64 ((k : Int) + 1), .int .u8 125] W fun e w' => e = .returned (.bool false) ∧ w' = W) := hH3
                have N2 : Hid (∀ W, Below w.heap.size w W → Calls Try.prog 122 #[.slice ao n cap, .int .i64 ((k : Int) + 1)] W fun e w' => e = .returned (.tuple #[.int .i64 (x : Nat), .int .i64 (y : Nat), .bool true]) ∧ w' = W) := hN2 hkn
                have M : Hid (∀ W, Calls Try.prog 64 #[.int .i64 (v : Nat), .int .i64 (x : Nat)] W fun e w' => e = .returned (.bool true) ∧ w' = W) := hM
                have H4 : Hid (∀ W, Below w.heap.size w W → Calls Try.prog 99 #[.slice ao n cap, .int .i64 (y : Nat), .int .u8 125] W fun e w' => e = .returned (.bool true) ∧ w' = W) := hH4
                clear hN1 hH1 hH2 hH3 hlt hN2 hL2 hH4 hM
                go_enter Try.func102, Try.ntmps102
                go_wp2_with fail
                refine wp_scope_once 0 rfl ?_
                go_wp2_with fail
                refine (N1.out _ (bel1 _ _)).mono ?_
                rintro e w1 ⟨rfl, rfl⟩
                go_wp2_with fail
                refine (H1.out _ (bel1 _ _)).mono ?_
                rintro e w1 ⟨rfl, rfl⟩
                go_wp2_with fail
                refine (H2.out _ (bel1 _ _)).mono ?_
                rintro e w1 ⟨rfl, rfl⟩
                go_wp2_with fail
                refine (H3.out _ (bel1 _ _)).mono ?_
                rintro e w1 ⟨rfl, rfl⟩
                go_wp2_with fail
                refine (N2.out _ (bel1 _ _)).mono ?_
                rintro e w1 ⟨rfl, rfl⟩
                go_wp2_with fail
                refine (M.out _).mono ?_
                rintro e w1 ⟨rfl, rfl⟩
                go_wp2_with fail
                refine (H4.out _ (bel1 _ _)).mono ?_
                rintro e w1 ⟨rfl, rfl⟩
                go_wp2_with fail
                go_step3
                go_wp2
                exact bodyPost_ret (v := .tuple #[.int .i64 (v : Nat), .int .i64 (x : Nat), markV (y + 1) 0]) (by simp [results, Try.results102, go_sem, markV]) rfl ⟨rfl, bel1 _ _⟩
end Go.Proofs.Ytlmmiicibjfcdaa
