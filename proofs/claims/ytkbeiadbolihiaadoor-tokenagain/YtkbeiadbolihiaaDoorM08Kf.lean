/- token: count: the walk. token: named, mayClass: the walks. -/
import Derived.Test.YtkbeiadbolihiaaDoorM07Kd
import Derived.ScopeJumps
import Derived.WalkMore
namespace Go.Proofs.YtkbeiadbolihiaaDoor
open Go.RowKit
/-- A scope in which the run jumps at most once, ahead. -/
theorem wp_scope_once {P : Program} {c rest : Code} {Q : Exit → Act → World → Prop} {a : Act} {w : World} (l : Nat) (hf : findLabel c l = some rest)
    (h : c.wp P (Exit.jump l (fun a w => rest.wp P (Exit.noGoto Q) a w) Q) a w) : (Code.scope c).wp P Q a w := by
  refine wp_scope_jumps l (fun a w => rest.wp P (Exit.noGoto Q) a w) (fun _ _ => 0) hf h fun a w hJ => ?_
  refine Code.wp_mono ?_ hJ
  intro e a' w' hq
  cases e <;> first | exact hq | exact hq.elim
theorem numG_le (z : Nat → Nat) (n : Nat) : ∀ f k v, k ≤ n → v ≤ 10009 → k ≤ (numG z n f k v).2 ∧ (numG z n f k v).2 ≤ n ∧ (numG z n f k v).1 ≤ 10009 := by
  intro f
  induction f with
  | zero => intro k v h1 h2; exact ⟨Nat.le_refl _, h1, h2⟩
  | succ f ih =>
    intro k v h1 h2
    rw [numG]
    split
    · rename_i h
      simp only [Bool.and_eq_true, decide_eq_true_eq] at h
      have hd : z k - 48 ≤ 9 := by have := h.1.2; unfold digP at this; simp at this; omega
      have := ih (k + 1) (v * 10 + (z k - 48)) (by omega) (by omega)
      exact ⟨by omega, this.2⟩
    · exact ⟨Nat.le_refl _, h1, h2⟩
theorem numR_le (z : Nat → Nat) (n k : Nat) (h : k ≤ n) : k ≤ (numR z n k).2 ∧ (numR z n k).2 ≤ n ∧ (numR z n k).1 ≤ 10009 := numG_le z n _ k 0 h (by omega)
/-- What stands behind a brace: least, most, the place behind it, and the error. -/
def cntV (z : Nat → Nat) (n fr : Nat) : Int × Int × Nat × Int :=
  if numOk z n (fr + 1) = false then (0, 0, fr, 43)
  else if hasP z n (numR z n (fr + 1)).2 125 = true then ((numR z n (fr + 1)).1, (numR z n (fr + 1)).1, (numR z n (fr + 1)).2 + 1, 0)
  else if hasP z n (numR z n (fr + 1)).2 44 = false then (0, 0, fr, 43)
  else if hasP z n ((numR z n (fr + 1)).2 + 1) 125 = true then ((numR z n (fr + 1)).1, -1, (numR z n (fr + 1)).2 + 2, 0)
  else if numOk z n ((numR z n (fr + 1)).2 + 1) = false then (0, 0, fr, 43)
  else if repP (numR z n (fr + 1)).1 (numR z n ((numR z n (fr + 1)).2 + 1)).1 = false then (0, 0, fr, 43)
  else if hasP z n (numR z n ((numR z n (fr + 1)).2 + 1)).2 125 = false then (0, 0, fr, 43)
  else ((numR z n (fr + 1)).1, (numR z n ((numR z n (fr + 1)).2 + 1)).1, (numR z n ((numR z n (fr + 1)).2 + 1)).2 + 1, 0)
def RetCt (w : World) (v : Int × Int × Nat × Int) (e : Ending) (w' : World) : Prop := e = .returned (.tuple #[.int .i64 v.1, .int .i64 v.2.1, markV v.2.2.1 v.2.2.2]) ∧ Below w.heap.size w w'
theorem bel1 (w : World) (o : Obj) : Below w.heap.size w (w.alloc o) := (Below.refl _ _).alloc (Nat.le_refl _) _
set_option maxRecDepth 10000 in
set_option maxHeartbeats 2000000 in
theorem count_any (ao : Option Addr) (n cap fr : Nat) (z : Nat → Nat) (w : World) (hr : Rd w ao n z) (hn : (n : Int) ≤ 1024) (ha : fr < n) : Calls Tryd.prog 76 #[.slice ao n cap, .int .i64 (fr : Nat)] w (RetCt w (cntV z n fr)) := by
  have hN1 := fun W (hb : Below w.heap.size w W) => knumber_any ao n cap (fr + 1) z W (hr.below hb) hn (by omega)
  obtain ⟨hk1, hk2, hv1⟩ := numR_le z n (fr + 1) (by omega)
  have hH1 := fun W (hb : Below w.heap.size w W) => has_any ao n cap (numR z n (fr + 1)).2 125 z W (hr.below hb)
  have hH2 := fun W (hb : Below w.heap.size w W) => has_any ao n cap (numR z n (fr + 1)).2 44 z W (hr.below hb)
  have hH3 := fun W (hb : Below w.heap.size w W) => has_any ao n cap ((numR z n (fr + 1)).2 + 1) 125 z W (hr.below hb)
  have hlt : hasP z n (numR z n (fr + 1)).2 44 = true → (numR z n (fr + 1)).2 < n := fun h => by unfold hasP at h; simp at h; omega
  have hN2 := fun (h : (numR z n (fr + 1)).2 < n) W (hb : Below w.heap.size w W) => knumber_any ao n cap ((numR z n (fr + 1)).2 + 1) z W (hr.below hb) hn (by omega)
  have hL2 := fun (h : (numR z n (fr + 1)).2 < n) => numR_le z n ((numR z n (fr + 1)).2 + 1) (by omega)
  have hH4 := fun W (hb : Below w.heap.size w W) => has_any ao n cap (numR z n ((numR z n (fr + 1)).2 + 1)).2 125 z W (hr.below hb)
  unfold cntV
  generalize hv : (numR z n (fr + 1)).1 = v at *
  generalize hk : (numR z n (fr + 1)).2 = k at *
  generalize hx : (numR z n (k + 1)).1 = x at *
  generalize hy : (numR z n (k + 1)).2 = y at *
  have hM := fun W => mayRepeat_any (v : Int) (x : Int) W
  generalize numOk z n (fr + 1) = o1 at *
  generalize numOk z n (k + 1) = o2 at *
  generalize hasP z n k 125 = q1 at *
  generalize hasP z n k 44 = q2 at *
  generalize hasP z n (k + 1) 125 = q3 at *
  generalize hasP z n y 125 = q4 at *
  generalize repP (v : Int) (x : Int) = q5 at *
  clear hv hk hx hy hr
  cases o1 with
  | false =>
    rw [if_pos rfl]
    have N1 : Hid (∀ W, Below w.heap.size w W → Calls Tryd.prog 87 #[.slice ao n cap, .int .i64 ((fr : Int) + 1)] W fun e w' => e = .returned (.tuple #[.int .i64 (v : Nat), .int .i64 (k : Nat), .bool false]) ∧ w' = W) := hN1
    clear hN1 hH1 hH2 hH3 hlt hN2 hL2 hH4 hM
    go_enter Tryd.func76, Tryd.ntmps76
    go_wp2_with fail
    refine wp_scope_once 0 rfl ?_
    go_wp2_with fail
    refine (N1.out _ (bel1 _ _)).mono ?_
    rintro e w1 ⟨rfl, rfl⟩
    go_wp2_with fail
    go_step3
    refine And.intro rfl ?_
    go_wp2
    rw [Exit.noGoto_ret]
    exact bodyPost_ret (v := .tuple #[.int .i64 0, .int .i64 0, markV fr 43]) (by simp [results, Tryd.results76, go_sem, markV]) rfl ⟨rfl, bel1 _ _⟩
  | true =>
    rw [if_neg (by decide)]
    cases q1 with
    | true =>
      rw [if_pos rfl]
      have N1 : Hid (∀ W, Below w.heap.size w W → Calls Tryd.prog 87 #[.slice ao n cap, .int .i64 ((fr : Int) + 1)] W fun e w' => e = .returned (.tuple #[.int .i64 (v : Nat), .int .i64 (k : Nat), .bool true]) ∧ w' = W) := hN1
      have H1 : Hid (∀ W, Below w.heap.size w W → Calls Tryd.prog 73 #[.slice ao n cap, .int .i64 (k : Nat), .int .u8 125] W fun e w' => e = .returned (.bool true) ∧ w' = W) := hH1
      clear hN1 hH1 hH2 hH3 hlt hN2 hL2 hH4 hM
      go_enter Tryd.func76, Tryd.ntmps76
      go_wp2_with fail
      refine wp_scope_once 1 rfl ?_
      go_wp2_with fail
      refine (N1.out _ (bel1 _ _)).mono ?_
      rintro e w1 ⟨rfl, rfl⟩
      go_wp2_with fail
      refine (H1.out _ (bel1 _ _)).mono ?_
      rintro e w1 ⟨rfl, rfl⟩
      go_wp2_with fail
      go_step3
      refine And.intro rfl ?_
      go_wp2
      rw [Exit.noGoto_ret]
      exact bodyPost_ret (v := .tuple #[.int .i64 (v : Nat), .int .i64 (v : Nat), markV (k + 1) 0]) (by simp [results, Tryd.results76, go_sem, markV]) rfl ⟨rfl, bel1 _ _⟩
    | false =>
      rw [if_neg (by decide)]
      cases q2 with
      | false =>
        rw [if_pos rfl]
        have N1 : Hid (∀ W, Below w.heap.size w W → Calls Tryd.prog 87 #[.slice ao n cap, .int .i64 ((fr : Int) + 1)] W fun e w' => e = .returned (.tuple #[.int .i64 (v : Nat), .int .i64 (k : Nat), .bool true]) ∧ w' = W) := hN1
        have H1 : Hid (∀ W, Below w.heap.size w W → Calls Tryd.prog 73 #[.slice ao n cap, .int .i64 (k : Nat), .int .u8 125] W fun e w' => e = .returned (.bool false) ∧ w' = W) := hH1
        have H2 : Hid (∀ W, Below w.heap.size w W → Calls Tryd.prog 73 #[.slice ao n cap, .int .i64 (k : Nat), .int .u8 44] W fun e w' => e = .returned (.bool false) ∧ w' = W) := hH2
        clear hN1 hH1 hH2 hH3 hlt hN2 hL2 hH4 hM
        go_enter Tryd.func76, Tryd.ntmps76
        go_wp2_with fail
        refine wp_scope_once 0 rfl ?_
        go_wp2_with fail
        refine (N1.out _ (bel1 _ _)).mono ?_
        rintro e w1 ⟨rfl, rfl⟩
        go_wp2_with fail
        refine (H1.out _ (bel1 _ _)).mono ?_
        rintro e w1 ⟨rfl, rfl⟩
        go_wp2_with fail
        refine (H2.out _ (bel1 _ _)).mono ?_
        rintro e w1 ⟨rfl, rfl⟩
        go_wp2_with fail
        go_step3
        refine And.intro rfl ?_
        go_wp2
        rw [Exit.noGoto_ret]
        exact bodyPost_ret (v := .tuple #[.int .i64 0, .int .i64 0, markV fr 43]) (by simp [results, Tryd.results76, go_sem, markV]) rfl ⟨rfl, bel1 _ _⟩
      | true =>
        rw [if_neg (by decide)]
        have hkn := hlt rfl
        obtain ⟨hy1, hy2, hy3⟩ := hL2 hkn
        cases q3 with
        | true =>
          rw [if_pos rfl]
          have N1 : Hid (∀ W, Below w.heap.size w W → Calls Tryd.prog 87 #[.slice ao n cap, .int .i64 ((fr : Int) + 1)] W fun e w' => e = .returned (.tuple #[.int .i64 (v : Nat), .int .i64 (k : Nat), .bool true]) ∧ w' = W) := hN1
          have H1 : Hid (∀ W, Below w.heap.size w W → Calls Tryd.prog 73 #[.slice ao n cap, .int .i64 (k : Nat), .int .u8 125] W fun e w' => e = .returned (.bool false) ∧ w' = W) := hH1
          have H2 : Hid (∀ W, Below w.heap.size w W → Calls Tryd.prog 73 #[.slice ao n cap, .int .i64 (k : Nat), .int .u8 44] W fun e w' => e = .returned (.bool true) ∧ w' = W) := hH2
          have H3 : Hid (∀ W, Below w.heap.size w W → Calls Tryd.prog 73 #[.slice ao n cap, .int .i64 ((k : Int) + 1), .int .u8 125] W fun e w' => e = .returned (.bool true) ∧ w' = W) := hH3
          clear hN1 hH1 hH2 hH3 hlt hN2 hL2 hH4 hM
          go_enter Tryd.func76, Tryd.ntmps76
          go_wp2_with fail
          refine wp_scope_once 1 rfl ?_
          go_wp2_with fail
          refine (N1.out _ (bel1 _ _)).mono ?_
          rintro e w1 ⟨rfl, rfl⟩
          go_wp2_with fail
          refine (H1.out _ (bel1 _ _)).mono ?_
          rintro e w1 ⟨rfl, rfl⟩
          go_wp2_with fail
          refine (H2.out _ (bel1 _ _)).mono ?_
          rintro e w1 ⟨rfl, rfl⟩
          go_wp2_with fail
          refine (H3.out _ (bel1 _ _)).mono ?_
          rintro e w1 ⟨rfl, rfl⟩
          go_wp2_with fail
          go_step3
          refine And.intro rfl ?_
          go_wp2
          rw [Exit.noGoto_ret]
          exact bodyPost_ret (v := .tuple #[.int .i64 (v : Nat), .int .i64 (-1), markV (k + 2) 0]) (by simp [results, Tryd.results76, go_sem, markV]; omega) rfl ⟨rfl, bel1 _ _⟩
        | false =>
          rw [if_neg (by decide)]
          cases o2 with
          | false =>
            rw [if_pos rfl]
            have N1 : Hid (∀ W, Below w.heap.size w W → Calls Tryd.prog 87 #[.slice ao n cap, .int .i64 ((fr : Int) + 1)] W fun e w' => e = .returned (.tuple #[.int .i64 (v : Nat), .int .i64 (k : Nat), .bool true]) ∧ w' = W) := hN1
            have H1 : Hid (∀ W, Below w.heap.size w W → Calls Tryd.prog 73 #[.slice ao n cap, .int .i64 (k : Nat), .int .u8 125] W fun e w' => e = .returned (.bool false) ∧ w' = W) := hH1
            have H2 : Hid (∀ W, Below w.heap.size w W → Calls Tryd.prog 73 #[.slice ao n cap, .int .i64 (k : Nat), .int .u8 44] W fun e w' => e = .returned (.bool true) ∧ w' = W) := hH2
            have H3 : Hid (∀ W, Below w.heap.size w W → Calls Tryd.prog 73 #[.slice ao n cap, .int .i64 ((k : Int) + 1), .int .u8 125] W fun e w' => e = .returned (.bool false) ∧ w' = W) := hH3
            have N2 : Hid (∀ W, Below w.heap.size w W → Calls Tryd.prog 87 #[.slice ao n cap, .int .i64 ((k : Int) + 1)] W fun e w' => e = .returned (.tuple #[.int .i64 (x : Nat), .int .i64 (y : Nat), .bool false]) ∧ w' = W) := hN2 hkn
            clear hN1 hH1 hH2 hH3 hlt hN2 hL2 hH4 hM
            go_enter Tryd.func76, Tryd.ntmps76
            go_wp2_with fail
            refine wp_scope_once 0 rfl ?_
            go_wp2_with fail
            refine (N1.out _ (bel1 _ _)).mono ?_
            rintro e w1 ⟨rfl, rfl⟩
            go_wp2_with fail
            refine (H1.out _ (bel1 _ _)).mono ?_
            rintro e w1 ⟨rfl, rfl⟩
            go_wp2_with fail
            refine (H2.out _ (bel1 _ _)).mono ?_
            rintro e w1 ⟨rfl, rfl⟩
            go_wp2_with fail
            refine (H3.out _ (bel1 _ _)).mono ?_
            rintro e w1 ⟨rfl, rfl⟩
            go_wp2_with fail
            refine (N2.out _ (bel1 _ _)).mono ?_
            rintro e w1 ⟨rfl, rfl⟩
            go_wp2_with fail
            go_step3
            refine And.intro rfl ?_
            go_wp2
            rw [Exit.noGoto_ret]
            exact bodyPost_ret (v := .tuple #[.int .i64 0, .int .i64 0, markV fr 43]) (by simp [results, Tryd.results76, go_sem, markV]) rfl ⟨rfl, bel1 _ _⟩
          | true =>
            rw [if_neg (by decide)]
            cases q5 with
            | false =>
              rw [if_pos rfl]
              have N1 : Hid (∀ W, Below w.heap.size w W → Calls Tryd.prog 87 #[.slice ao n cap, .int .i64 ((fr : Int) + 1)] W fun e w' => e = .returned (.tuple #[.int .i64 (v : Nat), .int .i64 (k : Nat), .bool true]) ∧ w' = W) := hN1
              have H1 : Hid (∀ W, Below w.heap.size w W → Calls Tryd.prog 73 #[.slice ao n cap, .int .i64 (k : Nat), .int .u8 125] W fun e w' => e = .returned (.bool false) ∧ w' = W) := hH1
              have H2 : Hid (∀ W, Below w.heap.size w W → Calls Tryd.prog 73 #[.slice ao n cap, .int .i64 (k : Nat), .int .u8 44] W fun e w' => e = .returned (.bool true) ∧ w' = W) := hH2
              have H3 : Hid (∀ W, Below w.heap.size w W → Calls Tryd.prog 73 #[.slice ao n cap, .int .i64 ((k : Int) + 1), .int .u8 125] W fun e w' => e = .returned (.bool false) ∧ w' = W) := hH3
              have N2 : Hid (∀ W, Below w.heap.size w W → Calls Tryd.prog 87 #[.slice ao n cap, .int .i64 ((k : Int) + 1)] W fun e w' => e = .returned (.tuple #[.int .i64 (x : Nat), .int .i64 (y : Nat), .bool true]) ∧ w' = W) := hN2 hkn
              have M : Hid (∀ W, Calls Tryd.prog 20 #[.int .i64 (v : Nat), .int .i64 (x : Nat)] W fun e w' => e = .returned (.bool false) ∧ w' = W) := hM
              clear hN1 hH1 hH2 hH3 hlt hN2 hL2 hH4 hM
              go_enter Tryd.func76, Tryd.ntmps76
              go_wp2_with fail
              refine wp_scope_once 0 rfl ?_
              go_wp2_with fail
              refine (N1.out _ (bel1 _ _)).mono ?_
              rintro e w1 ⟨rfl, rfl⟩
              go_wp2_with fail
              refine (H1.out _ (bel1 _ _)).mono ?_
              rintro e w1 ⟨rfl, rfl⟩
              go_wp2_with fail
              refine (H2.out _ (bel1 _ _)).mono ?_
              rintro e w1 ⟨rfl, rfl⟩
              go_wp2_with fail
              refine (H3.out _ (bel1 _ _)).mono ?_
              rintro e w1 ⟨rfl, rfl⟩
              go_wp2_with fail
              refine (N2.out _ (bel1 _ _)).mono ?_
              rintro e w1 ⟨rfl, rfl⟩
              go_wp2_with fail
              refine (M.out _).mono ?_
              rintro e w1 ⟨rfl, rfl⟩
              go_wp2_with fail
              go_step3
              refine And.intro rfl ?_
              go_wp2
              rw [Exit.noGoto_ret]
              exact bodyPost_ret (v := .tuple #[.int .i64 0, .int .i64 0, markV fr 43]) (by simp [results, Tryd.results76, go_sem, markV]) rfl ⟨rfl, bel1 _ _⟩
            | true =>
              rw [if_neg (by decide)]
              cases q4 with
              | false =>
                rw [if_pos rfl]
                have N1 : Hid (∀ W, Below w.heap.size w W → Calls Tryd.prog 87 #[.slice ao n cap, .int .i64 ((fr : Int) + 1)] W fun e w' => e = .returned (.tuple #[.int .i64 (v : Nat), .int .i64 (k : Nat), .bool true]) ∧ w' = W) := hN1
                have H1 : Hid (∀ W, Below w.heap.size w W → Calls Tryd.prog 73 #[.slice ao n cap, .int .i64 (k : Nat), .int .u8 125] W fun e w' => e = .returned (.bool false) ∧ w' = W) := hH1
                have H2 : Hid (∀ W, Below w.heap.size w W → Calls Tryd.prog 73 #[.slice ao n cap, .int .i64 (k : Nat), .int .u8 44] W fun e w' => e = .returned (.bool true) ∧ w' = W) := hH2
                have H3 : Hid (∀ W, Below w.heap.size w W → Calls Tryd.prog 73 #[.slice ao n cap, .int .i64 ((k : Int) + 1), .int .u8 125] W fun e w' => e = .returned (.bool false) ∧ w' = W) := hH3
                have N2 : Hid (∀ W, Below w.heap.size w W → Calls Tryd.prog 87 #[.slice ao n cap, .int .i64 ((k : Int) + 1)] W fun e w' => e = .returned (.tuple #[.int .i64 (x : Nat), .int .i64 (y : Nat), .bool true]) ∧ w' = W) := hN2 hkn
                have M : Hid (∀ W, Calls Tryd.prog 20 #[.int .i64 (v : Nat), .int .i64 (x : Nat)] W fun e w' => e = .returned (.bool true) ∧ w' = W) := hM
                have H4 : Hid (∀ W, Below w.heap.size w W → Calls Tryd.prog 73 #[.slice ao n cap, .int .i64 (y : Nat), .int .u8 125] W fun e w' => e = .returned (.bool false) ∧ w' = W) := hH4
                clear hN1 hH1 hH2 hH3 hlt hN2 hL2 hH4 hM
                go_enter Tryd.func76, Tryd.ntmps76
                go_wp2_with fail
                refine wp_scope_once 0 rfl ?_
                go_wp2_with fail
                refine (N1.out _ (bel1 _ _)).mono ?_
                rintro e w1 ⟨rfl, rfl⟩
                go_wp2_with fail
                refine (H1.out _ (bel1 _ _)).mono ?_
                rintro e w1 ⟨rfl, rfl⟩
                go_wp2_with fail
                refine (H2.out _ (bel1 _ _)).mono ?_
                rintro e w1 ⟨rfl, rfl⟩
                go_wp2_with fail
                refine (H3.out _ (bel1 _ _)).mono ?_
                rintro e w1 ⟨rfl, rfl⟩
                go_wp2_with fail
                refine (N2.out _ (bel1 _ _)).mono ?_
                rintro e w1 ⟨rfl, rfl⟩
                go_wp2_with fail
                refine (M.out _).mono ?_
                rintro e w1 ⟨rfl, rfl⟩
                go_wp2_with fail
                refine (H4.out _ (bel1 _ _)).mono ?_
                rintro e w1 ⟨rfl, rfl⟩
                go_wp2_with fail
                go_step3
                refine And.intro rfl ?_
                go_wp2
                rw [Exit.noGoto_ret]
                exact bodyPost_ret (v := .tuple #[.int .i64 0, .int .i64 0, markV fr 43]) (by simp [results, Tryd.results76, go_sem, markV]) rfl ⟨rfl, bel1 _ _⟩
              | true =>
                rw [if_neg (by decide)]
                have N1 : Hid (∀ W, Below w.heap.size w W → Calls Tryd.prog 87 #[.slice ao n cap, .int .i64 ((fr : Int) + 1)] W fun e w' => e = .returned (.tuple #[.int .i64 (v : Nat), .int .i64 (k : Nat), .bool true]) ∧ w' = W) := hN1
                have H1 : Hid (∀ W, Below w.heap.size w W → Calls Tryd.prog 73 #[.slice ao n cap, .int .i64 (k : Nat), .int .u8 125] W fun e w' => e = .returned (.bool false) ∧ w' = W) := hH1
                have H2 : Hid (∀ W, Below w.heap.size w W → Calls Tryd.prog 73 #[.slice ao n cap, .int .i64 (k : Nat), .int .u8 44] W fun e w' => e = .returned (.bool true) ∧ w' = W) := hH2
                have H3 : Hid (∀ W, Below w.heap.size w W → Calls Tryd.prog 73 #[.slice ao n cap, .int .i64 ((k : Int) + 1), .int .u8 125] W fun e w' => e = .returned (.bool false) ∧ w' = W) := hH3
                have N2 : Hid (∀ W, Below w.heap.size w W → Calls Tryd.prog 87 #[.slice ao n cap, .int .i64 ((k : Int) + 1)] W fun e w' => e = .returned (.tuple #[.int .i64 (x : Nat), .int .i64 (y : Nat), .bool true]) ∧ w' = W) := hN2 hkn
                have M : Hid (∀ W, Calls Tryd.prog 20 #[.int .i64 (v : Nat), .int .i64 (x : Nat)] W fun e w' => e = .returned (.bool true) ∧ w' = W) := hM
                have H4 : Hid (∀ W, Below w.heap.size w W → Calls Tryd.prog 73 #[.slice ao n cap, .int .i64 (y : Nat), .int .u8 125] W fun e w' => e = .returned (.bool true) ∧ w' = W) := hH4
                clear hN1 hH1 hH2 hH3 hlt hN2 hL2 hH4 hM
                go_enter Tryd.func76, Tryd.ntmps76
                go_wp2_with fail
                refine wp_scope_once 0 rfl ?_
                go_wp2_with fail
                refine (N1.out _ (bel1 _ _)).mono ?_
                rintro e w1 ⟨rfl, rfl⟩
                go_wp2_with fail
                refine (H1.out _ (bel1 _ _)).mono ?_
                rintro e w1 ⟨rfl, rfl⟩
                go_wp2_with fail
                refine (H2.out _ (bel1 _ _)).mono ?_
                rintro e w1 ⟨rfl, rfl⟩
                go_wp2_with fail
                refine (H3.out _ (bel1 _ _)).mono ?_
                rintro e w1 ⟨rfl, rfl⟩
                go_wp2_with fail
                refine (N2.out _ (bel1 _ _)).mono ?_
                rintro e w1 ⟨rfl, rfl⟩
                go_wp2_with fail
                refine (M.out _).mono ?_
                rintro e w1 ⟨rfl, rfl⟩
                go_wp2_with fail
                refine (H4.out _ (bel1 _ _)).mono ?_
                rintro e w1 ⟨rfl, rfl⟩
                go_wp2_with fail
                go_step3
                go_wp2
                exact bodyPost_ret (v := .tuple #[.int .i64 (v : Nat), .int .i64 (x : Nat), markV (y + 1) 0]) (by simp [results, Tryd.results76, go_sem, markV]) rfl ⟨rfl, bel1 _ _⟩
end Go.Proofs.YtkbeiadbolihiaaDoor
namespace Go.Proofs.YtkbeiadbolihiaaDoor
open Go.RowKit
/-- The class whose letter stands behind a backslash. -/
def namP (b : Nat) : Nat → Bool := if b = 100 then rg 48 10 else if b = 119 then wordP else if b = 115 then spaceP else if b = 68 then (fun x => !rg 48 10 x) else if b = 87 then (fun x => !wordP x) else fun x => !spaceP x
set_option maxRecDepth 10000 in
set_option maxHeartbeats 1000000 in
theorem named_d100 (w : World) : Calls Tryd.prog 69 #[.int .u8 100] w (RetC w (rg 48 10)) := by
  go_enter Tryd.func69, Tryd.ntmps69
  go_wp2_with (go_at_call 79; refine (digit_any _).mono ?_; rintro e w' ⟨⟨a, b', c, d, rfl, h4⟩, hb⟩; have hb' : Below (w.heap.size + 1) _ w' := (by simpa using hb); have hy := res_cells hb'; obtain ⟨y0, y1, y2, y3, v0, v1, v2, v3⟩ := hy.cells)
  obtain ⟨z0, z1, z2, z3, _⟩ := (hy.set (.int .u64 (a : Nat)) (.int .u64 (b' : Nat)) (.int .u64 (c : Nat)) (.int .u64 (d : Nat))).cells
  exact bodyPost_ret (v := .agg #[.int .u64 (a : Nat), .int .u64 (b' : Nat), .int .u64 (c : Nat), .int .u64 (d : Nat)]) (by simp [results, Tryd.results69, go_sem, z0, z1, z2, z3]) rfl (res_put h4 hb')
set_option maxRecDepth 10000 in
set_option maxHeartbeats 1000000 in
theorem named_w119 (w : World) : Calls Tryd.prog 69 #[.int .u8 119] w (RetC w (wordP)) := by
  go_enter Tryd.func69, Tryd.ntmps69
  go_wp2_with (go_at_call 80; refine (word_any _).mono ?_; rintro e w' ⟨⟨a, b', c, d, rfl, h4⟩, hb⟩; have hb' : Below (w.heap.size + 1) _ w' := (by simpa using hb); have hy := res_cells hb'; obtain ⟨y0, y1, y2, y3, v0, v1, v2, v3⟩ := hy.cells)
  obtain ⟨z0, z1, z2, z3, _⟩ := (hy.set (.int .u64 (a : Nat)) (.int .u64 (b' : Nat)) (.int .u64 (c : Nat)) (.int .u64 (d : Nat))).cells
  exact bodyPost_ret (v := .agg #[.int .u64 (a : Nat), .int .u64 (b' : Nat), .int .u64 (c : Nat), .int .u64 (d : Nat)]) (by simp [results, Tryd.results69, go_sem, z0, z1, z2, z3]) rfl (res_put h4 hb')
set_option maxRecDepth 10000 in
set_option maxHeartbeats 1000000 in
theorem named_s115 (w : World) : Calls Tryd.prog 69 #[.int .u8 115] w (RetC w (spaceP)) := by
  go_enter Tryd.func69, Tryd.ntmps69
  go_wp2_with (go_at_call 81; refine (space_any _).mono ?_; rintro e w' ⟨⟨a, b', c, d, rfl, h4⟩, hb⟩; have hb' : Below (w.heap.size + 1) _ w' := (by simpa using hb); have hy := res_cells hb'; obtain ⟨y0, y1, y2, y3, v0, v1, v2, v3⟩ := hy.cells)
  obtain ⟨z0, z1, z2, z3, _⟩ := (hy.set (.int .u64 (a : Nat)) (.int .u64 (b' : Nat)) (.int .u64 (c : Nat)) (.int .u64 (d : Nat))).cells
  exact bodyPost_ret (v := .agg #[.int .u64 (a : Nat), .int .u64 (b' : Nat), .int .u64 (c : Nat), .int .u64 (d : Nat)]) (by simp [results, Tryd.results69, go_sem, z0, z1, z2, z3]) rfl (res_put h4 hb')
set_option maxRecDepth 10000 in
set_option maxHeartbeats 1000000 in
theorem named_D68 (w : World) : Calls Tryd.prog 69 #[.int .u8 68] w (RetC w (fun x => !rg 48 10 x)) := by
  go_enter Tryd.func69, Tryd.ntmps69
  go_wp2_with fail
  refine (digit_any _).mono ?_
  rintro e w1 ⟨⟨a0, b0, c0, d0, rfl, k4⟩, hb1⟩
  have e1 : Below (w.heap.size + 1) (w.alloc (.cells #[.int .u64 0, .int .u64 0, .int .u64 0, .int .u64 0] 24)) w1 := by simpa using hb1
  have e2 : w.heap.size + 1 ≤ w1.heap.size := by have := e1.size; simpa using this
  go_wp2_with fail
  refine (not_c k4 _).mono ?_
  rintro e w' ⟨⟨a, b', c, d, rfl, h4⟩, hb⟩
  have hb' := e1.trans (hb.mono e2)
  have hy := res_cells hb'
  obtain ⟨y0, y1, y2, y3, v0, v1, v2, v3⟩ := hy.cells
  go_wp2
  obtain ⟨z0, z1, z2, z3, _⟩ := (hy.set (.int .u64 (a : Nat)) (.int .u64 (b' : Nat)) (.int .u64 (c : Nat)) (.int .u64 (d : Nat))).cells
  exact bodyPost_ret (v := .agg #[.int .u64 (a : Nat), .int .u64 (b' : Nat), .int .u64 (c : Nat), .int .u64 (d : Nat)]) (by simp [results, Tryd.results69, go_sem, z0, z1, z2, z3]) rfl (res_put h4 hb')
set_option maxRecDepth 10000 in
set_option maxHeartbeats 1000000 in
theorem named_W87 (w : World) : Calls Tryd.prog 69 #[.int .u8 87] w (RetC w (fun x => !wordP x)) := by
  go_enter Tryd.func69, Tryd.ntmps69
  go_wp2_with fail
  refine (word_any _).mono ?_
  rintro e w1 ⟨⟨a0, b0, c0, d0, rfl, k4⟩, hb1⟩
  have e1 : Below (w.heap.size + 1) (w.alloc (.cells #[.int .u64 0, .int .u64 0, .int .u64 0, .int .u64 0] 24)) w1 := by simpa using hb1
  have e2 : w.heap.size + 1 ≤ w1.heap.size := by have := e1.size; simpa using this
  go_wp2_with fail
  refine (not_c k4 _).mono ?_
  rintro e w' ⟨⟨a, b', c, d, rfl, h4⟩, hb⟩
  have hb' := e1.trans (hb.mono e2)
  have hy := res_cells hb'
  obtain ⟨y0, y1, y2, y3, v0, v1, v2, v3⟩ := hy.cells
  go_wp2
  obtain ⟨z0, z1, z2, z3, _⟩ := (hy.set (.int .u64 (a : Nat)) (.int .u64 (b' : Nat)) (.int .u64 (c : Nat)) (.int .u64 (d : Nat))).cells
  exact bodyPost_ret (v := .agg #[.int .u64 (a : Nat), .int .u64 (b' : Nat), .int .u64 (c : Nat), .int .u64 (d : Nat)]) (by simp [results, Tryd.results69, go_sem, z0, z1, z2, z3]) rfl (res_put h4 hb')
set_option maxRecDepth 10000 in
set_option maxHeartbeats 1000000 in
theorem named_else (b : Nat) (w : World) (h1 : b ≠ 100) (h2 : b ≠ 119) (h3 : b ≠ 115) (h4' : b ≠ 68) (h5 : b ≠ 87) : Calls Tryd.prog 69 #[.int .u8 (b : Nat)] w (RetC w (fun x => !spaceP x)) := by
  have e1 : ((b : Int) == 100) = false := by simp; omega
  have e2 : ((b : Int) == 119) = false := by simp; omega
  have e3 : ((b : Int) == 115) = false := by simp; omega
  have e4 : ((b : Int) == 68) = false := by simp; omega
  have e5 : ((b : Int) == 87) = false := by simp; omega
  clear h1 h2 h3 h4' h5
  go_enter Tryd.func69, Tryd.ntmps69
  go_wp2_with fail
  refine (space_any _).mono ?_
  rintro e w1 ⟨⟨a0, b0, c0, d0, rfl, k4⟩, hb1⟩
  have e1 : Below (w.heap.size + 1) (w.alloc (.cells #[.int .u64 0, .int .u64 0, .int .u64 0, .int .u64 0] 24)) w1 := by simpa using hb1
  have e2 : w.heap.size + 1 ≤ w1.heap.size := by have := e1.size; simpa using this
  go_wp2_with fail
  refine (not_c k4 _).mono ?_
  rintro e w' ⟨⟨a, b', c, d, rfl, h4⟩, hb⟩
  have hb' := e1.trans (hb.mono e2)
  have hy := res_cells hb'
  obtain ⟨y0, y1, y2, y3, v0, v1, v2, v3⟩ := hy.cells
  go_wp2
  obtain ⟨z0, z1, z2, z3, _⟩ := (hy.set (.int .u64 (a : Nat)) (.int .u64 (b' : Nat)) (.int .u64 (c : Nat)) (.int .u64 (d : Nat))).cells
  exact bodyPost_ret (v := .agg #[.int .u64 (a : Nat), .int .u64 (b' : Nat), .int .u64 (c : Nat), .int .u64 (d : Nat)]) (by simp [results, Tryd.results69, go_sem, z0, z1, z2, z3]) rfl (res_put h4 hb')
theorem named_any (b : Nat) (w : World) : Calls Tryd.prog 69 #[.int .u8 (b : Nat)] w (RetC w (namP b)) := by
  unfold namP
  by_cases h1 : b = 100
  · subst h1; exact named_d100 w
  rw [if_neg h1]
  by_cases h2 : b = 119
  · subst h2; exact named_w119 w
  rw [if_neg h2]
  by_cases h3 : b = 115
  · subst h3; exact named_s115 w
  rw [if_neg h3]
  by_cases h4 : b = 68
  · subst h4; exact named_D68 w
  rw [if_neg h4]
  by_cases h5 : b = 87
  · subst h5; exact named_W87 w
  rw [if_neg h5]
  exact named_else b w h1 h2 h3 h4 h5
end Go.Proofs.YtkbeiadbolihiaaDoor
