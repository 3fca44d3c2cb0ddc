/- token: number: the walk. Blocks of cells, of any length. -/
import Derived.Test.YtkbeiadbolihiaaDoorM05Kb
namespace Go.Proofs.YtkbeiadbolihiaaDoor
open Go.RowKit
/-- The number at a place, as far as it is read, and the place behind it. -/
def numG (z : Nat → Nat) (n : Nat) : Nat → Nat → Nat → Nat × Nat
  | 0, k, v => (v, k)
  | f + 1, k, v => if (decide (k < n) && digP (z k) && decide (v ≤ 1000)) = true then numG z n f (k + 1) (v * 10 + (z k - 48)) else (v, k)
def numR (z : Nat → Nat) (n k : Nat) : Nat × Nat := numG z n (n - k) k 0
/-- Whether it is a number that a count may have. -/
def numOk (z : Nat → Nat) (n k : Nat) : Bool := decide (k < (numR z n k).2) && decide ((numR z n k).1 ≤ 1000) && !(decide (k + 1 < (numR z n k).2) && (z k == 48))
theorem numG_go {z : Nat → Nat} {n k v : Nat} (hk : k < n) (hd : digP (z k) = true) (hv : v ≤ 1000) : numG z n (n - k) k v = numG z n (n - (k + 1)) (k + 1) (v * 10 + (z k - 48)) := by
  obtain ⟨f, hf⟩ : ∃ f, n - k = f + 1 := ⟨n - k - 1, by omega⟩
  rw [hf, numG, if_pos (by simp [hk, hd, hv]), show n - (k + 1) = f by omega]
theorem numG_end {z : Nat → Nat} {n k v : Nat} (h : (decide (k < n) && digP (z k) && decide (v ≤ 1000)) = false) : numG z n (n - k) k v = (v, k) := by
  cases hf : n - k with
  | zero => rfl
  | succ f => rw [numG, if_neg (by rw [h]; decide)]
theorem u8_sub48 (q : Nat) (h : 48 ≤ q) (hq : q < 256) : ((q : Int) - 48) = ((q - 48 : Nat) : Int) := by omega
set_option maxHeartbeats 1000000 in
theorem knumber_any (ao : Option Addr) (n cap fr : Nat) (z : Nat → Nat) (w : World) (hr : Rd w ao n z) (hn : (n : Int) ≤ 1024) (hf : fr ≤ n) : Calls Tryd.prog 87 #[.slice ao n cap, .int .i64 (fr : Nat)] w fun e w' => e = .returned (.tuple #[.int .i64 ((numR z n fr).1 : Nat), .int .i64 ((numR z n fr).2 : Nat), .bool (numOk z n fr)]) ∧ w' = w := by
  go_enter Tryd.func87, Tryd.ntmps87
  go_wp2_with fail
  go_loopw [7, 8] (fun c i wr => ∃ k v : Nat, fr ≤ k ∧ k ≤ n ∧ i = .int .i64 k ∧ c = .int .i64 v ∧ v ≤ 10009 ∧ numG z n (n - k) k v = numR z n fr ∧ wr = w) (fun _ i _ => n - (intOf i).toNat)
  case atStart => exact ⟨fr, 0, Nat.le_refl _, hf, rfl, rfl, by omega, rfl, rfl⟩
  case round =>
    obtain ⟨k, v, h1, h2, rfl, rfl, hv, hg, rfl⟩ := hrel
    have k0 : (0 : Int) ≤ (k : Int) := by omega
    by_cases hlt : k < n
    · have hki : (k : Int) < (n : Int) := by omega
      obtain ⟨bb, off, rfl, hbb, hc⟩ := hr.at_ (by omega)
      have t := hc k hlt
      have hsm := hr.small k hlt
      have hd := fun W => isDigit_any (z k) W
      clear hc
      cases hq : digP (z k) with
      | true =>
        rw [hq] at hd
        by_cases hv1 : v ≤ 1000
        · have hstep := numG_go hlt hq hv1
          rw [hg] at hstep
          have h48 : 48 ≤ z k ∧ z k ≤ 57 := by unfold digP at hq; simp at hq; omega
          have HS : Hid (numG z n (n - (k + 1)) (k + 1) (v * 10 + (z k - 48)) = numR z n fr) := hstep.symm
          have hvi : (v : Int) ≤ 1000 := by omega
          generalize z k = q at *
          have hq1 : (48 : Int) ≤ (q : Int) := by omega
          have hq2 : (q : Int) ≤ 57 := by omega
          have hcv : ∀ W, (convert 5 3 (.int .u8 ((q : Int) - 48))).run Tryd.prog W = .ok (.int .i64 ((q : Int) - 48)) W := fun W => by
            have hk : Tryd.prog.intKind 3 = .i64 := by kernel_rfl
            rw [run_convert_int W 5 3 .u8 _ (by rw [Tryd.underlying5]; rfl) (by rw [hk]; exact Tryd.underlying3), hk, show IntKind.i64.wrap ((q : Int) - 48) = (q : Int) - 48 by rw [IntKind.wrap_i64]; omega]
          clear hq hstep hg
          go_wp2_with (go_at_call 72; refine (hd _).mono ?_; rintro e w' ⟨rfl, rfl⟩)
          go_roundw
          case rel => exact ⟨k + 1, v * 10 + (q - 48), by omega, by omega, by go_num, by congr 1; omega, by omega, HS.out, (by first | trivial | rfl)⟩
          case measure => simp [intOf]; omega
        · have hend : (decide (k < n) && digP (z k) && decide (v ≤ 1000)) = false := by rw [decide_eq_false hv1]; simp
          have hR : numR z n fr = (v, k) := by rw [← hg, numG_end hend]
          have HK : Hid (∀ x : Bool, numOk z n fr = x → (Ending.returned (Value.tuple #[.int .i64 (v : Nat), .int .i64 (k : Nat), .bool x]) = .returned (.tuple #[.int .i64 ((numR z n fr).1 : Nat), .int .i64 ((numR z n fr).2 : Nat), .bool (numOk z n fr)]))) := fun x hx => by rw [hx, hR]
          have HO : Hid (numOk z n fr = (decide (fr < k) && decide (v ≤ 1000) && !(decide (fr + 1 < k) && (z fr == 48)))) := by
            show numOk z n fr = _
            unfold numOk; rw [hR]
          clear hR hg hend
          by_cases g1 : fr + 1 < k
          · obtain ⟨b0, o0, e0, _, c0⟩ := hr.at_ (by omega)
            first | (injection e0 with e0; injection e0 with e1 e2; subst e1 e2) | subst e0
            have t0 := c0 fr (by omega)
            have j1 : (fr : Int) + 1 < (k : Int) := by omega
            have j2 : (fr : Int) < (k : Int) := by omega
            have j3 : (fr : Int) < (n : Int) := by omega
            have d1 : decide (fr < k) = true := by simp; omega
            have d2 : decide (fr + 1 < k) = true := by simp; omega
            clear c0
            by_cases g2 : v ≤ 1000
            · exact absurd g2 hv1
            · have j4 : ¬ (v : Int) ≤ 1000 := by omega
              have HX : Hid (numOk z n fr = false) := by show numOk z n fr = false; rw [HO.out, decide_eq_false g2]; simp
              clear HO d1 d2
              go_wp2_with (go_at_call 72; refine (hd _).mono ?_; rintro e w' ⟨rfl, rfl⟩)
              exact bodyPost_ret (v := .tuple #[.int .i64 (v : Nat), .int .i64 (k : Nat), .bool false]) (by simp [results, Tryd.results87, go_sem]) rfl ⟨HK.out _ HX.out, rfl⟩
          · have j1 : ¬ (fr : Int) + 1 < (k : Int) := by omega
            have d2 : decide (fr + 1 < k) = false := by simp; omega
            by_cases g2 : fr < k
            · have j2 : (fr : Int) < (k : Int) := by omega
              have d1 : decide (fr < k) = true := by simp; omega
              by_cases g3 : v ≤ 1000
              · exact absurd g3 hv1
              · have j4 : ¬ (v : Int) ≤ 1000 := by omega
                have HX : Hid (numOk z n fr = false) := by show numOk z n fr = false; rw [HO.out, decide_eq_false g3]; simp
                clear HO d1 d2
                go_wp2_with (go_at_call 72; refine (hd _).mono ?_; rintro e w' ⟨rfl, rfl⟩)
                exact bodyPost_ret (v := .tuple #[.int .i64 (v : Nat), .int .i64 (k : Nat), .bool false]) (by simp [results, Tryd.results87, go_sem]) rfl ⟨HK.out _ HX.out, rfl⟩
            · have j2 : ¬ (fr : Int) < (k : Int) := by omega
              have HX : Hid (numOk z n fr = false) := by show numOk z n fr = false; rw [HO.out, decide_eq_false g2]; simp
              clear HO d2
              go_wp2_with (go_at_call 72; refine (hd _).mono ?_; rintro e w' ⟨rfl, rfl⟩)
              exact bodyPost_ret (v := .tuple #[.int .i64 (v : Nat), .int .i64 (k : Nat), .bool false]) (by simp [results, Tryd.results87, go_sem]) rfl ⟨HK.out _ HX.out, rfl⟩
      | false =>
        rw [hq] at hd
        have hend : (decide (k < n) && digP (z k) && decide (v ≤ 1000)) = false := by rw [hq]; simp
        have hR : numR z n fr = (v, k) := by rw [← hg, numG_end hend]
        have HK : Hid (∀ x : Bool, numOk z n fr = x → (Ending.returned (Value.tuple #[.int .i64 (v : Nat), .int .i64 (k : Nat), .bool x]) = .returned (.tuple #[.int .i64 ((numR z n fr).1 : Nat), .int .i64 ((numR z n fr).2 : Nat), .bool (numOk z n fr)]))) := fun x hx => by rw [hx, hR]
        have HO : Hid (numOk z n fr = (decide (fr < k) && decide (v ≤ 1000) && !(decide (fr + 1 < k) && (z fr == 48)))) := by
          show numOk z n fr = _
          unfold numOk; rw [hR]
        clear hR hg hend
        by_cases g1 : fr + 1 < k
        · obtain ⟨b0, o0, e0, _, c0⟩ := hr.at_ (by omega)
          first | (injection e0 with e0; injection e0 with e1 e2; subst e1 e2) | subst e0
          have t0 := c0 fr (by omega)
          have j1 : (fr : Int) + 1 < (k : Int) := by omega
          have j2 : (fr : Int) < (k : Int) := by omega
          have j3 : (fr : Int) < (n : Int) := by omega
          have d1 : decide (fr < k) = true := by simp; omega
          have d2 : decide (fr + 1 < k) = true := by simp; omega
          clear c0
          by_cases g2 : v ≤ 1000
          · have j4 : (v : Int) ≤ 1000 := by omega
            cases g3 : (z fr == 48) with
            | true =>
              have j5 : (((z fr : Nat) : Int) == 48) = true := by simp at g3 ⊢; omega
              have HX : Hid (numOk z n fr = false) := by show numOk z n fr = false; rw [HO.out, d2, g3]; simp
              clear HO g3 d1 d2
              go_wp2_with (go_at_call 72; refine (hd _).mono ?_; rintro e w' ⟨rfl, rfl⟩)
              exact bodyPost_ret (v := .tuple #[.int .i64 (v : Nat), .int .i64 (k : Nat), .bool false]) (by simp [results, Tryd.results87, go_sem]) rfl ⟨HK.out _ HX.out, rfl⟩
            | false =>
              have j5 : (((z fr : Nat) : Int) == 48) = false := by simp at g3 ⊢; omega
              have HX : Hid (numOk z n fr = true) := by show numOk z n fr = true; rw [HO.out, d1, d2, g3, decide_eq_true g2]; rfl
              clear HO g3 d1 d2
              go_wp2_with (go_at_call 72; refine (hd _).mono ?_; rintro e w' ⟨rfl, rfl⟩)
              exact bodyPost_ret (v := .tuple #[.int .i64 (v : Nat), .int .i64 (k : Nat), .bool true]) (by simp [results, Tryd.results87, go_sem]) rfl ⟨HK.out _ HX.out, rfl⟩
          · have j4 : ¬ (v : Int) ≤ 1000 := by omega
            have HX : Hid (numOk z n fr = false) := by show numOk z n fr = false; rw [HO.out, decide_eq_false g2]; simp
            clear HO d1 d2
            go_wp2_with (go_at_call 72; refine (hd _).mono ?_; rintro e w' ⟨rfl, rfl⟩)
            exact bodyPost_ret (v := .tuple #[.int .i64 (v : Nat), .int .i64 (k : Nat), .bool false]) (by simp [results, Tryd.results87, go_sem]) rfl ⟨HK.out _ HX.out, rfl⟩
        · have j1 : ¬ (fr : Int) + 1 < (k : Int) := by omega
          have d2 : decide (fr + 1 < k) = false := by simp; omega
          by_cases g2 : fr < k
          · have j2 : (fr : Int) < (k : Int) := by omega
            have d1 : decide (fr < k) = true := by simp; omega
            by_cases g3 : v ≤ 1000
            · have j4 : (v : Int) ≤ 1000 := by omega
              have HX : Hid (numOk z n fr = true) := by show numOk z n fr = true; rw [HO.out, d1, d2, decide_eq_true g3]; rfl
              clear HO d1 d2
              go_wp2_with (go_at_call 72; refine (hd _).mono ?_; rintro e w' ⟨rfl, rfl⟩)
              exact bodyPost_ret (v := .tuple #[.int .i64 (v : Nat), .int .i64 (k : Nat), .bool true]) (by simp [results, Tryd.results87, go_sem]) rfl ⟨HK.out _ HX.out, rfl⟩
            · have j4 : ¬ (v : Int) ≤ 1000 := by omega
              have HX : Hid (numOk z n fr = false) := by show numOk z n fr = false; rw [HO.out, decide_eq_false g3]; simp
              clear HO d1 d2
              go_wp2_with (go_at_call 72; refine (hd _).mono ?_; rintro e w' ⟨rfl, rfl⟩)
              exact bodyPost_ret (v := .tuple #[.int .i64 (v : Nat), .int .i64 (k : Nat), .bool false]) (by simp [results, Tryd.results87, go_sem]) rfl ⟨HK.out _ HX.out, rfl⟩
          · have j2 : ¬ (fr : Int) < (k : Int) := by omega
            have HX : Hid (numOk z n fr = false) := by show numOk z n fr = false; rw [HO.out, decide_eq_false g2]; simp
            clear HO d2
            go_wp2_with (go_at_call 72; refine (hd _).mono ?_; rintro e w' ⟨rfl, rfl⟩)
            exact bodyPost_ret (v := .tuple #[.int .i64 (v : Nat), .int .i64 (k : Nat), .bool false]) (by simp [results, Tryd.results87, go_sem]) rfl ⟨HK.out _ HX.out, rfl⟩
    · have hki : ¬ (k : Int) < (n : Int) := by omega
      have hend : (decide (k < n) && digP (z k) && decide (v ≤ 1000)) = false := by rw [decide_eq_false hlt]; simp
      have hR : numR z n fr = (v, k) := by rw [← hg, numG_end hend]
      have HK : Hid (∀ x : Bool, numOk z n fr = x → (Ending.returned (Value.tuple #[.int .i64 (v : Nat), .int .i64 (k : Nat), .bool x]) = .returned (.tuple #[.int .i64 ((numR z n fr).1 : Nat), .int .i64 ((numR z n fr).2 : Nat), .bool (numOk z n fr)]))) := fun x hx => by rw [hx, hR]
      have HO : Hid (numOk z n fr = (decide (fr < k) && decide (v ≤ 1000) && !(decide (fr + 1 < k) && (z fr == 48)))) := by
        show numOk z n fr = _
        unfold numOk; rw [hR]
      clear hR hg hend
      by_cases g1 : fr + 1 < k
      · obtain ⟨b0, o0, e0, _, c0⟩ := hr.at_ (by omega)
        first | (injection e0 with e0; injection e0 with e1 e2; subst e1 e2) | subst e0
        have t0 := c0 fr (by omega)
        have j1 : (fr : Int) + 1 < (k : Int) := by omega
        have j2 : (fr : Int) < (k : Int) := by omega
        have j3 : (fr : Int) < (n : Int) := by omega
        have d1 : decide (fr < k) = true := by simp; omega
        have d2 : decide (fr + 1 < k) = true := by simp; omega
        clear c0
        by_cases g2 : v ≤ 1000
        · have j4 : (v : Int) ≤ 1000 := by omega
          cases g3 : (z fr == 48) with
          | true =>
            have j5 : (((z fr : Nat) : Int) == 48) = true := by simp at g3 ⊢; omega
            have HX : Hid (numOk z n fr = false) := by show numOk z n fr = false; rw [HO.out, d2, g3]; simp
            clear HO g3 d1 d2
            go_wp2
            exact bodyPost_ret (v := .tuple #[.int .i64 (v : Nat), .int .i64 (k : Nat), .bool false]) (by simp [results, Tryd.results87, go_sem]) rfl ⟨HK.out _ HX.out, rfl⟩
          | false =>
            have j5 : (((z fr : Nat) : Int) == 48) = false := by simp at g3 ⊢; omega
            have HX : Hid (numOk z n fr = true) := by show numOk z n fr = true; rw [HO.out, d1, d2, g3, decide_eq_true g2]; rfl
            clear HO g3 d1 d2
            go_wp2
            exact bodyPost_ret (v := .tuple #[.int .i64 (v : Nat), .int .i64 (k : Nat), .bool true]) (by simp [results, Tryd.results87, go_sem]) rfl ⟨HK.out _ HX.out, rfl⟩
        · have j4 : ¬ (v : Int) ≤ 1000 := by omega
          have HX : Hid (numOk z n fr = false) := by show numOk z n fr = false; rw [HO.out, decide_eq_false g2]; simp
          clear HO d1 d2
          go_wp2
          exact bodyPost_ret (v := .tuple #[.int .i64 (v : Nat), .int .i64 (k : Nat), .bool false]) (by simp [results, Tryd.results87, go_sem]) rfl ⟨HK.out _ HX.out, rfl⟩
      · have j1 : ¬ (fr : Int) + 1 < (k : Int) := by omega
        have d2 : decide (fr + 1 < k) = false := by simp; omega
        by_cases g2 : fr < k
        · have j2 : (fr : Int) < (k : Int) := by omega
          have d1 : decide (fr < k) = true := by simp; omega
          by_cases g3 : v ≤ 1000
          · have j4 : (v : Int) ≤ 1000 := by omega
            have HX : Hid (numOk z n fr = true) := by show numOk z n fr = true; rw [HO.out, d1, d2, decide_eq_true g3]; rfl
            clear HO d1 d2
            go_wp2
            exact bodyPost_ret (v := .tuple #[.int .i64 (v : Nat), .int .i64 (k : Nat), .bool true]) (by simp [results, Tryd.results87, go_sem]) rfl ⟨HK.out _ HX.out, rfl⟩
          · have j4 : ¬ (v : Int) ≤ 1000 := by omega
            have HX : Hid (numOk z n fr = false) := by show numOk z n fr = false; rw [HO.out, decide_eq_false g3]; simp
            clear HO d1 d2
            go_wp2
            exact bodyPost_ret (v := .tuple #[.int .i64 (v : Nat), .int .i64 (k : Nat), .bool false]) (by simp [results, Tryd.results87, go_sem]) rfl ⟨HK.out _ HX.out, rfl⟩
        · have j2 : ¬ (fr : Int) < (k : Int) := by omega
          have HX : Hid (numOk z n fr = false) := by show numOk z n fr = false; rw [HO.out, decide_eq_false g2]; simp
          clear HO d2
          go_wp2
          exact bodyPost_ret (v := .tuple #[.int .i64 (v : Nat), .int .i64 (k : Nat), .bool false]) (by simp [results, Tryd.results87, go_sem]) rfl ⟨HK.out _ HX.out, rfl⟩
end Go.Proofs.YtkbeiadbolihiaaDoor
namespace Go.Proofs.YtkbeiadbolihiaaDoor
open Go.RowKit
/-- A block of cells that may be written. -/
def Cl (w : World) (b : Nat) (t : TypeId) (vs : List Value) : Prop := w.heap[b]? = some (.cells vs.toArray t (0, 0))
section
variable {w w' : World} {b : Nat} {t : TypeId} {vs : List Value}
theorem Cl.lt (h : Cl w b t vs) : b < w.heap.size := (Array.getElem?_eq_some_iff.1 h).1
theorem Cl.new (w : World) (t : TypeId) (vs : List Value) : Cl (w.alloc (.cells vs.toArray t)) w.heap.size t vs := heap_alloc_new w _
theorem Cl.below (h : Cl w b t vs) (hb : Below w.heap.size w w') : Cl w' b t vs := by unfold Cl; rw [hb.block b h.lt]; exact h
theorem Cl.alloc (h : Cl w b t vs) (o : Obj) : Cl (w.alloc o) b t vs := h.below ((Below.refl _ _).alloc (Nat.le_refl _) o)
theorem Cl.drew (h : Cl w b t vs) : Cl w.drew b t vs := h.below (Below.refl _ _).drew
theorem Cl.cell (h : Cl w b t vs) (i : Nat) {v : Value} (hi : vs[i]? = some v) : w.cell? ⟨b, i, none⟩ = some v := by
  rw [cell_of_row w b i _ t (0, 0) h]
  simpa using hi
theorem Cl.frozen (h : Cl w b t vs) (i : Nat) : w.frozen? ⟨b, i, none⟩ = false := frozen_of_row w b i _ t h
theorem Cl.set (h : Cl w b t vs) (i : Nat) (v : Value) : Cl (w.setCell ⟨b, i, none⟩ v) b t (vs.set i v) := by
  have := heap_setCell_same w b i vs.toArray t v h
  simpa [Cl] using this
theorem Cl.other (h : Cl w b t vs) {k : Nat} (hk : k ≠ b) (i : Nat) (v : Value) : Cl (w.setCell ⟨k, i, none⟩ v) b t vs := by
  unfold Cl at *
  rw [Below.heap_setCell _ _ _ _ (Ne.symm hk)]
  exact h
/-- The eleven cells of a token. -/
theorem Cl.eleven {x0 x1 x2 x3 x4 x5 x6 x7 x8 x9 x10 : Value} (h : Cl w b t [x0, x1, x2, x3, x4, x5, x6, x7, x8, x9, x10]) :
    (w.cell? ⟨b, 0, none⟩ = some x0 ∧ w.cell? ⟨b, 1, none⟩ = some x1 ∧ w.cell? ⟨b, 2, none⟩ = some x2 ∧ w.cell? ⟨b, 3, none⟩ = some x3 ∧ w.cell? ⟨b, 4, none⟩ = some x4 ∧ w.cell? ⟨b, 5, none⟩ = some x5 ∧ w.cell? ⟨b, 6, none⟩ = some x6 ∧ w.cell? ⟨b, 7, none⟩ = some x7 ∧ w.cell? ⟨b, 8, none⟩ = some x8 ∧ w.cell? ⟨b, 9, none⟩ = some x9 ∧ w.cell? ⟨b, 10, none⟩ = some x10) ∧
    (w.frozen? ⟨b, 0, none⟩ = false ∧ w.frozen? ⟨b, 1, none⟩ = false ∧ w.frozen? ⟨b, 2, none⟩ = false ∧ w.frozen? ⟨b, 3, none⟩ = false ∧ w.frozen? ⟨b, 4, none⟩ = false ∧ w.frozen? ⟨b, 5, none⟩ = false ∧ w.frozen? ⟨b, 6, none⟩ = false ∧ w.frozen? ⟨b, 7, none⟩ = false ∧ w.frozen? ⟨b, 8, none⟩ = false ∧ w.frozen? ⟨b, 9, none⟩ = false ∧ w.frozen? ⟨b, 10, none⟩ = false) :=
  ⟨⟨h.cell 0 rfl, h.cell 1 rfl, h.cell 2 rfl, h.cell 3 rfl, h.cell 4 rfl, h.cell 5 rfl, h.cell 6 rfl, h.cell 7 rfl, h.cell 8 rfl, h.cell 9 rfl, h.cell 10 rfl⟩, h.frozen 0, h.frozen 1, h.frozen 2, h.frozen 3, h.frozen 4, h.frozen 5, h.frozen 6, h.frozen 7, h.frozen 8, h.frozen 9, h.frozen 10⟩
theorem Cl.two {x0 x1 : Value} (h : Cl w b t [x0, x1]) : (w.cell? ⟨b, 0, none⟩ = some x0 ∧ w.cell? ⟨b, 1, none⟩ = some x1) ∧ w.frozen? ⟨b, 0, none⟩ = false ∧ w.frozen? ⟨b, 1, none⟩ = false := ⟨⟨h.cell 0 rfl, h.cell 1 rfl⟩, h.frozen 0, h.frozen 1⟩
end
/-- A token, and a mark, put into their cells. -/
def put11 (w : World) (b : Nat) (x0 x1 x2 x3 x4 x5 x6 x7 x8 x9 x10 : Value) : World := ((((((((((w.setCell ⟨b, 0, none⟩ x0).setCell ⟨b, 1, none⟩ x1).setCell ⟨b, 2, none⟩ x2).setCell ⟨b, 3, none⟩ x3).setCell ⟨b, 4, none⟩ x4).setCell ⟨b, 5, none⟩ x5).setCell ⟨b, 6, none⟩ x6).setCell ⟨b, 7, none⟩ x7).setCell ⟨b, 8, none⟩ x8).setCell ⟨b, 9, none⟩ x9).setCell ⟨b, 10, none⟩ x10
def put2 (w : World) (b : Nat) (x0 x1 : Value) : World := (w.setCell ⟨b, 0, none⟩ x0).setCell ⟨b, 1, none⟩ x1
section
variable {w w' : World} {b k : Nat} {t : TypeId} {vs : List Value}
theorem Cl.put11 {y0 y1 y2 y3 y4 y5 y6 y7 y8 y9 y10 : Value} (h : Cl w b t [y0, y1, y2, y3, y4, y5, y6, y7, y8, y9, y10]) (x0 x1 x2 x3 x4 x5 x6 x7 x8 x9 x10 : Value) : Cl (put11 w b x0 x1 x2 x3 x4 x5 x6 x7 x8 x9 x10) b t [x0, x1, x2, x3, x4, x5, x6, x7, x8, x9, x10] := ((((((((((h.set 0 x0).set 1 x1).set 2 x2).set 3 x3).set 4 x4).set 5 x5).set 6 x6).set 7 x7).set 8 x8).set 9 x9).set 10 x10
theorem Cl.put2 {y0 y1 : Value} (h : Cl w b t [y0, y1]) (x0 x1 : Value) : Cl (put2 w b x0 x1) b t [x0, x1] := (h.set 0 x0).set 1 x1
theorem Cl.others11 (h : Cl w b t vs) (hk : k ≠ b) (x0 x1 x2 x3 x4 x5 x6 x7 x8 x9 x10 : Value) : Cl (YtkbeiadbolihiaaDoor.put11 w k x0 x1 x2 x3 x4 x5 x6 x7 x8 x9 x10) b t vs := ((((((((((h.other hk 0 x0).other hk 1 x1).other hk 2 x2).other hk 3 x3).other hk 4 x4).other hk 5 x5).other hk 6 x6).other hk 7 x7).other hk 8 x8).other hk 9 x9).other hk 10 x10
theorem Cl.others2 (h : Cl w b t vs) (hk : k ≠ b) (x0 x1 : Value) : Cl (YtkbeiadbolihiaaDoor.put2 w k x0 x1) b t vs := (h.other hk 0 x0).other hk 1 x1
theorem below_put11 {B : Nat} (h : Below B w w') (hb : B ≤ b) (x0 x1 x2 x3 x4 x5 x6 x7 x8 x9 x10 : Value) : Below B w (YtkbeiadbolihiaaDoor.put11 w' b x0 x1 x2 x3 x4 x5 x6 x7 x8 x9 x10) := ((((((((((h.setCell (p := ⟨b, 0, none⟩) hb x0).setCell (p := ⟨b, 1, none⟩) hb x1).setCell (p := ⟨b, 2, none⟩) hb x2).setCell (p := ⟨b, 3, none⟩) hb x3).setCell (p := ⟨b, 4, none⟩) hb x4).setCell (p := ⟨b, 5, none⟩) hb x5).setCell (p := ⟨b, 6, none⟩) hb x6).setCell (p := ⟨b, 7, none⟩) hb x7).setCell (p := ⟨b, 8, none⟩) hb x8).setCell (p := ⟨b, 9, none⟩) hb x9).setCell (p := ⟨b, 10, none⟩) hb x10
theorem below_put2 {B : Nat} (h : Below B w w') (hb : B ≤ b) (x0 x1 : Value) : Below B w (YtkbeiadbolihiaaDoor.put2 w' b x0 x1) := (h.setCell (p := ⟨b, 0, none⟩) hb x0).setCell (p := ⟨b, 1, none⟩) hb x1
end
end Go.Proofs.YtkbeiadbolihiaaDoor
