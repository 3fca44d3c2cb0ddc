/- token: named, mayClass: the walks. token: mayClass, unit's byte, bytesOf: the walks. token: escape, but for classes: the walks. token: escape of a class: the walk. -/
import Derived.Test.YtlmmiicibjfcdaaQ03
import Derived.ChangeKeysEq
namespace Go.Proofs.Ytlmmiicibjfcdaa
open Go.RowKit
/-- The class whose letter stands behind a backslash. -/
def namP (b : Nat) : Nat → Bool := if b = 100 then rg 48 10 else if b = 119 then wordP else if b = 115 then spaceP else if b = 68 then (fun x => !rg 48 10 x) else if b = 87 then (fun x => !wordP x) else fun x => !spaceP x
set_option maxRecDepth 10000 in
set_option maxHeartbeats 1000000 in
theorem named_d100 (w : World) : Calls Try.prog 95 #[.int .u8 100] w (RetC w (rg 48 10)) := by
  go_enter Try.func95, Try.ntmps95
  go_wp2_with (go_at_call 114; refine (digit_any _).mono ?_; rintro e w' ⟨⟨a, b', c, d, rfl, h4⟩, hb⟩; have hb' : Below (w.heap.size + 1) _ w' := (by simpa using hb); have hy := res_cells hb'; obtain ⟨y0, y1, y2, y3, v0, v1, v2, v3⟩ := hy.cells)
  obtain ⟨z0, z1, z2, z3, _⟩ := (hy.set (.int .u64 (a : Nat)) (.int .u64 (b' : Nat)) (.int .u64 (c : Nat)) (.int .u64 (d : Nat))).cells
  exact bodyPost_ret (v := .agg #[.int .u64 (a : Nat), .int .u64 (b' : Nat), .int .u64 (c : Nat), .int .u64 (d : Nat)]) (by simp [results, Try.results95, go_sem, z0, z1, z2, z3]) rfl (res_put h4 hb')
set_option maxRecDepth 10000 in
set_option maxHeartbeats 1000000 in
theorem named_w119 (w : World) : Calls Try.prog 95 #[.int .u8 119] w (RetC w (wordP)) := by
  go_enter Try.func95, Try.ntmps95
  go_wp2_with (go_at_call 115; refine (word_any _).mono ?_; rintro e w' ⟨⟨a, b', c, d, rfl, h4⟩, hb⟩; have hb' : Below (w.heap.size + 1) _ w' := (by simpa using hb); have hy := res_cells hb'; obtain ⟨y0, y1, y2, y3, v0, v1, v2, v3⟩ := hy.cells)
  obtain ⟨z0, z1, z2, z3, _⟩ := (hy.set (.int .u64 (a : Nat)) (.int .u64 (b' : Nat)) (.int .u64 (c : Nat)) (.int .u64 (d : Nat))).cells
  exact bodyPost_ret (v := .agg #[.int .u64 (a : Nat), .int .u64 (b' : Nat), .int .u64 (c : Nat), .int .u64 (d : Nat)]) (by simp [results, Try.results95, go_sem, z0, z1, z2, z3]) rfl (res_put h4 hb')
set_option maxRecDepth 10000 in
set_option maxHeartbeats 1000000 in
theorem named_s115 (w : World) : Calls Try.prog 95 #[.int .u8 115] w (RetC w (spaceP)) := by
  go_enter Try.func95, Try.ntmps95
  go_wp2_with (go_at_call 116; refine (space_any _).mono ?_; rintro e w' ⟨⟨a, b', c, d, rfl, h4⟩, hb⟩; have hb' : Below (w.heap.size + 1) _ w' := (by simpa using hb); have hy := res_cells hb'; obtain ⟨y0, y1, y2, y3, v0, v1, v2, v3⟩ := hy.cells)
  obtain ⟨z0, z1, z2, z3, _⟩ := (hy.set (.int .u64 (a : Nat)) (.int .u64 (b' : Nat)) (.int .u64 (c : Nat)) (.int .u64 (d : Nat))).cells
  exact bodyPost_ret (v := .agg #[.int .u64 (a : Nat), .int .u64 (b' : Nat), .int .u64 (c : Nat), .int .u64 (d : Nat)]) (by simp [results, Try.results95, go_sem, z0, z1, z2, z3]) rfl (res_put h4 hb')
set_option maxRecDepth 10000 in
set_option maxHeartbeats 1000000 in
theorem named_D68 (w : World) : Calls Try.prog 95 #[.int .u8 68] w (RetC w (fun x => !rg 48 10 x)) := by
  go_enter Try.func95, Try.ntmps95
  go_wp2_with fail
  refine (digit_any _).mono ?_
  rintro e w1 ⟨⟨a0, b0, c0, d0, rfl, k4⟩, hb1⟩
  have e1 : Below (w.heap.size + 1) (w.alloc (.cells #[.int .u64 0, .int .u64 0, .int .u64 0, .int .u64 0] 40)) w1 := by simpa using hb1
  have e2 : w.heap.size + 1 ≤ w1.heap.size := by have := e1.size; simpa using this
  go_wp2_with fail
  refine (not_c k4 _).mono ?_
  rintro e w' ⟨⟨a, b', c, d, rfl, h4⟩, hb⟩
  have hb' := e1.trans (hb.mono e2)
  have hy := res_cells hb'
  obtain ⟨y0, y1, y2, y3, v0, v1, v2, v3⟩ := hy.cells
  go_wp2
  obtain ⟨z0, z1, z2, z3, _⟩ := (hy.set (.int .u64 (a : Nat)) (.int .u64 (b' : Nat)) (.int .u64 (c : Nat)) (.int .u64 (d : Nat))).cells
  exact bodyPost_ret (v := .agg #[.int .u64 (a : Nat), .int .u64 (b' : Nat), .int .u64 (c : Nat), .int .u64 (d : Nat)]) (by simp [results, Try.results95, go_sem, z0, z1, z2, z3]) rfl (res_put h4 hb')
set_option maxRecDepth 10000 in
set_option maxHeartbeats 1000000 in
theorem named_W87 (w : World) : Calls Try.prog 95 #[.int .u8 87] w (RetC w (fun x => !wordP x)) := by
  go_enter Try.func95, Try.ntmps95
  go_wp2_with fail
  refine (word_any _).mono ?_
  rintro e w1 ⟨⟨a0, b0, c0, d0, rfl, k4⟩, hb1⟩
  have e1 : Below (w.heap.size + 1) (w.alloc (.cells #[.int .u64 0, .int .u64 0, .int .u64 0, .int .u64 0] 40)) w1 := by simpa using hb1
  have e2 : w.heap.size + 1 ≤ w1.heap.size := by have := e1.size; simpa using this
  go_wp2_with fail
  refine (not_c k4 _).mono ?_
  rintro e w' ⟨⟨a, b', c, d, rfl, h4⟩, hb⟩
  have hb' := e1.trans (hb.mono e2)
  have hy := res_cells hb'
  obtain ⟨y0, y1, y2, y3, v0, v1, v2, v3⟩ := hy.cells
  go_wp2
  obtain ⟨z0, z1, z2, z3, _⟩ := (hy.set (.int .u64 (a : Nat)) (.int .u64 (b' : Nat)) (.int .u64 (c : Nat)) (.int .u64 (d : Nat))).cells
  exact bodyPost_ret (v := .agg #[.int .u64 (a : Nat), .int .u64 (b' : Nat), .int .u64 (c : Nat), .int .u64 (d : Nat)]) (by simp [results, Try.results95, go_sem, z0, z1, z2, z3]) rfl (res_put h4 hb')
set_option maxRecDepth 10000 in
set_option maxHeartbeats 1000000 in
theorem named_else (b : Nat) (w : World) (h1 : b ≠ 100) (h2 : b ≠ 119) (h3 : b ≠ 115) (h4' : b ≠ 68) (h5 : b ≠ 87) : Calls Try.prog 95 #[.int .u8 (b : Nat)] w (RetC w (fun x => !spaceP x)) := by
  have e1 : ((b : Int) == 100) = false := by simp; omega
  have e2 : ((b : Int) == 119) = false := by simp; omega
  have e3 : ((b : Int) == 115) = false := by simp; omega
  have e4 : ((b : Int) == 68) = false := by simp; omega
  have e5 : ((b : Int) == 87) = false := by simp; omega
  clear h1 h2 h3 h4' h5
  go_enter Try.func95, Try.ntmps95
  go_wp2_with fail
  refine (space_any _).mono ?_
  rintro e w1 ⟨⟨a0, b0, c0, d0, rfl, k4⟩, hb1⟩
  have e1 : Below (w.heap.size + 1) (w.alloc (.cells #[.int .u64 0, .int .u64 0, .int .u64 0, .int .u64 0] 40)) w1 := by simpa using hb1
  have e2 : w.heap.size + 1 ≤ w1.heap.size := by have := e1.size; simpa using this
  go_wp2_with fail
  refine (not_c k4 _).mono ?_
  rintro e w' ⟨⟨a, b', c, d, rfl, h4⟩, hb⟩
  have hb' := e1.trans (hb.mono e2)
  have hy := res_cells hb'
  obtain ⟨y0, y1, y2, y3, v0, v1, v2, v3⟩ := hy.cells
  go_wp2
  obtain ⟨z0, z1, z2, z3, _⟩ := (hy.set (.int .u64 (a : Nat)) (.int .u64 (b' : Nat)) (.int .u64 (c : Nat)) (.int .u64 (d : Nat))).cells
  exact bodyPost_ret (v := .agg #[.int .u64 (a : Nat), .int .u64 (b' : Nat), .int .u64 (c : Nat), .int .u64 (d : Nat)]) (by simp [results, Try.results95, go_sem, z0, z1, z2, z3]) rfl (res_put h4 hb')
theorem named_any (b : Nat) (w : World) : Calls Try.prog 95 #[.int .u8 (b : Nat)] w (RetC w (namP b)) := by
  unfold namP
  by_cases h1 : b = 100
  · subst h1; exact named_d100 w
  rw [if_neg h1]
  by_cases h2 : b = 119
  · subst h2; exact named_w119 w
  rw [if_neg h2]
  by_cases h3 : b = 115
  · subst h3; exact named_s115 w
  rw [if_neg h3]
  by_cases h4 : b = 68
  · subst h4; exact named_D68 w
  rw [if_neg h4]
  by_cases h5 : b = 87
  · subst h5; exact named_W87 w
  rw [if_neg h5]
  exact named_else b w h1 h2 h3 h4 h5
end Go.Proofs.Ytlmmiicibjfcdaa
namespace Go.Proofs.Ytlmmiicibjfcdaa
open Go.RowKit
theorem neq4 (a b c d a' b' c' d' : Int) (w : World) : (Go.binOp .neq 40 (.agg #[.int .u64 a, .int .u64 b, .int .u64 c, .int .u64 d]) (.agg #[.int .u64 a', .int .u64 b', .int .u64 c', .int .u64 d'])).run Try.prog w = .ok (.bool (!(a == a' && b == b' && c == c' && d == d'))) w := by
  obtain ⟨j, hj, _⟩ := Option.map_eq_some_iff.1 (show (Try.prog.info? 38).map (·.size) = some 1 by kernel_rfl)
  have h : (Op.equalIn (9999 + 1) 40 (.agg #[.int .u64 a, .int .u64 b, .int .u64 c, .int .u64 d]) (.agg #[.int .u64 a', .int .u64 b', .int .u64 c', .int .u64 d'])).run Try.prog w = .ok (a == a' && b == b' && c == c' && d == d') w := by
    rw [run_equalIn_array w 9999 _ _ Try.underlying40 hj, show List.range 4 = [0, 1, 2, 3] from rfl]
    simp only [Op.eqItems, Sem.run_bind, part0, Result.andThen_ok, eq24 9998]
    cases a == a'
    · simp only [Bool.not_false, if_true, Sem.run_pure, Bool.false_and]
    simp only [Bool.not_true, Bool.false_eq_true, if_false, Sem.run_bind, part1, Result.andThen_ok, eq24 9998, Bool.true_and]
    cases b == b'
    · simp only [Bool.not_false, if_true, Sem.run_pure, Bool.false_and]
    simp only [Bool.not_true, Bool.false_eq_true, if_false, Sem.run_bind, part2, Result.andThen_ok, eq24 9998, Bool.true_and]
    cases c == c'
    · simp only [Bool.not_false, if_true, Sem.run_pure, Bool.false_and]
    simp only [Bool.not_true, Bool.false_eq_true, if_false, Sem.run_bind, part3, Result.andThen_ok, eq24 9998, Bool.true_and]
    cases d == d'
    · simp only [Bool.not_false, if_true, Sem.run_pure]
    simp only [Bool.not_true, Bool.false_eq_true, if_false, Sem.run_pure]
  simp only [binOp]
  simp only [Op.equal, Op.maxDepth, Sem.run_bind, h, Result.andThen_ok]
  simp
theorem bel_drewN (w : World) (q : Nat) : Below w.heap.size w (w.drewN q) := by
  induction q with
  | zero => exact Below.refl _ _
  | succ q ih => exact ih.drew
/-- Whether a class may be. -/
def mayP (P : Nat → Bool) (not : Bool) : Bool := !eqC P (fun _ => false) && !(not && eqC P (fun _ => true))
def RetB (w : World) (v : Bool) (e : Ending) (w' : World) : Prop := e = .returned (.bool v) ∧ Below w.heap.size w w'
set_option maxRecDepth 100000 in
set_option maxHeartbeats 2000000 in
theorem mayClass_c {P : Nat → Bool} {a b c d : Nat} (h4 : C4 P a b c d) (not : Bool) (w : World) : Calls Try.prog 63 #[.agg #[.int .u64 (a : Nat), .int .u64 (b : Nat), .int .u64 (c : Nat), .int .u64 (d : Nat)], .bool not] w (RetB w (mayP P not)) := by
  have hB0 : Below w.heap.size w (w.alloc (.cells #[.int .u64 (a : Nat), .int .u64 (b : Nat), .int .u64 (c : Nat), .int .u64 (d : Nat)] 40)) := (Below.refl _ _).alloc (Nat.le_refl _) _
  have hx := (Bx.new w (.int .u64 (a : Nat)) (.int .u64 (b : Nat)) (.int .u64 (c : Nat)) (.int .u64 (d : Nat))).drew
  obtain ⟨c0, c1, c2, c3, _⟩ := hx.cells
  have hc : (w.alloc (.cells #[.int .u64 (a : Nat), .int .u64 (b : Nat), .int .u64 (c : Nat), .int .u64 (d : Nat)] 40)).drew.cell? ⟨w.heap.size, 0, none⟩ = some (.int .u64 (a : Nat)) ∧ (w.alloc (.cells #[.int .u64 (a : Nat), .int .u64 (b : Nat), .int .u64 (c : Nat), .int .u64 (d : Nat)] 40)).drew.cell? ⟨w.heap.size, 1, none⟩ = some (.int .u64 (b : Nat)) ∧ (w.alloc (.cells #[.int .u64 (a : Nat), .int .u64 (b : Nat), .int .u64 (c : Nat), .int .u64 (d : Nat)] 40)).drew.cell? ⟨w.heap.size, 2, none⟩ = some (.int .u64 (c : Nat)) ∧ (w.alloc (.cells #[.int .u64 (a : Nat), .int .u64 (b : Nat), .int .u64 (c : Nat), .int .u64 (d : Nat)] 40)).drew.cell? ⟨w.heap.size, 3, none⟩ = some (.int .u64 (d : Nat)) := ⟨c0, c1, c2, c3⟩
  have hne : ∀ W, (Go.binOp .neq 40 (.agg #[.int .u64 (a : Nat), .int .u64 (b : Nat), .int .u64 (c : Nat), .int .u64 (d : Nat)]) (.agg #[.int .u64 0, .int .u64 0, .int .u64 0, .int .u64 0])).run Try.prog W = .ok (.bool (!eqC P fun _ => false)) W := fun W => by
    have := neq4 (a : Int) (b : Int) (c : Int) (d : Int) 0 0 0 0 W
    rw [show (0 : Int) = ((0 : Nat) : Int) from rfl, eq4_iff h4 c4_none] at this
    exact this
  have hfull := full_any
  have HB0 : Hid (Below w.heap.size w (w.alloc (.cells #[.int .u64 (a : Nat), .int .u64 (b : Nat), .int .u64 (c : Nat), .int .u64 (d : Nat)] 40)).drew) := hB0.drew
  have HQ : Hid (∀ q, Below w.heap.size w ((w.alloc (.cells #[.int .u64 (a : Nat), .int .u64 (b : Nat), .int .u64 (c : Nat), .int .u64 (d : Nat)] 40)).drewN q)) := fun q => hB0.trans ((bel_drewN _ q).mono hB0.size)
  clear hB0 hx c0 c1 c2 c3
  have HV : Hid (∀ x : Bool, mayP P not = x → ∀ e w', RetB w x e w' → RetB w (mayP P not) e w') := fun x hx e w' h => by rw [hx]; exact h
  cases h0 : eqC P fun _ => false with
  | true =>
    rw [h0] at hne
    have HM : Hid (mayP P not = false) := by show mayP P not = false; unfold mayP; rw [h0]; rfl
    clear h0
    go_enter Try.func63, Try.ntmps63
    go_wp2_with fail
    go_quiet (fail)
    go_wp2
    go_ret
    exact HV.out _ HM.out _ _ ⟨rfl, HQ.out _⟩
  | false =>
    rw [h0] at hne
    cases not with
    | false =>
      have HM : Hid (mayP P false = true) := by show mayP P false = true; unfold mayP; rw [h0]; rfl
      clear h0
      go_enter Try.func63, Try.ntmps63
      go_wp2_with fail
      go_quiet (fail)
      go_wp2
      go_ret
      exact HV.out _ HM.out _ _ ⟨rfl, HQ.out _⟩
    | true =>
      have HM : Hid (mayP P true = !(eqC P fun _ => true)) := by show mayP P true = _; unfold mayP; rw [h0]; rfl
      have hfl : Hid (∀ W, Calls Try.prog 56 #[] W fun e w' => ∃ a' b' c' d' : Nat, e = .returned (.agg #[.int .u64 (a' : Nat), .int .u64 (b' : Nat), .int .u64 (c' : Nat), .int .u64 (d' : Nat)]) ∧ (∀ W, (Go.binOp .eql 40 (.agg #[.int .u64 (a : Nat), .int .u64 (b : Nat), .int .u64 (c : Nat), .int .u64 (d : Nat)]) (.agg #[.int .u64 (a' : Nat), .int .u64 (b' : Nat), .int .u64 (c' : Nat), .int .u64 (d' : Nat)])).run Try.prog W = .ok (.bool (eqC P fun _ => true)) W) ∧ Below W.heap.size W w') := fun W => (hfull W).mono fun e w' ⟨⟨a', b', c', d', he, k4⟩, hb⟩ => ⟨a', b', c', d', he, fun W => by rw [eql4, eq4_iff h4 k4], hb⟩
      generalize (eqC P fun _ => true) = y at *
      clear h0 hfull
      go_enter Try.func63, Try.ntmps63
      go_wp2_with fail
      go_region_held3 (fun w' => w'.cell? ⟨w.heap.size, 0, none⟩ = some (.int .u64 (a : Nat)) ∧ w'.cell? ⟨w.heap.size, 1, none⟩ = some (.int .u64 (b : Nat)) ∧ w'.cell? ⟨w.heap.size, 2, none⟩ = some (.int .u64 (c : Nat)) ∧ w'.cell? ⟨w.heap.size, 3, none⟩ = some (.int .u64 (d : Nat))) (exact hc)
        (first | (go_at_call 56; refine (hfl.out _).mono ?_; rintro e w1 ⟨a', b', c', d', rfl, hq, hb⟩; replace hc : w1.cell? ⟨w.heap.size, 0, none⟩ = some (.int .u64 (a : Nat)) ∧ w1.cell? ⟨w.heap.size, 1, none⟩ = some (.int .u64 (b : Nat)) ∧ w1.cell? ⟨w.heap.size, 2, none⟩ = some (.int .u64 (c : Nat)) ∧ w1.cell? ⟨w.heap.size, 3, none⟩ = some (.int .u64 (d : Nat)) := ⟨by rw [hb.cell (p := ⟨w.heap.size, 0, none⟩) (by simp)]; exact hc.1, by rw [hb.cell (p := ⟨w.heap.size, 1, none⟩) (by simp)]; exact hc.2.1, by rw [hb.cell (p := ⟨w.heap.size, 2, none⟩) (by simp)]; exact hc.2.2.1, by rw [hb.cell (p := ⟨w.heap.size, 3, none⟩) (by simp)]; exact hc.2.2.2⟩; have HB1 : Hid (Below w.heap.size w w1) := HB0.out.trans (hb.mono HB0.out.size); clear hb))
      all_goals
        go_wp2
        go_ret
        exact HV.out _ HM.out _ _ ⟨rfl, HB1.out⟩
end Go.Proofs.Ytlmmiicibjfcdaa
namespace Go.Proofs.Ytlmmiicibjfcdaa
open Go.RowKit
set_option maxRecDepth 10000 in
set_option maxHeartbeats 2000000 in
theorem esc_short (ao : Option Addr) (n cap at_ : Nat) (z : Nat → Nat) (w : World) (_hr : Rd w ao n z) (hn : (n : Int) ≤ 1024) (ha : at_ < n) (h : n < at_ + 2) : Calls Try.prog 84 #[.slice ao n cap, .int .i64 (at_ : Nat)] w (RetK w (tokV 0 0 0 0 0 0 false 0 0 false 0) (markV at_ 40)) := by
  have i2 : (n : Int) < (at_ : Int) + 2 := by omega
  go_enter Try.func84, Try.ntmps84
  go_wp2_with fail
  refine wp_scope_once 0 rfl ?_
  go_wp2_with fail
  go_step3
  refine And.intro rfl ?_
  go_wp2
  rw [Exit.noGoto_ret]
  exact bodyPost_ret (v := .tuple #[tokV 0 0 0 0 0 0 false 0 0 false 0, markV at_ 40]) (by simp [results, Try.results84, go_sem, tokV, markV]) rfl ⟨rfl, bel3 _ _ _ _⟩
set_option maxRecDepth 10000 in
set_option maxHeartbeats 2000000 in
theorem esc_110 (ao : Option Addr) (n cap at_ : Nat) (z : Nat → Nat) (w : World) (hr : Rd w ao n z) (hn : (n : Int) ≤ 1024) (h : at_ + 2 ≤ n) (hq : z (at_ + 1) = 110) : Calls Try.prog 84 #[.slice ao n cap, .int .i64 (at_ : Nat)] w (RetK w (tokV 1 10 0 0 0 0 false 0 0 false at_) (markV (at_ + 2) 0)) := by
  obtain ⟨bb, off, rfl, hbb, hc⟩ := hr.at_ (by omega)
  have t0 := hc (at_ + 1) (by omega)
  have i1 : (at_ : Int) + 1 < (n : Int) := by omega
  have i2 : (at_ : Int) + 2 ≤ (n : Int) := by omega
  have t1 : (((w.alloc (.cells #[.int .i64 0, .int .u8 0, .int .u64 0, .int .u64 0, .int .u64 0, .int .u64 0, .bool false, .int .i64 0, .int .i64 0, .bool false, .int .i64 0] 42)).alloc (.cells #[.int .i64 0, .int .i64 0] 96)).alloc (.cells #[.int .i64 1, .int .u8 0, .int .u64 0, .int .u64 0, .int .u64 0, .int .u64 0, .bool false, .int .i64 0, .int .i64 0, .bool false, .int .i64 (at_ : Nat)] 42)).cell? ⟨bb, off + (at_ + 1), none⟩ = some (.int .u8 (z (at_ + 1) : Nat)) := by rw [(bel3 w _ _ _).cell (p := ⟨bb, off + (at_ + 1), none⟩) hbb]; exact t0
  clear hc
  rw [hq] at t1
  clear hr t0 hq
  go_enter Try.func84, Try.ntmps84
  go_wp2_with fail
  refine wp_scope_once 0 rfl ?_
  go_wp2
  exact bodyPost_ret (v := .tuple #[tokV 1 10 0 0 0 0 false 0 0 false at_, markV (at_ + 2) 0]) (by simp [results, Try.results84, go_sem, tokV, markV]) rfl ⟨rfl, bel3 _ _ _ _⟩
set_option maxRecDepth 10000 in
set_option maxHeartbeats 2000000 in
theorem esc_114 (ao : Option Addr) (n cap at_ : Nat) (z : Nat → Nat) (w : World) (hr : Rd w ao n z) (hn : (n : Int) ≤ 1024) (h : at_ + 2 ≤ n) (hq : z (at_ + 1) = 114) : Calls Try.prog 84 #[.slice ao n cap, .int .i64 (at_ : Nat)] w (RetK w (tokV 1 13 0 0 0 0 false 0 0 false at_) (markV (at_ + 2) 0)) := by
  obtain ⟨bb, off, rfl, hbb, hc⟩ := hr.at_ (by omega)
  have t0 := hc (at_ + 1) (by omega)
  have i1 : (at_ : Int) + 1 < (n : Int) := by omega
  have i2 : (at_ : Int) + 2 ≤ (n : Int) := by omega
  have t1 : (((w.alloc (.cells #[.int .i64 0, .int .u8 0, .int .u64 0, .int .u64 0, .int .u64 0, .int .u64 0, .bool false, .int .i64 0, .int .i64 0, .bool false, .int .i64 0] 42)).alloc (.cells #[.int .i64 0, .int .i64 0] 96)).alloc (.cells #[.int .i64 1, .int .u8 0, .int .u64 0, .int .u64 0, .int .u64 0, .int .u64 0, .bool false, .int .i64 0, .int .i64 0, .bool false, .int .i64 (at_ : Nat)] 42)).cell? ⟨bb, off + (at_ + 1), none⟩ = some (.int .u8 (z (at_ + 1) : Nat)) := by rw [(bel3 w _ _ _).cell (p := ⟨bb, off + (at_ + 1), none⟩) hbb]; exact t0
  clear hc
  rw [hq] at t1
  clear hr t0 hq
  go_enter Try.func84, Try.ntmps84
  go_wp2_with fail
  refine wp_scope_once 0 rfl ?_
  go_wp2
  exact bodyPost_ret (v := .tuple #[tokV 1 13 0 0 0 0 false 0 0 false at_, markV (at_ + 2) 0]) (by simp [results, Try.results84, go_sem, tokV, markV]) rfl ⟨rfl, bel3 _ _ _ _⟩
set_option maxRecDepth 10000 in
set_option maxHeartbeats 2000000 in
theorem esc_116 (ao : Option Addr) (n cap at_ : Nat) (z : Nat → Nat) (w : World) (hr : Rd w ao n z) (hn : (n : Int) ≤ 1024) (h : at_ + 2 ≤ n) (hq : z (at_ + 1) = 116) : Calls Try.prog 84 #[.slice ao n cap, .int .i64 (at_ : Nat)] w (RetK w (tokV 1 9 0 0 0 0 false 0 0 false at_) (markV (at_ + 2) 0)) := by
  obtain ⟨bb, off, rfl, hbb, hc⟩ := hr.at_ (by omega)
  have t0 := hc (at_ + 1) (by omega)
  have i1 : (at_ : Int) + 1 < (n : Int) := by omega
  have i2 : (at_ : Int) + 2 ≤ (n : Int) := by omega
  have t1 : (((w.alloc (.cells #[.int .i64 0, .int .u8 0, .int .u64 0, .int .u64 0, .int .u64 0, .int .u64 0, .bool false, .int .i64 0, .int .i64 0, .bool false, .int .i64 0] 42)).alloc (.cells #[.int .i64 0, .int .i64 0] 96)).alloc (.cells #[.int .i64 1, .int .u8 0, .int .u64 0, .int .u64 0, .int .u64 0, .int .u64 0, .bool false, .int .i64 0, .int .i64 0, .bool false, .int .i64 (at_ : Nat)] 42)).cell? ⟨bb, off + (at_ + 1), none⟩ = some (.int .u8 (z (at_ + 1) : Nat)) := by rw [(bel3 w _ _ _).cell (p := ⟨bb, off + (at_ + 1), none⟩) hbb]; exact t0
  clear hc
  rw [hq] at t1
  clear hr t0 hq
  go_enter Try.func84, Try.ntmps84
  go_wp2_with fail
  refine wp_scope_once 0 rfl ?_
  go_wp2
  exact bodyPost_ret (v := .tuple #[tokV 1 9 0 0 0 0 false 0 0 false at_, markV (at_ + 2) 0]) (by simp [results, Try.results84, go_sem, tokV, markV]) rfl ⟨rfl, bel3 _ _ _ _⟩
set_option maxRecDepth 10000 in
set_option maxHeartbeats 2000000 in
theorem esc_hex (ao : Option Addr) (n cap at_ : Nat) (z : Nat → Nat) (w : World) (hr : Rd w ao n z) (hn : (n : Int) ≤ 1024) (h : at_ + 2 ≤ n) (hq : z (at_ + 1) = 120) (v : Nat) (hv : hexV z n (at_ + 2) = (v, true)) : Calls Try.prog 84 #[.slice ao n cap, .int .i64 (at_ : Nat)] w (RetK w (tokV 1 v 0 0 0 0 false 0 0 false at_) (markV (at_ + 4) 0)) := by
  obtain ⟨bb, off, rfl, hbb, hc⟩ := hr.at_ (by omega)
  have t0 := hc (at_ + 1) (by omega)
  have i1 : (at_ : Int) + 1 < (n : Int) := by omega
  have i2 : (at_ : Int) + 2 ≤ (n : Int) := by omega
  have t1 : (((w.alloc (.cells #[.int .i64 0, .int .u8 0, .int .u64 0, .int .u64 0, .int .u64 0, .int .u64 0, .bool false, .int .i64 0, .int .i64 0, .bool false, .int .i64 0] 42)).alloc (.cells #[.int .i64 0, .int .i64 0] 96)).alloc (.cells #[.int .i64 1, .int .u8 0, .int .u64 0, .int .u64 0, .int .u64 0, .int .u64 0, .bool false, .int .i64 0, .int .i64 0, .bool false, .int .i64 (at_ : Nat)] 42)).cell? ⟨bb, off + (at_ + 1), none⟩ = some (.int .u8 (z (at_ + 1) : Nat)) := by rw [(bel3 w _ _ _).cell (p := ⟨bb, off + (at_ + 1), none⟩) hbb]; exact t0
  clear hc
  rw [hq] at t1
  have HH : Hid (∀ W, Below w.heap.size w W → Calls Try.prog 96 #[.slice (some ⟨bb, off, none⟩) n cap, .int .i64 ((at_ : Int) + 2)] W fun e w' => e = .returned (.tuple #[.int .u8 (v : Nat), .bool true]) ∧ w' = W) := fun W hb => by
    have := hex_any (some ⟨bb, off, none⟩) n cap (at_ + 2) z W (hr.below hb) hn (by omega)
    rw [hv] at this
    exact this
  clear hr t0 hq hv
  go_enter Try.func84, Try.ntmps84
  go_wp2_with fail
  refine wp_scope_once 0 rfl ?_
  go_wp2_with fail
  refine (HH.out _ (bel3 _ _ _ _)).mono ?_
  rintro e w1 ⟨rfl, rfl⟩
  go_wp2
  exact bodyPost_ret (v := .tuple #[tokV 1 v 0 0 0 0 false 0 0 false at_, markV (at_ + 4) 0]) (by simp [results, Try.results84, go_sem, tokV, markV]; omega) rfl ⟨rfl, bel3 _ _ _ _⟩
set_option maxRecDepth 10000 in
set_option maxHeartbeats 2000000 in
theorem esc_nohex (ao : Option Addr) (n cap at_ : Nat) (z : Nat → Nat) (w : World) (hr : Rd w ao n z) (hn : (n : Int) ≤ 1024) (h : at_ + 2 ≤ n) (hq : z (at_ + 1) = 120) (v : Nat) (hv : hexV z n (at_ + 2) = (v, false)) : Calls Try.prog 84 #[.slice ao n cap, .int .i64 (at_ : Nat)] w (RetK w (tokV 0 0 0 0 0 0 false 0 0 false 0) (markV at_ 40)) := by
  obtain ⟨bb, off, rfl, hbb, hc⟩ := hr.at_ (by omega)
  have t0 := hc (at_ + 1) (by omega)
  have i1 : (at_ : Int) + 1 < (n : Int) := by omega
  have i2 : (at_ : Int) + 2 ≤ (n : Int) := by omega
  have t1 : (((w.alloc (.cells #[.int .i64 0, .int .u8 0, .int .u64 0, .int .u64 0, .int .u64 0, .int .u64 0, .bool false, .int .i64 0, .int .i64 0, .bool false, .int .i64 0] 42)).alloc (.cells #[.int .i64 0, .int .i64 0] 96)).alloc (.cells #[.int .i64 1, .int .u8 0, .int .u64 0, .int .u64 0, .int .u64 0, .int .u64 0, .bool false, .int .i64 0, .int .i64 0, .bool false, .int .i64 (at_ : Nat)] 42)).cell? ⟨bb, off + (at_ + 1), none⟩ = some (.int .u8 (z (at_ + 1) : Nat)) := by rw [(bel3 w _ _ _).cell (p := ⟨bb, off + (at_ + 1), none⟩) hbb]; exact t0
  clear hc
  rw [hq] at t1
  have HH : Hid (∀ W, Below w.heap.size w W → Calls Try.prog 96 #[.slice (some ⟨bb, off, none⟩) n cap, .int .i64 ((at_ : Int) + 2)] W fun e w' => e = .returned (.tuple #[.int .u8 (v : Nat), .bool false]) ∧ w' = W) := fun W hb => by
    have := hex_any (some ⟨bb, off, none⟩) n cap (at_ + 2) z W (hr.below hb) hn (by omega)
    rw [hv] at this
    exact this
  clear hr t0 hq hv
  go_enter Try.func84, Try.ntmps84
  go_wp2_with fail
  refine wp_scope_once 0 rfl ?_
  go_wp2_with fail
  refine (HH.out _ (bel3 _ _ _ _)).mono ?_
  rintro e w1 ⟨rfl, rfl⟩
  go_wp2_with fail
  go_step3
  go_wp2
  exact bodyPost_ret (v := .tuple #[tokV 0 0 0 0 0 0 false 0 0 false 0, markV at_ 40]) (by simp [results, Try.results84, go_sem, tokV, markV]) rfl ⟨rfl, bel3 _ _ _ _⟩
set_option maxRecDepth 10000 in
set_option maxHeartbeats 2000000 in
theorem esc_letter (ao : Option Addr) (n cap at_ : Nat) (z : Nat → Nat) (w : World) (hr : Rd w ao n z) (hn : (n : Int) ≤ 1024) (h : at_ + 2 ≤ n) (q : Nat) (hq : z (at_ + 1) = q) (hne : q ≠ 100 ∧ q ≠ 119 ∧ q ≠ 115 ∧ q ≠ 68 ∧ q ≠ 87 ∧ q ≠ 83 ∧ q ≠ 110 ∧ q ≠ 114 ∧ q ≠ 116 ∧ q ≠ 120) (hl : letP q = true) : Calls Try.prog 84 #[.slice ao n cap, .int .i64 (at_ : Nat)] w (RetK w (tokV 0 0 0 0 0 0 false 0 0 false 0) (markV at_ 40)) := by
  obtain ⟨bb, off, rfl, hbb, hc⟩ := hr.at_ (by omega)
  have t0 := hc (at_ + 1) (by omega)
  have i1 : (at_ : Int) + 1 < (n : Int) := by omega
  have i2 : (at_ : Int) + 2 ≤ (n : Int) := by omega
  have t1 : (((w.alloc (.cells #[.int .i64 0, .int .u8 0, .int .u64 0, .int .u64 0, .int .u64 0, .int .u64 0, .bool false, .int .i64 0, .int .i64 0, .bool false, .int .i64 0] 42)).alloc (.cells #[.int .i64 0, .int .i64 0] 96)).alloc (.cells #[.int .i64 1, .int .u8 0, .int .u64 0, .int .u64 0, .int .u64 0, .int .u64 0, .bool false, .int .i64 0, .int .i64 0, .bool false, .int .i64 (at_ : Nat)] 42)).cell? ⟨bb, off + (at_ + 1), none⟩ = some (.int .u8 (z (at_ + 1) : Nat)) := by rw [(bel3 w _ _ _).cell (p := ⟨bb, off + (at_ + 1), none⟩) hbb]; exact t0
  clear hc
  rw [hq] at t1
  have e100 : ((q : Int) == 100) = false := by simp; omega
  have e119 : ((q : Int) == 119) = false := by simp; omega
  have e115 : ((q : Int) == 115) = false := by simp; omega
  have e68 : ((q : Int) == 68) = false := by simp; omega
  have e87 : ((q : Int) == 87) = false := by simp; omega
  have e83 : ((q : Int) == 83) = false := by simp; omega
  have e110 : ((q : Int) == 110) = false := by simp; omega
  have e114 : ((q : Int) == 114) = false := by simp; omega
  have e116 : ((q : Int) == 116) = false := by simp; omega
  have e120 : ((q : Int) == 120) = false := by simp; omega
  have L1 := fun W => isLetter_any q W
  have D1 := fun W => isDigit_any q W
  rw [hl] at L1
  have HL : Hid (∀ W, Calls Try.prog 97 #[.int .u8 (q : Nat)] W fun e w' => e = .returned (.bool true) ∧ w' = W) := L1
  clear hr t0 hq hne hl L1 D1
  go_enter Try.func84, Try.ntmps84
  go_wp2_with fail
  refine wp_scope_once 0 rfl ?_
  go_wp2_with fail
  refine (HL.out _).mono ?_
  rintro e w1 ⟨rfl, rfl⟩
  go_wp2_with fail
  go_step3
  go_wp2
  exact bodyPost_ret (v := .tuple #[tokV 0 0 0 0 0 0 false 0 0 false 0, markV at_ 40]) (by simp [results, Try.results84, go_sem, tokV, markV]) rfl ⟨rfl, bel3 _ _ _ _⟩
set_option maxRecDepth 10000 in
set_option maxHeartbeats 2000000 in
theorem esc_digit (ao : Option Addr) (n cap at_ : Nat) (z : Nat → Nat) (w : World) (hr : Rd w ao n z) (hn : (n : Int) ≤ 1024) (h : at_ + 2 ≤ n) (q : Nat) (hq : z (at_ + 1) = q) (hne : q ≠ 100 ∧ q ≠ 119 ∧ q ≠ 115 ∧ q ≠ 68 ∧ q ≠ 87 ∧ q ≠ 83 ∧ q ≠ 110 ∧ q ≠ 114 ∧ q ≠ 116 ∧ q ≠ 120) (hl : letP q = false) (hd : digP q = true) : Calls Try.prog 84 #[.slice ao n cap, .int .i64 (at_ : Nat)] w (RetK w (tokV 0 0 0 0 0 0 false 0 0 false 0) (markV at_ 40)) := by
  obtain ⟨bb, off, rfl, hbb, hc⟩ := hr.at_ (by omega)
  have t0 := hc (at_ + 1) (by omega)
  have i1 : (at_ : Int) + 1 < (n : Int) := by omega
  have i2 : (at_ : Int) + 2 ≤ (n : Int) := by omega
  have t1 : (((w.alloc (.cells #[.int .i64 0, .int .u8 0, .int .u64 0, .int .u64 0, .int .u64 0, .int .u64 0, .bool false, .int .i64 0, .int .i64 0, .bool false, .int .i64 0] 42)).alloc (.cells #[.int .i64 0, .int .i64 0] 96)).alloc (.cells #[.int .i64 1, .int .u8 0, .int .u64 0, .int .u64 0, .int .u64 0, .int .u64 0, .bool false, .int .i64 0, .int .i64 0, .bool false, .int .i64 (at_ : Nat)] 42)).cell? ⟨bb, off + (at_ + 1), none⟩ = some (.int .u8 (z (at_ + 1) : Nat)) := by rw [(bel3 w _ _ _).cell (p := ⟨bb, off + (at_ + 1), none⟩) hbb]; exact t0
  clear hc
  rw [hq] at t1
  have e100 : ((q : Int) == 100) = false := by simp; omega
  have e119 : ((q : Int) == 119) = false := by simp; omega
  have e115 : ((q : Int) == 115) = false := by simp; omega
  have e68 : ((q : Int) == 68) = false := by simp; omega
  have e87 : ((q : Int) == 87) = false := by simp; omega
  have e83 : ((q : Int) == 83) = false := by simp; omega
  have e110 : ((q : Int) == 110) = false := by simp; omega
  have e114 : ((q : Int) == 114) = false := by simp; omega
  have e116 : ((q : Int) == 116) = false := by simp; omega
  have e120 : ((q : Int) == 120) = false := by simp; omega
  have L1 := fun W => isLetter_any q W
  have D1 := fun W => isDigit_any q W
  rw [hl] at L1
  rw [hd] at D1
  have HL : Hid (∀ W, Calls Try.prog 97 #[.int .u8 (q : Nat)] W fun e w' => e = .returned (.bool false) ∧ w' = W) := L1
  have HD : Hid (∀ W, Calls Try.prog 98 #[.int .u8 (q : Nat)] W fun e w' => e = .returned (.bool true) ∧ w' = W) := D1
  clear hr t0 hq hne hl hd L1 D1
  go_enter Try.func84, Try.ntmps84
  go_wp2_with fail
  refine wp_scope_once 0 rfl ?_
  go_wp2_with fail
  refine (HL.out _).mono ?_
  rintro e w1 ⟨rfl, rfl⟩
  go_wp2_with fail
  refine (HD.out _).mono ?_
  rintro e w2 ⟨rfl, rfl⟩
  go_wp2_with fail
  go_step3
  go_wp2
  exact bodyPost_ret (v := .tuple #[tokV 0 0 0 0 0 0 false 0 0 false 0, markV at_ 40]) (by simp [results, Try.results84, go_sem, tokV, markV]) rfl ⟨rfl, bel3 _ _ _ _⟩
set_option maxRecDepth 10000 in
set_option maxHeartbeats 2000000 in
theorem esc_plain (ao : Option Addr) (n cap at_ : Nat) (z : Nat → Nat) (w : World) (hr : Rd w ao n z) (hn : (n : Int) ≤ 1024) (h : at_ + 2 ≤ n) (q : Nat) (hq : z (at_ + 1) = q) (hne : q ≠ 100 ∧ q ≠ 119 ∧ q ≠ 115 ∧ q ≠ 68 ∧ q ≠ 87 ∧ q ≠ 83 ∧ q ≠ 110 ∧ q ≠ 114 ∧ q ≠ 116 ∧ q ≠ 120) (hl : letP q = false) (hd : digP q = false) : Calls Try.prog 84 #[.slice ao n cap, .int .i64 (at_ : Nat)] w (RetK w (tokV 1 q 0 0 0 0 false 0 0 false at_) (markV (at_ + 2) 0)) := by
  obtain ⟨bb, off, rfl, hbb, hc⟩ := hr.at_ (by omega)
  have t0 := hc (at_ + 1) (by omega)
  have i1 : (at_ : Int) + 1 < (n : Int) := by omega
  have i2 : (at_ : Int) + 2 ≤ (n : Int) := by omega
  have t1 : (((w.alloc (.cells #[.int .i64 0, .int .u8 0, .int .u64 0, .int .u64 0, .int .u64 0, .int .u64 0, .bool false, .int .i64 0, .int .i64 0, .bool false, .int .i64 0] 42)).alloc (.cells #[.int .i64 0, .int .i64 0] 96)).alloc (.cells #[.int .i64 1, .int .u8 0, .int .u64 0, .int .u64 0, .int .u64 0, .int .u64 0, .bool false, .int .i64 0, .int .i64 0, .bool false, .int .i64 (at_ : Nat)] 42)).cell? ⟨bb, off + (at_ + 1), none⟩ = some (.int .u8 (z (at_ + 1) : Nat)) := by rw [(bel3 w _ _ _).cell (p := ⟨bb, off + (at_ + 1), none⟩) hbb]; exact t0
  clear hc
  rw [hq] at t1
  have e100 : ((q : Int) == 100) = false := by simp; omega
  have e119 : ((q : Int) == 119) = false := by simp; omega
  have e115 : ((q : Int) == 115) = false := by simp; omega
  have e68 : ((q : Int) == 68) = false := by simp; omega
  have e87 : ((q : Int) == 87) = false := by simp; omega
  have e83 : ((q : Int) == 83) = false := by simp; omega
  have e110 : ((q : Int) == 110) = false := by simp; omega
  have e114 : ((q : Int) == 114) = false := by simp; omega
  have e116 : ((q : Int) == 116) = false := by simp; omega
  have e120 : ((q : Int) == 120) = false := by simp; omega
  have L1 := fun W => isLetter_any q W
  have D1 := fun W => isDigit_any q W
  rw [hl] at L1
  rw [hd] at D1
  have HL : Hid (∀ W, Calls Try.prog 97 #[.int .u8 (q : Nat)] W fun e w' => e = .returned (.bool false) ∧ w' = W) := L1
  have HD : Hid (∀ W, Calls Try.prog 98 #[.int .u8 (q : Nat)] W fun e w' => e = .returned (.bool false) ∧ w' = W) := D1
  clear hr t0 hq hne hl hd L1 D1
  go_enter Try.func84, Try.ntmps84
  go_wp2_with fail
  refine wp_scope_once 0 rfl ?_
  go_wp2_with fail
  refine (HL.out _).mono ?_
  rintro e w1 ⟨rfl, rfl⟩
  go_wp2_with fail
  refine (HD.out _).mono ?_
  rintro e w2 ⟨rfl, rfl⟩
  go_wp2
  exact bodyPost_ret (v := .tuple #[tokV 1 q 0 0 0 0 false 0 0 false at_, markV (at_ + 2) 0]) (by simp [results, Try.results84, go_sem, tokV, markV]) rfl ⟨rfl, bel3 _ _ _ _⟩
end Go.Proofs.Ytlmmiicibjfcdaa
namespace Go.Proofs.Ytlmmiicibjfcdaa
open Go.RowKit
/-- A token of a class, and a mark; nothing old has turned. -/
def RetKC (w : World) (P : Nat → Bool) (not : Bool) (at_ en : Nat) (e : Ending) (w' : World) : Prop := ∃ a b c d : Nat, e = .returned (.tuple #[tokV 2 0 a b c d not 0 0 false at_, markV en 0]) ∧ C4 P a b c d ∧ Below w.heap.size w w'
/-- The three blocks of a reader's call, and the world behind another call. -/
theorem cl0 (w : World) (o p : Obj) : Cl (((w.alloc (.cells #[.int .i64 0, .int .u8 0, .int .u64 0, .int .u64 0, .int .u64 0, .int .u64 0, .bool false, .int .i64 0, .int .i64 0, .bool false, .int .i64 0] 42)).alloc o).alloc p) w.heap.size 42 [.int .i64 0, .int .u8 0, .int .u64 0, .int .u64 0, .int .u64 0, .int .u64 0, .bool false, .int .i64 0, .int .i64 0, .bool false, .int .i64 0] := ((Cl.new w 42 _).alloc _).alloc _
theorem cl1 (w : World) (o p : Obj) : Cl (((w.alloc o).alloc (.cells #[.int .i64 0, .int .i64 0] 96)).alloc p) (w.heap.size + 1) 96 [.int .i64 0, .int .i64 0] := by
  have := (Cl.new (w.alloc o) 96 [.int .i64 0, .int .i64 0]).alloc p
  simpa using this
theorem cl2 (w : World) (o p : Obj) (vs : List Value) : Cl (((w.alloc o).alloc p).alloc (.cells vs.toArray 42)) (w.heap.size + 1 + 1) 42 vs := by
  have := Cl.new ((w.alloc o).alloc p) 42 vs
  simpa using this
set_option maxRecDepth 10000 in
set_option maxHeartbeats 4000000 in
theorem esc_class (ao : Option Addr) (n cap at_ : Nat) (z : Nat → Nat) (w : World) (hr : Rd w ao n z) (hn : (n : Int) ≤ 1024) (h : at_ + 2 ≤ n) (q : Nat) (hq : z (at_ + 1) = q) (hin : q = 100 ∨ q = 119 ∨ q = 115 ∨ q = 68 ∨ q = 87 ∨ q = 83) : Calls Try.prog 84 #[.slice ao n cap, .int .i64 (at_ : Nat)] w (RetKC w (namP q) false at_ (at_ + 2)) := by
  obtain ⟨bb, off, rfl, hbb, hc⟩ := hr.at_ (by omega)
  have t0 := hc (at_ + 1) (by omega)
  have i1 : (at_ : Int) + 1 < (n : Int) := by omega
  have i2 : (at_ : Int) + 2 ≤ (n : Int) := by omega
  have t1 : (((w.alloc (.cells #[.int .i64 0, .int .u8 0, .int .u64 0, .int .u64 0, .int .u64 0, .int .u64 0, .bool false, .int .i64 0, .int .i64 0, .bool false, .int .i64 0] 42)).alloc (.cells #[.int .i64 0, .int .i64 0] 96)).alloc (.cells #[.int .i64 1, .int .u8 0, .int .u64 0, .int .u64 0, .int .u64 0, .int .u64 0, .bool false, .int .i64 0, .int .i64 0, .bool false, .int .i64 (at_ : Nat)] 42)).cell? ⟨bb, off + (at_ + 1), none⟩ = some (.int .u8 (z (at_ + 1) : Nat)) := by rw [(bel3 w _ _ _).cell (p := ⟨bb, off + (at_ + 1), none⟩) hbb]; exact t0
  rw [hq] at t1
  have HN : Hid (∀ W, Calls Try.prog 95 #[.int .u8 (q : Nat)] W (RetC W (namP q))) := fun W => named_any q W
  generalize namP q = PP at *
  clear hc t0 hq hr
  rcases hin with rfl | rfl | rfl | rfl | rfl | rfl
  all_goals
    go_enter Try.func84, Try.ntmps84
    go_wp2_with fail
    refine wp_scope_once 0 rfl ?_
    go_wp2_with fail
    refine (HN.out _).mono ?_
    rintro e w1 ⟨⟨a, b, c, d, rfl, h4⟩, hb⟩
    have k0 := (cl0 w (.cells #[.int .i64 0, .int .i64 0] 96) (.cells #[.int .i64 1, .int .u8 0, .int .u64 0, .int .u64 0, .int .u64 0, .int .u64 0, .bool false, .int .i64 0, .int .i64 0, .bool false, .int .i64 (at_ : Nat)] 42)).below hb
    have k1 := (cl1 w (.cells #[.int .i64 0, .int .u8 0, .int .u64 0, .int .u64 0, .int .u64 0, .int .u64 0, .bool false, .int .i64 0, .int .i64 0, .bool false, .int .i64 0] 42) (.cells #[.int .i64 1, .int .u8 0, .int .u64 0, .int .u64 0, .int .u64 0, .int .u64 0, .bool false, .int .i64 0, .int .i64 0, .bool false, .int .i64 (at_ : Nat)] 42)).below hb
    have k2 : Cl w1 (w.heap.size + 1 + 1) 42 [.int .i64 1, .int .u8 0, .int .u64 0, .int .u64 0, .int .u64 0, .int .u64 0, .bool false, .int .i64 0, .int .i64 0, .bool false, .int .i64 (at_ : Nat)] := (cl2 w (.cells #[.int .i64 0, .int .u8 0, .int .u64 0, .int .u64 0, .int .u64 0, .int .u64 0, .bool false, .int .i64 0, .int .i64 0, .bool false, .int .i64 0] 42) (.cells #[.int .i64 0, .int .i64 0] 96) _).below hb
    have hB1 : Below w.heap.size w w1 := (bel3 w _ _ _).trans (hb.mono (by simp; omega))
    clear hb t1
    have m0 := (((((k0.other (k := w.heap.size + 1 + 1) (by omega) 0 (.int .i64 2)).other (k := w.heap.size + 1 + 1) (by omega) 2 (.int .u64 (a : Nat))).other (k := w.heap.size + 1 + 1) (by omega) 3 (.int .u64 (b : Nat))).other (k := w.heap.size + 1 + 1) (by omega) 4 (.int .u64 (c : Nat))).other (k := w.heap.size + 1 + 1) (by omega) 5 (.int .u64 (d : Nat)))
    have m1 := (((((k1.other (k := w.heap.size + 1 + 1) (by omega) 0 (.int .i64 2)).other (k := w.heap.size + 1 + 1) (by omega) 2 (.int .u64 (a : Nat))).other (k := w.heap.size + 1 + 1) (by omega) 3 (.int .u64 (b : Nat))).other (k := w.heap.size + 1 + 1) (by omega) 4 (.int .u64 (c : Nat))).other (k := w.heap.size + 1 + 1) (by omega) 5 (.int .u64 (d : Nat)))
    have F := ((m0.put11 (.int .i64 2) (.int .u8 0) (.int .u64 (a : Nat)) (.int .u64 (b : Nat)) (.int .u64 (c : Nat)) (.int .u64 (d : Nat)) (.bool false) (.int .i64 0) (.int .i64 0) (.bool false) (.int .i64 (at_ : Nat))).others2 (k := w.heap.size + 1) (by omega) (.int .i64 ((at_ : Int) + 2)) (.int .i64 0)).eleven.1
    have G := ((m1.others11 (k := w.heap.size) (by omega) (.int .i64 2) (.int .u8 0) (.int .u64 (a : Nat)) (.int .u64 (b : Nat)) (.int .u64 (c : Nat)) (.int .u64 (d : Nat)) (.bool false) (.int .i64 0) (.int .i64 0) (.bool false) (.int .i64 (at_ : Nat))).put2 (.int .i64 ((at_ : Int) + 2)) (.int .i64 0)).two.1
    have hB4 := below_put2 (b := w.heap.size + 1) (below_put11 (b := w.heap.size) (((((hB1.setCell (p := ⟨w.heap.size + 1 + 1, 0, none⟩) (by simp; omega) (.int .i64 2)).setCell (p := ⟨w.heap.size + 1 + 1, 2, none⟩) (by simp; omega) (.int .u64 (a : Nat))).setCell (p := ⟨w.heap.size + 1 + 1, 3, none⟩) (by simp; omega) (.int .u64 (b : Nat))).setCell (p := ⟨w.heap.size + 1 + 1, 4, none⟩) (by simp; omega) (.int .u64 (c : Nat))).setCell (p := ⟨w.heap.size + 1 + 1, 5, none⟩) (by simp; omega) (.int .u64 (d : Nat))) (Nat.le_refl _) (.int .i64 2) (.int .u8 0) (.int .u64 (a : Nat)) (.int .u64 (b : Nat)) (.int .u64 (c : Nat)) (.int .u64 (d : Nat)) (.bool false) (.int .i64 0) (.int .i64 0) (.bool false) (.int .i64 (at_ : Nat))) (by omega) (.int .i64 ((at_ : Int) + 2)) (.int .i64 0)
    simp only [put2, put11] at F G
    obtain ⟨F0, F1, F2, F3, F4, F5, F6, F7, F8, F9, F10⟩ := F
    obtain ⟨G0, G1⟩ := G
    have HF : Hid (Below w.heap.size w _) := hB4
    obtain ⟨⟨a0, a1, a2, a3, a4, a5, a6, a7, a8, a9, a10⟩, x0, x1, x2, x3, x4, x5, x6, x7, x8, x9, x10⟩ := k2.eleven
    obtain ⟨⟨b0, b1, b2, b3, b4, b5, b6, b7, b8, b9, b10⟩, g0, g1, g2, g3, g4, g5, g6, g7, g8, g9, g10⟩ := k0.eleven
    obtain ⟨⟨r0, r1⟩, s0, s1⟩ := k1.two
    clear k0 k1 k2 m0 m1 hB1 hB4
    go_wp2
    exact bodyPost_ret (v := .tuple #[tokV 2 0 a b c d false 0 0 false at_, markV (at_ + 2) 0]) (by simp [results, Try.results84, go_sem, tokV, markV, F0, F1, F2, F3, F4, F5, F6, F7, F8, F9, F10, G0, G1]) rfl ⟨a, b, c, d, rfl, h4, HF.out⟩
end Go.Proofs.Ytlmmiicibjfcdaa
