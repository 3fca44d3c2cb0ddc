/- token: mayClass, unit's byte, bytesOf: the walks. token: escape, but for classes: the walks. -/
import Derived.Test.YtkbeiadbolihiaaDoorM08Kf
import Derived.ChangeKeysEq
namespace Go.Proofs.YtkbeiadbolihiaaDoor
open Go.RowKit
theorem neq4 (a b c d a' b' c' d' : Int) (w : World) : (Go.binOp .neq 24 (.agg #[.int .u64 a, .int .u64 b, .int .u64 c, .int .u64 d]) (.agg #[.int .u64 a', .int .u64 b', .int .u64 c', .int .u64 d'])).run Tryd.prog w = .ok (.bool (!(a == a' && b == b' && c == c' && d == d'))) w := by
  obtain ⟨j, hj, _⟩ := Option.map_eq_some_iff.1 (show (Tryd.prog.info? 22).map (·.size) = some 1 by kernel_rfl)
  have h : (Op.equalIn (9999 + 1) 24 (.agg #[.int .u64 a, .int .u64 b, .int .u64 c, .int .u64 d]) (.agg #[.int .u64 a', .int .u64 b', .int .u64 c', .int .u64 d'])).run Tryd.prog w = .ok (a == a' && b == b' && c == c' && d == d') w := by
    rw [run_equalIn_array w 9999 _ _ Tryd.underlying24 hj, show List.range 4 = [0, 1, 2, 3] from rfl]
    simp only [Op.eqItems, Sem.run_bind, part0, Result.andThen_ok, eq24 9998]
    cases a == a'
    · simp only [Bool.not_false, if_true, Sem.run_pure, Bool.false_and]
    simp only [Bool.not_true, Bool.false_eq_true, if_false, Sem.run_bind, part1, Result.andThen_ok, eq24 9998, Bool.true_and]
    cases b == b'
    · simp only [Bool.not_false, if_true, Sem.run_pure, Bool.false_and]
    simp only [Bool.not_true, Bool.false_eq_true, if_false, Sem.run_bind, part2, Result.andThen_ok, eq24 9998, Bool.true_and]
    cases c == c'
    · simp only [Bool.not_false, if_true, Sem.run_pure, Bool.false_and]
    simp only [Bool.not_true, Bool.false_eq_true, if_false, Sem.run_bind, part3, Result.andThen_ok, eq24 9998, Bool.true_and]
    cases d == d'
    · simp only [Bool.not_false, if_true, Sem.run_pure]
    simp only [Bool.not_true, Bool.false_eq_true, if_false, Sem.run_pure]
  simp only [binOp]
  simp only [Op.equal, Op.maxDepth, Sem.run_bind, h, Result.andThen_ok]
  simp
theorem bel_drewN (w : World) (q : Nat) : Below w.heap.size w (w.drewN q) := by
  induction q with
  | zero => exact Below.refl _ _
  | succ q ih => exact ih.drew
/-- Whether a class may be. -/
def mayP (P : Nat → Bool) (not : Bool) : Bool := !eqC P (fun _ => false) && !(not && eqC P (fun _ => true))
def RetB (w : World) (v : Bool) (e : Ending) (w' : World) : Prop := e = .returned (.bool v) ∧ Below w.heap.size w w'
set_option maxRecDepth 100000 in
set_option maxHeartbeats 2000000 in
theorem mayClass_c {P : Nat → Bool} {a b c d : Nat} (h4 : C4 P a b c d) (not : Bool) (w : World) : Calls Tryd.prog 19 #[.agg #[.int .u64 (a : Nat), .int .u64 (b : Nat), .int .u64 (c : Nat), .int .u64 (d : Nat)], .bool not] w (RetB w (mayP P not)) := by
  have hB0 : Below w.heap.size w (w.alloc (.cells #[.int .u64 (a : Nat), .int .u64 (b : Nat), .int .u64 (c : Nat), .int .u64 (d : Nat)] 24)) := (Below.refl _ _).alloc (Nat.le_refl _) _
  have hx := (Bx.new w (.int .u64 (a : Nat)) (.int .u64 (b : Nat)) (.int .u64 (c : Nat)) (.int .u64 (d : Nat))).drew
  obtain ⟨c0, c1, c2, c3, _⟩ := hx.cells
  have hc : (w.alloc (.cells #[.int .u64 (a : Nat), .int .u64 (b : Nat), .int .u64 (c : Nat), .int .u64 (d : Nat)] 24)).drew.cell? ⟨w.heap.size, 0, none⟩ = some (.int .u64 (a : Nat)) ∧ (w.alloc (.cells #[.int .u64 (a : Nat), .int .u64 (b : Nat), .int .u64 (c : Nat), .int .u64 (d : Nat)] 24)).drew.cell? ⟨w.heap.size, 1, none⟩ = some (.int .u64 (b : Nat)) ∧ (w.alloc (.cells #[.int .u64 (a : Nat), .int .u64 (b : Nat), .int .u64 (c : Nat), .int .u64 (d : Nat)] 24)).drew.cell? ⟨w.heap.size, 2, none⟩ = some (.int .u64 (c : Nat)) ∧ (w.alloc (.cells #[.int .u64 (a : Nat), .int .u64 (b : Nat), .int .u64 (c : Nat), .int .u64 (d : Nat)] 24)).drew.cell? ⟨w.heap.size, 3, none⟩ = some (.int .u64 (d : Nat)) := ⟨c0, c1, c2, c3⟩
  have hne : ∀ W, (Go.binOp .neq 24 (.agg #[.int .u64 (a : Nat), .int .u64 (b : Nat), .int .u64 (c : Nat), .int .u64 (d : Nat)]) (.agg #[.int .u64 0, .int .u64 0, .int .u64 0, .int .u64 0])).run Tryd.prog W = .ok (.bool (!eqC P fun _ => false)) W := fun W => by
    have := neq4 (a : Int) (b : Int) (c : Int) (d : Int) 0 0 0 0 W
    rw [show (0 : Int) = ((0 : Nat) : Int) from rfl, eq4_iff h4 c4_none] at this
    exact this
  have hfull := full_any
  have HB0 : Hid (Below w.heap.size w (w.alloc (.cells #[.int .u64 (a : Nat), .int .u64 (b : Nat), .int .u64 (c : Nat), .int .u64 (d : Nat)] 24)).drew) := hB0.drew
  have HQ : Hid (∀ q, Below w.heap.size w ((w.alloc (.cells #[.int .u64 (a : Nat), .int .u64 (b : Nat), .int .u64 (c : Nat), .int .u64 (d : Nat)] 24)).drewN q)) := fun q => hB0.trans ((bel_drewN _ q).mono hB0.size)
  clear hB0 hx c0 c1 c2 c3
  have HV : Hid (∀ x : Bool, mayP P not = x → ∀ e w', RetB w x e w' → RetB w (mayP P not) e w') := fun x hx e w' h => by rw [hx]; exact h
  cases h0 : eqC P fun _ => false with
  | true =>
    rw [h0] at hne
    have HM : Hid (mayP P not = false) := by show mayP P not = false; unfold mayP; rw [h0]; rfl
    clear h0
    go_enter Tryd.func19, Tryd.ntmps19
    go_wp2_with fail
    go_quiet (fail)
    go_wp2
    go_ret
    exact HV.out _ HM.out _ _ ⟨rfl, HQ.out _⟩
  | false =>
    rw [h0] at hne
    cases not with
    | false =>
      have HM : Hid (mayP P false = true) := by show mayP P false = true; unfold mayP; rw [h0]; rfl
      clear h0
      go_enter Tryd.func19, Tryd.ntmps19
      go_wp2_with fail
      go_quiet (fail)
      go_wp2
      go_ret
      exact HV.out _ HM.out _ _ ⟨rfl, HQ.out _⟩
    | true =>
      have HM : Hid (mayP P true = !(eqC P fun _ => true)) := by show mayP P true = _; unfold mayP; rw [h0]; rfl
      have hfl : Hid (∀ W, Calls Tryd.prog 31 #[] W fun e w' => ∃ a' b' c' d' : Nat, e = .returned (.agg #[.int .u64 (a' : Nat), .int .u64 (b' : Nat), .int .u64 (c' : Nat), .int .u64 (d' : Nat)]) ∧ (∀ W, (Go.binOp .eql 24 (.agg #[.int .u64 (a : Nat), .int .u64 (b : Nat), .int .u64 (c : Nat), .int .u64 (d : Nat)]) (.agg #[.int .u64 (a' : Nat), .int .u64 (b' : Nat), .int .u64 (c' : Nat), .int .u64 (d' : Nat)])).run Tryd.prog W = .ok (.bool (eqC P fun _ => true)) W) ∧ Below W.heap.size W w') := fun W => (hfull W).mono fun e w' ⟨⟨a', b', c', d', he, k4⟩, hb⟩ => ⟨a', b', c', d', he, fun W => by rw [eql4, eq4_iff h4 k4], hb⟩
      generalize (eqC P fun _ => true) = y at *
      clear h0 hfull
      go_enter Tryd.func19, Tryd.ntmps19
      go_wp2_with fail
      go_region_held3 (fun w' => w'.cell? ⟨w.heap.size, 0, none⟩ = some (.int .u64 (a : Nat)) ∧ w'.cell? ⟨w.heap.size, 1, none⟩ = some (.int .u64 (b : Nat)) ∧ w'.cell? ⟨w.heap.size, 2, none⟩ = some (.int .u64 (c : Nat)) ∧ w'.cell? ⟨w.heap.size, 3, none⟩ = some (.int .u64 (d : Nat))) (exact hc)
        (first | (go_at_call 31; refine (hfl.out _).mono ?_; rintro e w1 ⟨a', b', c', d', rfl, hq, hb⟩; replace hc : w1.cell? ⟨w.heap.size, 0, none⟩ = some (.int .u64 (a : Nat)) ∧ w1.cell? ⟨w.heap.size, 1, none⟩ = some (.int .u64 (b : Nat)) ∧ w1.cell? ⟨w.heap.size, 2, none⟩ = some (.int .u64 (c : Nat)) ∧ w1.cell? ⟨w.heap.size, 3, none⟩ = some (.int .u64 (d : Nat)) := ⟨by rw [hb.cell (p := ⟨w.heap.size, 0, none⟩) (by simp)]; exact hc.1, by rw [hb.cell (p := ⟨w.heap.size, 1, none⟩) (by simp)]; exact hc.2.1, by rw [hb.cell (p := ⟨w.heap.size, 2, none⟩) (by simp)]; exact hc.2.2.1, by rw [hb.cell (p := ⟨w.heap.size, 3, none⟩) (by simp)]; exact hc.2.2.2⟩; have HB1 : Hid (Below w.heap.size w w1) := HB0.out.trans (hb.mono HB0.out.size); clear hb))
      all_goals
        go_wp2
        go_ret
        exact HV.out _ HM.out _ _ ⟨rfl, HB1.out⟩
end Go.Proofs.YtkbeiadbolihiaaDoor
namespace Go.Proofs.YtkbeiadbolihiaaDoor
open Go.RowKit
set_option maxRecDepth 10000 in
set_option maxHeartbeats 2000000 in
theorem esc_short (ao : Option Addr) (n cap at_ : Nat) (z : Nat → Nat) (w : World) (_hr : Rd w ao n z) (hn : (n : Int) ≤ 1024) (ha : at_ < n) (h : n < at_ + 2) : Calls Tryd.prog 59 #[.slice ao n cap, .int .i64 (at_ : Nat)] w (RetK w (tokV 0 0 0 0 0 0 false 0 0 false 0) (markV at_ 40)) := by
  have i2 : (n : Int) < (at_ : Int) + 2 := by omega
  go_enter Tryd.func59, Tryd.ntmps59
  go_wp2_with fail
  refine wp_scope_once 0 rfl ?_
  go_wp2_with fail
  go_step3
  refine And.intro rfl ?_
  go_wp2
  rw [Exit.noGoto_ret]
  exact bodyPost_ret (v := .tuple #[tokV 0 0 0 0 0 0 false 0 0 false 0, markV at_ 40]) (by simp [results, Tryd.results59, go_sem, tokV, markV]) rfl ⟨rfl, bel3 _ _ _ _⟩
set_option maxRecDepth 10000 in
set_option maxHeartbeats 2000000 in
theorem esc_110 (ao : Option Addr) (n cap at_ : Nat) (z : Nat → Nat) (w : World) (hr : Rd w ao n z) (hn : (n : Int) ≤ 1024) (h : at_ + 2 ≤ n) (hq : z (at_ + 1) = 110) : Calls Tryd.prog 59 #[.slice ao n cap, .int .i64 (at_ : Nat)] w (RetK w (tokV 1 10 0 0 0 0 false 0 0 false at_) (markV (at_ + 2) 0)) := by
  obtain ⟨bb, off, rfl, hbb, hc⟩ := hr.at_ (by omega)
  have t0 := hc (at_ + 1) (by omega)
  have i1 : (at_ : Int) + 1 < (n : Int) := by omega
  have i2 : (at_ : Int) + 2 ≤ (n : Int) := by omega
  have t1 : (((w.alloc (.cells #[.int .i64 0, .int .u8 0, .int .u64 0, .int .u64 0, .int .u64 0, .int .u64 0, .bool false, .int .i64 0, .int .i64 0, .bool false, .int .i64 0] 26)).alloc (.cells #[.int .i64 0, .int .i64 0] 53)).alloc (.cells #[.int .i64 1, .int .u8 0, .int .u64 0, .int .u64 0, .int .u64 0, .int .u64 0, .bool false, .int .i64 0, .int .i64 0, .bool false, .int .i64 (at_ : Nat)] 26)).cell? ⟨bb, off + (at_ + 1), none⟩ = some (.int .u8 (z (at_ + 1) : Nat)) := by rw [(bel3 w _ _ _).cell (p := ⟨bb, off + (at_ + 1), none⟩) hbb]; exact t0
  clear hc
  rw [hq] at t1
  clear hr t0 hq
  go_enter Tryd.func59, Tryd.ntmps59
  go_wp2_with fail
  refine wp_scope_once 0 rfl ?_
  go_wp2
  exact bodyPost_ret (v := .tuple #[tokV 1 10 0 0 0 0 false 0 0 false at_, markV (at_ + 2) 0]) (by simp [results, Tryd.results59, go_sem, tokV, markV]) rfl ⟨rfl, bel3 _ _ _ _⟩
set_option maxRecDepth 10000 in
set_option maxHeartbeats 2000000 in
theorem esc_114 (ao : Option Addr) (n cap at_ : Nat) (z : Nat → Nat) (w : World) (hr : Rd w ao n z) (hn : (n : Int) ≤ 1024) (h : at_ + 2 ≤ n) (hq : z (at_ + 1) = 114) : Calls Tryd.prog 59 #[.slice ao n cap, .int .i64 (at_ : Nat)] w (RetK w (tokV 1 13 0 0 0 0 false 0 0 false at_) (markV (at_ + 2) 0)) := by
  obtain ⟨bb, off, rfl, hbb, hc⟩ := hr.at_ (by omega)
  have t0 := hc (at_ + 1) (by omega)
  have i1 : (at_ : Int) + 1 < (n : Int) := by omega
  have i2 : (at_ : Int) + 2 ≤ (n : Int) := by omega
  have t1 : (((w.alloc (.cells #[.int .i64 0, .int .u8 0, .int .u64 0, .int .u64 0, .int .u64 0, .int .u64 0, .bool false, .int .i64 0, .int .i64 0, .bool false, .int .i64 0] 26)).alloc (.cells #[.int .i64 0, .int .i64 0] 53)).alloc (.cells #[.int .i64 1, .int .u8 0, .int .u64 0, .int .u64 0, .int .u64 0, .int .u64 0, .bool false, .int .i64 0, .int .i64 0, .bool false, .int .i64 (at_ : Nat)] 26)).cell? ⟨bb, off + (at_ + 1), none⟩ = some (.int .u8 (z (at_ + 1) : Nat)) := by rw [(bel3 w _ _ _).cell (p := ⟨bb, off + (at_ + 1), none⟩) hbb]; exact t0
  clear hc
  rw [hq] at t1
  clear hr t0 hq
  go_enter Tryd.func59, Tryd.ntmps59
  go_wp2_with fail
  refine wp_scope_once 0 rfl ?_
  go_wp2
  exact bodyPost_ret (v := .tuple #[tokV 1 13 0 0 0 0 false 0 0 false at_, markV (at_ + 2) 0]) (by simp [results, Tryd.results59, go_sem, tokV, markV]) rfl ⟨rfl, bel3 _ _ _ _⟩
set_option maxRecDepth 10000 in
set_option maxHeartbeats 2000000 in
theorem esc_116 (ao : Option Addr) (n cap at_ : Nat) (z : Nat → Nat) (w : World) (hr : Rd w ao n z) (hn : (n : Int) ≤ 1024) (h : at_ + 2 ≤ n) (hq : z (at_ + 1) = 116) : Calls Tryd.prog 59 #[.slice ao n cap, .int .i64 (at_ : Nat)] w (RetK w (tokV 1 9 0 0 0 0 false 0 0 false at_) (markV (at_ + 2) 0)) := by
  obtain ⟨bb, off, rfl, hbb, hc⟩ := hr.at_ (by omega)
  have t0 := hc (at_ + 1) (by omega)
  have i1 : (at_ : Int) + 1 < (n : Int) := by omega
  have i2 : (at_ : Int) + 2 ≤ (n : Int) := by omega
  have t1 : (((w.alloc (.cells #[.int .i64 0, .int .u8 0, .int .u64 0, .int .u64 0, .int .u64 0, .int .u64 0, .bool false, .int .i64 0, .int .i64 0, .bool false, .int .i64 0] 26)).alloc (.cells #[.int .i64 0, .int .i64 0] 53)).alloc (.cells #[.int .i64 1, .int .u8 0, .int .u64 0, .int .u64 0, .int .u64 0, .int .u64 0, .bool false, .int .i64 0, .int .i64 0, .bool false, .int .i64 (at_ : Nat)] 26)).cell? ⟨bb, off + (at_ + 1), none⟩ = some (.int .u8 (z (at_ + 1) : Nat)) := by rw [(bel3 w _ _ _).cell (p := ⟨bb, off + (at_ + 1), none⟩) hbb]; exact t0
  clear hc
  rw [hq] at t1
  clear hr t0 hq
  go_enter Tryd.func59, Tryd.ntmps59
  go_wp2_with fail
  refine wp_scope_once 0 rfl ?_
  go_wp2
  exact bodyPost_ret (v := .tuple #[tokV 1 9 0 0 0 0 false 0 0 false at_, markV (at_ + 2) 0]) (by simp [results, Tryd.results59, go_sem, tokV, markV]) rfl ⟨rfl, bel3 _ _ _ _⟩
set_option maxRecDepth 10000 in
set_option maxHeartbeats 2000000 in
theorem esc_hex (ao : Option Addr) (n cap at_ : Nat) (z : Nat → Nat) (w : World) (hr : Rd w ao n z) (hn : (n : Int) ≤ 1024) (h : at_ + 2 ≤ n) (hq : z (at_ + 1) = 120) (v : Nat) (hv : hexV z n (at_ + 2) = (v, true)) : Calls Tryd.prog 59 #[.slice ao n cap, .int .i64 (at_ : Nat)] w (RetK w (tokV 1 v 0 0 0 0 false 0 0 false at_) (markV (at_ + 4) 0)) := by
  obtain ⟨bb, off, rfl, hbb, hc⟩ := hr.at_ (by omega)
  have t0 := hc (at_ + 1) (by omega)
  have i1 : (at_ : Int) + 1 < (n : Int) := by omega
  have i2 : (at_ : Int) + 2 ≤ (n : Int) := by omega
  have t1 : (((w.alloc (.cells #[.int .i64 0, .int .u8 0, .int .u64 0, .int .u64 0, .int .u64 0, .int .u64 0, .bool false, .int .i64 0, .int .i64 0, .bool false, .int .i64 0] 26)).alloc (.cells #[.int .i64 0, .int .i64 0] 53)).alloc (.cells #[.int .i64 1, .int .u8 0, .int .u64 0, .int .u64 0, .int .u64 0, .int .u64 0, .bool false, .int .i64 0, .int .i64 0, .bool false, .int .i64 (at_ : Nat)] 26)).cell? ⟨bb, off + (at_ + 1), none⟩ = some (.int .u8 (z (at_ + 1) : Nat)) := by rw [(bel3 w _ _ _).cell (p := ⟨bb, off + (at_ + 1), none⟩) hbb]; exact t0
  clear hc
  rw [hq] at t1
  have HH : Hid (∀ W, Below w.heap.size w W → Calls Tryd.prog 70 #[.slice (some ⟨bb, off, none⟩) n cap, .int .i64 ((at_ : Int) + 2)] W fun e w' => e = .returned (.tuple #[.int .u8 (v : Nat), .bool true]) ∧ w' = W) := fun W hb => by
    have := hex_any (some ⟨bb, off, none⟩) n cap (at_ + 2) z W (hr.below hb) hn (by omega)
    rw [hv] at this
    exact this
  clear hr t0 hq hv
  go_enter Tryd.func59, Tryd.ntmps59
  go_wp2_with fail
  refine wp_scope_once 0 rfl ?_
  go_wp2_with fail
  refine (HH.out _ (bel3 _ _ _ _)).mono ?_
  rintro e w1 ⟨rfl, rfl⟩
  go_wp2
  exact bodyPost_ret (v := .tuple #[tokV 1 v 0 0 0 0 false 0 0 false at_, markV (at_ + 4) 0]) (by simp [results, Tryd.results59, go_sem, tokV, markV]; omega) rfl ⟨rfl, bel3 _ _ _ _⟩
set_option maxRecDepth 10000 in
set_option maxHeartbeats 2000000 in
theorem esc_nohex (ao : Option Addr) (n cap at_ : Nat) (z : Nat → Nat) (w : World) (hr : Rd w ao n z) (hn : (n : Int) ≤ 1024) (h : at_ + 2 ≤ n) (hq : z (at_ + 1) = 120) (v : Nat) (hv : hexV z n (at_ + 2) = (v, false)) : Calls Tryd.prog 59 #[.slice ao n cap, .int .i64 (at_ : Nat)] w (RetK w (tokV 0 0 0 0 0 0 false 0 0 false 0) (markV at_ 40)) := by
  obtain ⟨bb, off, rfl, hbb, hc⟩ := hr.at_ (by omega)
  have t0 := hc (at_ + 1) (by omega)
  have i1 : (at_ : Int) + 1 < (n : Int) := by omega
  have i2 : (at_ : Int) + 2 ≤ (n : Int) := by omega
  have t1 : (((w.alloc (.cells #[.int .i64 0, .int .u8 0, .int .u64 0, .int .u64 0, .int .u64 0, .int .u64 0, .bool false, .int .i64 0, .int .i64 0, .bool false, .int .i64 0] 26)).alloc (.cells #[.int .i64 0, .int .i64 0] 53)).alloc (.cells #[.int .i64 1, .int .u8 0, .int .u64 0, .int .u64 0, .int .u64 0, .int .u64 0, .bool false, .int .i64 0, .int .i64 0, .bool false, .int .i64 (at_ : Nat)] 26)).cell? ⟨bb, off + (at_ + 1), none⟩ = some (.int .u8 (z (at_ + 1) : Nat)) := by rw [(bel3 w _ _ _).cell (p := ⟨bb, off + (at_ + 1), none⟩) hbb]; exact t0
  clear hc
  rw [hq] at t1
  have HH : Hid (∀ W, Below w.heap.size w W → Calls Tryd.prog 70 #[.slice (some ⟨bb, off, none⟩) n cap, .int .i64 ((at_ : Int) + 2)] W fun e w' => e = .returned (.tuple #[.int .u8 (v : Nat), .bool false]) ∧ w' = W) := fun W hb => by
    have := hex_any (some ⟨bb, off, none⟩) n cap (at_ + 2) z W (hr.below hb) hn (by omega)
    rw [hv] at this
    exact this
  clear hr t0 hq hv
  go_enter Tryd.func59, Tryd.ntmps59
  go_wp2_with fail
  refine wp_scope_once 0 rfl ?_
  go_wp2_with fail
  refine (HH.out _ (bel3 _ _ _ _)).mono ?_
  rintro e w1 ⟨rfl, rfl⟩
  go_wp2_with fail
  go_step3
  go_wp2
  exact bodyPost_ret (v := .tuple #[tokV 0 0 0 0 0 0 false 0 0 false 0, markV at_ 40]) (by simp [results, Tryd.results59, go_sem, tokV, markV]) rfl ⟨rfl, bel3 _ _ _ _⟩
set_option maxRecDepth 10000 in
set_option maxHeartbeats 2000000 in
theorem esc_letter (ao : Option Addr) (n cap at_ : Nat) (z : Nat → Nat) (w : World) (hr : Rd w ao n z) (hn : (n : Int) ≤ 1024) (h : at_ + 2 ≤ n) (q : Nat) (hq : z (at_ + 1) = q) (hne : q ≠ 100 ∧ q ≠ 119 ∧ q ≠ 115 ∧ q ≠ 68 ∧ q ≠ 87 ∧ q ≠ 83 ∧ q ≠ 110 ∧ q ≠ 114 ∧ q ≠ 116 ∧ q ≠ 120) (hl : letP q = true) : Calls Tryd.prog 59 #[.slice ao n cap, .int .i64 (at_ : Nat)] w (RetK w (tokV 0 0 0 0 0 0 false 0 0 false 0) (markV at_ 40)) := by
  obtain ⟨bb, off, rfl, hbb, hc⟩ := hr.at_ (by omega)
  have t0 := hc (at_ + 1) (by omega)
  have i1 : (at_ : Int) + 1 < (n : Int) := by omega
  have i2 : (at_ : Int) + 2 ≤ (n : Int) := by omega
  have t1 : (((w.alloc (.cells #[.int .i64 0, .int .u8 0, .int .u64 0, .int .u64 0, .int .u64 0, .int .u64 0, .bool false, .int .i64 0, .int .i64 0, .bool false, .int .i64 0] 26)).alloc (.cells #[.int .i64 0, .int .i64 0] 53)).alloc (.cells #[.int .i64 1, .int .u8 0, .int .u64 0, .int .u64 0, .int .u64 0, .int .u64 0, .bool false, .int .i64 0, .int .i64 0, .bool false, .int .i64 (at_ : Nat)] 26)).cell? ⟨bb, off + (at_ + 1), none⟩ = some (.int .u8 (z (at_ + 1) : Nat)) := by rw [(bel3 w _ _ _).cell (p := ⟨bb, off + (at_ + 1), none⟩) hbb]; exact t0
  clear hc
  rw [hq] at t1
  have e100 : ((q : Int) == 100) = false := by simp; omega
  have e119 : ((q : Int) == 119) = false := by simp; omega
  have e115 : ((q : Int) == 115) = false := by simp; omega
  have e68 : ((q : Int) == 68) = false := by simp; omega
  have e87 : ((q : Int) == 87) = false := by simp; omega
  have e83 : ((q : Int) == 83) = false := by simp; omega
  have e110 : ((q : Int) == 110) = false := by simp; omega
  have e114 : ((q : Int) == 114) = false := by simp; omega
  have e116 : ((q : Int) == 116) = false := by simp; omega
  have e120 : ((q : Int) == 120) = false := by simp; omega
  have L1 := fun W => isLetter_any q W
  have D1 := fun W => isDigit_any q W
  rw [hl] at L1
  have HL : Hid (∀ W, Calls Tryd.prog 71 #[.int .u8 (q : Nat)] W fun e w' => e = .returned (.bool true) ∧ w' = W) := L1
  clear hr t0 hq hne hl L1 D1
  go_enter Tryd.func59, Tryd.ntmps59
  go_wp2_with fail
  refine wp_scope_once 0 rfl ?_
  go_wp2_with fail
  refine (HL.out _).mono ?_
  rintro e w1 ⟨rfl, rfl⟩
  go_wp2_with fail
  go_step3
  go_wp2
  exact bodyPost_ret (v := .tuple #[tokV 0 0 0 0 0 0 false 0 0 false 0, markV at_ 40]) (by simp [results, Tryd.results59, go_sem, tokV, markV]) rfl ⟨rfl, bel3 _ _ _ _⟩
set_option maxRecDepth 10000 in
set_option maxHeartbeats 2000000 in
theorem esc_digit (ao : Option Addr) (n cap at_ : Nat) (z : Nat → Nat) (w : World) (hr : Rd w ao n z) (hn : (n : Int) ≤ 1024) (h : at_ + 2 ≤ n) (q : Nat) (hq : z (at_ + 1) = q) (hne : q ≠ 100 ∧ q ≠ 119 ∧ q ≠ 115 ∧ q ≠ 68 ∧ q ≠ 87 ∧ q ≠ 83 ∧ q ≠ 110 ∧ q ≠ 114 ∧ q ≠ 116 ∧ q ≠ 120) (hl : letP q = false) (hd : digP q = true) : Calls Tryd.prog 59 #[.slice ao n cap, .int .i64 (at_ : Nat)] w (RetK w (tokV 0 0 0 0 0 0 false 0 0 false 0) (markV at_ 40)) := by
  obtain ⟨bb, off, rfl, hbb, hc⟩ := hr.at_ (by omega)
  have t0 := hc (at_ + 1) (by omega)
  have i1 : (at_ : Int) + 1 < (n : Int) := by omega
  have i2 : (at_ : Int) + 2 ≤ (n : Int) := by omega
  have t1 : (((w.alloc (.cells #[.int .i64 0, .int .u8 0, .int .u64 0, .int .u64 0, .int .u64 0, .int .u64 0, .bool false, .int .i64 0, .int .i64 0, .bool false, .int .i64 0] 26)).alloc (.cells #[.int .i64 0, .int .i64 0] 53)).alloc (.cells #[.int .i64 1, .int .u8 0, .int .u64 0, .int .u64 0, .int .u64 0, .int .u64 0, .bool false, .int .i64 0, .int .i64 0, .bool false, .int .i64 (at_ : Nat)] 26)).cell? ⟨bb, off + (at_ + 1), none⟩ = some (.int .u8 (z (at_ + 1) : Nat)) := by rw [(bel3 w _ _ _).cell (p := ⟨bb, off + (at_ + 1), none⟩) hbb]; exact t0
  clear hc
  rw [hq] at t1
  have e100 : ((q : Int) == 100) = false := by simp; omega
  have e119 : ((q : Int) == 119) = false := by simp; omega
  have e115 : ((q : Int) == 115) = false := by simp; omega
  have e68 : ((q : Int) == 68) = false := by simp; omega
  have e87 : ((q : Int) == 87) = false := by simp; omega
  have e83 : ((q : Int) == 83) = false := by simp; omega
  have e110 : ((q : Int) == 110) = false := by simp; omega
  have e114 : ((q : Int) == 114) = false := by simp; omega
  have e116 : ((q : Int) == 116) = false := by simp; omega
  have e120 : ((q : Int) == 120) = false := by simp; omega
  have L1 := fun W => isLetter_any q W
  have D1 := fun W => isDigit_any q W
  rw [hl] at L1
  rw [hd] at D1
  have HL : Hid (∀ W, Calls Tryd.prog 71 #[.int .u8 (q : Nat)] W fun e w' => e = .returned (.bool false) ∧ w' = W) := L1
  have HD : Hid (∀ W, Calls Tryd.prog 72 #[.int .u8 (q : Nat)] W fun e w' => e = .returned (.bool true) ∧ w' = W) := D1
  clear hr t0 hq hne hl hd L1 D1
  go_enter Tryd.func59, Tryd.ntmps59
  go_wp2_with fail
  refine wp_scope_once 0 rfl ?_
  go_wp2_with fail
  refine (HL.out _).mono ?_
  rintro e w1 ⟨rfl, rfl⟩
  go_wp2_with fail
  refine (HD.out _).mono ?_
  rintro e w2 ⟨rfl, rfl⟩
  go_wp2_with fail
  go_step3
  go_wp2
  exact bodyPost_ret (v := .tuple #[tokV 0 0 0 0 0 0 false 0 0 false 0, markV at_ 40]) (by simp [results, Tryd.results59, go_sem, tokV, markV]) rfl ⟨rfl, bel3 _ _ _ _⟩
set_option maxRecDepth 10000 in
set_option maxHeartbeats 2000000 in
theorem esc_plain (ao : Option Addr) (n cap at_ : Nat) (z : Nat → Nat) (w : World) (hr : Rd w ao n z) (hn : (n : Int) ≤ 1024) (h : at_ + 2 ≤ n) (q : Nat) (hq : z (at_ + 1) = q) (hne : q ≠ 100 ∧ q ≠ 119 ∧ q ≠ 115 ∧ q ≠ 68 ∧ q ≠ 87 ∧ q ≠ 83 ∧ q ≠ 110 ∧ q ≠ 114 ∧ q ≠ 116 ∧ q ≠ 120) (hl : letP q = false) (hd : digP q = false) : Calls Tryd.prog 59 #[.slice ao n cap, .int .i64 (at_ : Nat)] w (RetK w (tokV 1 q 0 0 0 0 false 0 0 false at_) (markV (at_ + 2) 0)) := by
  obtain ⟨bb, off, rfl, hbb, hc⟩ := hr.at_ (by omega)
  have t0 := hc (at_ + 1) (by omega)
  have i1 : (at_ : Int) + 1 < (n : Int) := by omega
  have i2 : (at_ : Int) + 2 ≤ (n : Int) := by omega
  have t1 : (((w.alloc (.cells #[.int .i64 0, .int .u8 0, .int .u64 0, .int .u64 0, .int .u64 0, .int .u64 0, .bool false, .int .i64 0, .int .i64 0, .bool false, .int .i64 0] 26)).alloc (.cells #[.int .i64 0, .int .i64 0] 53)).alloc (.cells #[.int .i64 1, .int .u8 0, .int .u64 0, .int .u64 0, .int .u64 0, .int .u64 0, .bool false, .int .i64 0, .int .i64 0, .bool false, .int .i64 (at_ : Nat)] 26)).cell? ⟨bb, off + (at_ + 1), none⟩ = some (.int .u8 (z (at_ + 1) : Nat)) := by rw [(bel3 w _ _ _).cell (p := ⟨bb, off + (at_ + 1), none⟩) hbb]; exact t0
  clear hc
  rw [hq] at t1
  have e100 : ((q : Int) == 100) = false := by simp; omega
  have e119 : ((q : Int) == 119) = false := by simp; omega
  have e115 : ((q : Int) == 115) = false := by simp; omega
  have e68 : ((q : Int) == 68) = false := by simp; omega
  have e87 : ((q : Int) == 87) = false := by simp; omega
  have e83 : ((q : Int) == 83) = false := by simp; omega
  have e110 : ((q : Int) == 110) = false := by simp; omega
  have e114 : ((q : Int) == 114) = false := by simp; omega
  have e116 : ((q : Int) == 116) = false := by simp; omega
  have e120 : ((q : Int) == 120) = false := by simp; omega
  have L1 := fun W => isLetter_any q W
  have D1 := fun W => isDigit_any q W
  rw [hl] at L1
  rw [hd] at D1
  have HL : Hid (∀ W, Calls Tryd.prog 71 #[.int .u8 (q : Nat)] W fun e w' => e = .returned (.bool false) ∧ w' = W) := L1
  have HD : Hid (∀ W, Calls Tryd.prog 72 #[.int .u8 (q : Nat)] W fun e w' => e = .returned (.bool false) ∧ w' = W) := D1
  clear hr t0 hq hne hl hd L1 D1
  go_enter Tryd.func59, Tryd.ntmps59
  go_wp2_with fail
  refine wp_scope_once 0 rfl ?_
  go_wp2_with fail
  refine (HL.out _).mono ?_
  rintro e w1 ⟨rfl, rfl⟩
  go_wp2_with fail
  refine (HD.out _).mono ?_
  rintro e w2 ⟨rfl, rfl⟩
  go_wp2
  exact bodyPost_ret (v := .tuple #[tokV 1 q 0 0 0 0 false 0 0 false at_, markV (at_ + 2) 0]) (by simp [results, Tryd.results59, go_sem, tokV, markV]) rfl ⟨rfl, bel3 _ _ _ _⟩
end Go.Proofs.YtkbeiadbolihiaaDoor
