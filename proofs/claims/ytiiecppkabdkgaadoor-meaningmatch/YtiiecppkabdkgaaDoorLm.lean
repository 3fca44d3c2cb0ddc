/- MeaningMatch: the walk. -/
import Derived.Test.YtiiecppkabdkgaaDoorTo
import Derived.Test.YtiiecppkabdkgaaDoorLa
namespace Go.Proofs.YtiiecppkabdkgaaDoor
open Go.RowKit
/-- Whether a tree means a text from a place to another. -/
def matB (f : Nat → Nat) (n : Nat) (mu : Bool) (F : Nat → Nd) (m : Nat) (i j : Int) : Bool := if 0 ≤ i ∧ i ≤ j ∧ j ≤ n then mTab f n mu F m i.toNat (j.toNat - i.toNat) else false
theorem match19_any (to_ : Option Addr) (m c : Nat) (F : Nat → Nd) (ao : Option Addr) (n cap : Nat) (mu : Bool) (i j : Int) (f : Nat → Nat) (w : World) (ht : RdN w to_ m F) (hm : m ≤ 60) (hF : ∀ i, i < m → wfN (F i)) (hr : RdB w ao n f) (hn : n ≤ 24) (hT : TabZ w) :
    Calls Tryd.prog 19 #[.agg #[.slice to_ m c], .bool mu, .slice ao n cap, .int .i64 i, .int .i64 j] w fun e w' => e = .returned (.bool (matB f n mu F m i j)) ∧ Below w.heap.size w w' := by
  unfold matB
  by_cases h : 0 ≤ i ∧ i ≤ j ∧ j ≤ n
  · rw [if_pos h]
    obtain ⟨i', rfl⟩ := Int.eq_ofNat_of_zero_le h.1
    obtain ⟨j', rfl⟩ := Int.eq_ofNat_of_zero_le (Int.le_trans h.1 h.2.1)
    exact match_in to_ m c F ao n cap mu i' j' f w ht (by omega) hF hr hn (by omega) (by omega) hT
  · rw [if_neg h]
    exact match_out to_ m c ao n cap mu i j w h
theorem match20_any (to_ : Option Addr) (m c : Nat) (F : Nat → Nd) (ao : Option Addr) (n cap : Nat) (mu : Bool) (i j : Int) (f : Nat → Nat) (w : World) (ht : RdN w to_ m F) (hm : m ≤ 60) (hF : ∀ i, i < m → wfN (F i)) (hr : RdB w ao n f) (hn : n ≤ 24) :
    Calls Tryd.prog 20 #[.agg #[.slice to_ m c], .bool mu, .slice ao n cap, .int .i64 i, .int .i64 j] w fun e w' => e = .returned (.bool (matB f n mu F m i j)) ∧ Below w.heap.size w w' := by
  unfold matB
  by_cases h : 0 ≤ i ∧ i ≤ j ∧ j ≤ n
  · rw [if_pos h]
    obtain ⟨i', rfl⟩ := Int.eq_ofNat_of_zero_le h.1
    obtain ⟨j', rfl⟩ := Int.eq_ofNat_of_zero_le (Int.le_trans h.1 h.2.1)
    exact rmatch20_in to_ m c F ao n cap mu i' j' f w ht hm hF hr hn (by omega) (by omega)
  · rw [if_neg h]
    exact rmatch20_out to_ m c ao n cap mu i j w h
def semM (to_ : Option Addr) (m c : Nat) (mu : Bool) (ao : Option Addr) (n cap : Nat) (i j : Int) (B1 B2 : Bool) (k : Nat) (v : Value) (_ : World) : Prop :=
  if k = 20 then v = .agg #[.slice to_ m c] else if k = 21 then v = .bool mu else if k = 22 then v = .slice ao n cap else if k = 23 then v = .int .i64 i else if k = 24 then v = .int .i64 j else if k = 25 then v = .bool B1 else if k = 26 then v = .bool B2 else True
def lookM : Look := { base := 15, res := 10, num := 24, fixed := [(1, 21), (2, 22), (3, 23), (4, 24)], loads := [(5, 24, 20)], calls := [(1010, [], 0), (1019, [20, 21, 22, 23, 24], 25), (1020, [20, 21, 22, 23, 24], 25), (1021, [20], 26), (1022, [20], 26)], bools := [25, 26], L := [0, 0, 20, 21, 22, 23, 24, 25, 20, 21, 22, 23, 24, 25, 0, 0, 0, 20, 26, 20, 26, 0, 0, 0] }
theorem eg19 (args : Array Value) (w : World) : (callFunc 19 args).run Tryd.prog w = .ok (.enter 19 args) w := enters_of Tryd.func19 (by kernel_rfl) rfl args w
theorem eg20 (args : Array Value) (w : World) : (callFunc 20 args).run Tryd.prog w = .ok (.enter 20 args) w := enters_of Tryd.func20 (by kernel_rfl) rfl args w
theorem eg21 (args : Array Value) (w : World) : (callFunc 21 args).run Tryd.prog w = .ok (.enter 21 args) w := enters_of Tryd.func21 (by kernel_rfl) rfl args w
theorem eg22 (args : Array Value) (w : World) : (callFunc 22 args).run Tryd.prog w = .ok (.enter 22 args) w := enters_of Tryd.func22 (by kernel_rfl) rfl args w
theorem owedM {to_ : Option Addr} {m c : Nat} {F : Nat → Nd} {ao : Option Addr} {n cap : Nat} {mu : Bool} {i j : Int} {f : Nat → Nat} {h : Nat} {w0 : World} {fv : Nat → Value} (ht : RdN w0 to_ m F) (hm : m ≤ 60) (hF : ∀ i, i < m → wfN (F i)) (hr : RdB w0 ao n f) (hn : n ≤ 24) (hT : TabZ w0) (k0 : Cl w0 h 24 [.slice to_ m c])
    (h1 : fv 1 = .bool mu) (h2 : fv 2 = .slice ao n cap) (h3 : fv 3 = .int .i64 i) (h4 : fv 4 = .int .i64 j) (h5 : fv 5 = .pointer (some ⟨h, 0, none⟩)) :
    Owed Tryd.prog lookM (semB (semM to_ m c mu ao n cap i j (matB f n mu F m i j) (mTab (fun _ => 0) 0 false F m 0 0))) (fun w => Below w0.heap.size w0 w) 38 fv := by
  refine ⟨Tryd.underlying4, semB_grow (fun k v w w' hs _ => hs), fun w w' h1 h2 => h1.trans (h2.mono h1.size), semB_yes, semB_no, semB_neg, semB_any, semB_num, semB_fn, ?_, ?_, ?_, ?_, ?_⟩
  · intro c cs r hm
    simp only [lookM, List.mem_cons, List.not_mem_nil, or_false, Prod.mk.injEq] at hm
    omega
  · intro t c hm w hC
    simp only [lookM, List.mem_cons, List.not_mem_nil, or_false, Prod.mk.injEq] at hm
    rcases hm with ⟨rfl, rfl⟩ | ⟨rfl, rfl⟩ | ⟨rfl, rfl⟩ | ⟨rfl, rfl⟩
    · exact (semB_mid (by decide) (by decide)).2 h1
    · exact (semB_mid (by decide) (by decide)).2 h2
    · exact (semB_mid (by decide) (by decide)).2 h3
    · exact (semB_mid (by decide) (by decide)).2 h4
  · intro t k r hm
    simp only [lookM, List.mem_cons, List.not_mem_nil, or_false, Prod.mk.injEq] at hm
    obtain ⟨rfl, rfl, rfl⟩ := hm
    exact ⟨by decide, fun o a w ho ha hC => ⟨_, ex_load24 ho (ha.trans h5) ((k0.below hC).cell 0 rfl), (semB_mid (by decide) (by decide)).2 rfl⟩⟩
  · intro c hm
    simp only [lookM, List.mem_cons, List.not_mem_nil, or_false] at hm
    rcases hm with rfl | rfl
    · exact ⟨_, fun v w h => (semB_mid (by decide) (by decide)).1 h⟩
    · exact ⟨_, fun v w h => (semB_mid (by decide) (by decide)).1 h⟩
  · intro c cs r hmm
    show CallOk _ _ c cs r
    simp only [lookM, List.mem_cons, List.not_mem_nil, or_false, Prod.mk.injEq] at hmm
    rcases hmm with ⟨rfl, rfl, rfl⟩ | ⟨rfl, rfl, rfl⟩ | ⟨rfl, rfl, rfl⟩ | ⟨rfl, rfl, rfl⟩ | ⟨rfl, rfl, rfl⟩
    · refine ⟨10, #[], fun v w h => (semB_fn 10 v w (by decide)).1 h, eg10, fun w vs hC hv => ?_⟩
      obtain rfl := hv.nil
      refine (begun_any w (hT.below hC)).mono ?_
      rintro e w' ⟨rfl, hb⟩
      exact ⟨_, rfl, (semB_yes _ _).2 rfl, hb⟩
    · refine ⟨19, #[], fun v w h => (semB_fn 19 v w (by decide)).1 h, eg19, fun w vs hC hv => ?_⟩
      obtain ⟨v0, vs0, rfl, a0, hv⟩ := hv.cons
      obtain ⟨v1, vs1, rfl, a1, hv⟩ := hv.cons
      obtain ⟨v2, vs2, rfl, a2, hv⟩ := hv.cons
      obtain ⟨v3, vs3, rfl, a3, hv⟩ := hv.cons
      obtain ⟨v4, vs4, rfl, a4, hv⟩ := hv.cons
      obtain rfl := hv.nil
      obtain rfl : v0 = _ := (semB_mid (by decide) (by decide)).1 a0
      obtain rfl : v1 = _ := (semB_mid (by decide) (by decide)).1 a1
      obtain rfl : v2 = _ := (semB_mid (by decide) (by decide)).1 a2
      obtain rfl : v3 = _ := (semB_mid (by decide) (by decide)).1 a3
      obtain rfl : v4 = _ := (semB_mid (by decide) (by decide)).1 a4
      refine (match19_any to_ m c F ao n cap mu i j f w (ht.below hC) hm hF (hr.below hC) hn (hT.below hC)).mono ?_
      rintro e w' ⟨rfl, hb⟩
      exact ⟨_, rfl, (semB_mid (by decide) (by decide)).2 rfl, hb⟩
    · refine ⟨20, #[], fun v w h => (semB_fn 20 v w (by decide)).1 h, eg20, fun w vs hC hv => ?_⟩
      obtain ⟨v0, vs0, rfl, a0, hv⟩ := hv.cons
      obtain ⟨v1, vs1, rfl, a1, hv⟩ := hv.cons
      obtain ⟨v2, vs2, rfl, a2, hv⟩ := hv.cons
      obtain ⟨v3, vs3, rfl, a3, hv⟩ := hv.cons
      obtain ⟨v4, vs4, rfl, a4, hv⟩ := hv.cons
      obtain rfl := hv.nil
      obtain rfl : v0 = _ := (semB_mid (by decide) (by decide)).1 a0
      obtain rfl : v1 = _ := (semB_mid (by decide) (by decide)).1 a1
      obtain rfl : v2 = _ := (semB_mid (by decide) (by decide)).1 a2
      obtain rfl : v3 = _ := (semB_mid (by decide) (by decide)).1 a3
      obtain rfl : v4 = _ := (semB_mid (by decide) (by decide)).1 a4
      refine (match20_any to_ m c F ao n cap mu i j f w (ht.below hC) hm hF (hr.below hC) hn).mono ?_
      rintro e w' ⟨rfl, hb⟩
      exact ⟨_, rfl, (semB_mid (by decide) (by decide)).2 rfl, hb⟩
    · refine ⟨21, #[], fun v w h => (semB_fn 21 v w (by decide)).1 h, eg21, fun w vs hC hv => ?_⟩
      obtain ⟨v0, vs0, rfl, a0, hv⟩ := hv.cons
      obtain rfl := hv.nil
      obtain rfl : v0 = _ := (semB_mid (by decide) (by decide)).1 a0
      refine (empty21_any to_ m c F w (ht.below hC) hm hF (hT.below hC)).mono ?_
      rintro e w' ⟨rfl, hb⟩
      exact ⟨_, rfl, (semB_mid (by decide) (by decide)).2 rfl, hb⟩
    · refine ⟨22, #[], fun v w h => (semB_fn 22 v w (by decide)).1 h, eg22, fun w vs hC hv => ?_⟩
      obtain ⟨v0, vs0, rfl, a0, hv⟩ := hv.cons
      obtain rfl := hv.nil
      obtain rfl : v0 = _ := (semB_mid (by decide) (by decide)).1 a0
      refine (empty22_any to_ m c F w (ht.below hC) hm).mono ?_
      rintro e w' ⟨rfl, hb⟩
      exact ⟨_, rfl, (semB_mid (by decide) (by decide)).2 rfl, hb⟩
set_option maxRecDepth 10000 in
set_option maxHeartbeats 4000000 in
theorem mmatch_any (to_ : Option Addr) (m c : Nat) (F : Nat → Nd) (ao : Option Addr) (n cap : Nat) (mu : Bool) (i j : Int) (f : Nat → Nat) (w : World) (ht : RdN w to_ m F) (hF : ∀ i, i < m → wfN (F i)) (hr : RdB w ao n f) (hT : TabZ w) :
    Calls Tryd.prog 4 #[.agg #[.slice to_ m c], .bool mu, .slice ao n cap, .int .i64 i, .int .i64 j] w (RetTrue w) := by
  have hb0 := below1 w (.cells #[.slice to_ m c] 24)
  have k0 := Cl.new w 24 [.slice to_ m c]
  have d0 := k0.cell 0 rfl
  have H9 := few_any to_ m c ao n cap (w.alloc (.cells #[.slice to_ m c] 24))
  by_cases hfew : m ≤ 60 ∧ n ≤ 24
  · rw [decide_eq_true hfew.1, decide_eq_true hfew.2] at H9
    go_enter Tryd.func4, Tryd.ntmps4
    go_wp2_with fail
    refine H9.mono ?_
    rintro e w1 ⟨rfl, b1⟩
    have k1 := k0.below b1
    have bw1 := hb0.trans (b1.mono hb0.size)
    clear H9 k0 d0 b1 hb0
    go_wp2_with fail
    rename_i hK
    refine region_codes (K := lookM) (fv := fun t => Array.getD _ t undef) (by kernel_rfl) (owedM (ht.below bw1) hfew.1 hF (hr.below bw1) hfew.2 (hT.below bw1) k1 rfl rfl rfl rfl rfl) (fun c h => by simp [lookM] at h) (by decide) (by kernel_rfl) (by decide) (by kernel_rfl) (by kernel_rfl) (Below.refl _ _) ⟨rfl, rfl, fun t _ _ => rfl⟩ (by decide) (by decide) ?_
    intro a' w' hCw hFd hres
    refine hK a' w' ?_
    obtain ⟨tm, ds⟩ := a'
    obtain rfl : ds = [] := hFd.defers
    have h6' : tm.getD 10 undef = .bool true := hres
    refine wp_ret ?_
    exact bodyPost_ret (v := tm.getD 10 undef) (results_tmp (t := 10) rfl tm _ _) rfl ⟨by rw [h6'], bw1.trans (hCw.mono bw1.size)⟩
  · rw [show (decide (m ≤ 60) && decide (n ≤ 24)) = false by simpa using hfew] at H9
    go_enter Tryd.func4, Tryd.ntmps4
    go_wp2_with fail
    refine H9.mono ?_
    rintro e w1 ⟨rfl, b1⟩
    have bw1 := hb0.trans (b1.mono hb0.size)
    clear H9 k0 d0 b1 hfew
    go_wp2_with fail
    go_ret
    exact ⟨rfl, bw1⟩
end Go.Proofs.YtiiecppkabdkgaaDoor
