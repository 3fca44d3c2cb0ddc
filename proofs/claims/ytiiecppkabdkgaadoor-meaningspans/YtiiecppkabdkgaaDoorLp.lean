/- MeaningSpans: the walk. -/
import Derived.Test.YtiiecppkabdkgaaDoorTr
import Derived.Test.YtiiecppkabdkgaaDoorLa
namespace Go.Proofs.YtiiecppkabdkgaaDoor
open Go.RowKit
set_option maxRecDepth 10000 in
set_option maxHeartbeats 4000000 in
theorem sameT2_any (B1 B2 ta tb N cb : Nat) (T1 T2 : Tab) (w : World) (hA : BRows w B1 ta N N T1) (hB : RT w B2 tb N (spB T2)) (hN : N ≤ 25) (he : ∀ i j, i < N → j < N → spB T1 i j = spB T2 i j) :
    Calls Tryd.prog 11 #[.slice (some ⟨ta, 0, none⟩) N N, .slice (some ⟨tb, 0, none⟩) N cb] w (RetTrue w) := by
  have hNi : (N : Int) ≤ 25 := by omega
  have e0 : ((N : Int) == (N : Int)) = true := by simp
  go_enter Tryd.func11, Tryd.ntmps11
  go_wp2_with fail
  go_loopw [5] (fun v wr => ∃ i : Nat, i ≤ N ∧ v = .int .i64 (i : Nat) ∧ Below w.heap.size w wr) (fun v _ => N - (intOf v).toNat)
  case atStart => exact ⟨0, Nat.zero_le _, rfl, Below.refl _ _⟩
  case round =>
    obtain ⟨i, hi, rfl, hbi⟩ := hrel
    by_cases hli : i < N
    · have hii : (i : Int) < (N : Int) := by omega
      obtain ⟨ba, ca1, _, _, ca2⟩ := (hA.below hbi).get hli
      obtain ⟨bb, _, _, _, cb1, cb2, _, _⟩ := (hB.below hbi).get hli
      clear ca2 cb2
      go_wp2_with fail
      go_quiet (fail)
      generalize hwq : wr.drewN _ = wq
      have hbq : Below w.heap.size w wq := by rw [← hwq]; exact below_drewN hbi _
      clear hwq hbi ca1 cb1
      go_wp2_with fail
      go_loopw [6] (fun v wr => ∃ j : Nat, j ≤ N ∧ v = .int .i64 (j : Nat) ∧ Below w.heap.size w wr) (fun v _ => N - (intOf v).toNat)
      case atStart => exact ⟨0, Nat.zero_le _, rfl, hbq⟩
      case round =>
        obtain ⟨j, hj, rfl, hbj⟩ := hrel
        obtain ⟨ba, ca1, _, _, ca2⟩ := (hA.below hbj).get hli
        obtain ⟨bb, _, _, _, cb1, cb2, _, _⟩ := (hB.below hbj).get hli
        by_cases hlj : j < N
        · have hjj : (j : Int) < (N : Int) := by omega
          have c2 := ca2 j hlj
          have c4 := cb2 j hlj
          rw [← he i j hli hlj] at c4
          generalize spB T1 i j = B at *
          have HY : Hid (∀ q, ∃ j' : Nat, j' ≤ N ∧ Value.int .i64 ((j : Int) + 1) = .int .i64 (j' : Nat) ∧ Below w.heap.size w (wr.drewN q)) := fun q => ⟨j + 1, by omega, by simp, below_drewN hbj q⟩
          clear hA hB ca2 cb2 he hbq
          go_wp2_with fail
          go_quiet (fail)
          go_wp2_with fail
          go_roundw
          case rel => exact HY.out _
          case measure => simp [intOf]; omega
        · have hjj : ¬ (j : Int) < (N : Int) := by omega
          go_wp2_with fail
          go_roundw
          case rel => exact ⟨i + 1, by omega, by simp, hbj⟩
          case measure => simp [intOf]; omega
    · have hii : ¬ (i : Int) < (N : Int) := by omega
      go_wp2_with fail
      go_ret
      exact ⟨rfl, hbi⟩

def lookP : Look := { base := 11, res := 6, num := 35, fixed := [(1, 21), (2, 22)], loads := [(3, 24, 20)], calls := [(1010, [], 0), (1012, [20, 21, 22], 30), (1013, [20, 21, 22], 31), (1011, [30, 31], 0), (1015, [20, 21, 22], 32), (1016, [20, 21, 22], 32), (1014, [32, 32], 0), (1017, [20, 21, 22], 33), (1018, [20, 21, 22], 33), (1014, [33, 33], 0)], bools := [], L := [0, 0, 20, 21, 22, 30, 20, 21, 22, 31, 0, 0, 0, 20, 21, 22, 32, 20, 21, 22, 32, 0, 0, 0, 20, 21, 22, 33, 20, 21, 22, 33, 0, 0, 0] }
def semP (to_ : Option Addr) (m c : Nat) (mu : Bool) (ao : Option Addr) (n cap : Nat) (T : Tab) (k : Nat) (v : Value) (w : World) : Prop :=
  if k = 20 then v = .agg #[.slice to_ m c] else if k = 21 then v = .bool mu else if k = 22 then v = .slice ao n cap
  else if k = 30 then ∃ tb, v = .slice (some ⟨tb, 0, none⟩) (n + 1) (n + 1) ∧ BRows w 0 tb (n + 1) (n + 1) T
  else if k = 31 then ∃ g cp, v = .slice (some ⟨g, 0, none⟩) (n + 1) cp ∧ RT w 0 g (n + 1) (spB T)
  else if k = 32 then ∃ lo cp, v = .slice lo (enL (stT T) (n + 1)).length cp ∧ RdI w lo (enL (stT T) (n + 1)).length (fun i => (enL (stT T) (n + 1)).getD i 0)
  else if k = 33 then ∃ lo cp, v = .slice lo (n + 1) cp ∧ RdI w lo (n + 1) (stT T)
  else True
theorem rdI_ints {W : World} {B k cp : Nat} {lo : Option Addr} {g : Nat → Int} (h : W.ownsRow B 3 1 (.slice lo k cp) k (ints g k)) : RdI W lo k g := fun hn => by
  obtain ⟨gg, rfl, hgl, _, hc, _⟩ := row_cell h hn
  exact ⟨gg, 0, rfl, hgl, fun i hi => by rw [Nat.zero_add]; exact hc i _ (ints_get g hi)⟩
theorem eg13 (args : Array Value) (w : World) : (callFunc 13 args).run Tryd.prog w = .ok (.enter 13 args) w := enters_of Tryd.func13 (by kernel_rfl) rfl args w
theorem eg14 (args : Array Value) (w : World) : (callFunc 14 args).run Tryd.prog w = .ok (.enter 14 args) w := enters_of Tryd.func14 (by kernel_rfl) rfl args w
theorem eg15 (args : Array Value) (w : World) : (callFunc 15 args).run Tryd.prog w = .ok (.enter 15 args) w := enters_of Tryd.func15 (by kernel_rfl) rfl args w
theorem eg16 (args : Array Value) (w : World) : (callFunc 16 args).run Tryd.prog w = .ok (.enter 16 args) w := enters_of Tryd.func16 (by kernel_rfl) rfl args w
theorem eg17 (args : Array Value) (w : World) : (callFunc 17 args).run Tryd.prog w = .ok (.enter 17 args) w := enters_of Tryd.func17 (by kernel_rfl) rfl args w
theorem eg18 (args : Array Value) (w : World) : (callFunc 18 args).run Tryd.prog w = .ok (.enter 18 args) w := enters_of Tryd.func18 (by kernel_rfl) rfl args w
theorem owedP {to_ : Option Addr} {m c : Nat} {F : Nat → Nd} {ao : Option Addr} {n cap : Nat} {mu : Bool} {f : Nat → Nat} {h : Nat} {w0 : World} {fv : Nat → Value} (ht : RdN w0 to_ m F) (hm : m ≤ 60) (hF : ∀ i, i < m → wfN (F i)) (hr : RdB w0 ao n f) (hn : n ≤ 24) (hT : TabZ w0) (k0 : Cl w0 h 24 [.slice to_ m c])
    (h1 : fv 1 = .bool mu) (h2 : fv 2 = .slice ao n cap) (h3 : fv 3 = .pointer (some ⟨h, 0, none⟩)) :
    Owed Tryd.prog lookP (semB (semP to_ m c mu ao n cap (mTab f n mu F m))) (fun w => Below w0.heap.size w0 w) 45 fv := by
  have hlen : ((enL (stT (mTab f n mu F m)) (n + 1)).length : Int) ≤ 9223372036854775806 := by have := enL_len (stT (mTab f n mu F m)) (n + 1); omega
  refine ⟨Tryd.underlying4, semB_grow ?_, fun w w' h1 h2 => h1.trans (h2.mono h1.size), semB_yes, semB_no, semB_neg, semB_any, semB_num, semB_fn, ?_, ?_, ?_, ?_, ?_⟩
  · intro k v w w' hs hb
    unfold semP at *
    split
    · rename_i e; rw [if_pos e] at hs; exact hs
    rename_i e1; rw [if_neg e1] at hs
    split
    · rename_i e; rw [if_pos e] at hs; exact hs
    rename_i e2; rw [if_neg e2] at hs
    split
    · rename_i e; rw [if_pos e] at hs; exact hs
    rename_i e3; rw [if_neg e3] at hs
    split
    · rename_i e; rw [if_pos e] at hs; obtain ⟨tb, a1, a2⟩ := hs; exact ⟨tb, a1, a2.below hb⟩
    rename_i e4; rw [if_neg e4] at hs
    split
    · rename_i e; rw [if_pos e] at hs; obtain ⟨g, cp, a1, a2⟩ := hs; exact ⟨g, cp, a1, a2.below hb⟩
    rename_i e5; rw [if_neg e5] at hs
    split
    · rename_i e; rw [if_pos e] at hs; obtain ⟨g, cp, a1, a2⟩ := hs; exact ⟨g, cp, a1, a2.below hb⟩
    rename_i e6; rw [if_neg e6] at hs
    split
    · rename_i e; rw [if_pos e] at hs; obtain ⟨g, cp, a1, a2⟩ := hs; exact ⟨g, cp, a1, a2.below hb⟩
    · trivial
  · intro c cs r hm
    simp only [lookP, List.mem_cons, List.not_mem_nil, or_false, Prod.mk.injEq] at hm
    omega
  · intro t c hm w hC
    simp only [lookP, List.mem_cons, List.not_mem_nil, or_false, Prod.mk.injEq] at hm
    rcases hm with ⟨rfl, rfl⟩ | ⟨rfl, rfl⟩
    · exact (semB_mid (by decide) (by decide)).2 h1
    · exact (semB_mid (by decide) (by decide)).2 h2
  · intro t k r hm
    simp only [lookP, List.mem_cons, List.not_mem_nil, or_false, Prod.mk.injEq] at hm
    obtain ⟨rfl, rfl, rfl⟩ := hm
    exact ⟨by decide, fun o a w ho ha hC => ⟨_, ex_load24 ho (ha.trans h3) ((k0.below hC).cell 0 rfl), (semB_mid (by decide) (by decide)).2 rfl⟩⟩
  · intro c hm
    simp [lookP] at hm
  · intro c' cs r hmm
    show CallOk _ _ c' cs r
    simp only [lookP, List.mem_cons, List.not_mem_nil, or_false, Prod.mk.injEq] at hmm
    rcases hmm with ⟨rfl, rfl, rfl⟩ | ⟨rfl, rfl, rfl⟩ | ⟨rfl, rfl, rfl⟩ | ⟨rfl, rfl, rfl⟩ | ⟨rfl, rfl, rfl⟩ | ⟨rfl, rfl, rfl⟩ | ⟨rfl, rfl, rfl⟩ | ⟨rfl, rfl, rfl⟩ | ⟨rfl, rfl, rfl⟩ | ⟨rfl, rfl, rfl⟩
    · refine ⟨10, #[], fun v w h => (semB_fn 10 v w (by decide)).1 h, eg10, fun w vs hC hv => ?_⟩
      obtain rfl := hv.nil
      refine (begun_any w (hT.below hC)).mono ?_
      rintro e w' ⟨rfl, hb⟩
      exact ⟨_, rfl, (semB_yes _ _).2 rfl, hb⟩
    · refine ⟨12, #[], fun v w h => (semB_fn 12 v w (by decide)).1 h, eg12, fun w vs hC hv => ?_⟩
      obtain ⟨v0, vs0, rfl, a0, hv⟩ := hv.cons
      obtain ⟨v1, vs1, rfl, a1, hv⟩ := hv.cons
      obtain ⟨v2, vs2, rfl, a2, hv⟩ := hv.cons
      obtain rfl := hv.nil
      obtain rfl : v0 = _ := (semB_mid (by decide) (by decide)).1 a0
      obtain rfl : v1 = _ := (semB_mid (by decide) (by decide)).1 a1
      obtain rfl : v2 = _ := (semB_mid (by decide) (by decide)).1 a2
      refine (spans12_any to_ m c F ao n cap mu f w (ht.below hC) (by omega) hF (hr.below hC) hn (hT.below hC)).mono ?_
      rintro e w' ⟨tb, rfl, hB, hb, _⟩
      exact ⟨_, rfl, (semB_mid (by decide) (by decide)).2 ⟨tb, rfl, hB.lower (Nat.zero_le _)⟩, hb⟩
    · refine ⟨13, #[], fun v w h => (semB_fn 13 v w (by decide)).1 h, eg13, fun w vs hC hv => ?_⟩
      obtain ⟨v0, vs0, rfl, a0, hv⟩ := hv.cons
      obtain ⟨v1, vs1, rfl, a1, hv⟩ := hv.cons
      obtain ⟨v2, vs2, rfl, a2, hv⟩ := hv.cons
      obtain rfl := hv.nil
      obtain rfl : v0 = _ := (semB_mid (by decide) (by decide)).1 a0
      obtain rfl : v1 = _ := (semB_mid (by decide) (by decide)).1 a1
      obtain rfl : v2 = _ := (semB_mid (by decide) (by decide)).1 a2
      refine (spans13_any to_ m c F ao n cap mu f w (ht.below hC) hm hF (hr.below hC) hn).mono ?_
      rintro e w' ⟨g, cp, rfl, hB, hb⟩
      exact ⟨_, rfl, (semB_mid (by decide) (by decide)).2 ⟨g, cp, rfl, hB.lower (Nat.zero_le _)⟩, hb⟩
    · refine ⟨11, #[], fun v w h => (semB_fn 11 v w (by decide)).1 h, eg11, fun w vs hC hv => ?_⟩
      obtain ⟨v0, vs0, rfl, a0, hv⟩ := hv.cons
      obtain ⟨v1, vs1, rfl, a1, hv⟩ := hv.cons
      obtain rfl := hv.nil
      obtain ⟨ta, rfl, hA⟩ : ∃ tb, v0 = .slice (some ⟨tb, 0, none⟩) (n + 1) (n + 1) ∧ BRows w 0 tb (n + 1) (n + 1) (mTab f n mu F m) := (semB_mid (by decide) (by decide)).1 a0
      obtain ⟨tb, cp, rfl, hB⟩ : ∃ g cp, v1 = .slice (some ⟨g, 0, none⟩) (n + 1) cp ∧ RT w 0 g (n + 1) (spB (mTab f n mu F m)) := (semB_mid (by decide) (by decide)).1 a1
      refine (sameT2_any 0 0 ta tb (n + 1) cp _ _ w hA hB (by omega) (fun _ _ _ _ => rfl)).mono ?_
      rintro e w' ⟨rfl, hb⟩
      exact ⟨_, rfl, (semB_yes _ _).2 rfl, hb⟩
    · refine ⟨15, #[], fun v w h => (semB_fn 15 v w (by decide)).1 h, eg15, fun w vs hC hv => ?_⟩
      obtain ⟨v0, vs0, rfl, a0, hv⟩ := hv.cons
      obtain ⟨v1, vs1, rfl, a1, hv⟩ := hv.cons
      obtain ⟨v2, vs2, rfl, a2, hv⟩ := hv.cons
      obtain rfl := hv.nil
      obtain rfl : v0 = _ := (semB_mid (by decide) (by decide)).1 a0
      obtain rfl : v1 = _ := (semB_mid (by decide) (by decide)).1 a1
      obtain rfl : v2 = _ := (semB_mid (by decide) (by decide)).1 a2
      refine (ends15_any to_ m c F ao n cap mu f w (ht.below hC) (by omega) hF (hr.below hC) hn (hT.below hC)).mono ?_
      rintro e w' ⟨lo, cp, rfl, ho, hb⟩
      exact ⟨_, rfl, (semB_mid (by decide) (by decide)).2 ⟨lo, cp, rfl, rdI_row ho⟩, hb⟩
    · refine ⟨16, #[], fun v w h => (semB_fn 16 v w (by decide)).1 h, eg16, fun w vs hC hv => ?_⟩
      obtain ⟨v0, vs0, rfl, a0, hv⟩ := hv.cons
      obtain ⟨v1, vs1, rfl, a1, hv⟩ := hv.cons
      obtain ⟨v2, vs2, rfl, a2, hv⟩ := hv.cons
      obtain rfl := hv.nil
      obtain rfl : v0 = _ := (semB_mid (by decide) (by decide)).1 a0
      obtain rfl : v1 = _ := (semB_mid (by decide) (by decide)).1 a1
      obtain rfl : v2 = _ := (semB_mid (by decide) (by decide)).1 a2
      refine (ends16_any to_ m c F ao n cap mu f w (ht.below hC) hm hF (hr.below hC) hn).mono ?_
      rintro e w' ⟨lo, cp, rfl, ho, hb⟩
      exact ⟨_, rfl, (semB_mid (by decide) (by decide)).2 ⟨lo, cp, rfl, rdI_row ho⟩, hb⟩
    · refine ⟨14, #[], fun v w h => (semB_fn 14 v w (by decide)).1 h, eg14, fun w vs hC hv => ?_⟩
      obtain ⟨v0, vs0, rfl, a0, hv⟩ := hv.cons
      obtain ⟨v1, vs1, rfl, a1, hv⟩ := hv.cons
      obtain rfl := hv.nil
      obtain ⟨l0, p0, rfl, hA⟩ : ∃ lo cp, v0 = .slice lo (enL (stT (mTab f n mu F m)) (n + 1)).length cp ∧ RdI w lo (enL (stT (mTab f n mu F m)) (n + 1)).length (fun i => (enL (stT (mTab f n mu F m)) (n + 1)).getD i 0) := (semB_mid (by decide) (by decide)).1 a0
      obtain ⟨l1, p1, rfl, hB⟩ : ∃ lo cp, v1 = .slice lo (enL (stT (mTab f n mu F m)) (n + 1)).length cp ∧ RdI w lo (enL (stT (mTab f n mu F m)) (n + 1)).length (fun i => (enL (stT (mTab f n mu F m)) (n + 1)).getD i 0) := (semB_mid (by decide) (by decide)).1 a1
      have HEq := equalI_any l0 l1 _ _ p0 p1 _ _ w hlen hA hB
      rw [eqI_self _ _ _ (fun _ _ => rfl)] at HEq
      refine HEq.mono ?_
      rintro e w' ⟨rfl, hb⟩
      exact ⟨_, rfl, (semB_yes _ _).2 rfl, hb⟩
    · refine ⟨17, #[], fun v w h => (semB_fn 17 v w (by decide)).1 h, eg17, fun w vs hC hv => ?_⟩
      obtain ⟨v0, vs0, rfl, a0, hv⟩ := hv.cons
      obtain ⟨v1, vs1, rfl, a1, hv⟩ := hv.cons
      obtain ⟨v2, vs2, rfl, a2, hv⟩ := hv.cons
      obtain rfl := hv.nil
      obtain rfl : v0 = _ := (semB_mid (by decide) (by decide)).1 a0
      obtain rfl : v1 = _ := (semB_mid (by decide) (by decide)).1 a1
      obtain rfl : v2 = _ := (semB_mid (by decide) (by decide)).1 a2
      refine (starts17_any to_ m c F ao n cap mu f w (ht.below hC) (by omega) hF (hr.below hC) hn (hT.below hC)).mono ?_
      rintro e w' ⟨tb, rfl, hR, hb, _⟩
      exact ⟨_, rfl, (semB_mid (by decide) (by decide)).2 ⟨_, _, rfl, rdI_of hR (Nat.le_refl _)⟩, hb⟩
    · refine ⟨18, #[], fun v w h => (semB_fn 18 v w (by decide)).1 h, eg18, fun w vs hC hv => ?_⟩
      obtain ⟨v0, vs0, rfl, a0, hv⟩ := hv.cons
      obtain ⟨v1, vs1, rfl, a1, hv⟩ := hv.cons
      obtain ⟨v2, vs2, rfl, a2, hv⟩ := hv.cons
      obtain rfl := hv.nil
      obtain rfl : v0 = _ := (semB_mid (by decide) (by decide)).1 a0
      obtain rfl : v1 = _ := (semB_mid (by decide) (by decide)).1 a1
      obtain rfl : v2 = _ := (semB_mid (by decide) (by decide)).1 a2
      refine (starts18_any to_ m c F ao n cap mu f w (ht.below hC) hm hF (hr.below hC) hn).mono ?_
      rintro e w' ⟨lo, cp, rfl, ho, hb⟩
      exact ⟨_, rfl, (semB_mid (by decide) (by decide)).2 ⟨lo, cp, rfl, rdI_ints ho⟩, hb⟩
    · refine ⟨14, #[], fun v w h => (semB_fn 14 v w (by decide)).1 h, eg14, fun w vs hC hv => ?_⟩
      obtain ⟨v0, vs0, rfl, a0, hv⟩ := hv.cons
      obtain ⟨v1, vs1, rfl, a1, hv⟩ := hv.cons
      obtain rfl := hv.nil
      obtain ⟨l0, p0, rfl, hA⟩ : ∃ lo cp, v0 = .slice lo (n + 1) cp ∧ RdI w lo (n + 1) (stT (mTab f n mu F m)) := (semB_mid (by decide) (by decide)).1 a0
      obtain ⟨l1, p1, rfl, hB⟩ : ∃ lo cp, v1 = .slice lo (n + 1) cp ∧ RdI w lo (n + 1) (stT (mTab f n mu F m)) := (semB_mid (by decide) (by decide)).1 a1
      have HEq := equalI_any l0 l1 _ _ p0 p1 _ _ w (by omega) hA hB
      rw [eqI_self _ _ _ (fun _ _ => rfl)] at HEq
      refine HEq.mono ?_
      rintro e w' ⟨rfl, hb⟩
      exact ⟨_, rfl, (semB_yes _ _).2 rfl, hb⟩
set_option maxRecDepth 10000 in
set_option maxHeartbeats 4000000 in
theorem mspans_any (to_ : Option Addr) (m c : Nat) (F : Nat → Nd) (ao : Option Addr) (n cap : Nat) (mu : Bool) (f : Nat → Nat) (w : World) (ht : RdN w to_ m F) (hF : ∀ i, i < m → wfN (F i)) (hr : RdB w ao n f) (hT : TabZ w) :
    Calls Tryd.prog 3 #[.agg #[.slice to_ m c], .bool mu, .slice ao n cap] w (RetTrue w) := by
  have hb0 := below1 w (.cells #[.slice to_ m c] 24)
  have k0 := Cl.new w 24 [.slice to_ m c]
  have d0 := k0.cell 0 rfl
  have H9 := few_any to_ m c ao n cap (w.alloc (.cells #[.slice to_ m c] 24))
  by_cases hfew : m ≤ 60 ∧ n ≤ 24
  · rw [decide_eq_true hfew.1, decide_eq_true hfew.2] at H9
    go_enter Tryd.func3, Tryd.ntmps3
    go_wp2_with fail
    refine H9.mono ?_
    rintro e w1 ⟨rfl, b1⟩
    have k1 := k0.below b1
    have bw1 := hb0.trans (b1.mono hb0.size)
    clear H9 k0 d0 b1 hb0
    go_wp2_with fail
    rename_i hK
    refine region_codes (K := lookP) (fv := fun t => Array.getD _ t undef) (by kernel_rfl) (owedP (ht.below bw1) hfew.1 hF (hr.below bw1) hfew.2 (hT.below bw1) k1 rfl rfl rfl) (fun c h => by simp [lookP] at h) (by decide) (by kernel_rfl) (by decide) (by kernel_rfl) (by kernel_rfl) (Below.refl _ _) ⟨rfl, rfl, fun t _ _ => rfl⟩ (by decide) (by decide) ?_
    intro a' w' hCw hFd hres
    refine hK a' w' ?_
    obtain ⟨tm, ds⟩ := a'
    obtain rfl : ds = [] := hFd.defers
    have h6' : tm.getD 6 undef = .bool true := hres
    refine wp_ret ?_
    exact bodyPost_ret (v := tm.getD 6 undef) (results_tmp (t := 6) rfl tm _ _) rfl ⟨by rw [h6'], bw1.trans (hCw.mono bw1.size)⟩
  · rw [show (decide (m ≤ 60) && decide (n ≤ 24)) = false by simpa using hfew] at H9
    go_enter Tryd.func3, Tryd.ntmps3
    go_wp2_with fail
    refine H9.mono ?_
    rintro e w1 ⟨rfl, b1⟩
    have bw1 := hb0.trans (b1.mono hb0.size)
    clear H9 k0 d0 b1 hfew
    go_wp2_with fail
    go_ret
    exact ⟨rfl, bw1⟩
end Go.Proofs.YtiiecppkabdkgaaDoor
