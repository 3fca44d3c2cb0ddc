/- The iterator of windows: the walk. -/
import Derived.Test.YtgololmgdakigaaTr
import Derived.Test.YtgololmgdakigaaSr
import Derived.Sort.QuietIn
import Derived.LoopIn
import Derived.LoopNIn
import Derived.TacticsInMore
import Derived.OwnWalkIn
namespace Go.Proofs.Ytgololmgdakigaa
open Go.RowKit
attribute [local go_sem] Oper.semAt_some
theorem wide_fn (f : FuncId) : Fence.wide.fn f = True := eq_true trivial
attribute [local go_sem] wide_fn
theorem Cl.same {A B : World} {k : Nat} {t : TypeId} {vs : List Value} (h : Cl A k t vs) (e : B.heap[k]? = A.heap[k]?) : Cl B k t vs := by unfold Cl; rw [e]; exact h
theorem Cl.turnR {A B : World} {lo hi k : Nat} {t : TypeId} {vs : List Value} (h : Cl A k t vs) (ht : TurnR lo hi A B) (hk : k < lo ∨ hi ≤ k) : Cl B k t vs := h.same (ht.block k h.lt hk)
/-- How many windows there are. -/
def cntW (n : Nat) (m : Int) : Nat := if m < 1 then 0 else ((n : Int) + 1 - m).toNat
/-- A window. -/
def winV (q off cap m k : Nat) : Value := .slice (some ⟨q, off + k, none⟩) m (cap - k)
/-- What stands at the head of the loop. -/
structure WI (b b1 b2 m n cap : Nat) (ao : Option Addr) (J : List Nat → World → Prop) (k : Nat) (wr : World) : Prop where
  inv : J (List.range k) wr
  k1 : Cl wr b1 3 [.int .i64 (m : Nat)]
  k2 : Cl wr b2 22 [.slice ao n cap]
  sz : b + 2 ≤ wr.heap.size
theorem range_snoc (k : Nat) : List.range k ++ [k] = List.range (k + 1) := List.range_succ.symm
theorem wrap_n (k m : Nat) (h : k + m ≤ 1099511627776) : IntKind.i64.wrap ((k : Int) + (m : Int)) = (k : Int) + (m : Int) := by rw [IntKind.wrap_i64]; omega
set_option maxRecDepth 100000 in
set_option maxHeartbeats 4000000 in
theorem windows_seq (d N b b1 b2 q off : Nat) (ao : Option Addr) (n cap : Nat) (m : Int) (Old : Nat → Prop) (w : World) (h1 : Old b1) (h2 : Old b2) (k1 : Cl w b1 3 [.int .i64 m]) (k2 : Cl w b2 22 [.slice ao n cap]) (hb1 : b1 < b) (hb2 : b2 < b) (hn : n ≤ 1048576) (hm1 : -9223372036854775808 ≤ m) (hm2 : m < 9223372036854775808) (hc : n ≤ cap) (hs : 0 < n → ao = some ⟨q, off, none⟩) (hN : n < N) :
    SeqR Fence.wide d Try.prog b (b + 2) Old 32 #[.pointer (some ⟨b1, 0, none⟩), .pointer (some ⟨b2, 0, none⟩)] (fun k : Nat => #[.int .i64 (k : Nat), winV q off cap m.toNat k]) (fun pre k => k = pre.length ∧ k < cntW n m) (fun ys => ys = List.range (cntW n m)) (fun pre => ∃ k, k ≤ cntW n m ∧ pre = List.range k) N w := by
  intro J Jx W hb hsW hJ hJx hY h0
  have c1 : Cl W b1 3 [.int .i64 m] := k1.same (hb.block b1 hb1)
  have c2 : Cl W b2 22 [.slice ao n cap] := k2.same (hb.block b2 hb2)
  clear k1 k2 hb
  simp only [List.append_toArray, List.cons_append, List.nil_append]
  by_cases hm : m < 1
  · have e0 : List.range (cntW n m) = [] := by unfold cntW; rw [if_pos hm]; rfl
    have HJ : Hid (∃ xs, xs = List.range (cntW n m) ∧ J xs W) := ⟨_, rfl, by rw [e0]; exact h0⟩
    have d1 := c1.cell 0 rfl
    clear hY h0 hJ hJx
    refine callsIn_of_wp Try.func32 rfl trivial ?_ rfl
    simp only [Try.ntmps32, List.size_toArray, List.length_cons, List.length_nil, Nat.reduceAdd, Nat.reduceSub, Array.replicate_succ, Array.replicate_zero, List.push_toArray, List.append_toArray, List.nil_append, List.cons_append]
    gi_wp2
    exact bodyPost_ret (results_none rfl _ _ _) rfl ⟨⟨_, rfl⟩, .inl HJ.out⟩
  obtain ⟨m, rfl⟩ := Int.eq_ofNat_of_zero_le (show 0 ≤ m by omega)
  have hcn : cntW n (m : Nat) = n + 1 - m := by unfold cntW; rw [if_neg hm]; omega
  rw [hcn]
  have htn : ((m : Nat) : Int).toNat = m := by omega
  rw [htn, hcn] at hY
  have hw1 : IntKind.i64.wrap ((n : Int) - (m : Int)) = (n : Int) - (m : Int) := by rw [IntKind.wrap_i64]; omega
  have hw2 : IntKind.i64.wrap ((n : Int) - (m : Int) + 1) = (n : Int) - (m : Int) + 1 := by rw [IntKind.wrap_i64]; omega
  have d1 := c1.cell 0 rfl
  have d2 := c2.cell 0 rfl
  have S0 : WI b b1 b2 m n cap ao J 0 W := ⟨h0, c1, c2, by omega⟩
  clear hcn htn c1 c2 h0
  refine callsIn_of_wp Try.func32 rfl trivial ?_ rfl
  simp only [Try.ntmps32, List.size_toArray, List.length_cons, List.length_nil, Nat.reduceAdd, Nat.reduceSub, Array.replicate_succ, Array.replicate_zero, List.push_toArray, List.append_toArray, List.nil_append, List.cons_append]
  gi_wp2
  gi_loopw [12] (fun i wr => ∃ k : Nat, k ≤ n + 1 - m ∧ i = .int .i64 (k : Nat) ∧ WI b b1 b2 m n cap ao J k wr) (fun i _ => n + 1 - m - (intOf i).toNat)
  case atStart => exact ⟨0, Nat.zero_le _, rfl, S0⟩
  case round =>
    obtain ⟨k, hk, rfl, S⟩ := hrel
    clear S0 d1 d2
    have d1 := S.k1.cell 0 rfl
    have d2 := S.k2.cell 0 rfl
    by_cases hlt : k < n + 1 - m
    · have hki : (k : Int) < (n : Int) - (m : Int) + 1 := by omega
      have hwk := wrap_n k m (by omega)
      obtain rfl := hs (by omega)
      have hsl := slice_run q off n cap k (k + m) (by omega) (by omega) (by omega)
      rw [show k + m - k = m by omega, show ((k + m : Nat) : Int) = (k : Int) + (m : Int) by omega] at hsl
      have := hY (List.range k) k wr S.inv ⟨by simp, hlt⟩ S.sz (by simp; omega)
      unfold winV at this
      obtain ⟨fn, tmps, assign, body, hy, hR⟩ := this
      have HS : Hid (∀ W3, J (List.range k ++ [k]) W3 → KeepR (b + 2) (b + 2) Old wr W3 → WI b b1 b2 m n cap (some ⟨q, off, none⟩) J (k + 1) W3) := fun W3 hj hk => ⟨range_snoc k ▸ hj, S.k1.same (hk.same _ (.inl h1)), S.k2.same (hk.same _ (.inl h2)), Nat.le_trans S.sz hk.size⟩
      clear S hY hJ hJx
      gi_wp2
      refine ⟨fun hd => (by cases hd), hR.mono ?_⟩
      rintro e W3 ⟨⟨rfl, hJ3⟩ | ⟨rfl, hJ3⟩, hk3⟩
      · have HZ : Hid _ := HS.out W3 hJ3 hk3
        clear hR hy hJ3 hk3 HS
        gi_wp2
        go_roundw
        case rel => exact ⟨k + 1, by omega, by simp, HZ.out⟩
        case measure => simp [intOf]; omega
      · have HZ : Hid (∃ pre, (∃ k, k ≤ n + 1 - m ∧ pre = List.range k) ∧ Jx pre W3) := ⟨_, ⟨k + 1, by omega, range_snoc k⟩, hJ3⟩
        clear hR hy hJ3 hk3 HS
        gi_wp2
        (try simp only [Exit.inBlock, Exit.then])
        refine bodyPost_ret (results_none rfl _ _ _) rfl ?_
        exact ⟨⟨_, rfl⟩, .inr HZ.out⟩
    · obtain rfl : k = n + 1 - m := by omega
      have hki : ¬ ((n + 1 - m : Nat) : Int) < (n : Int) - (m : Int) + 1 := by omega
      have HZ : Hid (J (List.range (n + 1 - m)) wr) := S.inv
      clear S hY hJ hJx
      gi_wp2
      go_end0
      exact ⟨⟨_, rfl⟩, .inl HZ.out⟩
end Go.Proofs.Ytgololmgdakigaa
