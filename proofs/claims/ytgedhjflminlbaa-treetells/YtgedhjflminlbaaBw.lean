/- slices.Backward of nodes, and its iterator: the walks. -/
import Derived.Test.YtgedhjflminlbaaTq
import Derived.Shelf.Abstract
import Derived.Shelf.RegionOpen
import Derived.OwnWalkIn
import Derived.TacticsInMore
import Derived.LoopNIn
import Derived.LoopIn
namespace Go.Proofs.Ytgedhjflminlbaa
open Go.RowKit Go.Shelf
theorem mk_func : ∀ (fn : Fn) (first cap : Array Value) (w : World), (Instr.makeFunc fn first cap).run Try.prog w = .ok (.func fn first cap) w := fun _ _ _ _ => rfl
set_option maxHeartbeats 400000 in
theorem back_mk (ao : Option Addr) (n cap : Nat) (w : World) : Calls Try.prog 41 #[.slice ao n cap] w fun e w' => e = .returned (.func (.func 57) #[] #[.pointer (some ⟨w.heap.size, 0, none⟩)]) ∧ w' = w.alloc (.cells #[.slice ao n cap] 22) := by
  have hmf := mk_func
  go_enter Try.func41, Try.ntmps41
  go_wp2
  go_ret
  exact ⟨rfl, rfl⟩
theorem RdN.kept {Old : Nat → Prop} {A B : World} {a : Addr} {n : Nat} {F : Nat → Nd} (h : RdN A (some a) n F) (hk : KeepY Old A B) (ho : Old a.block) : RdN B (some a) n F := by
  intro hn
  obtain ⟨b, off, e, hb, hc⟩ := h hn
  obtain rfl := Option.some.inj e
  refine ⟨b, off, rfl, Nat.lt_of_lt_of_le hb hk.1, fun k hkn => ?_⟩
  have q : ∀ i, B.cell? ⟨b, i, none⟩ = A.cell? ⟨b, i, none⟩ := fun i => by simp only [World.cell?, hk.2 b ho]
  rw [q, q, q, q, q, q, q, q, q, q]
  exact hc k hkn
theorem Cl.kept {Old : Nat → Prop} {A B : World} {b : Nat} {t : TypeId} {vs : List Value} (h : Cl A b t vs) (hk : KeepY Old A B) (ho : Old b) : Cl B b t vs := by unfold Cl; rw [hk.2 b ho]; exact h
set_option maxRecDepth 100000 in
set_option maxHeartbeats 2000000 in
theorem back_seq (b bx : Nat) (Old : Nat → Prop) (a : Addr) (n cap : Nat) (F : Nat → Nd) (w : World) (hn : (n : Int) ≤ 9223372036854775807) (hr : RdN w (some a) n F) (hk : Cl w bx 22 [.slice (some a) n cap]) (hbw : b = w.heap.size) (h1 : Old bx) (h2 : Old a.block) :
    SeqN Fence.wide 4 Try.prog b Old 57 #[.pointer (some ⟨bx, 0, none⟩)] (fun i => #[.int .i64 ((n - 1 - i : Nat) : Int), ndV (F (n - 1 - i))]) n w := by
  subst hbw
  intro J W hb hs hY h0
  have hrW := hr.below hb
  have hkW := hk.below hb
  clear hr hk hb
  simp only [List.append_toArray, List.cons_append, List.nil_append]
  refine callsIn_of_wp Try.func57 rfl trivial ?_ rfl
  simp only [Try.ntmps57, List.size_toArray, List.length_cons, List.length_nil, Nat.reduceAdd, Nat.reduceSub, Array.replicate_succ, Array.replicate_zero, List.push_toArray, List.append_toArray, List.nil_append, List.cons_append]
  have d0 := hkW.cell 0 rfl
  have hsz : w.heap.size + 2 ≤ W.heap.size := by omega
  gi_wp2
  clear d0
  gi_loopw [3] (fun i wr => ∃ j p : Nat, j + p = n ∧ i = .int .i64 ((p : Int) - 1) ∧ J j wr ∧ w.heap.size + 2 ≤ wr.heap.size ∧ Cl wr bx 22 [.slice (some a) n cap] ∧ RdN wr (some a) n F) (fun i _ => (intOf i + 1).toNat)
  case atStart => exact ⟨0, n, by omega, rfl, h0, hsz, hkW, hrW⟩
  case round =>
    obtain ⟨j, p, hjp, rfl, hJ, hsr, hkr, hrr⟩ := hrel
    have d0 := hkr.cell 0 rfl
    cases p with
    | zero =>
      obtain rfl : j = n := by omega
      have HJ : Hid (J j wr) := hJ
      clear hJ hY hrr h0
      gi_wp2
      go_end0
      exact ⟨⟨_, rfl⟩, HJ.out⟩
    | succ p =>
      have hpn : p < n := by omega
      have e : (((p + 1 : Nat) : Int) - 1) = (p : Int) := by omega
      rw [e]
      have hki : (p : Int) < (n : Int) := by omega
      have hpi : (p : Int) ≥ 0 := by omega
      obtain ⟨bb, off, ea, hbb, hc⟩ := hrr (by omega)
      obtain rfl := Option.some.inj ea
      obtain ⟨c0, c1, c2, c3, c4, c5, c6, c7, c8, c9⟩ := hc p hpn
      obtain ⟨fn, tmps, assign, body, hy, hR⟩ := hY j wr (by omega) hJ hsr
      rw [show n - 1 - j = p by omega] at hy
      clear hc h0 hY hrW hkW
      unfold ndV at hy
      gi_wp2
      refine hR.mono ?_
      rintro e W3 ⟨rfl, hJ3, hk3⟩
      have hkr3 := hkr.kept hk3 h1
      have hrr3 := hrr.kept hk3 h2
      have hs3 := hk3.1
      clear c0 c1 c2 c3 c4 c5 c6 c7 c8 c9 hR hy hk3
      gi_wp2
      go_roundw
      case rel => exact ⟨j + 1, p, by omega, by go_num, hJ3, by omega, hkr3, hrr3⟩
      case measure => simp [intOf]
end Go.Proofs.Ytgedhjflminlbaa
