/- with and Has of package class, With and Has of the reference: the walks. -/
import Derived.Test.YtlmmiicibjfcdaaMath
namespace Go.Proofs.Ytlmmiicibjfcdaa
open Go.RowKit
theorem below2 (w : World) (o o' : Obj) : Below w.heap.size w ((w.alloc o).alloc o') := ((Below.refl _ _).alloc (Nat.le_refl _) _).alloc (by simp) _
/-- What a call answers that makes a class; nothing old has turned. -/
def RetC (w : World) (P : Nat → Bool) (e : Ending) (w' : World) : Prop := (∃ a b c d, e = .returned (.agg #[.int .u64 (a : Nat), .int .u64 (b : Nat), .int .u64 (c : Nat), .int .u64 (d : Nat)]) ∧ C4 P a b c d) ∧ Below w.heap.size w w'
theorem RetC.congr {w : World} {P Q : Nat → Bool} {e : Ending} {w' : World} (h : RetC w P e w') (hpq : ∀ b, b < 256 → P b = Q b) : RetC w Q e w' := by
  obtain ⟨⟨a, b, c, d, he, k⟩, hb⟩ := h
  exact ⟨⟨a, b, c, d, he, k.congr hpq⟩, hb⟩
set_option maxHeartbeats 1000000 in
theorem with_at0 (a b c d v x : Nat) (w : World) (hq : (x : Int) / 64 = 0) (hv : bits .or .u64 (a : Int) (IntKind.u64.wrap (2 ^ (x % 64))) = (v : Nat)) :
    Calls Try.prog 55 #[.agg #[.int .u64 (a : Nat), .int .u64 (b : Nat), .int .u64 (c : Nat), .int .u64 (d : Nat)], .int .u8 (x : Nat)] w fun e w' => e = .returned (.agg #[.int .u64 (v : Nat), .int .u64 (b : Nat), .int .u64 (c : Nat), .int .u64 (d : Nat)]) ∧ Below w.heap.size w w' := by
  go_enter Try.func55, Try.ntmps55
  go_wp2
  exact bodyPost_ret (by simp [results, Try.results55, go_sem]) rfl ⟨rfl, below2 _ _ _⟩
set_option maxHeartbeats 1000000 in
theorem with_at1 (a b c d v x : Nat) (w : World) (hq : (x : Int) / 64 = 1) (hv : bits .or .u64 (b : Int) (IntKind.u64.wrap (2 ^ (x % 64))) = (v : Nat)) :
    Calls Try.prog 55 #[.agg #[.int .u64 (a : Nat), .int .u64 (b : Nat), .int .u64 (c : Nat), .int .u64 (d : Nat)], .int .u8 (x : Nat)] w fun e w' => e = .returned (.agg #[.int .u64 (a : Nat), .int .u64 (v : Nat), .int .u64 (c : Nat), .int .u64 (d : Nat)]) ∧ Below w.heap.size w w' := by
  go_enter Try.func55, Try.ntmps55
  go_wp2
  exact bodyPost_ret (by simp [results, Try.results55, go_sem]) rfl ⟨rfl, below2 _ _ _⟩
set_option maxHeartbeats 1000000 in
theorem with_at2 (a b c d v x : Nat) (w : World) (hq : (x : Int) / 64 = 2) (hv : bits .or .u64 (c : Int) (IntKind.u64.wrap (2 ^ (x % 64))) = (v : Nat)) :
    Calls Try.prog 55 #[.agg #[.int .u64 (a : Nat), .int .u64 (b : Nat), .int .u64 (c : Nat), .int .u64 (d : Nat)], .int .u8 (x : Nat)] w fun e w' => e = .returned (.agg #[.int .u64 (a : Nat), .int .u64 (b : Nat), .int .u64 (v : Nat), .int .u64 (d : Nat)]) ∧ Below w.heap.size w w' := by
  go_enter Try.func55, Try.ntmps55
  go_wp2
  exact bodyPost_ret (by simp [results, Try.results55, go_sem]) rfl ⟨rfl, below2 _ _ _⟩
set_option maxHeartbeats 1000000 in
theorem with_at3 (a b c d v x : Nat) (w : World) (hq : (x : Int) / 64 = 3) (hv : bits .or .u64 (d : Int) (IntKind.u64.wrap (2 ^ (x % 64))) = (v : Nat)) :
    Calls Try.prog 55 #[.agg #[.int .u64 (a : Nat), .int .u64 (b : Nat), .int .u64 (c : Nat), .int .u64 (d : Nat)], .int .u8 (x : Nat)] w fun e w' => e = .returned (.agg #[.int .u64 (a : Nat), .int .u64 (b : Nat), .int .u64 (c : Nat), .int .u64 (v : Nat)]) ∧ Below w.heap.size w w' := by
  go_enter Try.func55, Try.ntmps55
  go_wp2
  exact bodyPost_ret (by simp [results, Try.results55, go_sem]) rfl ⟨rfl, below2 _ _ _⟩
/-- with: one byte more. -/
theorem with_c {P : Nat → Bool} {a b c d : Nat} (h : C4 P a b c d) (x : Nat) (w : World) (hx : x < 256) : Calls Try.prog 55 #[.agg #[.int .u64 (a : Nat), .int .u64 (b : Nat), .int .u64 (c : Nat), .int .u64 (d : Nat)], .int .u8 (x : Nat)] w (RetC w (ins P x)) := by
  have hq : x / 64 = 0 ∨ x / 64 = 1 ∨ x / 64 = 2 ∨ x / 64 = 3 := by omega
  rcases hq with hq | hq | hq | hq
  · exact (with_at0 a b c d _ x w (by omega) (or_one _ _ h.la)).mono fun e w' ⟨he, hb⟩ => ⟨⟨_, _, _, _, he, h.ins0 hq⟩, hb⟩
  · exact (with_at1 a b c d _ x w (by omega) (or_one _ _ h.lb)).mono fun e w' ⟨he, hb⟩ => ⟨⟨_, _, _, _, he, h.ins1 hq⟩, hb⟩
  · exact (with_at2 a b c d _ x w (by omega) (or_one _ _ h.lc)).mono fun e w' ⟨he, hb⟩ => ⟨⟨_, _, _, _, he, h.ins2 hq⟩, hb⟩
  · exact (with_at3 a b c d _ x w (by omega) (or_one _ _ h.ld)).mono fun e w' ⟨he, hb⟩ => ⟨⟨_, _, _, _, he, h.ins3 hq⟩, hb⟩
set_option maxHeartbeats 1000000 in
theorem rwith_at0 (a b c d v x : Nat) (w : World) (hq : (x : Int) / 64 = 0) (hv : bits .or .u64 (a : Int) (IntKind.u64.wrap (2 ^ (x % 64))) = (v : Nat)) :
    Calls Try.prog 58 #[.agg #[.int .u64 (a : Nat), .int .u64 (b : Nat), .int .u64 (c : Nat), .int .u64 (d : Nat)], .int .u8 (x : Nat)] w fun e w' => e = .returned (.agg #[.int .u64 (v : Nat), .int .u64 (b : Nat), .int .u64 (c : Nat), .int .u64 (d : Nat)]) ∧ Below w.heap.size w w' := by
  go_enter Try.func58, Try.ntmps58
  go_wp2
  exact bodyPost_ret (by simp [results, Try.results58, go_sem]) rfl ⟨rfl, below2 _ _ _⟩
set_option maxHeartbeats 1000000 in
theorem rwith_at1 (a b c d v x : Nat) (w : World) (hq : (x : Int) / 64 = 1) (hv : bits .or .u64 (b : Int) (IntKind.u64.wrap (2 ^ (x % 64))) = (v : Nat)) :
    Calls Try.prog 58 #[.agg #[.int .u64 (a : Nat), .int .u64 (b : Nat), .int .u64 (c : Nat), .int .u64 (d : Nat)], .int .u8 (x : Nat)] w fun e w' => e = .returned (.agg #[.int .u64 (a : Nat), .int .u64 (v : Nat), .int .u64 (c : Nat), .int .u64 (d : Nat)]) ∧ Below w.heap.size w w' := by
  go_enter Try.func58, Try.ntmps58
  go_wp2
  exact bodyPost_ret (by simp [results, Try.results58, go_sem]) rfl ⟨rfl, below2 _ _ _⟩
set_option maxHeartbeats 1000000 in
theorem rwith_at2 (a b c d v x : Nat) (w : World) (hq : (x : Int) / 64 = 2) (hv : bits .or .u64 (c : Int) (IntKind.u64.wrap (2 ^ (x % 64))) = (v : Nat)) :
    Calls Try.prog 58 #[.agg #[.int .u64 (a : Nat), .int .u64 (b : Nat), .int .u64 (c : Nat), .int .u64 (d : Nat)], .int .u8 (x : Nat)] w fun e w' => e = .returned (.agg #[.int .u64 (a : Nat), .int .u64 (b : Nat), .int .u64 (v : Nat), .int .u64 (d : Nat)]) ∧ Below w.heap.size w w' := by
  go_enter Try.func58, Try.ntmps58
  go_wp2
  exact bodyPost_ret (by simp [results, Try.results58, go_sem]) rfl ⟨rfl, below2 _ _ _⟩
set_option maxHeartbeats 1000000 in
theorem rwith_at3 (a b c d v x : Nat) (w : World) (hq : (x : Int) / 64 = 3) (hv : bits .or .u64 (d : Int) (IntKind.u64.wrap (2 ^ (x % 64))) = (v : Nat)) :
    Calls Try.prog 58 #[.agg #[.int .u64 (a : Nat), .int .u64 (b : Nat), .int .u64 (c : Nat), .int .u64 (d : Nat)], .int .u8 (x : Nat)] w fun e w' => e = .returned (.agg #[.int .u64 (a : Nat), .int .u64 (b : Nat), .int .u64 (c : Nat), .int .u64 (v : Nat)]) ∧ Below w.heap.size w w' := by
  go_enter Try.func58, Try.ntmps58
  go_wp2
  exact bodyPost_ret (by simp [results, Try.results58, go_sem]) rfl ⟨rfl, below2 _ _ _⟩
/-- rwith: one byte more. -/
theorem rwith_c {P : Nat → Bool} {a b c d : Nat} (h : C4 P a b c d) (x : Nat) (w : World) (hx : x < 256) : Calls Try.prog 58 #[.agg #[.int .u64 (a : Nat), .int .u64 (b : Nat), .int .u64 (c : Nat), .int .u64 (d : Nat)], .int .u8 (x : Nat)] w (RetC w (ins P x)) := by
  have hq : x / 64 = 0 ∨ x / 64 = 1 ∨ x / 64 = 2 ∨ x / 64 = 3 := by omega
  rcases hq with hq | hq | hq | hq
  · exact (rwith_at0 a b c d _ x w (by omega) (or_one _ _ h.la)).mono fun e w' ⟨he, hb⟩ => ⟨⟨_, _, _, _, he, h.ins0 hq⟩, hb⟩
  · exact (rwith_at1 a b c d _ x w (by omega) (or_one _ _ h.lb)).mono fun e w' ⟨he, hb⟩ => ⟨⟨_, _, _, _, he, h.ins1 hq⟩, hb⟩
  · exact (rwith_at2 a b c d _ x w (by omega) (or_one _ _ h.lc)).mono fun e w' ⟨he, hb⟩ => ⟨⟨_, _, _, _, he, h.ins2 hq⟩, hb⟩
  · exact (rwith_at3 a b c d _ x w (by omega) (or_one _ _ h.ld)).mono fun e w' ⟨he, hb⟩ => ⟨⟨_, _, _, _, he, h.ins3 hq⟩, hb⟩
end Go.Proofs.Ytlmmiicibjfcdaa
