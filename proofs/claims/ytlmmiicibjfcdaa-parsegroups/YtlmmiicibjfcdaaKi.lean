/- token: escape of a class: the walk. -/
import Derived.Test.YtlmmiicibjfcdaaKh
namespace Go.Proofs.Ytlmmiicibjfcdaa
open Go.RowKit
/-- A token of a class, and a mark; nothing old has turned. -/
def RetKC (w : World) (P : Nat → Bool) (not : Bool) (at_ en : Nat) (e : Ending) (w' : World) : Prop := ∃ a b c d : Nat, e = .returned (.tuple #[tokV 2 0 a b c d not 0 0 false at_, markV en 0]) ∧ C4 P a b c d ∧ Below w.heap.size w w'
/-- The three blocks of a reader's call, and the world behind another call. -/
theorem cl0 (w : World) (o p : Obj) : Cl (((w.alloc (.cells #[.int .i64 0, .int .u8 0, .int .u64 0, .int .u64 0, .int .u64 0, .int .u64 0, .bool false, .int .i64 0, .int .i64 0, .bool false, .int .i64 0] 42)).alloc o).alloc p) w.heap.size 42 [.int .i64 0, .int .u8 0, .int .u64 0, .int .u64 0, .int .u64 0, .int .u64 0, .bool false, .int .i64 0, .int .i64 0, .bool false, .int .i64 0] := ((Cl.new w 42 _).alloc _).alloc _
theorem cl1 (w : World) (o p : Obj) : Cl (((w.alloc o).alloc (.cells #[.int .i64 0, .int .i64 0] 96)).alloc p) (w.heap.size + 1) 96 [.int .i64 0, .int .i64 0] := by
  have := (Cl.new (w.alloc o) 96 [.int .i64 0, .int .i64 0]).alloc p
  simpa using this
theorem cl2 (w : World) (o p : Obj) (vs : List Value) : Cl (((w.alloc o).alloc p).alloc (.cells vs.toArray 42)) (w.heap.size + 1 + 1) 42 vs := by
  have := Cl.new ((w.alloc o).alloc p) 42 vs
  simpa using this
set_option maxRecDepth 10000 in
set_option maxHeartbeats 4000000 in
theorem esc_class (ao : Option Addr) (n cap at_ : Nat) (z : Nat → Nat) (w : World) (hr : Rd w ao n z) (hn : (n : Int) ≤ 1024) (h : at_ + 2 ≤ n) (q : Nat) (hq : z (at_ + 1) = q) (hin : q = 100 ∨ q = 119 ∨ q = 115 ∨ q = 68 ∨ q = 87 ∨ q = 83) : Calls Try.prog 84 #[.slice ao n cap, .int .i64 (at_ : Nat)] w (RetKC w (namP q) false at_ (at_ + 2)) := by
  obtain ⟨bb, off, rfl, hbb, hc⟩ := hr.at_ (by omega)
  have t0 := hc (at_ + 1) (by omega)
  have i1 : (at_ : Int) + 1 < (n : Int) := by omega
  have i2 : (at_ : Int) + 2 ≤ (n : Int) := by omega
  have t1 : (((w.alloc (.cells #[.int .i64 0, .int .u8 0, .int .u64 0, .int .u64 0, .int .u64 0, .int .u64 0, .bool false, .int .i64 0, .int .i64 0, .bool false, .int .i64 0] 42)).alloc (.cells #[.int .i64 0, .int .i64 0] 96)).alloc (.cells #[.int .i64 1, .int .u8 0, .int .u64 0, .int .u64 0, .int .u64 0, .int .u64 0, .bool false, .int .i64 0, .int .i64 0, .bool false, .int .i64 (at_ : Nat)] 42)).cell? ⟨bb, off + (at_ + 1), none⟩ = some (.int .u8 (z (at_ + 1) : Nat)) := by rw [(bel3 w _ _ _).cell (p := ⟨bb, off + (at_ + 1), none⟩) hbb]; exact t0
  rw [hq] at t1
  have HN : Hid (∀ W, Calls Try.prog 95 #[.int .u8 (q : Nat)] W (RetC W (namP q))) := fun W => named_any q W
  generalize namP q = PP at *
  clear hc t0 hq hr
  rcases hin with rfl | rfl | rfl | rfl | rfl | rfl
  all_goals
    go_enter Try.func84, Try.ntmps84
    go_wp2_with fail
    refine wp_scope_once 0 rfl ?_
    go_wp2_with fail
    refine (HN.out _).mono ?_
    rintro e w1 ⟨⟨a, b, c, d, rfl, h4⟩, hb⟩
    have k0 := (cl0 w (.cells #[.int .i64 0, .int .i64 0] 96) (.cells #[.int .i64 1, .int .u8 0, .int .u64 0, .int .u64 0, .int .u64 0, .int .u64 0, .bool false, .int .i64 0, .int .i64 0, .bool false, .int .i64 (at_ : Nat)] 42)).below hb
    have k1 := (cl1 w (.cells #[.int .i64 0, .int .u8 0, .int .u64 0, .int .u64 0, .int .u64 0, .int .u64 0, .bool false, .int .i64 0, .int .i64 0, .bool false, .int .i64 0] 42) (.cells #[.int .i64 1, .int .u8 0, .int .u64 0, .int .u64 0, .int .u64 0, .int .u64 0, .bool false, .int .i64 0, .int .i64 0, .bool false, .int .i64 (at_ : Nat)] 42)).below hb
    have k2 : Cl w1 (w.heap.size + 1 + 1) 42 [.int .i64 1, .int .u8 0, .int .u64 0, .int .u64 0, .int .u64 0, .int .u64 0, .bool false, .int .i64 0, .int .i64 0, .bool false, .int .i64 (at_ : Nat)] := (cl2 w (.cells #[.int .i64 0, .int .u8 0, .int .u64 0, .int .u64 0, .int .u64 0, .int .u64 0, .bool false, .int .i64 0, .int .i64 0, .bool false, .int .i64 0] 42) (.cells #[.int .i64 0, .int .i64 0] 96) _).below hb
    have hB1 : Below w.heap.size w w1 := (bel3 w _ _ _).trans (hb.mono (by simp; omega))
    clear hb t1
    have m0 := (((((k0.other (k := w.heap.size + 1 + 1) (by omega) 0 (.int .i64 2)).other (k := w.heap.size + 1 + 1) (by omega) 2 (.int .u64 (a : Nat))).other (k := w.heap.size + 1 + 1) (by omega) 3 (.int .u64 (b : Nat))).other (k := w.heap.size + 1 + 1) (by omega) 4 (.int .u64 (c : Nat))).other (k := w.heap.size + 1 + 1) (by omega) 5 (.int .u64 (d : Nat)))
    have m1 := (((((k1.other (k := w.heap.size + 1 + 1) (by omega) 0 (.int .i64 2)).other (k := w.heap.size + 1 + 1) (by omega) 2 (.int .u64 (a : Nat))).other (k := w.heap.size + 1 + 1) (by omega) 3 (.int .u64 (b : Nat))).other (k := w.heap.size + 1 + 1) (by omega) 4 (.int .u64 (c : Nat))).other (k := w.heap.size + 1 + 1) (by omega) 5 (.int .u64 (d : Nat)))
    have F := ((m0.put11 (.int .i64 2) (.int .u8 0) (.int .u64 (a : Nat)) (.int .u64 (b : Nat)) (.int .u64 (c : Nat)) (.int .u64 (d : Nat)) (.bool false) (.int .i64 0) (.int .i64 0) (.bool false) (.int .i64 (at_ : Nat))).others2 (k := w.heap.size + 1) (by omega) (.int .i64 ((at_ : Int) + 2)) (.int .i64 0)).eleven.1
    have G := ((m1.others11 (k := w.heap.size) (by omega) (.int .i64 2) (.int .u8 0) (.int .u64 (a : Nat)) (.int .u64 (b : Nat)) (.int .u64 (c : Nat)) (.int .u64 (d : Nat)) (.bool false) (.int .i64 0) (.int .i64 0) (.bool false) (.int .i64 (at_ : Nat))).put2 (.int .i64 ((at_ : Int) + 2)) (.int .i64 0)).two.1
    have hB4 := below_put2 (b := w.heap.size + 1) (below_put11 (b := w.heap.size) (((((hB1.setCell (p := ⟨w.heap.size + 1 + 1, 0, none⟩) (by simp; omega) (.int .i64 2)).setCell (p := ⟨w.heap.size + 1 + 1, 2, none⟩) (by simp; omega) (.int .u64 (a : Nat))).setCell (p := ⟨w.heap.size + 1 + 1, 3, none⟩) (by simp; omega) (.int .u64 (b : Nat))).setCell (p := ⟨w.heap.size + 1 + 1, 4, none⟩) (by simp; omega) (.int .u64 (c : Nat))).setCell (p := ⟨w.heap.size + 1 + 1, 5, none⟩) (by simp; omega) (.int .u64 (d : Nat))) (Nat.le_refl _) (.int .i64 2) (.int .u8 0) (.int .u64 (a : Nat)) (.int .u64 (b : Nat)) (.int .u64 (c : Nat)) (.int .u64 (d : Nat)) (.bool false) (.int .i64 0) (.int .i64 0) (.bool false) (.int .i64 (at_ : Nat))) (by omega) (.int .i64 ((at_ : Int) + 2)) (.int .i64 0)
    simp only [put2, put11] at F G
    obtain ⟨F0, F1, F2, F3, F4, F5, F6, F7, F8, F9, F10⟩ := F
    obtain ⟨G0, G1⟩ := G
    have HF : Hid (Below w.heap.size w _) := hB4
    obtain ⟨⟨a0, a1, a2, a3, a4, a5, a6, a7, a8, a9, a10⟩, x0, x1, x2, x3, x4, x5, x6, x7, x8, x9, x10⟩ := k2.eleven
    obtain ⟨⟨b0, b1, b2, b3, b4, b5, b6, b7, b8, b9, b10⟩, g0, g1, g2, g3, g4, g5, g6, g7, g8, g9, g10⟩ := k0.eleven
    obtain ⟨⟨r0, r1⟩, s0, s1⟩ := k1.two
    clear k0 k1 k2 m0 m1 hB1 hB4
    go_wp2
    exact bodyPost_ret (v := .tuple #[tokV 2 0 a b c d false 0 0 false at_, markV (at_ + 2) 0]) (by simp [results, Try.results84, go_sem, tokV, markV, F0, F1, F2, F3, F4, F5, F6, F7, F8, F9, F10, G0, G1]) rfl ⟨a, b, c, d, rfl, h4, HF.out⟩
end Go.Proofs.Ytlmmiicibjfcdaa
