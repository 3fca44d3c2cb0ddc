/- The reference of token: brackets: the pattern that ends behind [. -/
import Derived.Test.YtlmmiicibjfcdaaQ39
namespace Go.Proofs.Ytlmmiicibjfcdaa.X
open Go.RowKit Go.Shelf
set_option maxRecDepth 20000 in
set_option maxHeartbeats 2000000 in
theorem rbr_end (bb off n cap op : Nat) (z : Nat → Nat) (w : World) (hn : (n : Int) ≤ 1024) (ho : op < n) (h1 : ¬ op + 1 < n) : Calls Try.prog 90 #[.slice (some ⟨bb, off, none⟩) n cap, .int .i64 (op : Nat)] w (RetBr w z n op) := by
  have j1 : ¬ (op : Int) + 1 < (n : Int) := by omega
  have j2 : (op : Int) + 1 ≥ (n : Int) := by omega
  have HE : Hid (brkS z n op = .bad op 41) := by
    have e : hasP z n (op + 1) 94 = false := hasP_out h1
    show brkS z n op = .bad op 41
    unfold brkS
    rw [e, if_neg (by decide), brkG, if_pos (by omega)]
  have hC : Cl ((w.alloc (.cells #[.int .i64 0, .int .u8 0, .int .u64 0, .int .u64 0, .int .u64 0, .int .u64 0, .bool false, .int .i64 0, .int .i64 0, .bool false, .int .i64 0] 42)).alloc (.cells #[.int .u64 0, .int .u64 0, .int .u64 0, .int .u64 0] 40)) w.heap.size 42 [.int .i64 0, .int .u8 0, .int .u64 0, .int .u64 0, .int .u64 0, .int .u64 0, .bool false, .int .i64 0, .int .i64 0, .bool false, .int .i64 0] := (Cl.new w 42 _).alloc _
  have HB : Hid (Below w.heap.size w ((w.alloc (.cells #[.int .i64 0, .int .u8 0, .int .u64 0, .int .u64 0, .int .u64 0, .int .u64 0, .bool false, .int .i64 0, .int .i64 0, .bool false, .int .i64 0] 42)).alloc (.cells #[.int .u64 0, .int .u64 0, .int .u64 0, .int .u64 0] 40))) := bel2 _ _ _
  have i0 : (op : Int) < (n : Int) := by omega
  clear h1 ho
  go_enter Try.func90, Try.ntmps90
  go_wp2
  generalize (w.alloc (.cells #[.int .i64 0, .int .u8 0, .int .u64 0, .int .u64 0, .int .u64 0, .int .u64 0, .bool false, .int .i64 0, .int .i64 0, .bool false, .int .i64 0] 42)).alloc (.cells #[.int .u64 0, .int .u64 0, .int .u64 0, .int .u64 0] 40) = W at *
  have HR : Hid (Cl W w.heap.size 42 [.int .i64 0, .int .u8 0, .int .u64 0, .int .u64 0, .int .u64 0, .int .u64 0, .bool false, .int .i64 0, .int .i64 0, .bool false, .int .i64 0]) := hC
  obtain ⟨⟨b0, b1, b2, b3, b4, b5, b6, b7, b8, b9, b10⟩, g0, g1, g2, g3, g4, g5, g6, g7, g8, g9, g10⟩ := hC.eleven
  clear hC
  refine wp_loop_once ?_
  go_wp2
  go_quiet (fail)
  go_wp2
  have k1 := HR.out.below (bel_drewN W nq)
  have F := (k1.put11 (.int .i64 0) (.int .u8 0) (.int .u64 0) (.int .u64 0) (.int .u64 0) (.int .u64 0) (.bool false) (.int .i64 0) (.int .i64 0) (.bool false) (.int .i64 0)).eleven.1
  have hB4 := below_put11 (b := w.heap.size) (HB.out.trans ((bel_drewN W nq).mono HB.out.size)) (Nat.le_refl _) (.int .i64 0) (.int .u8 0) (.int .u64 0) (.int .u64 0) (.int .u64 0) (.int .u64 0) (.bool false) (.int .i64 0) (.int .i64 0) (.bool false) (.int .i64 0)
  simp only [put11] at F hB4
  obtain ⟨F0, F1, F2, F3, F4, F5, F6, F7, F8, F9, F10⟩ := F
  exact bodyPost_ret (v := .tuple #[tokV 0 0 0 0 0 0 false 0 0 false 0, .int .i64 (op : Nat), .int .i64 41]) (by simp [results, Try.results90, go_sem, tokV, F0, F1, F2, F3, F4, F5, F6, F7, F8, F9, F10]) rfl (RetBr.bad HE.out rfl hB4)
end Go.Proofs.Ytlmmiicibjfcdaa.X
