/- begun: the walk. TokenTexts: the walk of the law. TokenPrints: the walk of the law. token: what Lex and Print leave, as tokens and bytes that can be read; tokens that may be, printed and lexed. -/
import Derived.Test.YtkbeiadbolihiaaDoorM35Ez
import Derived.Lib.SlBytesConst
import Derived.Test.YtkbeiadbolihiaaDoorM32Xw
import Derived.Test.YtkbeiadbolihiaaDoorM34Sm
import Derived.Test.YtkbeiadbolihiaaDoorM30Nu
namespace Go.Proofs.YtkbeiadbolihiaaDoor
open Go.RowKit
/-- The small pattern's bytes. -/
def zb (i : Nat) : Nat := ([97, 123, 50, 44, 125, 63, 91, 94, 120, 45, 122, 93, 36] : List Nat).getD i 0
theorem rd_zb (w : World) : Rd (w.alloc (.cells #[.int .u8 97, .int .u8 123, .int .u8 50, .int .u8 44, .int .u8 125, .int .u8 63, .int .u8 91, .int .u8 94, .int .u8 120, .int .u8 45, .int .u8 122, .int .u8 93, .int .u8 36] 5 (13, 14))) (some ⟨w.heap.size, 0, none⟩) 13 zb := by
  refine ⟨by decide, fun _ => ⟨w.heap.size, 0, rfl, by simp, fun i hi => ?_⟩⟩
  rw [Nat.zero_add, cell_of_row _ w.heap.size i #[.int .u8 97, .int .u8 123, .int .u8 50, .int .u8 44, .int .u8 125, .int .u8 63, .int .u8 91, .int .u8 94, .int .u8 120, .int .u8 45, .int .u8 122, .int .u8 93, .int .u8 36] 5 (13, 14) (heap_alloc_new w _)]
  obtain rfl | rfl | rfl | rfl | rfl | rfl | rfl | rfl | rfl | rfl | rfl | rfl | rfl : i = 0 ∨ i = 1 ∨ i = 2 ∨ i = 3 ∨ i = 4 ∨ i = 5 ∨ i = 6 ∨ i = 7 ∨ i = 8 ∨ i = 9 ∨ i = 10 ∨ i = 11 ∨ i = 12 := by omega
  all_goals rfl
theorem zb0 : wrd zb 13 0 = .sgn 1 97 0 1 := by kernel_rfl
theorem zb1 : wrd zb 13 1 = .rep 2 (-1) true 1 6 := by kernel_rfl
theorem zb2 : (wrd zb 13 6).er = 0 ∧ (wrd zb 13 6).en = 12 := by constructor <;> kernel_rfl
theorem zb3 : wrd zb 13 12 = .sgn 9 0 12 13 := by kernel_rfl
theorem zb_all : wl zb 13 1100 0 = [wrd zb 13 0, wrd zb 13 1, wrd zb 13 6, wrd zb 13 12] := by
  rw [show (1100 : Nat) = 1096 + 1 + 1 + 1 + 1 from rfl, wl_go (by decide) (by rw [zb0]; rfl), show (wrd zb 13 0).en = 1 by rw [zb0]; rfl, wl_go (by decide) (by rw [zb1]; rfl), show (wrd zb 13 1).en = 6 by rw [zb1]; rfl, wl_go (by decide) zb2.1, zb2.2, wl_go (by decide) (by rw [zb3]; rfl), show (wrd zb 13 12).en = 13 by rw [zb3]; rfl, wl_end (by decide)]
theorem wds_none : wds (fun _ => false) 0 = 0 ∧ wds (fun _ => false) 1 = 0 ∧ wds (fun _ => false) 2 = 0 ∧ wds (fun _ => false) 3 = 0 := (wds_is _).uniq c4_none
set_option maxRecDepth 20000 in
set_option maxHeartbeats 1000000 in
theorem begun_any (w : World) : Calls Tryd.prog 7 #[] w (RetB w true) := by
  have HL : Hid (∀ W : World, Calls Tryd.prog 17 #[.slice (some ⟨W.heap.size, 0, none⟩) 13 13] (W.alloc (.cells #[.int .u8 97, .int .u8 123, .int .u8 50, .int .u8 44, .int .u8 125, .int .u8 63, .int .u8 91, .int .u8 94, .int .u8 120, .int .u8 45, .int .u8 122, .int .u8 93, .int .u8 36] 5 (13, 14))) (RetLx (W.alloc (.cells #[.int .u8 97, .int .u8 123, .int .u8 50, .int .u8 44, .int .u8 125, .int .u8 63, .int .u8 91, .int .u8 94, .int .u8 120, .int .u8 45, .int .u8 122, .int .u8 93, .int .u8 36] 5 (13, 14))) zb 13)) := fun W => lex_short _ 13 13 zb _ (rd_zb W) (by decide)
  have hcv : (convert 34 34 (.slice (some ⟨w.heap.size, 0, none⟩) 13 13)).run Tryd.prog (w.alloc (.cells #[.int .u8 97, .int .u8 123, .int .u8 50, .int .u8 44, .int .u8 125, .int .u8 63, .int .u8 91, .int .u8 94, .int .u8 120, .int .u8 45, .int .u8 122, .int .u8 93, .int .u8 36] 5)) = .ok (.slice (some ⟨w.heap.size, 0, none⟩) 13 13) (w.alloc (.cells #[.int .u8 97, .int .u8 123, .int .u8 50, .int .u8 44, .int .u8 125, .int .u8 63, .int .u8 91, .int .u8 94, .int .u8 120, .int .u8 45, .int .u8 122, .int .u8 93, .int .u8 36] 5 (13, 14))) := Lib.run_convert_bytes_const w 34 5 #[.int .u8 97, .int .u8 123, .int .u8 50, .int .u8 44, .int .u8 125, .int .u8 63, .int .u8 91, .int .u8 94, .int .u8 120, .int .u8 45, .int .u8 122, .int .u8 93, .int .u8 36] 13 13 Tryd.underlying34 Tryd.underlying5
  go_enter Tryd.func7, Tryd.ntmps7
  go_wp2_with fail
  refine (HL.out _).mono ?_
  rintro e w1 (⟨ao, cap, hg, rfl, hrow, hb⟩ | ⟨s, hs, he, _⟩)
  · rw [zb_all] at hrow
    obtain ⟨g, rfl, hgl, _, hc⟩ := row_cell hrow (by decide)
    have h1 := fun j (hj : j < 11) u (hu : (tokC (wrd zb 13 1))[j]? = some u) => hc (1 * 11 + j) u (by rw [tokL_get _ 1 j (by decide) hj]; exact hu)
    have h3 := fun j (hj : j < 11) u (hu : (tokC (wrd zb 13 12))[j]? = some u) => hc (3 * 11 + j) u (by rw [tokL_get _ 3 j (by decide) hj]; exact hu)
    rw [zb1] at h1
    rw [zb3] at h3
    obtain ⟨e0, e1, e2, e3⟩ := wds_none
    simp only [tokC, TokS.rep, TokS.sgn, e0, e1, e2, e3] at h1 h3
    have u0 := h1 0 (by decide) _ rfl
    have u1 := h1 1 (by decide) _ rfl
    have u2 := h1 2 (by decide) _ rfl
    have u3 := h1 3 (by decide) _ rfl
    have u4 := h1 4 (by decide) _ rfl
    have u5 := h1 5 (by decide) _ rfl
    have u6 := h1 6 (by decide) _ rfl
    have u7 := h1 7 (by decide) _ rfl
    have u8 := h1 8 (by decide) _ rfl
    have u9 := h1 9 (by decide) _ rfl
    have u10 := h1 10 (by decide) _ rfl
    have v0 := h3 0 (by decide) _ rfl
    have v1 := h3 1 (by decide) _ rfl
    have v2 := h3 2 (by decide) _ rfl
    have v3 := h3 3 (by decide) _ rfl
    have v4 := h3 4 (by decide) _ rfl
    have v5 := h3 5 (by decide) _ rfl
    have v6 := h3 6 (by decide) _ rfl
    have v7 := h3 7 (by decide) _ rfl
    have v8 := h3 8 (by decide) _ rfl
    have v9 := h3 9 (by decide) _ rfl
    have v10 := h3 10 (by decide) _ rfl
    simp only [Nat.reduceMul, Nat.reduceAdd] at u0 u1 u2 u3 u4 u5 u6 u7 u8 u9 u10 v0 v1 v2 v3 v4 v5 v6 v7 v8 v9 v10
    have q1 : ∀ W, (Go.binOp BinOp.eql 26 (.agg #[.int .i64 7, .int .u8 0, .int .u64 0, .int .u64 0, .int .u64 0, .int .u64 0, .bool false, .int .i64 2, .int .i64 (-1), .bool true, .int .i64 1]) (.agg #[.int .i64 7, .int .u8 0, .int .u64 0, .int .u64 0, .int .u64 0, .int .u64 0, .bool false, .int .i64 2, .int .i64 (-1), .bool true, .int .i64 1])).run Tryd.prog W = .ok (.bool true) W := eql32_same 7 0 0 0 0 0 false 2 (-1) true 1
    have q2 : ∀ W, (Go.binOp BinOp.eql 26 (.agg #[.int .i64 9, .int .u8 0, .int .u64 0, .int .u64 0, .int .u64 0, .int .u64 0, .bool false, .int .i64 0, .int .i64 0, .bool false, .int .i64 12]) (.agg #[.int .i64 9, .int .u8 0, .int .u64 0, .int .u64 0, .int .u64 0, .int .u64 0, .bool false, .int .i64 0, .int .i64 0, .bool false, .int .i64 12])).run Tryd.prog W = .ok (.bool true) W := eql32_same 9 0 0 0 0 0 false 0 0 false 12
    have HB : Hid (Below w.heap.size w w1) := ((Below.refl _ _).alloc (Nat.le_refl _) _).trans (hb.mono (by simp))
    clear h1 h3 hc hrow hb hg hgl e0 e1 e2 e3 HL
    rw [zb_all]
    simp only [List.length_cons, List.length_nil, Nat.reduceAdd]
    go_wp2_with fail
    go_ret
    exact ⟨rfl, HB.out⟩
  · exfalso
    rw [zb_all] at hs
    simp only [List.mem_cons, List.not_mem_nil, or_false] at hs
    rcases hs with rfl | rfl | rfl | rfl
    · rw [zb0] at he; exact he rfl
    · rw [zb1] at he; exact he rfl
    · exact he zb2.1
    · rw [zb3] at he; exact he rfl
end Go.Proofs.YtkbeiadbolihiaaDoor
namespace Go.Proofs.YtkbeiadbolihiaaDoor
open Go.RowKit Go.Shelf
set_option maxRecDepth 20000 in
set_option maxHeartbeats 4000000 in
theorem texts_walk {P : Nat → Bool} (k : Int) (b a0 a1 a2 a3 : Nat) (nt : Bool) (l m : Int) (lz : Bool) (t : Int) (k' : Int) (b' a0' a1' a2' a3' : Nat) (nt' : Bool) (l' m' : Int) (lz' : Bool) (t' : Int) (w : World) (hb : b < 256) (hT : Tab w) (hW : Pow w) (h4 : C4 P a0 a1 a2 a3) :
    Calls Tryd.prog 3 #[tokI k b a0 a1 a2 a3 nt l m lz t, tokI k' b' a0' a1' a2' a3' nt' l' m' lz' t'] w (RetB w true) := by
  have hB : Below w.heap.size w ((w.alloc (.cells #[.int .i64 k, .int .u8 (b : Nat), .int .u64 (a0 : Nat), .int .u64 (a1 : Nat), .int .u64 (a2 : Nat), .int .u64 (a3 : Nat), .bool nt, .int .i64 l, .int .i64 m, .bool lz, .int .i64 t] 26)).alloc (.cells #[.int .i64 k', .int .u8 (b' : Nat), .int .u64 (a0' : Nat), .int .u64 (a1' : Nat), .int .u64 (a2' : Nat), .int .u64 (a3' : Nat), .bool nt', .int .i64 l', .int .i64 m', .bool lz', .int .i64 t'] 26)) := below2 w _ _
  have H7 : Hid (∀ W, Calls Tryd.prog 7 #[] W fun e w' => e = .returned (.bool true) ∧ Below W.heap.size W w') := fun W => begun_any W
  have H8 := fun W => check_all (P := P) k b a0 a1 a2 a3 nt l m lz t W h4
  have H9 := fun W => rcheck_all (P := P) k b a0 a1 a2 a3 nt l m lz t W h4
  have H10 : ∀ W, Below w.heap.size w W → _ := fun W hw => text_all (P := P) k b a0 a1 a2 a3 nt l m lz t W hb (hT.below hw) (hW.below hw) h4
  have H11 := fun W => rtext_all (P := P) k b a0 a1 a2 a3 nt l m lz t W hb h4
  have H13 := fun W => same13 k b a0 a1 a2 a3 nt l m lz t k' b' a0' a1' a2' a3' nt' l' m' lz' t' W
  have K12 : Hid (∀ (k : Int) (b a0 a1 a2 a3 : Nat) (nt : Bool) (l m : Int) (lz : Bool) (t : Int) (k' : Int) (b' a0' a1' a2' a3' : Nat) (nt' : Bool) (l' m' : Int) (lz' : Bool) (t' : Int) W, Calls Tryd.prog 12 #[.agg #[.int .i64 k, .int .u8 (b : Nat), .int .u64 (a0 : Nat), .int .u64 (a1 : Nat), .int .u64 (a2 : Nat), .int .u64 (a3 : Nat), .bool nt, .int .i64 l, .int .i64 m, .bool lz, .int .i64 t], .agg #[.int .i64 k', .int .u8 (b' : Nat), .int .u64 (a0' : Nat), .int .u64 (a1' : Nat), .int .u64 (a2' : Nat), .int .u64 (a3' : Nat), .bool nt', .int .i64 l', .int .i64 m', .bool lz', .int .i64 t']] W fun e w' => e = .returned (.bool (eqT k b a0 a1 a2 a3 nt l m lz t' k' b' a0' a1' a2' a3' nt' l' m' lz' t')) ∧ Below W.heap.size W w') := fun k b a0 a1 a2 a3 nt l m lz t k' b' a0' a1' a2' a3' nt' l' m' lz' t' W => same12 k b a0 a1 a2 a3 nt l m lz t k' b' a0' a1' a2' a3' nt' l' m' lz' t' W
  generalize erV (chk k b P nt l m lz t) = x at *
  obtain ⟨S, hS⟩ : ∃ S : ByteArray, S = ⟨(tokB k b P nt l m lz t).toArray⟩ := ⟨_, rfl⟩
  unfold RetS at H10 H11
  rw [← hS] at H10 H11
  unfold RetB at H13
  unfold RetN at H8 H9
  unfold tokI at *
  have K8 : Hid (∀ W, _) := H8
  have K9 : Hid (∀ W, _) := H9
  have K10 : Hid (∀ W, Below w.heap.size w W → _) := H10
  have K11 : Hid (∀ W, _) := H11
  have K13 : Hid (∀ W, _) := H13
  have q0 := (Cl.new w 26 [.int .i64 k, .int .u8 (b : Nat), .int .u64 (a0 : Nat), .int .u64 (a1 : Nat), .int .u64 (a2 : Nat), .int .u64 (a3 : Nat), .bool nt, .int .i64 l, .int .i64 m, .bool lz, .int .i64 t]).alloc (.cells #[.int .i64 k', .int .u8 (b' : Nat), .int .u64 (a0' : Nat), .int .u64 (a1' : Nat), .int .u64 (a2' : Nat), .int .u64 (a3' : Nat), .bool nt', .int .i64 l', .int .i64 m', .bool lz', .int .i64 t'] 26)
  have q1 : Cl ((w.alloc (.cells #[.int .i64 k, .int .u8 (b : Nat), .int .u64 (a0 : Nat), .int .u64 (a1 : Nat), .int .u64 (a2 : Nat), .int .u64 (a3 : Nat), .bool nt, .int .i64 l, .int .i64 m, .bool lz, .int .i64 t] 26)).alloc (.cells #[.int .i64 k', .int .u8 (b' : Nat), .int .u64 (a0' : Nat), .int .u64 (a1' : Nat), .int .u64 (a2' : Nat), .int .u64 (a3' : Nat), .bool nt', .int .i64 l', .int .i64 m', .bool lz', .int .i64 t'] 26)) (w.heap.size + 1) 26 [.int .i64 k', .int .u8 (b' : Nat), .int .u64 (a0' : Nat), .int .u64 (a1' : Nat), .int .u64 (a2' : Nat), .int .u64 (a3' : Nat), .bool nt', .int .i64 l', .int .i64 m', .bool lz', .int .i64 t'] := by
    have := Cl.new (w.alloc (.cells #[.int .i64 k, .int .u8 (b : Nat), .int .u64 (a0 : Nat), .int .u64 (a1 : Nat), .int .u64 (a2 : Nat), .int .u64 (a3 : Nat), .bool nt, .int .i64 l, .int .i64 m, .bool lz, .int .i64 t] 26)) 26 [.int .i64 k', .int .u8 (b' : Nat), .int .u64 (a0' : Nat), .int .u64 (a1' : Nat), .int .u64 (a2' : Nat), .int .u64 (a3' : Nat), .bool nt', .int .i64 l', .int .i64 m', .bool lz', .int .i64 t']
    rw [World.size_alloc] at this
    exact this
  obtain ⟨x0, x1, x2, x3, x4, x5, x6, x7, x8, x9, x10⟩ := q0.eleven.1
  obtain ⟨y0, y1, y2, y3, y4, y5, y6, y7, y8, y9, y10⟩ := q1.eleven.1
  replace x0 := Near.cell x0 q0.lt
  replace x1 := Near.cell x1 q0.lt
  replace x2 := Near.cell x2 q0.lt
  replace x3 := Near.cell x3 q0.lt
  replace x4 := Near.cell x4 q0.lt
  replace x5 := Near.cell x5 q0.lt
  replace x6 := Near.cell x6 q0.lt
  replace x7 := Near.cell x7 q0.lt
  replace x8 := Near.cell x8 q0.lt
  replace x9 := Near.cell x9 q0.lt
  replace x10 := Near.cell x10 q0.lt
  replace y0 := Near.cell y0 q1.lt
  replace y1 := Near.cell y1 q1.lt
  replace y2 := Near.cell y2 q1.lt
  replace y3 := Near.cell y3 q1.lt
  replace y4 := Near.cell y4 q1.lt
  replace y5 := Near.cell y5 q1.lt
  replace y6 := Near.cell y6 q1.lt
  replace y7 := Near.cell y7 q1.lt
  replace y8 := Near.cell y8 q1.lt
  replace y9 := Near.cell y9 q1.lt
  replace y10 := Near.cell y10 q1.lt
  have HU : Hid (∀ u, Below w.heap.size w (near ((w.alloc (.cells #[.int .i64 k, .int .u8 (b : Nat), .int .u64 (a0 : Nat), .int .u64 (a1 : Nat), .int .u64 (a2 : Nat), .int .u64 (a3 : Nat), .bool nt, .int .i64 l, .int .i64 m, .bool lz, .int .i64 t] 26)).alloc (.cells #[.int .i64 k', .int .u8 (b' : Nat), .int .u64 (a0' : Nat), .int .u64 (a1' : Nat), .int .u64 (a2' : Nat), .int .u64 (a3' : Nat), .bool nt', .int .i64 l', .int .i64 m', .bool lz', .int .i64 t'] 26)) u)) := fun u => hB.trans ((near_below _ u).mono hB.size)
  clear H8 H9 H10 H11 H13 q0 q1 hS h4 hT hW hB
  go_enter Tryd.func3, Tryd.ntmps3
  go_wp2_with fail
  refine wp_region_quiet_tail 29 (fun w' => ∃ u : World, w' = near ((w.alloc (.cells #[.int .i64 k, .int .u8 (b : Nat), .int .u64 (a0 : Nat), .int .u64 (a1 : Nat), .int .u64 (a2 : Nat), .int .u64 (a3 : Nat), .bool nt, .int .i64 l, .int .i64 m, .bool lz, .int .i64 t] 26)).alloc (.cells #[.int .i64 k', .int .u8 (b' : Nat), .int .u64 (a0' : Nat), .int .u64 (a1' : Nat), .int .u64 (a2' : Nat), .int .u64 (a3' : Nat), .bool nt', .int .i64 l', .int .i64 m', .bool lz', .int .i64 t'] 26)) u) (by kernel_rfl) (by kernel_rfl) (Near.start _) ?_
  simp only [List.take_succ_cons, List.take_zero, List.drop_succ_cons, List.drop_zero]
  repeat (go_big_quiet_step ((first | (go_at_call 7; exact Near.call (H7.out _)) | (go_at_call 8; exact Near.call (K8.out _)) | (go_at_call 9; exact Near.call (K9.out _)) | (go_at_call 10; exact Near.call (K10.out _ (HU.out _))) | (go_at_call 11; exact Near.call (K11.out _)) | (go_at_call 13; exact Near.call (K13.out _)) | (go_at_call 12; exact Near.call (K12.out _ _ _ _ _ _ _ _ _ _ _ _ _ _ _ _ _ _ _ _ _ _ _)))))
  refine wpQuiet_nil ?_
  rintro _ ⟨u, rfl⟩
  have HU2 := HU.out u
  clear HU K8 K9 K10 K11 K12 K13 H7 x0 x1 x2 x3 x4 x5 x6 x7 x8 x9 x10 y0 y1 y2 y3 y4 y5 y6 y7 y8 y9 y10
  generalize near ((w.alloc (.cells #[.int .i64 k, .int .u8 (b : Nat), .int .u64 (a0 : Nat), .int .u64 (a1 : Nat), .int .u64 (a2 : Nat), .int .u64 (a3 : Nat), .bool nt, .int .i64 l, .int .i64 m, .bool lz, .int .i64 t] 26)).alloc (.cells #[.int .i64 k', .int .u8 (b' : Nat), .int .u64 (a0' : Nat), .int .u64 (a1' : Nat), .int .u64 (a2' : Nat), .int .u64 (a3' : Nat), .bool nt', .int .i64 l', .int .i64 m', .bool lz', .int .i64 t'] 26)) u = W1 at *
  go_wp2
  go_ret
  exact ⟨congrArg (fun z => Ending.returned (.bool z)) (eqT_self k b a0 a1 a2 a3 nt l m lz t), HU2⟩
end Go.Proofs.YtkbeiadbolihiaaDoor
namespace Go.Proofs.YtkbeiadbolihiaaDoor
open Go.RowKit Go.Shelf
theorem byt_bytes (l : List UInt8) : Lib.byteCells l = byt (l.map (·.toNat)) := by
  simp [Lib.byteCells, byt]
theorem RdK.below {w w' : World} {ao : Option Addr} {n : Nat} {F : Nat → TkR} (h : RdK w ao n F) (hb : Below w.heap.size w w') : RdK w' ao n F := by
  refine ⟨h.ok, fun hl => ?_⟩
  obtain ⟨bb, off, e, hlt, hc⟩ := h.at_ hl
  refine ⟨bb, off, e, Nat.lt_of_lt_of_le hlt hb.size, fun i hi => ?_⟩
  have hh : ∀ o, w'.cell? ⟨bb, o, none⟩ = w.cell? ⟨bb, o, none⟩ := fun o => hb.cell (p := ⟨bb, o, none⟩) hlt
  simp only [hh]
  exact hc i hi
set_option maxRecDepth 20000 in
set_option maxHeartbeats 2000000 in
theorem prints_walk (ao : Option Addr) (n cap : Nat) (F : Nat → TkR) (w : World) (hr : RdK w ao n F) (hn : (n : Int) ≤ 1048576) (hT : Tab w) (hW : Pow w) : Calls Tryd.prog 4 #[.slice ao n cap] w (RetB w true) := by
  have H15 : Hid (∀ W, Below w.heap.size w W → Calls Tryd.prog 15 #[.slice ao n cap] W (RetPr W (prB F n))) := fun W hb => print_any ao n cap F W (hr.below hb) hn (hT.below hb) (hW.below hb)
  have H16 : Hid (∀ W, Below w.heap.size w W → Calls Tryd.prog 16 #[.slice ao n cap] W (RetPr W (prB F n))) := fun W hb => rprint_any ao n cap F W (hr.below hb) hn
  unfold RetPr at H15 H16
  obtain ⟨N, hN⟩ : ∃ N, (prB F n).length = N := ⟨_, rfl⟩
  rw [hN, byt_bytes] at H15 H16
  have hl : ((prB F n).map (·.toNat)).length = N := by rw [List.length_map]; exact hN
  generalize (prB F n).map (·.toNat) = L at *
  clear hr hT hW
  go_enter Tryd.func4, Tryd.ntmps4
  go_wp2_with (first | (go_at_call 7; refine (begun_any _).mono ?_; rintro e w1 ⟨rfl, hb1⟩) | (go_at_call 15; refine (H15.out _ hb1).mono ?_; rintro e w2 ⟨ao1, cap1, rfl, ho1, hb2⟩; have hB2 := hb1.trans (hb2.mono hb1.size)) | (go_at_call 16; refine (H16.out _ hB2).mono ?_; rintro e w3 ⟨ao2, cap2, rfl, ho2, hb3⟩; replace ho1 := ownsRow_at ho1 (fun g _ hg => hb3.block g hg); have hB3 := hB2.trans (hb3.mono hB2.size)) | (go_at_call 14; refine (eq36 hl ho1 ho2).mono ?_; rintro e w4 ⟨rfl, rfl⟩))
  go_ret
  exact ⟨rfl, hB3⟩
end Go.Proofs.YtkbeiadbolihiaaDoor
namespace Go.Proofs.YtkbeiadbolihiaaDoor
open Go.RowKit Go.Shelf
/-- A token that was lexed, as it lies in memory. -/
def TokS.r (s : TokS) : TkR := ⟨s.k, s.b, wds s.P 0, wds s.P 1, wds s.P 2, wds s.P 3, s.P, s.nt, s.l, s.m, s.lz, (s.at_ : Nat)⟩
theorem rdk_row {W : World} {base n cap : Nat} {ao : Option Addr} {T : Nat → TokS} (h : W.ownsRow base 26 11 (.slice ao n cap) n (tokL ((List.range n).map T))) (hb : ∀ i, i < n → (T i).b < 256) : RdK W ao n (fun i => (T i).r) := by
  refine ⟨fun i hi => ⟨hb i hi, wds_is _⟩, fun hn => ?_⟩
  obtain ⟨g, rfl, hg, _, hc⟩ := row_cell h hn
  refine ⟨g, 0, rfl, hg, fun i hi => ?_⟩
  have hl : i < ((List.range n).map T).length := by simpa using hi
  have hT : ((List.range n).map T)[i] = T i := by simp
  have key : ∀ j u, j < 11 → (tokC (T i))[j]? = some u → W.cell? ⟨g, 0 + i * 11 + j, none⟩ = some u := fun j u hj hu => by
    rw [Nat.zero_add]
    exact hc (i * 11 + j) u (by rw [tokL_get _ i j hl hj, hT]; exact hu)
  exact ⟨key 0 _ (by omega) rfl, key 1 _ (by omega) rfl, key 2 _ (by omega) rfl, key 3 _ (by omega) rfl, key 4 _ (by omega) rfl, key 5 _ (by omega) rfl, key 6 _ (by omega) rfl, key 7 _ (by omega) rfl, key 8 _ (by omega) rfl, key 9 _ (by omega) rfl, key 10 _ (by omega) rfl⟩
/-- The bytes of a list, by their places. -/
def zOf (L : List UInt8) (i : Nat) : Nat := (L.getD i 0).toNat
theorem rd_row {W : World} {base n cap : Nat} {ao : Option Addr} {L : List UInt8} (h : W.ownsRow base 5 1 (.slice ao n cap) n (Lib.byteCells L)) (hl : L.length = n) : Rd W ao n (zOf L) := by
  refine ⟨fun i _ => UInt8.toNat_lt _, fun hn => ?_⟩
  obtain ⟨g, rfl, hg, _, hc⟩ := row_cell h hn
  refine ⟨g, 0, rfl, hg, fun i hi => ?_⟩
  rw [Nat.zero_add]
  refine hc i _ ?_
  have hi' : i < L.length := by omega
  simp [Lib.byteCells, zOf, hi']
theorem atL_zOf (L : List UInt8) : AtL (zOf L) 0 L := atL_get L 0 fun j _ => by rw [Nat.zero_add]; rfl
def TkR.chk (x : TkR) : Bool := Go.Proofs.YtkbeiadbolihiaaDoor.chk x.k x.b x.P x.nt x.l x.m x.lz x.t
def TkR.f (x : TkR) : Tf := ⟨x.k, x.b, x.P, x.nt, x.l, x.m, x.lz, x.t⟩
theorem prB_prL {F : Nat → TkR} : ∀ {n : Nat}, (∀ i, i < n → (F i).chk = true) → prB F n = prL (fun i => txtB (F i).f.k (F i).f.b (F i).f.P (F i).f.nt (F i).f.l (F i).f.m (F i).f.lz) n
  | 0, _ => rfl
  | n + 1, h => by
    have e : (F n).text = txtB (F n).f.k (F n).f.b (F n).f.P (F n).f.nt (F n).f.l (F n).f.m (F n).f.lz := by
      unfold TkR.text tokB
      rw [show Go.Proofs.YtkbeiadbolihiaaDoor.chk (F n).k (F n).b (F n).P (F n).nt (F n).l (F n).m (F n).lz (F n).t = true from h n (Nat.lt_succ_self n)]
      rfl
    rw [prB, prL, prB_prL fun i hi => h i (Nat.lt_succ_of_lt hi), e]
theorem rs_congr {P Q : Nat → Bool} (h : ∀ x, x < 256 → P x = Q x) : ∀ n, rs P n = rs Q n
  | 0 => rfl
  | n + 1 => by
    have e : (decide (n < 256) && P n) = (decide (n < 256) && Q n) := by
      by_cases hn : n < 256
      · rw [h n hn]
      · simp [hn]
    rw [rs, rs, rs_congr h n, e]
theorem chk_congr {P Q : Nat → Bool} {k : Int} {b : Nat} {nt : Bool} {l m : Int} {lz : Bool} {t t' : Int} (h : ∀ x, x < 256 → P x = Q x) (ht : 0 ≤ t) (ht' : 0 ≤ t') : chk k b P nt l m lz t = chk k b Q nt l m lz t' := by
  unfold chk
  rw [eqC_congr h, mayP_congr h, decide_eq_true ht, decide_eq_true ht']
theorem tokB_congr {P Q : Nat → Bool} {k k' : Int} {b b' : Nat} {nt nt' : Bool} {l l' m m' : Int} {lz lz' : Bool} {t t' : Int} (h1 : k = k') (h2 : b = b') (h3 : ∀ x, x < 256 → P x = Q x) (h4 : nt = nt') (h5 : l = l') (h6 : m = m') (h7 : lz = lz') (ht : 0 ≤ t) (hc : chk k' b' Q nt' l' m' lz' t' = true) : tokB k b P nt l m lz t = tokB k' b' Q nt' l' m' lz' t' := by
  subst h1 h2 h4 h5 h6 h7
  have ht' := (chk_parts hc).2.2.2.2.2.2
  unfold tokB
  rw [chk_congr h3 ht ht', hc]
  unfold txtB
  have : clsB P nt = clsB Q nt := by
    unfold clsB
    rw [cls_brk, cls_brk]
    unfold brk
    rw [rs_congr h3]
  rw [this]
/-- Whether tokens may be, and no two repeats follow each other, up to a place. -/
structure BkI (F : Nat → TkR) (k : Nat) : Prop where
  c : ∀ i, i < k → (F i).chk = true
  r : ∀ i, i + 1 < k → ¬ ((F i).k = 7 ∧ (F (i + 1)).k = 7)
theorem BkI.next {F : Nat → TkR} {k : Nat} (h : BkI F k) (hc : (F k).chk = true) (hr : 0 < k → ¬ ((F k).k = 7 ∧ (F (k - 1)).k = 7)) : BkI F (k + 1) := by
  refine ⟨fun i hi => ?_, fun i hi => ?_⟩
  · by_cases e : i = k
    · subst e; exact hc
    · exact h.c i (by omega)
  · by_cases e : i + 1 = k
    · subst e
      have := hr (by omega)
      rw [Nat.add_sub_cancel] at this
      exact fun q => this ⟨q.2, q.1⟩
    · exact h.r i (by omega)
/-- What was printed is lexed as it was. -/
theorem back_lex {F : Nat → TkR} {n : Nat} (h : BkI F n) (hok : ∀ i, i < n → (F i).ok) (hN : (prB F n).length ≤ 1024) :
    ∃ T : Nat → TokS, wl (zOf (prB F n)) (prB F n).length 1100 0 = (List.range n).map T ∧ (∀ i, i < n → (T i).er = 0 ∧ (T i).b < 256 ∧ (T i).r.same (F i) ∧ (T i).r.text = (F i).text) := by
  have e := prB_prL h.c
  have hz := atL_zOf (prB F n)
  obtain ⟨T, h1, h2⟩ := back_read (z := zOf (prB F n)) (n := n) (G := fun i => (F i).f) (fun i hi => (hok i hi).hb) h.c h.r (by rw [← e]; exact hN) (by rw [← e]; exact hz)
  rw [← e] at h1
  refine ⟨T, h1, fun i hi => ?_⟩
  obtain ⟨k1, k2, k3, k4, k5, k6, k7, k8⟩ := h2 i hi
  have k1 : (T i).k = (F i).k := k1
  have k2 : (T i).b = (F i).b := k2
  have k3 : ∀ x, x < 256 → (T i).P x = (F i).P x := k3
  have k4 : (T i).nt = (F i).nt := k4
  have k5 : (T i).l = (F i).l := k5
  have k6 : (T i).m = (F i).m := k6
  have k7 : (T i).lz = (F i).lz := k7
  obtain ⟨w0, w1, w2, w3⟩ := ((wds_is (T i).P).congr k3).uniq (hok i hi).h4
  refine ⟨k8, by rw [k2]; exact (hok i hi).hb, ?_, ?_⟩
  · unfold TkR.same TokS.r
    dsimp only
    rw [w0, w1, w2, w3, k1, k2, k4, k5, k6, k7]
    exact eqT_self _ _ _ _ _ _ _ _ _ _ _
  · have hc := h.c i hi
    unfold TkR.chk at hc
    unfold TkR.text TokS.r
    dsimp only
    exact tokB_congr k1 k2 k3 k4 k5 k6 k7 (by omega) hc
end Go.Proofs.YtkbeiadbolihiaaDoor
