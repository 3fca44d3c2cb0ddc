/- Tokens held against each other; rows read; the words of a pattern follow each other. begun: the walk. TokenTexts: the walk of the law. -/
import Derived.Test.YtkbeiadbolihiaaDoorM30Ly
import Derived.Laws.StructEq
import Derived.Lib.SlBytesConst
import Derived.Test.YtkbeiadbolihiaaDoorM23Xw
import Derived.Test.YtkbeiadbolihiaaDoorM24Ko
namespace Go.Proofs.YtkbeiadbolihiaaDoor
open Go.RowKit
theorem eql4_same (a b c d : Int) (m : Nat) (w : World) : (Op.equalIn (9998 + 1) 24 (.agg #[.int .u64 a, .int .u64 b, .int .u64 c, .int .u64 d]) (.agg #[.int .u64 a, .int .u64 b, .int .u64 c, .int .u64 d])).run Tryd.prog w = .ok true w ∧ m = m := by
  obtain ⟨j, hj, _⟩ := Option.map_eq_some_iff.1 (show (Tryd.prog.info? 22).map (·.size) = some 1 by kernel_rfl)
  refine ⟨?_, rfl⟩
  rw [run_equalIn_array w 9998 _ _ Tryd.underlying24 hj, show List.range 4 = [0, 1, 2, 3] from rfl]
  simp only [Op.eqItems, Sem.run_bind, part0, part1, part2, part3, Result.andThen_ok, eq24 9997, beq_self_eq_true, Bool.not_true, Bool.false_eq_true, if_false, Sem.run_pure]
/-- A token is the same as itself. -/
theorem eql32_same (k : Int) (b a0 a1 a2 a3 : Nat) (nt : Bool) (l m : Int) (lz : Bool) (at_ : Nat) (w : World) :
    (Go.binOp BinOp.eql 26 (tokV k b a0 a1 a2 a3 nt l m lz at_) (tokV k b a0 a1 a2 a3 nt l m lz at_)).run Tryd.prog w = Result.ok (.bool true) w := by
  have f32 : Tryd.prog.fieldsOf 26 = #[{ name := "Kind", type := 3, offset := 0, embedded := false, tag := "", pkgPath := "", byteOffset := 0 }, { name := "Byte", type := 5, offset := 1, embedded := false, tag := "", pkgPath := "", byteOffset := 8 }, { name := "Class", type := 24, offset := 2, embedded := false, tag := "", pkgPath := "", byteOffset := 16 }, { name := "Not", type := 4, offset := 6, embedded := false, tag := "", pkgPath := "", byteOffset := 48 }, { name := "Least", type := 3, offset := 7, embedded := false, tag := "", pkgPath := "", byteOffset := 56 }, { name := "Most", type := 3, offset := 8, embedded := false, tag := "", pkgPath := "", byteOffset := 64 }, { name := "Lazy", type := 4, offset := 9, embedded := false, tag := "", pkgPath := "", byteOffset := 72 }, { name := "At", type := 3, offset := 10, embedded := false, tag := "", pkgPath := "", byteOffset := 80 }] := by kernel_rfl
  unfold tokV
  have h : (Op.equalIn (9999 + 1) 26 (.agg #[.int .i64 k, .int .u8 (b : Nat), .int .u64 (a0 : Nat), .int .u64 (a1 : Nat), .int .u64 (a2 : Nat), .int .u64 (a3 : Nat), .bool nt, .int .i64 l, .int .i64 m, .bool lz, .int .i64 (at_ : Nat)]) (.agg #[.int .i64 k, .int .u8 (b : Nat), .int .u64 (a0 : Nat), .int .u64 (a1 : Nat), .int .u64 (a2 : Nat), .int .u64 (a3 : Nat), .bool nt, .int .i64 l, .int .i64 m, .bool lz, .int .i64 (at_ : Nat)])).run Tryd.prog w = .ok true w := by
    rw [run_equalIn_struct w 9999 26 _ _ (by kernel_rfl) (by kernel_rfl), f32]
    have q0 : ∀ (x0 x1 x2 x3 x4 x5 x6 x7 x8 x9 x10 : Value) w, (part 3 #[x0, x1, x2, x3, x4, x5, x6, x7, x8, x9, x10] 0).run Tryd.prog w = .ok x0 w := fun _ _ _ _ _ _ _ _ _ _ _ w => by kernel_rfl
    have q1 : ∀ (x0 x1 x2 x3 x4 x5 x6 x7 x8 x9 x10 : Value) w, (part 5 #[x0, x1, x2, x3, x4, x5, x6, x7, x8, x9, x10] 1).run Tryd.prog w = .ok x1 w := fun _ _ _ _ _ _ _ _ _ _ _ w => by kernel_rfl
    have q2 : ∀ (x0 x1 x2 x3 x4 x5 x6 x7 x8 x9 x10 : Value) w, (part 24 #[x0, x1, x2, x3, x4, x5, x6, x7, x8, x9, x10] 2).run Tryd.prog w = .ok (.agg #[x2, x3, x4, x5]) w := fun _ _ _ _ _ _ _ _ _ _ _ w => by kernel_rfl
    have q3 : ∀ (x0 x1 x2 x3 x4 x5 x6 x7 x8 x9 x10 : Value) w, (part 4 #[x0, x1, x2, x3, x4, x5, x6, x7, x8, x9, x10] 6).run Tryd.prog w = .ok x6 w := fun _ _ _ _ _ _ _ _ _ _ _ w => by kernel_rfl
    have q4 : ∀ (x0 x1 x2 x3 x4 x5 x6 x7 x8 x9 x10 : Value) w, (part 3 #[x0, x1, x2, x3, x4, x5, x6, x7, x8, x9, x10] 7).run Tryd.prog w = .ok x7 w := fun _ _ _ _ _ _ _ _ _ _ _ w => by kernel_rfl
    have q5 : ∀ (x0 x1 x2 x3 x4 x5 x6 x7 x8 x9 x10 : Value) w, (part 3 #[x0, x1, x2, x3, x4, x5, x6, x7, x8, x9, x10] 8).run Tryd.prog w = .ok x8 w := fun _ _ _ _ _ _ _ _ _ _ _ w => by kernel_rfl
    have q6 : ∀ (x0 x1 x2 x3 x4 x5 x6 x7 x8 x9 x10 : Value) w, (part 4 #[x0, x1, x2, x3, x4, x5, x6, x7, x8, x9, x10] 9).run Tryd.prog w = .ok x9 w := fun _ _ _ _ _ _ _ _ _ _ _ w => by kernel_rfl
    have q7 : ∀ (x0 x1 x2 x3 x4 x5 x6 x7 x8 x9 x10 : Value) w, (part 3 #[x0, x1, x2, x3, x4, x5, x6, x7, x8, x9, x10] 10).run Tryd.prog w = .ok x10 w := fun _ _ _ _ _ _ _ _ _ _ _ w => by kernel_rfl
    have e3 : ∀ (z : Int) w, (Op.equalIn 9999 3 (.int .i64 z) (.int .i64 z)).run Tryd.prog w = .ok true w := fun z w => by
      rw [run_equalIn_int w 9998 3 _ _ _ _ Tryd.underlying3]; simp
    have e5 : ∀ (z : Int) w, (Op.equalIn 9999 5 (.int .u8 z) (.int .u8 z)).run Tryd.prog w = .ok true w := fun z w => by
      rw [run_equalIn_int w 9998 5 _ _ _ _ Tryd.underlying5]; simp
    have e4 : ∀ (z : Bool) w, (Op.equalIn 9999 4 (.bool z) (.bool z)).run Tryd.prog w = .ok true w := fun z w => by
      rw [run_equalIn_bool' w 9998 4 _ _ Tryd.underlying4]; simp
    have e30 : ∀ (a b c d : Int) w, (Op.equalIn 9999 24 (.agg #[.int .u64 a, .int .u64 b, .int .u64 c, .int .u64 d]) (.agg #[.int .u64 a, .int .u64 b, .int .u64 c, .int .u64 d])).run Tryd.prog w = .ok true w := fun a b c d w => (eql4_same a b c d 0 w).1
    simp [Op.eqFields, q0, q1, q2, q3, q4, q5, q6, q7, e3, e4, e5, e30]
  simp only [binOp]
  simp only [Op.equal, Op.maxDepth, Sem.run_bind, h, Result.andThen_ok]
  simp
/-- The cells of a row that is read. -/
theorem row_cell {W : World} {base e size n cap : Nat} {ao : Option Addr} {xs : List Value} (h : W.ownsRow base e size (.slice ao n cap) n xs) (hn : 0 < n) :
    ∃ g, ao = some ⟨g, 0, none⟩ ∧ g < W.heap.size ∧ base ≤ g ∧ ∀ j u, xs[j]? = some u → W.cell? ⟨g, j, none⟩ = some u := by
  rcases h.2 with ⟨_, h0⟩ | ⟨g, cap', cur, hv, hg, hc, _, _, _, hx⟩
  · omega
  · cases hv
    refine ⟨g, rfl, (Array.getElem?_eq_some_iff.1 hc).1, hg, fun j u hj => ?_⟩
    rw [← hx, List.getElem?_take] at hj
    split at hj
    · rw [cell_of_row W g j _ e (0, 0) hc]
      simpa using hj
    · cases hj
theorem tokL_get (l : List TokS) (k j : Nat) (hk : k < l.length) (hj : j < 11) : (tokL l)[k * 11 + j]? = (tokC l[k])[j]? := by
  induction l generalizing k with
  | nil => simp at hk
  | cons s l ih =>
    have e : tokL (s :: l) = tokC s ++ tokL l := by simp [tokL]
    have hl : (tokC s).length = 11 := rfl
    rw [e]
    cases k with
    | zero => rw [List.getElem?_append_left (by omega)]; simp
    | succ k =>
      rw [List.getElem?_append_right (by omega), hl, show (k + 1) * 11 + j - 11 = k * 11 + j by omega]
      exact ih k (by simpa using hk)
/-- The words follow each other. -/
theorem wl_chain {z : Nat → Nat} {n : Nat} : ∀ f i, i ≤ n → n - i < f → (∀ s, s ∈ wl z n f i → s.er = 0) →
    ((wl z n f i).length = 0 ↔ n ≤ i) ∧ ∀ k (hk : k < (wl z n f i).length), (wl z n f i)[k] = wrd z n (wl z n f i)[k].at_ ∧ (wl z n f i)[k].at_ < n ∧ (k = 0 → (wl z n f i)[k].at_ = i) ∧ ((hk' : k + 1 < (wl z n f i).length) → (wl z n f i)[k].en = (wl z n f i)[k + 1].at_) ∧ (k + 1 = (wl z n f i).length → (wl z n f i)[k].en = n) := by
  intro f
  induction f with
  | zero => intro i _ h; omega
  | succ f ih =>
    intro i hi hf hg
    by_cases hin : n ≤ i
    · rw [wl_end hin] at *
      exact ⟨by simp [hin], fun k hk => by simp at hk⟩
    have hin' : i < n := by omega
    by_cases he : (wrd z n i).er = 0
    · have hw := wrd_lt hin' he
      have hx : ∀ s, s ∈ wl z n f (wrd z n i).en → s.er = 0 := fun s hs => hg s (by rw [wl_go hin' he]; exact List.mem_cons_of_mem _ hs)
      have h := ih (wrd z n i).en hw.2.1 (by omega) hx
      have e := wl_go (f := f) hin' he
      generalize wl z n f (wrd z n i).en = l at *
      rw [e]
      refine ⟨by simp; omega, fun k hk => ?_⟩
      cases k with
      | zero =>
        refine ⟨by simp [hw.2.2], by simp [hw.2.2, hin'], fun _ => by simp [hw.2.2], fun hk' => ?_, fun hk' => ?_⟩
        · simp only [List.getElem_cons_zero, List.getElem_cons_succ]
          exact ((h.2 0 (by simpa using hk')).2.2.1 rfl).symm
        · simp only [List.getElem_cons_zero]
          have h0 : l.length = 0 := by simpa using hk'
          have := h.1.1 h0
          omega
      | succ k =>
        have hk2 : k < l.length := by simpa using hk
        have hh := h.2 k hk2
        simp only [List.getElem_cons_succ]
        refine ⟨hh.1, hh.2.1, fun h => by omega, fun hk' => hh.2.2.2.1 (by simpa using hk'), fun hk' => hh.2.2.2.2 (by simpa using hk')⟩
    · exfalso
      exact he (hg _ (by rw [wl_bad hin' he]; simp))
/-- What lies from a word to the next is lexed to that word alone. -/
theorem wl_self {z : Nat → Nat} {n k : Nat} (hk : k < n) (e : (wrd z n k).er = 0) : wl (fun i => z (k + i)) ((wrd z n k).en - k) 1100 0 = [{ wrd z n k with at_ := 0, en := (wrd z n k).en - k }] := by
  have hlt := wrd_lt hk e
  have hs := wrd_self hk e
  rw [show (1100 : Nat) = 1099 + 1 from rfl, wl_go (by omega) (by rw [hs]; exact e), hs]
  simp only []
  rw [wl_end (Nat.le_refl _)]
end Go.Proofs.YtkbeiadbolihiaaDoor
namespace Go.Proofs.YtkbeiadbolihiaaDoor
open Go.RowKit
/-- The small pattern's bytes. -/
def zb (i : Nat) : Nat := ([97, 123, 50, 44, 125, 63, 91, 94, 120, 45, 122, 93, 36] : List Nat).getD i 0
theorem rd_zb (w : World) : Rd (w.alloc (.cells #[.int .u8 97, .int .u8 123, .int .u8 50, .int .u8 44, .int .u8 125, .int .u8 63, .int .u8 91, .int .u8 94, .int .u8 120, .int .u8 45, .int .u8 122, .int .u8 93, .int .u8 36] 5 (13, 14))) (some ⟨w.heap.size, 0, none⟩) 13 zb := by
  refine ⟨by decide, fun _ => ⟨w.heap.size, 0, rfl, by simp, fun i hi => ?_⟩⟩
  rw [Nat.zero_add, cell_of_row _ w.heap.size i #[.int .u8 97, .int .u8 123, .int .u8 50, .int .u8 44, .int .u8 125, .int .u8 63, .int .u8 91, .int .u8 94, .int .u8 120, .int .u8 45, .int .u8 122, .int .u8 93, .int .u8 36] 5 (13, 14) (heap_alloc_new w _)]
  obtain rfl | rfl | rfl | rfl | rfl | rfl | rfl | rfl | rfl | rfl | rfl | rfl | rfl : i = 0 ∨ i = 1 ∨ i = 2 ∨ i = 3 ∨ i = 4 ∨ i = 5 ∨ i = 6 ∨ i = 7 ∨ i = 8 ∨ i = 9 ∨ i = 10 ∨ i = 11 ∨ i = 12 := by omega
  all_goals rfl
theorem zb0 : wrd zb 13 0 = .sgn 1 97 0 1 := by kernel_rfl
theorem zb1 : wrd zb 13 1 = .rep 2 (-1) true 1 6 := by kernel_rfl
theorem zb2 : (wrd zb 13 6).er = 0 ∧ (wrd zb 13 6).en = 12 := by constructor <;> kernel_rfl
theorem zb3 : wrd zb 13 12 = .sgn 9 0 12 13 := by kernel_rfl
theorem zb_all : wl zb 13 1100 0 = [wrd zb 13 0, wrd zb 13 1, wrd zb 13 6, wrd zb 13 12] := by
  rw [show (1100 : Nat) = 1096 + 1 + 1 + 1 + 1 from rfl, wl_go (by decide) (by rw [zb0]; rfl), show (wrd zb 13 0).en = 1 by rw [zb0]; rfl, wl_go (by decide) (by rw [zb1]; rfl), show (wrd zb 13 1).en = 6 by rw [zb1]; rfl, wl_go (by decide) zb2.1, zb2.2, wl_go (by decide) (by rw [zb3]; rfl), show (wrd zb 13 12).en = 13 by rw [zb3]; rfl, wl_end (by decide)]
theorem wds_none : wds (fun _ => false) 0 = 0 ∧ wds (fun _ => false) 1 = 0 ∧ wds (fun _ => false) 2 = 0 ∧ wds (fun _ => false) 3 = 0 := (wds_is _).uniq c4_none
set_option maxRecDepth 20000 in
set_option maxHeartbeats 1000000 in
theorem begun_any (w : World) : Calls Tryd.prog 7 #[] w (RetB w true) := by
  have HL : Hid (∀ W : World, Calls Tryd.prog 17 #[.slice (some ⟨W.heap.size, 0, none⟩) 13 13] (W.alloc (.cells #[.int .u8 97, .int .u8 123, .int .u8 50, .int .u8 44, .int .u8 125, .int .u8 63, .int .u8 91, .int .u8 94, .int .u8 120, .int .u8 45, .int .u8 122, .int .u8 93, .int .u8 36] 5 (13, 14))) (RetLx (W.alloc (.cells #[.int .u8 97, .int .u8 123, .int .u8 50, .int .u8 44, .int .u8 125, .int .u8 63, .int .u8 91, .int .u8 94, .int .u8 120, .int .u8 45, .int .u8 122, .int .u8 93, .int .u8 36] 5 (13, 14))) zb 13)) := fun W => lex_short _ 13 13 zb _ (rd_zb W) (by decide)
  have hcv : (convert 34 34 (.slice (some ⟨w.heap.size, 0, none⟩) 13 13)).run Tryd.prog (w.alloc (.cells #[.int .u8 97, .int .u8 123, .int .u8 50, .int .u8 44, .int .u8 125, .int .u8 63, .int .u8 91, .int .u8 94, .int .u8 120, .int .u8 45, .int .u8 122, .int .u8 93, .int .u8 36] 5)) = .ok (.slice (some ⟨w.heap.size, 0, none⟩) 13 13) (w.alloc (.cells #[.int .u8 97, .int .u8 123, .int .u8 50, .int .u8 44, .int .u8 125, .int .u8 63, .int .u8 91, .int .u8 94, .int .u8 120, .int .u8 45, .int .u8 122, .int .u8 93, .int .u8 36] 5 (13, 14))) := Lib.run_convert_bytes_const w 34 5 #[.int .u8 97, .int .u8 123, .int .u8 50, .int .u8 44, .int .u8 125, .int .u8 63, .int .u8 91, .int .u8 94, .int .u8 120, .int .u8 45, .int .u8 122, .int .u8 93, .int .u8 36] 13 13 Tryd.underlying34 Tryd.underlying5
  go_enter Tryd.func7, Tryd.ntmps7
  go_wp2_with fail
  refine (HL.out _).mono ?_
  rintro e w1 (⟨ao, cap, hg, rfl, hrow, hb⟩ | ⟨s, hs, he, _⟩)
  · rw [zb_all] at hrow
    obtain ⟨g, rfl, hgl, _, hc⟩ := row_cell hrow (by decide)
    have h1 := fun j (hj : j < 11) u (hu : (tokC (wrd zb 13 1))[j]? = some u) => hc (1 * 11 + j) u (by rw [tokL_get _ 1 j (by decide) hj]; exact hu)
    have h3 := fun j (hj : j < 11) u (hu : (tokC (wrd zb 13 12))[j]? = some u) => hc (3 * 11 + j) u (by rw [tokL_get _ 3 j (by decide) hj]; exact hu)
    rw [zb1] at h1
    rw [zb3] at h3
    obtain ⟨e0, e1, e2, e3⟩ := wds_none
    simp only [tokC, TokS.rep, TokS.sgn, e0, e1, e2, e3] at h1 h3
    have u0 := h1 0 (by decide) _ rfl
    have u1 := h1 1 (by decide) _ rfl
    have u2 := h1 2 (by decide) _ rfl
    have u3 := h1 3 (by decide) _ rfl
    have u4 := h1 4 (by decide) _ rfl
    have u5 := h1 5 (by decide) _ rfl
    have u6 := h1 6 (by decide) _ rfl
    have u7 := h1 7 (by decide) _ rfl
    have u8 := h1 8 (by decide) _ rfl
    have u9 := h1 9 (by decide) _ rfl
    have u10 := h1 10 (by decide) _ rfl
    have v0 := h3 0 (by decide) _ rfl
    have v1 := h3 1 (by decide) _ rfl
    have v2 := h3 2 (by decide) _ rfl
    have v3 := h3 3 (by decide) _ rfl
    have v4 := h3 4 (by decide) _ rfl
    have v5 := h3 5 (by decide) _ rfl
    have v6 := h3 6 (by decide) _ rfl
    have v7 := h3 7 (by decide) _ rfl
    have v8 := h3 8 (by decide) _ rfl
    have v9 := h3 9 (by decide) _ rfl
    have v10 := h3 10 (by decide) _ rfl
    simp only [Nat.reduceMul, Nat.reduceAdd] at u0 u1 u2 u3 u4 u5 u6 u7 u8 u9 u10 v0 v1 v2 v3 v4 v5 v6 v7 v8 v9 v10
    have q1 : ∀ W, (Go.binOp BinOp.eql 26 (.agg #[.int .i64 7, .int .u8 0, .int .u64 0, .int .u64 0, .int .u64 0, .int .u64 0, .bool false, .int .i64 2, .int .i64 (-1), .bool true, .int .i64 1]) (.agg #[.int .i64 7, .int .u8 0, .int .u64 0, .int .u64 0, .int .u64 0, .int .u64 0, .bool false, .int .i64 2, .int .i64 (-1), .bool true, .int .i64 1])).run Tryd.prog W = .ok (.bool true) W := eql32_same 7 0 0 0 0 0 false 2 (-1) true 1
    have q2 : ∀ W, (Go.binOp BinOp.eql 26 (.agg #[.int .i64 9, .int .u8 0, .int .u64 0, .int .u64 0, .int .u64 0, .int .u64 0, .bool false, .int .i64 0, .int .i64 0, .bool false, .int .i64 12]) (.agg #[.int .i64 9, .int .u8 0, .int .u64 0, .int .u64 0, .int .u64 0, .int .u64 0, .bool false, .int .i64 0, .int .i64 0, .bool false, .int .i64 12])).run Tryd.prog W = .ok (.bool true) W := eql32_same 9 0 0 0 0 0 false 0 0 false 12
    have HB : Hid (Below w.heap.size w w1) := ((Below.refl _ _).alloc (Nat.le_refl _) _).trans (hb.mono (by simp))
    clear h1 h3 hc hrow hb hg hgl e0 e1 e2 e3 HL
    rw [zb_all]
    simp only [List.length_cons, List.length_nil, Nat.reduceAdd]
    go_wp2_with fail
    go_ret
    exact ⟨rfl, HB.out⟩
  · exfalso
    rw [zb_all] at hs
    simp only [List.mem_cons, List.not_mem_nil, or_false] at hs
    rcases hs with rfl | rfl | rfl | rfl
    · rw [zb0] at he; exact he rfl
    · rw [zb1] at he; exact he rfl
    · exact he zb2.1
    · rw [zb3] at he; exact he rfl
end Go.Proofs.YtkbeiadbolihiaaDoor
namespace Go.Proofs.YtkbeiadbolihiaaDoor
open Go.RowKit Go.Shelf
set_option maxRecDepth 20000 in
set_option maxHeartbeats 4000000 in
theorem texts_walk {P : Nat → Bool} (k : Int) (b a0 a1 a2 a3 : Nat) (nt : Bool) (l m : Int) (lz : Bool) (t : Int) (k' : Int) (b' a0' a1' a2' a3' : Nat) (nt' : Bool) (l' m' : Int) (lz' : Bool) (t' : Int) (w : World) (hb : b < 256) (hT : Tab w) (hW : Pow w) (h4 : C4 P a0 a1 a2 a3) :
    Calls Tryd.prog 3 #[tokI k b a0 a1 a2 a3 nt l m lz t, tokI k' b' a0' a1' a2' a3' nt' l' m' lz' t'] w (RetB w true) := by
  have hB : Below w.heap.size w ((w.alloc (.cells #[.int .i64 k, .int .u8 (b : Nat), .int .u64 (a0 : Nat), .int .u64 (a1 : Nat), .int .u64 (a2 : Nat), .int .u64 (a3 : Nat), .bool nt, .int .i64 l, .int .i64 m, .bool lz, .int .i64 t] 26)).alloc (.cells #[.int .i64 k', .int .u8 (b' : Nat), .int .u64 (a0' : Nat), .int .u64 (a1' : Nat), .int .u64 (a2' : Nat), .int .u64 (a3' : Nat), .bool nt', .int .i64 l', .int .i64 m', .bool lz', .int .i64 t'] 26)) := below2 w _ _
  have H7 : Hid (∀ W, Calls Tryd.prog 7 #[] W fun e w' => e = .returned (.bool true) ∧ Below W.heap.size W w') := fun W => begun_any W
  have H8 := fun W => check_all (P := P) k b a0 a1 a2 a3 nt l m lz t W h4
  have H9 := fun W => rcheck_all (P := P) k b a0 a1 a2 a3 nt l m lz t W h4
  have H10 : ∀ W, Below w.heap.size w W → _ := fun W hw => text_all (P := P) k b a0 a1 a2 a3 nt l m lz t W hb (hT.below hw) (hW.below hw) h4
  have H11 := fun W => rtext_all (P := P) k b a0 a1 a2 a3 nt l m lz t W hb h4
  have H13 := fun W => same13 k b a0 a1 a2 a3 nt l m lz t k' b' a0' a1' a2' a3' nt' l' m' lz' t' W
  have K12 : Hid (∀ (k : Int) (b a0 a1 a2 a3 : Nat) (nt : Bool) (l m : Int) (lz : Bool) (t : Int) (k' : Int) (b' a0' a1' a2' a3' : Nat) (nt' : Bool) (l' m' : Int) (lz' : Bool) (t' : Int) W, Calls Tryd.prog 12 #[.agg #[.int .i64 k, .int .u8 (b : Nat), .int .u64 (a0 : Nat), .int .u64 (a1 : Nat), .int .u64 (a2 : Nat), .int .u64 (a3 : Nat), .bool nt, .int .i64 l, .int .i64 m, .bool lz, .int .i64 t], .agg #[.int .i64 k', .int .u8 (b' : Nat), .int .u64 (a0' : Nat), .int .u64 (a1' : Nat), .int .u64 (a2' : Nat), .int .u64 (a3' : Nat), .bool nt', .int .i64 l', .int .i64 m', .bool lz', .int .i64 t']] W fun e w' => e = .returned (.bool (eqT k b a0 a1 a2 a3 nt l m lz t' k' b' a0' a1' a2' a3' nt' l' m' lz' t')) ∧ Below W.heap.size W w') := fun k b a0 a1 a2 a3 nt l m lz t k' b' a0' a1' a2' a3' nt' l' m' lz' t' W => same12 k b a0 a1 a2 a3 nt l m lz t k' b' a0' a1' a2' a3' nt' l' m' lz' t' W
  generalize erV (chk k b P nt l m lz t) = x at *
  obtain ⟨S, hS⟩ : ∃ S : ByteArray, S = ⟨(tokB k b P nt l m lz t).toArray⟩ := ⟨_, rfl⟩
  unfold RetS at H10 H11
  rw [← hS] at H10 H11
  unfold RetB at H13
  unfold RetN at H8 H9
  unfold tokI at *
  have K8 : Hid (∀ W, _) := H8
  have K9 : Hid (∀ W, _) := H9
  have K10 : Hid (∀ W, Below w.heap.size w W → _) := H10
  have K11 : Hid (∀ W, _) := H11
  have K13 : Hid (∀ W, _) := H13
  have q0 := (Cl.new w 26 [.int .i64 k, .int .u8 (b : Nat), .int .u64 (a0 : Nat), .int .u64 (a1 : Nat), .int .u64 (a2 : Nat), .int .u64 (a3 : Nat), .bool nt, .int .i64 l, .int .i64 m, .bool lz, .int .i64 t]).alloc (.cells #[.int .i64 k', .int .u8 (b' : Nat), .int .u64 (a0' : Nat), .int .u64 (a1' : Nat), .int .u64 (a2' : Nat), .int .u64 (a3' : Nat), .bool nt', .int .i64 l', .int .i64 m', .bool lz', .int .i64 t'] 26)
  have q1 : Cl ((w.alloc (.cells #[.int .i64 k, .int .u8 (b : Nat), .int .u64 (a0 : Nat), .int .u64 (a1 : Nat), .int .u64 (a2 : Nat), .int .u64 (a3 : Nat), .bool nt, .int .i64 l, .int .i64 m, .bool lz, .int .i64 t] 26)).alloc (.cells #[.int .i64 k', .int .u8 (b' : Nat), .int .u64 (a0' : Nat), .int .u64 (a1' : Nat), .int .u64 (a2' : Nat), .int .u64 (a3' : Nat), .bool nt', .int .i64 l', .int .i64 m', .bool lz', .int .i64 t'] 26)) (w.heap.size + 1) 26 [.int .i64 k', .int .u8 (b' : Nat), .int .u64 (a0' : Nat), .int .u64 (a1' : Nat), .int .u64 (a2' : Nat), .int .u64 (a3' : Nat), .bool nt', .int .i64 l', .int .i64 m', .bool lz', .int .i64 t'] := by
    have := Cl.new (w.alloc (.cells #[.int .i64 k, .int .u8 (b : Nat), .int .u64 (a0 : Nat), .int .u64 (a1 : Nat), .int .u64 (a2 : Nat), .int .u64 (a3 : Nat), .bool nt, .int .i64 l, .int .i64 m, .bool lz, .int .i64 t] 26)) 26 [.int .i64 k', .int .u8 (b' : Nat), .int .u64 (a0' : Nat), .int .u64 (a1' : Nat), .int .u64 (a2' : Nat), .int .u64 (a3' : Nat), .bool nt', .int .i64 l', .int .i64 m', .bool lz', .int .i64 t']
    rw [World.size_alloc] at this
    exact this
  obtain ⟨x0, x1, x2, x3, x4, x5, x6, x7, x8, x9, x10⟩ := q0.eleven.1
  obtain ⟨y0, y1, y2, y3, y4, y5, y6, y7, y8, y9, y10⟩ := q1.eleven.1
  replace x0 := Near.cell x0 q0.lt
  replace x1 := Near.cell x1 q0.lt
  replace x2 := Near.cell x2 q0.lt
  replace x3 := Near.cell x3 q0.lt
  replace x4 := Near.cell x4 q0.lt
  replace x5 := Near.cell x5 q0.lt
  replace x6 := Near.cell x6 q0.lt
  replace x7 := Near.cell x7 q0.lt
  replace x8 := Near.cell x8 q0.lt
  replace x9 := Near.cell x9 q0.lt
  replace x10 := Near.cell x10 q0.lt
  replace y0 := Near.cell y0 q1.lt
  replace y1 := Near.cell y1 q1.lt
  replace y2 := Near.cell y2 q1.lt
  replace y3 := Near.cell y3 q1.lt
  replace y4 := Near.cell y4 q1.lt
  replace y5 := Near.cell y5 q1.lt
  replace y6 := Near.cell y6 q1.lt
  replace y7 := Near.cell y7 q1.lt
  replace y8 := Near.cell y8 q1.lt
  replace y9 := Near.cell y9 q1.lt
  replace y10 := Near.cell y10 q1.lt
  have HU : Hid (∀ u, Below w.heap.size w (near ((w.alloc (.cells #[.int .i64 k, .int .u8 (b : Nat), .int .u64 (a0 : Nat), .int .u64 (a1 : Nat), .int .u64 (a2 : Nat), .int .u64 (a3 : Nat), .bool nt, .int .i64 l, .int .i64 m, .bool lz, .int .i64 t] 26)).alloc (.cells #[.int .i64 k', .int .u8 (b' : Nat), .int .u64 (a0' : Nat), .int .u64 (a1' : Nat), .int .u64 (a2' : Nat), .int .u64 (a3' : Nat), .bool nt', .int .i64 l', .int .i64 m', .bool lz', .int .i64 t'] 26)) u)) := fun u => hB.trans ((near_below _ u).mono hB.size)
  clear H8 H9 H10 H11 H13 q0 q1 hS h4 hT hW hB
  go_enter Tryd.func3, Tryd.ntmps3
  go_wp2_with fail
  refine wp_region_quiet_tail 29 (fun w' => ∃ u : World, w' = near ((w.alloc (.cells #[.int .i64 k, .int .u8 (b : Nat), .int .u64 (a0 : Nat), .int .u64 (a1 : Nat), .int .u64 (a2 : Nat), .int .u64 (a3 : Nat), .bool nt, .int .i64 l, .int .i64 m, .bool lz, .int .i64 t] 26)).alloc (.cells #[.int .i64 k', .int .u8 (b' : Nat), .int .u64 (a0' : Nat), .int .u64 (a1' : Nat), .int .u64 (a2' : Nat), .int .u64 (a3' : Nat), .bool nt', .int .i64 l', .int .i64 m', .bool lz', .int .i64 t'] 26)) u) (by kernel_rfl) (by kernel_rfl) (Near.start _) ?_
  simp only [List.take_succ_cons, List.take_zero, List.drop_succ_cons, List.drop_zero]
  repeat (go_big_quiet_step ((first | (go_at_call 7; exact Near.call (H7.out _)) | (go_at_call 8; exact Near.call (K8.out _)) | (go_at_call 9; exact Near.call (K9.out _)) | (go_at_call 10; exact Near.call (K10.out _ (HU.out _))) | (go_at_call 11; exact Near.call (K11.out _)) | (go_at_call 13; exact Near.call (K13.out _)) | (go_at_call 12; exact Near.call (K12.out _ _ _ _ _ _ _ _ _ _ _ _ _ _ _ _ _ _ _ _ _ _ _)))))
  refine wpQuiet_nil ?_
  rintro _ ⟨u, rfl⟩
  have HU2 := HU.out u
  clear HU K8 K9 K10 K11 K12 K13 H7 x0 x1 x2 x3 x4 x5 x6 x7 x8 x9 x10 y0 y1 y2 y3 y4 y5 y6 y7 y8 y9 y10
  generalize near ((w.alloc (.cells #[.int .i64 k, .int .u8 (b : Nat), .int .u64 (a0 : Nat), .int .u64 (a1 : Nat), .int .u64 (a2 : Nat), .int .u64 (a3 : Nat), .bool nt, .int .i64 l, .int .i64 m, .bool lz, .int .i64 t] 26)).alloc (.cells #[.int .i64 k', .int .u8 (b' : Nat), .int .u64 (a0' : Nat), .int .u64 (a1' : Nat), .int .u64 (a2' : Nat), .int .u64 (a3' : Nat), .bool nt', .int .i64 l', .int .i64 m', .bool lz', .int .i64 t'] 26)) u = W1 at *
  go_wp2
  go_ret
  exact ⟨congrArg (fun z => Ending.returned (.bool z)) (eqT_self k b a0 a1 a2 a3 nt l m lz t), HU2⟩
end Go.Proofs.YtkbeiadbolihiaaDoor
