/- Tokens held against each other; rows read; the words of a pattern follow each other. -/
import Derived.Test.YtkbeiadbolihiabLy
import Derived.Laws.StructEq
namespace Go.Proofs.Ytkbeiadbolihiab
open Go.RowKit
theorem eql4_same (a b c d : Int) (m : Nat) (w : World) : (Op.equalIn (9998 + 1) 30 (.agg #[.int .u64 a, .int .u64 b, .int .u64 c, .int .u64 d]) (.agg #[.int .u64 a, .int .u64 b, .int .u64 c, .int .u64 d])).run Try.prog w = .ok true w ∧ m = m := by
  obtain ⟨j, hj, _⟩ := Option.map_eq_some_iff.1 (show (Try.prog.info? 28).map (·.size) = some 1 by kernel_rfl)
  refine ⟨?_, rfl⟩
  rw [run_equalIn_array w 9998 _ _ Try.underlying30 hj, show List.range 4 = [0, 1, 2, 3] from rfl]
  simp only [Op.eqItems, Sem.run_bind, part0, part1, part2, part3, Result.andThen_ok, eq24 9997, beq_self_eq_true, Bool.not_true, Bool.false_eq_true, if_false, Sem.run_pure]
/-- A token is the same as itself. -/
theorem eql32_same (k : Int) (b a0 a1 a2 a3 : Nat) (nt : Bool) (l m : Int) (lz : Bool) (at_ : Nat) (w : World) :
    (Go.binOp BinOp.eql 32 (tokV k b a0 a1 a2 a3 nt l m lz at_) (tokV k b a0 a1 a2 a3 nt l m lz at_)).run Try.prog w = Result.ok (.bool true) w := by
  have f32 : Try.prog.fieldsOf 32 = #[{ name := "Kind", type := 3, offset := 0, embedded := false, tag := "", pkgPath := "", byteOffset := 0 }, { name := "Byte", type := 5, offset := 1, embedded := false, tag := "", pkgPath := "", byteOffset := 8 }, { name := "Class", type := 30, offset := 2, embedded := false, tag := "", pkgPath := "", byteOffset := 16 }, { name := "Not", type := 4, offset := 6, embedded := false, tag := "", pkgPath := "", byteOffset := 48 }, { name := "Least", type := 3, offset := 7, embedded := false, tag := "", pkgPath := "", byteOffset := 56 }, { name := "Most", type := 3, offset := 8, embedded := false, tag := "", pkgPath := "", byteOffset := 64 }, { name := "Lazy", type := 4, offset := 9, embedded := false, tag := "", pkgPath := "", byteOffset := 72 }, { name := "At", type := 3, offset := 10, embedded := false, tag := "", pkgPath := "", byteOffset := 80 }] := by kernel_rfl
  unfold tokV
  have h : (Op.equalIn (9999 + 1) 32 (.agg #[.int .i64 k, .int .u8 (b : Nat), .int .u64 (a0 : Nat), .int .u64 (a1 : Nat), .int .u64 (a2 : Nat), .int .u64 (a3 : Nat), .bool nt, .int .i64 l, .int .i64 m, .bool lz, .int .i64 (at_ : Nat)]) (.agg #[.int .i64 k, .int .u8 (b : Nat), .int .u64 (a0 : Nat), .int .u64 (a1 : Nat), .int .u64 (a2 : Nat), .int .u64 (a3 : Nat), .bool nt, .int .i64 l, .int .i64 m, .bool lz, .int .i64 (at_ : Nat)])).run Try.prog w = .ok true w := by
    rw [run_equalIn_struct w 9999 32 _ _ (by kernel_rfl) (by kernel_rfl), f32]
    have q0 : ∀ (x0 x1 x2 x3 x4 x5 x6 x7 x8 x9 x10 : Value) w, (part 3 #[x0, x1, x2, x3, x4, x5, x6, x7, x8, x9, x10] 0).run Try.prog w = .ok x0 w := fun _ _ _ _ _ _ _ _ _ _ _ w => by kernel_rfl
    have q1 : ∀ (x0 x1 x2 x3 x4 x5 x6 x7 x8 x9 x10 : Value) w, (part 5 #[x0, x1, x2, x3, x4, x5, x6, x7, x8, x9, x10] 1).run Try.prog w = .ok x1 w := fun _ _ _ _ _ _ _ _ _ _ _ w => by kernel_rfl
    have q2 : ∀ (x0 x1 x2 x3 x4 x5 x6 x7 x8 x9 x10 : Value) w, (part 30 #[x0, x1, x2, x3, x4, x5, x6, x7, x8, x9, x10] 2).run Try.prog w = .ok (.agg #[x2, x3, x4, x5]) w := fun _ _ _ _ _ _ _ _ _ _ _ w => by kernel_rfl
    have q3 : ∀ (x0 x1 x2 x3 x4 x5 x6 x7 x8 x9 x10 : Value) w, (part 4 #[x0, x1, x2, x3, x4, x5, x6, x7, x8, x9, x10] 6).run Try.prog w = .ok x6 w := fun _ _ _ _ _ _ _ _ _ _ _ w => by kernel_rfl
    have q4 : ∀ (x0 x1 x2 x3 x4 x5 x6 x7 x8 x9 x10 : Value) w, (part 3 #[x0, x1, x2, x3, x4, x5, x6, x7, x8, x9, x10] 7).run Try.prog w = .ok x7 w := fun _ _ _ _ _ _ _ _ _ _ _ w => by kernel_rfl
    have q5 : ∀ (x0 x1 x2 x3 x4 x5 x6 x7 x8 x9 x10 : Value) w, (part 3 #[x0, x1, x2, x3, x4, x5, x6, x7, x8, x9, x10] 8).run Try.prog w = .ok x8 w := fun _ _ _ _ _ _ _ _ _ _ _ w => by kernel_rfl
    have q6 : ∀ (x0 x1 x2 x3 x4 x5 x6 x7 x8 x9 x10 : Value) w, (part 4 #[x0, x1, x2, x3, x4, x5, x6, x7, x8, x9, x10] 9).run Try.prog w = .ok x9 w := fun _ _ _ _ _ _ _ _ _ _ _ w => by kernel_rfl
    have q7 : ∀ (x0 x1 x2 x3 x4 x5 x6 x7 x8 x9 x10 : Value) w, (part 3 #[x0, x1, x2, x3, x4, x5, x6, x7, x8, x9, x10] 10).run Try.prog w = .ok x10 w := fun _ _ _ _ _ _ _ _ _ _ _ w => by kernel_rfl
    have e3 : ∀ (z : Int) w, (Op.equalIn 9999 3 (.int .i64 z) (.int .i64 z)).run Try.prog w = .ok true w := fun z w => by
      rw [run_equalIn_int w 9998 3 _ _ _ _ Try.underlying3]; simp
    have e5 : ∀ (z : Int) w, (Op.equalIn 9999 5 (.int .u8 z) (.int .u8 z)).run Try.prog w = .ok true w := fun z w => by
      rw [run_equalIn_int w 9998 5 _ _ _ _ Try.underlying5]; simp
    have e4 : ∀ (z : Bool) w, (Op.equalIn 9999 4 (.bool z) (.bool z)).run Try.prog w = .ok true w := fun z w => by
      rw [run_equalIn_bool' w 9998 4 _ _ Try.underlying4]; simp
    have e30 : ∀ (a b c d : Int) w, (Op.equalIn 9999 30 (.agg #[.int .u64 a, .int .u64 b, .int .u64 c, .int .u64 d]) (.agg #[.int .u64 a, .int .u64 b, .int .u64 c, .int .u64 d])).run Try.prog w = .ok true w := fun a b c d w => (eql4_same a b c d 0 w).1
    simp [Op.eqFields, q0, q1, q2, q3, q4, q5, q6, q7, e3, e4, e5, e30]
  simp only [binOp]
  simp only [Op.equal, Op.maxDepth, Sem.run_bind, h, Result.andThen_ok]
  simp
/-- The cells of a row that is read. -/
theorem row_cell {W : World} {base e size n cap : Nat} {ao : Option Addr} {xs : List Value} (h : W.ownsRow base e size (.slice ao n cap) n xs) (hn : 0 < n) :
    ∃ g, ao = some ⟨g, 0, none⟩ ∧ g < W.heap.size ∧ base ≤ g ∧ ∀ j u, xs[j]? = some u → W.cell? ⟨g, j, none⟩ = some u := by
  rcases h.2 with ⟨_, h0⟩ | ⟨g, cap', cur, hv, hg, hc, _, _, _, hx⟩
  · omega
  · cases hv
    refine ⟨g, rfl, (Array.getElem?_eq_some_iff.1 hc).1, hg, fun j u hj => ?_⟩
    rw [← hx, List.getElem?_take] at hj
    split at hj
    · rw [cell_of_row W g j _ e (0, 0) hc]
      simpa using hj
    · cases hj
theorem tokL_get (l : List TokS) (k j : Nat) (hk : k < l.length) (hj : j < 11) : (tokL l)[k * 11 + j]? = (tokC l[k])[j]? := by
  induction l generalizing k with
  | nil => simp at hk
  | cons s l ih =>
    have e : tokL (s :: l) = tokC s ++ tokL l := by simp [tokL]
    have hl : (tokC s).length = 11 := rfl
    rw [e]
    cases k with
    | zero => rw [List.getElem?_append_left (by omega)]; simp
    | succ k =>
      rw [List.getElem?_append_right (by omega), hl, show (k + 1) * 11 + j - 11 = k * 11 + j by omega]
      exact ih k (by simpa using hk)
/-- The words follow each other. -/
theorem wl_chain {z : Nat → Nat} {n : Nat} : ∀ f i, i ≤ n → n - i < f → (∀ s, s ∈ wl z n f i → s.er = 0) →
    ((wl z n f i).length = 0 ↔ n ≤ i) ∧ ∀ k (hk : k < (wl z n f i).length), (wl z n f i)[k] = wrd z n (wl z n f i)[k].at_ ∧ (wl z n f i)[k].at_ < n ∧ (k = 0 → (wl z n f i)[k].at_ = i) ∧ ((hk' : k + 1 < (wl z n f i).length) → (wl z n f i)[k].en = (wl z n f i)[k + 1].at_) ∧ (k + 1 = (wl z n f i).length → (wl z n f i)[k].en = n) := by
  intro f
  induction f with
  | zero => intro i _ h; omega
  | succ f ih =>
    intro i hi hf hg
    by_cases hin : n ≤ i
    · rw [wl_end hin] at *
      exact ⟨by simp [hin], fun k hk => by simp at hk⟩
    have hin' : i < n := by omega
    by_cases he : (wrd z n i).er = 0
    · have hw := wrd_lt hin' he
      have hx : ∀ s, s ∈ wl z n f (wrd z n i).en → s.er = 0 := fun s hs => hg s (by rw [wl_go hin' he]; exact List.mem_cons_of_mem _ hs)
      have h := ih (wrd z n i).en hw.2.1 (by omega) hx
      have e := wl_go (f := f) hin' he
      generalize wl z n f (wrd z n i).en = l at *
      rw [e]
      refine ⟨by simp; omega, fun k hk => ?_⟩
      cases k with
      | zero =>
        refine ⟨by simp [hw.2.2], by simp [hw.2.2, hin'], fun _ => by simp [hw.2.2], fun hk' => ?_, fun hk' => ?_⟩
        · simp only [List.getElem_cons_zero, List.getElem_cons_succ]
          exact ((h.2 0 (by simpa using hk')).2.2.1 rfl).symm
        · simp only [List.getElem_cons_zero]
          have h0 : l.length = 0 := by simpa using hk'
          have := h.1.1 h0
          omega
      | succ k =>
        have hk2 : k < l.length := by simpa using hk
        have hh := h.2 k hk2
        simp only [List.getElem_cons_succ]
        refine ⟨hh.1, hh.2.1, fun h => by omega, fun hk' => hh.2.2.2.1 (by simpa using hk'), fun hk' => hh.2.2.2.2 (by simpa using hk')⟩
    · exfalso
      exact he (hg _ (by rw [wl_bad hin' he]; simp))
/-- What lies from a word to the next is lexed to that word alone. -/
theorem wl_self {z : Nat → Nat} {n k : Nat} (hk : k < n) (e : (wrd z n k).er = 0) : wl (fun i => z (k + i)) ((wrd z n k).en - k) 1100 0 = [{ wrd z n k with at_ := 0, en := (wrd z n k).en - k }] := by
  have hlt := wrd_lt hk e
  have hs := wrd_self hk e
  rw [show (1100 : Nat) = 1099 + 1 from rfl, wl_go (by omega) (by rw [hs]; exact e), hs]
  simp only []
  rw [wl_end (Nat.le_refl _)]
set_option maxHeartbeats 1000000 in
theorem same_any (k : Int) (b a0 a1 a2 a3 : Nat) (nt : Bool) (l m : Int) (lz : Bool) (at1 at2 : Nat) (w : World) : Calls Try.prog 6 #[tokV k b a0 a1 a2 a3 nt l m lz at1, tokV k b a0 a1 a2 a3 nt l m lz at2] w (RetB w true) := by
  have h := eql32_same k b a0 a1 a2 a3 nt l m lz at2
  unfold tokV at *
  go_enter Try.func6, Try.ntmps6
  go_wp2
  go_ret
  exact ⟨rfl, bel2 w _ _⟩
end Go.Proofs.Ytkbeiadbolihiab
