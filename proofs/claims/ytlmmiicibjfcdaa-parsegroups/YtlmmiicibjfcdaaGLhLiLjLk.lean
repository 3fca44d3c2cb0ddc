/- ParseGroups: what is known in the region that draws its order. ParseGroups: the operations of the region that draws its order, one by one. Drawn regions: what a program looks over. ParseGroups: what the two appends come to. ParseGroups: the two appends of the region that draws its order. -/
import Derived.Test.YtlmmiicibjfcdaaGGhGr
import Derived.Test.YtlmmiicibjfcdaaLr
import Derived.ArgAppend
import Derived.Deep.AppendLies
namespace Go.Proofs.Ytlmmiicibjfcdaa
open Go.RowKit
def inB (z : Nat → Nat) (i : Nat) : Nat := if i = 0 then 40 else z (i - 1)
/-- Bytes as cells. -/
def byL (z : Nat → Nat) (n : Nat) : List Value := (List.range n).map fun i => .int .u8 (z i : Nat)
theorem byL_len (z : Nat → Nat) (n : Nat) : (byL z n).length = n := by simp [byL]
theorem byL_get (z : Nat → Nat) {n i : Nat} (h : i < n) : (byL z n)[i]? = some (.int .u8 (z i : Nat)) := by simp [byL, h]
theorem byL_one (z : Nat → Nat) (n : Nat) : ∀ u ∈ byL z n, u.oneCell' = true := fun u hu => by
  obtain ⟨i, _, rfl⟩ := List.mem_map.1 hu
  rfl
/-- A block of bytes of one's own. -/
def ByB (B : Nat) (w : World) (b : Nat) (cs : Array Value) (fz : Nat × Nat) : Prop := B ≤ b ∧ w.heap[b]? = some (.cells cs 5 fz)
/-- What each operation answers. -/
def V6 (B n cap : Nat) (ao : Option Addr) (z : Nat → Nat) (fl : Fg) (l : List Nd) (nn : Nat) (j : Nat) (g : Nat → Value) (w : World) : Prop :=
  match j with
  | 0 => ∃ (b : Nat) (fz : Nat × Nat), g 0 = .slice (some ⟨b, 0, none⟩) 1 1 ∧ ByB B w b #[.int .u8 40] fz
  | 1 => ∃ (b : Nat) (fz : Nat × Nat), g 1 = .slice (some ⟨b, 0, none⟩) 1 1 ∧ ByB B w b #[.int .u8 40] fz
  | 2 => g 2 = .slice ao n cap
  | 3 => ∃ (b : Nat) (cs : Array Value) (fz : Nat × Nat), g 3 = .slice (some ⟨b, 0, none⟩) (1 + n) cs.size ∧ ByB B w b cs fz ∧ 1 + n ≤ cs.size ∧ (1 + n < cs.size → fz = (0, 0)) ∧ ∀ i, i < 1 + n → cs[i]? = some (.int .u8 (inB z i : Nat))
  | 4 => ∃ (b : Nat) (fz : Nat × Nat), g 4 = .slice (some ⟨b, 0, none⟩) 1 1 ∧ ByB B w b #[.int .u8 41] fz
  | 5 => ∃ (b cp : Nat) (cs : Array Value) (fz : Nat × Nat), g 5 = .slice (some ⟨b, 0, none⟩) (1 + (n + 1)) cp ∧ ByB B w b cs fz ∧ ∀ i, i < 1 + (n + 1) → cs[i]? = some (.int .u8 (inB z i : Nat))
  | 6 => g 6 = fgV fl
  | 7 => ∃ (no : Option Addr) (nc : Nat), g 7 = .tuple #[.agg #[.slice no nn nc], .int .i64 ((1 + (n + 1) : Nat) : Int), .int .i64 0] ∧ w.ownsRow B 44 10 (.slice no nn nc) nn (ndsL l)
  | 8 => ∃ (no : Option Addr) (nc : Nat), g 8 = .tuple #[.agg #[.slice no nn nc], .int .i64 ((1 + (n + 1) : Nat) : Int), .int .i64 0] ∧ w.ownsRow B 44 10 (.slice no nn nc) nn (ndsL l)
  | 9 => ∃ (no : Option Addr) (nc : Nat), g 9 = .agg #[.slice no nn nc] ∧ w.ownsRow B 44 10 (.slice no nn nc) nn (ndsL l)
  | 11 => g 11 = .int .i64 0
  | 12 => ∃ (b : Nat) (c : Value), g 12 = .pointer (some ⟨b, 0, none⟩) ∧ B ≤ b ∧ w.heap[b]? = some (.cells #[c] 28 (0, 0))
  | 13 => ∃ (b : Nat) (no : Option Addr) (nc : Nat), g 12 = .pointer (some ⟨b, 0, none⟩) ∧ B ≤ b ∧ w.heap[b]? = some (.cells #[.slice no nn nc] 28 (0, 0)) ∧ w.ownsRow B 44 10 (.slice no nn nc) nn (ndsL l)
  | 15 => g 15 = .int .i64 0
  | _ => True
/-- What an operation may do to the blocks. -/
structure G6 (B n : Nat) (l : List Nd) (nn : Nat) (w w' : World) : Prop where
  oth : ∀ (k : Nat) (cs : Array Value) (t : TypeId) (fz : Nat × Nat), w.heap[k]? = some (Obj.cells cs t fz) → t ≠ 5 → t ≠ 28 → w'.heap[k]? = some (Obj.cells cs t fz)
  byt : ∀ (k : Nat) (cs : Array Value) (fz : Nat × Nat), w.heap[k]? = some (Obj.cells cs 5 fz) → ∃ (cs' : Array Value) (fz' : Nat × Nat), w'.heap[k]? = some (Obj.cells cs' 5 fz') ∧ cs'.size = cs.size ∧ (cs.size ≠ 1 → fz' = fz) ∧ ∀ j, cs'[j]? = cs[j]? ∨ (j = 1 + n ∧ cs'[j]? = some (.int .u8 41))
  box : ∀ (k : Nat) (c : Value), w.heap[k]? = some (Obj.cells #[c] 28 (0, 0)) → ∃ c' : Value, w'.heap[k]? = some (Obj.cells #[c'] 28 (0, 0)) ∧ (c' = c ∨ ∃ no nc, c' = .slice no nn nc ∧ w'.ownsRow B 44 10 (.slice no nn nc) nn (ndsL l))
theorem G6.of_same {B n : Nat} {l : List Nd} {nn : Nat} {w w' : World} (h : ∀ k, k < w.heap.size → w'.heap[k]? = w.heap[k]?) : G6 B n l nn w w' := by
  have hl : ∀ {k o}, w.heap[k]? = some o → w'.heap[k]? = some o := fun {k o} hk => by rw [h k (Array.getElem?_eq_some_iff.1 hk).1]; exact hk
  exact ⟨fun k cs t fz hk _ _ => hl hk, fun k cs fz hk => ⟨cs, fz, hl hk, rfl, fun _ => rfl, fun j => .inl rfl⟩, fun k c hk => ⟨c, hl hk, .inl rfl⟩⟩
theorem G6.of_below {B n : Nat} {l : List Nd} {nn : Nat} {w w' : World} (h : Below w.heap.size w w') : G6 B n l nn w w' := G6.of_same h.block
theorem G6.refl {B n : Nat} {l : List Nd} {nn : Nat} (w : World) : G6 B n l nn w w := G6.of_same fun _ _ => rfl
theorem G6.row {B n : Nat} {l : List Nd} {nn : Nat} {w w' : World} (h : G6 B n l nn w w') {base k : Nat} {v : Value} {xs : List Value} (hr : w.ownsRow base 44 10 v k xs) : w'.ownsRow base 44 10 v k xs :=
  own_at hr fun b hb => by
    obtain ⟨_, _, cur, hc⟩ := own_block hr hb
    rw [hc]
    exact h.oth _ _ _ _ hc (by decide) (by decide)
theorem G6.one {B n : Nat} {l : List Nd} {nn : Nat} {w w' : World} (h : G6 B n l nn w w') {b : Nat} {v : Value} {fz : Nat × Nat} (hb : ByB B w b #[v] fz) : ∃ fz', ByB B w' b #[v] fz' := by
  obtain ⟨cs', fz', h1, h2, _, h4⟩ := h.byt _ _ _ hb.2
  refine ⟨fz', hb.1, ?_⟩
  have : cs' = #[v] := by
    apply Array.ext_getElem?
    intro j
    rcases h4 j with h | ⟨h, _⟩
    · exact h
    · have hs : cs'.size = 1 := h2
      rw [Array.getElem?_eq_none (by omega), Array.getElem?_eq_none (by simp; omega)]
  rw [h1, this]
theorem V6.keep {B n cap : Nat} {ao : Option Addr} {z : Nat → Nat} {fl : Fg} {l : List Nd} {nn : Nat} (hz : z n = 41) (j : Nat) (g : Nat → Value) (w w' : World) (hv : V6 B n cap ao z fl l nn j g w) (h : G6 B n l nn w w') : V6 B n cap ao z fl l nn j g w' := by
  match j, hv with
  | 0, ⟨b, fz, e, hb⟩ => obtain ⟨fz', h'⟩ := h.one hb; exact ⟨b, fz', e, h'⟩
  | 1, ⟨b, fz, e, hb⟩ => obtain ⟨fz', h'⟩ := h.one hb; exact ⟨b, fz', e, h'⟩
  | 2, e => exact e
  | 3, ⟨b, cs, fz, e, hb, h1, h2, h3⟩ =>
    obtain ⟨cs', fz', g1, g2, g3, g4⟩ := h.byt _ _ _ hb.2
    refine ⟨b, cs', fz', by rw [e, g2], ⟨hb.1, g1⟩, by omega, fun hlt => ?_, fun i hi => ?_⟩
    · rw [g3 (by omega)]; exact h2 (by omega)
    · rcases g4 i with h | ⟨h, _⟩
      · rw [h]; exact h3 i hi
      · omega
  | 4, ⟨b, fz, e, hb⟩ => obtain ⟨fz', h'⟩ := h.one hb; exact ⟨b, fz', e, h'⟩
  | 5, ⟨b, cp, cs, fz, e, hb, h3⟩ =>
    obtain ⟨cs', fz', g1, _, _, g4⟩ := h.byt _ _ _ hb.2
    refine ⟨b, cp, cs', fz', e, ⟨hb.1, g1⟩, fun i hi => ?_⟩
    rcases g4 i with h | ⟨h, h'⟩
    · rw [h]; exact h3 i hi
    · rw [h', h]
      have : inB z (1 + n) = 41 := by unfold inB; rw [if_neg (by omega), Nat.add_sub_cancel_left, hz]
      rw [this]; rfl
  | 6, e => exact e
  | 7, ⟨no, nc, e, hr⟩ => exact ⟨no, nc, e, h.row hr⟩
  | 8, ⟨no, nc, e, hr⟩ => exact ⟨no, nc, e, h.row hr⟩
  | 9, ⟨no, nc, e, hr⟩ => exact ⟨no, nc, e, h.row hr⟩
  | 10, _ => trivial
  | 11, e => exact e
  | 12, ⟨b, c, e, hb, hc⟩ =>
    obtain ⟨c', h1, _⟩ := h.box _ _ hc
    exact ⟨b, c', e, hb, h1⟩
  | 13, ⟨b, no, nc, e, hb, hc, hr⟩ =>
    obtain ⟨c', h1, h2⟩ := h.box _ _ hc
    rcases h2 with rfl | ⟨no', nc', rfl, hr'⟩
    · exact ⟨b, no, nc, e, hb, h1, h.row hr⟩
    · exact ⟨b, no', nc', e, hb, h1, hr'⟩
  | 14, _ => trivial
  | 15, e => exact e
  | _ + 16, _ => trivial
theorem V6.same {B n cap : Nat} {ao : Option Addr} {z : Nat → Nat} {fl : Fg} {l : List Nd} {nn : Nat} (j : Nat) (g g' : Nat → Value) (w : World) (h0 : g' j = g j) (h1 : j = 13 → g' 12 = g 12) (hv : V6 B n cap ao z fl l nn j g w) : V6 B n cap ao z fl l nn j g' w := by
  match j, hv, h0, h1 with
  | 0, hv, h0, _ => unfold V6 at hv ⊢; rw [h0]; exact hv
  | 1, hv, h0, _ => unfold V6 at hv ⊢; rw [h0]; exact hv
  | 2, hv, h0, _ => unfold V6 at hv ⊢; rw [h0]; exact hv
  | 3, hv, h0, _ => unfold V6 at hv ⊢; rw [h0]; exact hv
  | 4, hv, h0, _ => unfold V6 at hv ⊢; rw [h0]; exact hv
  | 5, hv, h0, _ => unfold V6 at hv ⊢; rw [h0]; exact hv
  | 6, hv, h0, _ => unfold V6 at hv ⊢; rw [h0]; exact hv
  | 7, hv, h0, _ => unfold V6 at hv ⊢; rw [h0]; exact hv
  | 8, hv, h0, _ => unfold V6 at hv ⊢; rw [h0]; exact hv
  | 9, hv, h0, _ => unfold V6 at hv ⊢; rw [h0]; exact hv
  | 10, _, _, _ => trivial
  | 11, hv, h0, _ => unfold V6 at hv ⊢; rw [h0]; exact hv
  | 12, hv, h0, _ => unfold V6 at hv ⊢; rw [h0]; exact hv
  | 13, hv, _, h1 => unfold V6 at hv ⊢; rw [h1 rfl]; exact hv
  | 14, _, _, _ => trivial
  | 15, hv, h0, _ => unfold V6 at hv ⊢; rw [h0]; exact hv
  | _ + 16, _, _, _ => trivial
/-- A conversion of a literal's row marks it. -/
theorem cv_any (w : World) (b : Nat) (c : Array Value) (fz : Nat × Nat) (n m : Nat) (h : w.heap[b]? = some (.cells c 5 fz)) : ∃ w' fz', (convert 48 48 (.slice (some ⟨b, 0, none⟩) n m)).run Try.prog w = .ok (.slice (some ⟨b, 0, none⟩) n m) w' ∧ w'.heap.size = w.heap.size ∧ w'.os = w.os ∧ w'.tape = w.tape ∧ w'.output = w.output ∧ w'.heap[b]? = some (.cells c 5 fz') ∧ ∀ k, k ≠ b → w'.heap[k]? = w.heap[k]? := by
  have hsh : w.shape? b = some (5, c.size) := by unfold World.shape?; rw [h]
  obtain ⟨fz', hb⟩ : ∃ fz', (w.freeze ⟨b, c.size, none⟩ 1).heap[b]? = some (.cells c 5 fz') := by
    unfold World.freeze
    rw [if_neg (by decide)]
    obtain ⟨lo, hi⟩ := fz
    simp only [Array.getElem?_modify, if_true, h, Option.map_some]
    exact ⟨_, rfl⟩
  have hrun : (convert 48 48 (.slice (some ⟨b, 0, none⟩) n m)).run Try.prog w = .ok (.slice (some ⟨b, 0, none⟩) n m) (w.freeze ⟨b, c.size, none⟩ 1) := by
    simp [convert, run_underlying Try.underlying48, run_underlying Try.underlying5, markStringish, hsh]
  refine ⟨w.freeze ⟨b, c.size, none⟩ 1, fz', hrun, ?_, ?_, ?_, ?_, hb, fun k hk => ?_⟩
  · unfold World.freeze; simp
  · unfold World.freeze; simp
  · unfold World.freeze; simp
  · unfold World.freeze; simp
  · unfold World.freeze
    rw [if_neg (by decide)]
    simp only [Array.getElem?_modify]
    rw [if_neg (Ne.symm hk)]
end Go.Proofs.Ytlmmiicibjfcdaa
namespace Go.Proofs.Ytlmmiicibjfcdaa
open Go.RowKit
section
variable {o : Oper} {a : Act} {w : World}
theorem ex_build (v : Int) (h : o.op = .buildSlice 48 1 #[(0, .const (.int .u8 v))]) : (execOp a.eval o).run Try.prog w = .ok (.value (.slice (some ⟨w.heap.size, 0, none⟩) 1 1)) (w.alloc (.cells #[.int .u8 v] 5)) := by
  unfold execOp
  rw [h]
  have hc : a.eval (.const (.int .u8 v)) = .int .u8 v := rfl
  generalize a.eval = ρ at *
  simp [go_sem, hc]
theorem ex_conv {t b : Nat} {w' : World} (h : o.op = .convert 48 48 (.tmp t)) (ht : a.eval (.tmp t) = .slice (some ⟨b, 0, none⟩) 1 1) (hr : (convert 48 48 (.slice (some ⟨b, 0, none⟩) 1 1)).run Try.prog w = .ok (.slice (some ⟨b, 0, none⟩) 1 1) w') : (execOp a.eval o).run Try.prog w = .ok (.value (.slice (some ⟨b, 0, none⟩) 1 1)) w' := by
  unfold execOp
  rw [h]
  generalize a.eval = ρ at *
  simp [ht, hr]
theorem ex_append {s x : Operand} {vs vx v' : Value} {w' : World} (h : o.op = .call { callee := .builtin .append, args := #[s, x], argTypes := #[48, 48] }) (hs : a.eval s = vs) (hx : a.eval x = vx) (hr : (Builtin.append_ #[48, 48] o.type #[vs, vx]).run Try.prog w = .ok v' w') : (execOp a.eval o).run Try.prog w = .ok (.value v') w' := by
  unfold execOp
  rw [h]
  generalize a.eval = ρ at *
  simp [resolve, invoke, builtin, hs, hx, hr, Result.andThen]
theorem ex_load23 {t fb : Nat} {fl : Fg} (h : o.op = .load 23 (.tmp t)) (ht : a.eval (.tmp t) = .pointer (some ⟨fb, 0, none⟩)) (hc : Cl w fb 23 [.bool fl.c, .bool fl.d, .bool fl.m, .bool fl.o, .bool fl.l]) : (execOp a.eval o).run Try.prog w = .ok (.value (fgV fl)) w := by
  have c0 := hc.cell 0 rfl
  have c1 := hc.cell 1 rfl
  have c2 := hc.cell 2 rfl
  have c3 := hc.cell 3 rfl
  have c4 := hc.cell 4 rfl
  unfold execOp
  rw [h]
  generalize a.eval = ρ at *
  simp [go_sem, ht, c0, c1, c2, c3, c4, fgV]
theorem ex_call17 {s x : Operand} {vs vx : Value} (h : o.op = .call { callee := .value (.func 17), args := #[s, x], argTypes := #[48, 23] }) (hf : a.eval (.func 17) = .func (.func 17) #[] #[]) (hs : a.eval s = vs) (hx : a.eval x = vx) : (execOp a.eval o).run Try.prog w = .ok (.enter 17 #[vs, vx]) w := by
  have eg : ∀ args w, (callFunc 17 args).run Try.prog w = .ok (.enter 17 args) w := by intro args w; kernel_rfl
  unfold execOp
  rw [h]
  generalize a.eval = ρ at *
  simp [go_sem, hf, hs, hx, resolve, invoke, eg]
theorem ex_extract {t k : Nat} {vs : Array Value} {v : Value} (h : o.op = .extract (.tmp t) k) (ht : a.eval (.tmp t) = .tuple vs) (hk : vs[k]? = some v) : (execOp a.eval o).run Try.prog w = .ok (.value v) w := by
  unfold execOp
  rw [h]
  generalize a.eval = ρ at *
  simp [go_sem, ht, hk]
theorem ex_alloc (h : o.op = .alloc 28) : (execOp a.eval o).run Try.prog w = .ok (.value (.pointer (some ⟨w.heap.size, 0, none⟩))) (w.alloc (.cells #[.slice none 0 0] 28)) := by
  unfold execOp
  rw [h]
  generalize a.eval = ρ at *
  simp [go_sem]
theorem ex_store {p x : Nat} {b nn nc : Nat} {no : Option Addr} {c : Value} (h : o.op = .store 28 (.tmp p) (.tmp x)) (hp : a.eval (.tmp p) = .pointer (some ⟨b, 0, none⟩)) (hx : a.eval (.tmp x) = .agg #[.slice no nn nc]) (hb : w.heap[b]? = some (.cells #[c] 28 (0, 0))) : (execOp a.eval o).run Try.prog w = .ok .skip (w.setCell ⟨b, 0, none⟩ (.slice no nn nc)) := by
  have hc : w.cell? ⟨b, 0, none⟩ = some c := by simp [World.cell?, hb]
  have hf : w.frozen? ⟨b, 0, none⟩ = false := by simp [World.frozen?, hb]
  unfold execOp
  rw [h]
  generalize a.eval = ρ at *
  simp [go_sem, hp, hx, hc, hf]
theorem op_skip {P : Program} {ops : Array Oper} {Q : Exit → Act → World → Prop} {i : Nat} {K : Act → World → Prop} {w' : World} (hi : ops[i]? = some o) (hw : Region.wanted o (yielded ops a.tmps) = true) (hr : (execOp a.eval o).run P w = .ok .skip w') (hK : K (a.put o.dst undef) w') : wpOp P ops Q i K a w := by
  unfold wpOp
  simp only [hi, hw, if_true]
  left
  unfold Oper.wp
  rw [hr]
  exact hK
theorem op_call {P : Program} {ops : Array Oper} {Q : Exit → Act → World → Prop} {i : Nat} {K : Act → World → Prop} {f : FuncId} {args : Array Value} {R : Value → World → Prop} (hi : ops[i]? = some o) (hw : Region.wanted o (yielded ops a.tmps) = true) (hr : (execOp a.eval o).run P w = .ok (.enter f args) w) (hc : Calls P f args w fun e w' => ∃ v, e = .returned v ∧ R v w') (hK : ∀ v w', R v w' → K (a.put o.dst v) w') : wpOp P ops Q i K a w := by
  unfold wpOp
  simp only [hi, hw, if_true]
  left
  unfold Oper.wp
  rw [hr, Oper.upon_enter]
  refine hc.mono ?_
  rintro e w' ⟨v, rfl, h⟩
  exact hK v w' h
end
end Go.Proofs.Ytlmmiicibjfcdaa
namespace Go.Proofs.Ytlmmiicibjfcdaa
open Go.RowKit
def backB (ops : Array Oper) : Bool := (List.range ops.size).all fun i => match ops[i]? with | some o => o.after.all (fun e => !Region.binds .any e || decide (e.on < i)) | none => true
theorem back_of {ops : Array Oper} (h : backB ops = true) : ∀ (i : Nat) (o : Oper), ops[i]? = some o → ∀ e ∈ o.after, Region.binds .any e = true → e.on < i := by
  intro i o ho e he hb
  have hi := (Array.getElem?_eq_some_iff.1 ho).1
  have := List.all_eq_true.1 h i (List.mem_range.2 hi)
  rw [ho] at this
  have := Array.all_eq_true'.1 this e he
  rw [hb] at this
  simpa using this
def apartB (ops : Array Oper) : Bool := (List.range ops.size).all fun i => (List.range ops.size).all fun j => match ops[i]?, ops[j]? with | some a, some b => decide (i = j) || !(a.dst.isSome && a.dst == b.dst) | _, _ => true
theorem apart_of {ops : Array Oper} (h : apartB ops = true) : ∀ (i j : Nat) (oi oj : Oper) (d : Tmp), ops[i]? = some oi → ops[j]? = some oj → oi.dst = some d → oj.dst = some d → i = j := by
  intro i j oi oj d hi hj h1 h2
  have li := (Array.getElem?_eq_some_iff.1 hi).1
  have lj := (Array.getElem?_eq_some_iff.1 hj).1
  have := List.all_eq_true.1 (List.all_eq_true.1 h i (List.mem_range.2 li)) j (List.mem_range.2 lj)
  rw [hi, hj] at this
  simp only [h1, h2, Option.isSome_some, Bool.true_and, Bool.or_eq_true, decide_eq_true_eq, Bool.not_eq_true', beq_eq_false_iff_ne, ne_eq, not_true_eq_false, or_false] at this
  exact this
/-- A row of one's own, as a block. -/
theorem own_bytes {W : World} {base k : Nat} {v : Value} {xs : List Value} (h : W.ownsRow base 5 1 v k xs) (hk : 0 < k) : ∃ (g : Nat) (cs : Array Value), v = .slice (some ⟨g, 0, none⟩) k cs.size ∧ base ≤ g ∧ W.heap[g]? = some (.cells cs 5 (0, 0)) ∧ k ≤ cs.size ∧ ∀ i, i < k → cs[i]? = xs[i]? := by
  obtain ⟨hlen, h2⟩ := h
  rcases h2 with ⟨_, h0⟩ | ⟨g, cp, cur, hv, hb, hh, hc, hm, hs, hx⟩
  · omega
  · have hs' : cur.size = cp := by omega
    refine ⟨g, cur, by rw [hv, hs'], hb, hh, by omega, fun i hi => ?_⟩
    rw [← hx, List.getElem?_take_of_lt (by omega), Array.getElem?_toList]
theorem G6.mark {B n : Nat} {l : List Nd} {nn : Nat} {w w' : World} {b : Nat} {v : Value} {fz fz' : Nat × Nat} (h : w.heap[b]? = some (.cells #[v] 5 fz)) (h' : w'.heap[b]? = some (.cells #[v] 5 fz')) (hk : ∀ k, k ≠ b → w'.heap[k]? = w.heap[k]?) : G6 B n l nn w w' := by
  refine ⟨fun k cs t f hh h5 _ => ?_, fun k cs f hh => ?_, fun k c hh => ?_⟩
  · by_cases e : k = b
    · subst e; rw [h] at hh; cases hh; exact absurd rfl h5
    · rw [hk k e]; exact hh
  · by_cases e : k = b
    · subst e; rw [h] at hh; cases hh
      exact ⟨#[v], fz', h', rfl, fun h => absurd rfl h, fun j => .inl rfl⟩
    · exact ⟨cs, f, by rw [hk k e]; exact hh, rfl, fun _ => rfl, fun j => .inl rfl⟩
  · by_cases e : k = b
    · subst e; rw [h] at hh; cases hh
    · exact ⟨c, by rw [hk k e]; exact hh, .inl rfl⟩
/-- One byte is written behind. -/
theorem G6.byte {B n : Nat} {l : List Nd} {nn : Nat} {w : World} {b : Nat} {cs : Array Value} (h : w.heap[b]? = some (.cells cs 5 (0, 0))) (_hl : 1 + n < cs.size) : G6 B n l nn w (w.setCell ⟨b, 1 + n, none⟩ (.int .u8 41)) := by
  have hk : ∀ k, k ≠ b → (w.setCell ⟨b, 1 + n, none⟩ (.int .u8 41)).heap[k]? = w.heap[k]? := fun k hk => Below.heap_setCell _ _ _ _ hk
  have hs := heap_setCell_same w b (1 + n) cs 5 (.int .u8 41) h
  refine ⟨fun k cs' t f hh h5 _ => ?_, fun k cs' f hh => ?_, fun k c hh => ?_⟩
  · by_cases e : k = b
    · subst e; rw [h] at hh; cases hh; exact absurd rfl h5
    · rw [hk k e]; exact hh
  · by_cases e : k = b
    · subst e; rw [h] at hh; cases hh
      refine ⟨_, (0, 0), hs, by simp, fun _ => rfl, fun j => ?_⟩
      by_cases ej : 1 + n = j
      · subst ej
        exact .inr ⟨rfl, by rw [Array.getElem?_setIfInBounds_self_of_lt _hl]⟩
      · exact .inl (by rw [Array.getElem?_setIfInBounds_ne ej])
    · exact ⟨cs', f, by rw [hk k e]; exact hh, rfl, fun _ => rfl, fun j => .inl rfl⟩
  · by_cases e : k = b
    · subst e; rw [h] at hh; cases hh
    · exact ⟨c, by rw [hk k e]; exact hh, .inl rfl⟩
/-- The box is written. -/
theorem G6.store {B n : Nat} {l : List Nd} {nn : Nat} {w : World} {b nc : Nat} {no : Option Addr} {c : Value} (h : w.heap[b]? = some (.cells #[c] 28 (0, 0))) (hr : w.ownsRow B 44 10 (.slice no nn nc) nn (ndsL l)) : G6 B n l nn w (w.setCell ⟨b, 0, none⟩ (.slice no nn nc)) ∧ (w.setCell ⟨b, 0, none⟩ (.slice no nn nc)).heap[b]? = some (.cells #[.slice no nn nc] 28 (0, 0)) ∧ (w.setCell ⟨b, 0, none⟩ (.slice no nn nc)).ownsRow B 44 10 (.slice no nn nc) nn (ndsL l) := by
  have hk : ∀ k, k ≠ b → (w.setCell ⟨b, 0, none⟩ (.slice no nn nc)).heap[k]? = w.heap[k]? := fun k hk => Below.heap_setCell _ _ _ _ hk
  have hs : (w.setCell ⟨b, 0, none⟩ (.slice no nn nc)).heap[b]? = some (.cells #[.slice no nn nc] 28 (0, 0)) := heap_setCell_same w b 0 #[c] 28 (.slice no nn nc) h
  have hr' : (w.setCell ⟨b, 0, none⟩ (.slice no nn nc)).ownsRow B 44 10 (.slice no nn nc) nn (ndsL l) := own_at hr fun q hq => hk q (by
    rintro rfl
    obtain ⟨_, _, cur, hc⟩ := own_block hr hq
    rw [h] at hc; cases hc)
  refine ⟨⟨fun k cs' t f hh _ h28 => ?_, fun k cs' f hh => ?_, fun k c' hh => ?_⟩, hs, hr'⟩
  · by_cases e : k = b
    · subst e; rw [h] at hh; cases hh; exact absurd rfl h28
    · rw [hk k e]; exact hh
  · by_cases e : k = b
    · subst e; rw [h] at hh; cases hh
    · exact ⟨cs', f, by rw [hk k e]; exact hh, rfl, fun _ => rfl, fun j => .inl rfl⟩
  · by_cases e : k = b
    · subst e; exact ⟨_, hs, .inr ⟨no, nc, rfl, hr'⟩⟩
    · exact ⟨c', by rw [hk k e]; exact hh, .inl rfl⟩
end Go.Proofs.Ytlmmiicibjfcdaa
namespace Go.Proofs.Ytlmmiicibjfcdaa
open Go.RowKit
theorem b_u8 : (Try.prog.info? 5).map (fun i => (i.zero, i.size, i.bytes)) = some (some (.int .u8 0), 1, 1) := by kernel_rfl
/-- Nothing is appended. -/
theorem run_append_nil0 (w : World) (t ty e : TypeId) (i : TypeInfo) (ht : Try.prog.underlying t = some (.slice e)) (hi : Try.prog.info? e = some i) (b xo : Option Addr) (n cap c : Nat) (hle : n ≤ cap) :
    (Builtin.append_ #[t, t] ty #[.slice b n cap, .slice xo 0 c]).run Try.prog w = .ok (.slice b n cap) w := by
  cases xo <;> cases b <;> simp [Builtin.append_, run_underlying ht, sizeOf, typeInfo, hi, Builtin.lenOf, Builtin.firstCells, loadCells, loadCellsFrom, hle, storeCells]
section
variable {B n cap : Nat} {ao : Option Addr} {z : Nat → Nat} {fl : Fg} {l : List Nd} {nn : Nat} {g : Nat → Value} {w : World}
theorem by_cell {b : Nat} {cs : Array Value} {fz : Nat × Nat} (h : w.heap[b]? = some (.cells cs 5 fz)) (j : Nat) : w.cell? ⟨b, j, none⟩ = cs[j]? := by
  simp [World.cell?, h]
theorem app1 (ty : TypeId) (h1 : V6 B n cap ao z fl l nn 1 g w) (h2 : V6 B n cap ao z fl l nn 2 g w) (hr : Rd w ao n z) (hn : n ≤ 1020) (hB : B ≤ w.heap.size) : ∃ v w', (Builtin.append_ #[48, 48] ty #[g 1, g 2]).run Try.prog w = .ok v w' ∧ Below w.heap.size w w' ∧ ∀ g' : Nat → Value, g' 3 = v → V6 B n cap ao z fl l nn 3 g' w' := by
  obtain ⟨b, fz, e1, hb⟩ := h1
  have e2 : g 2 = .slice ao n cap := h2
  obtain ⟨i0, hi, hz0, hz1, hz2⟩ := info_parts b_u8
  rw [e1, e2]
  by_cases h0 : n = 0
  · subst h0
    refine ⟨_, w, run_append_nil0 w 48 ty 5 i0 Try.underlying48 hi _ _ 1 1 cap (Nat.le_refl _), Below.refl _ _, fun g' hg => ⟨b, #[.int .u8 40], fz, hg, hb, by simp, fun h => by simp at h, fun i hi => ?_⟩⟩
    obtain rfl : i = 0 := by omega
    rfl
  · obtain ⟨pb, po, rfl, hpb, hpc⟩ := hr.at_ (by omega)
    obtain ⟨v', w', hrun, hown, hgr⟩ := run_append_arg_grows (P := Try.prog) w 48 ty 5 i0 _ 1 1 Try.underlying48 hi hz0 hz1 hz2 rfl (by decide) ⟨b, 0, none⟩ 1 1 [.int .u8 40] rfl (fun j u hj => by
        have hj0 := (List.getElem?_eq_some_iff.1 hj).1
        obtain rfl : j = 0 := by simpa using hj0
        have hu : Value.int .u8 40 = u := by simpa using hj
        subst hu
        rw [Addr.add_lit, by_cell hb.2]; rfl) ⟨pb, po, none⟩ n cap (byL z n) (by rw [byL_len]; omega) (fun j u hj => by
        have hjn := (List.getElem?_eq_some_iff.1 hj).1
        rw [byL_len] at hjn
        rw [byL_get z hjn] at hj
        cases hj
        rw [Addr.add_lit]
        exact hpc j hjn) (by omega) (by unfold maxLen; omega) (by omega)
    have hbel := (Below.refl w.heap.size w).grown hgr (Nat.le_refl _) (fun q hq => by cases hq)
    obtain ⟨q, cs, hv, hq, hh, hk, hx⟩ := own_bytes hown (by omega)
    refine ⟨v', w', hrun, hbel, fun g' hg => ⟨q, cs, (0, 0), by rw [hg, hv], ⟨Nat.le_trans hB hq, hh⟩, hk, fun _ => rfl, fun i hi => ?_⟩⟩
    rw [hx i hi]
    unfold inB
    by_cases i0 : i = 0
    · subst i0; rfl
    · rw [if_neg i0, List.getElem?_append_right (by simp; omega)]
      exact byL_get z (by simp; omega)
theorem app2 (ty : TypeId) (hz : z n = 41) (h3 : V6 B n cap ao z fl l nn 3 g w) (h4 : V6 B n cap ao z fl l nn 4 g w) (hn : n ≤ 1020) (hB : B ≤ w.heap.size) : ∃ v w', (Builtin.append_ #[48, 48] ty #[g 3, g 4]).run Try.prog w = .ok v w' ∧ (∀ U, Below B U w → Below B U w') ∧ G6 B n l nn w w' ∧ ∀ g' : Nat → Value, g' 5 = v → V6 B n cap ao z fl l nn 5 g' w' := by
  obtain ⟨b, cs, fz, e3, hb, hle, hfz, hcs⟩ := h3
  obtain ⟨b4, fz4, e4, hb4⟩ := h4
  obtain ⟨i0, hi, hz0, hz1, hz2⟩ := info_parts b_u8
  have e41 : inB z (1 + n) = 41 := by unfold inB; rw [if_neg (by omega), Nat.add_sub_cancel_left, hz]
  have hnews : ∀ j u, [Value.int .u8 41][j]? = some u → w.cell? (Addr.add ⟨b4, 0, none⟩ j) = some u := fun j u hj => by
    have hj0 := (List.getElem?_eq_some_iff.1 hj).1
    obtain rfl : j = 0 := by simpa using hj0
    have hu : Value.int .u8 41 = u := by simpa using hj
    subst hu
    rw [Addr.add_lit, by_cell hb4.2]; rfl
  rw [e3, e4]
  by_cases hroom : 1 + n < cs.size
  · have hb0 : w.heap[b]? = some (.cells cs 5 (0, 0)) := by rw [← hfz hroom]; exact hb.2
    have hrun := run_append_room_cells (P := Try.prog) w 48 ty 5 i0 Try.underlying48 hi b 0 (1 + n) cs.size ⟨b4, 0, none⟩ 1 1 [.int .u8 41] (by rw [hz1]; rfl) hnews (by simp [Value.oneCell']) (by omega) (fun j hj => by
      obtain rfl : j = 0 := by simpa using hj
      rw [hz1, by_cell hb0, show 0 + (1 + n) * 1 + 0 = 1 + n by omega, Array.getElem?_eq_getElem hroom]; rfl) (fun j hj => by
      simp [World.frozen?, hb0])
    rw [hz1, show 0 + (1 + n) * 1 = 1 + n by omega] at hrun
    have hset : w.setCells b (1 + n) [.int .u8 41] = w.setCell ⟨b, 1 + n, none⟩ (.int .u8 41) := rfl
    rw [hset] at hrun
    refine ⟨_, _, hrun, fun U hU => hU.setCell (p := ⟨b, 1 + n, none⟩) hb.1 _, G6.byte hb0 hroom, fun g' hg => ⟨b, cs.size, _, (0, 0), by rw [hg, show 1 + n + 1 = 1 + (n + 1) by omega], ⟨hb.1, heap_setCell_same w b (1 + n) cs 5 (.int .u8 41) hb0⟩, fun i hi => ?_⟩⟩
    by_cases ei : 1 + n = i
    · subst ei
      rw [Array.getElem?_setIfInBounds_self_of_lt hroom, e41]; rfl
    · rw [Array.getElem?_setIfInBounds_ne ei]
      exact hcs i (by omega)
  · have hsz : cs.size = 1 + n := by omega
    obtain ⟨v', w', hrun, hown, hgr⟩ := run_append_arg_grows (P := Try.prog) w 48 ty 5 i0 _ 1 1 Try.underlying48 hi hz0 hz1 hz2 rfl (by decide) ⟨b, 0, none⟩ (1 + n) cs.size (byL (inB z) (1 + n)) (by rw [byL_len]; omega) (fun j u hj => by
        have hjn := (List.getElem?_eq_some_iff.1 hj).1
        rw [byL_len] at hjn
        rw [byL_get _ hjn] at hj
        cases hj
        rw [Addr.add_lit, by_cell hb.2, Nat.zero_add]
        exact hcs j hjn) ⟨b4, 0, none⟩ 1 1 [.int .u8 41] rfl hnews (by omega) (by unfold maxLen; omega) (by omega)
    have hbel := (Below.refl w.heap.size w).grown hgr (Nat.le_refl _) (fun q hq => by cases hq)
    obtain ⟨q, cs', hv, hq, hh, hk, hx⟩ := own_bytes hown (by omega)
    refine ⟨v', w', hrun, fun U hU => hU.trans (hbel.mono hB), G6.of_below hbel, fun g' hg => ⟨q, cs'.size, cs', (0, 0), by rw [hg, hv, show 1 + n + 1 = 1 + (n + 1) by omega], ⟨Nat.le_trans hB hq, hh⟩, fun i hi => ?_⟩⟩
    rw [hx i (by omega)]
    by_cases ei : i < 1 + n
    · rw [List.getElem?_append_left (by rw [byL_len]; exact ei)]
      exact byL_get _ ei
    · obtain rfl : i = 1 + n := by omega
      rw [List.getElem?_append_right (by rw [byL_len]; omega), byL_len, e41]
      simp
end
end Go.Proofs.Ytlmmiicibjfcdaa
