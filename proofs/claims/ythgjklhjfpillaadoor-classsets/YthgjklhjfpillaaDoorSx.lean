/- ClassSets: the operations of the law's region, each by itself. -/
import Derived.Test.YthgjklhjfpillaaDoorSd
import Derived.Test.YthgjklhjfpillaaDoorBg
namespace Go.Proofs.YthgjklhjfpillaaDoor
open Go.RowKit
section
variable {o : Oper} {a : Act} {w : World}
theorem ex_load {x : Operand} {b : Nat} {v0 v1 v2 v3 : Value} (h : o.op = .load 26 x) (hx : a.eval x = .pointer (some ⟨b, 0, none⟩)) (hb : Bx w b v0 v1 v2 v3) : (execOp a.eval o).run Tryd.prog w = .ok (.value (.agg #[v0, v1, v2, v3])) w := by
  obtain ⟨c0, c1, c2, c3, _⟩ := hb.cells
  unfold execOp
  rw [h]
  generalize a.eval = ρ at *
  simp [go_sem, hx, c0, c1, c2, c3]
theorem ex_slice {x y : Operand} {x0 x1 x2 x3 y0 y1 y2 y3 : Nat} (h : o.op = .buildSlice 37 2 #[(0, x), (1, y)]) (hx : a.eval x = .agg #[.int .u64 (x0 : Nat), .int .u64 (x1 : Nat), .int .u64 (x2 : Nat), .int .u64 (x3 : Nat)]) (hy : a.eval y = .agg #[.int .u64 (y0 : Nat), .int .u64 (y1 : Nat), .int .u64 (y2 : Nat), .int .u64 (y3 : Nat)]) :
    (execOp a.eval o).run Tryd.prog w = .ok (.value (.slice (some ⟨w.heap.size, 0, none⟩) 2 2)) (w.alloc (.cells #[.int .u64 (x0 : Nat), .int .u64 (x1 : Nat), .int .u64 (x2 : Nat), .int .u64 (x3 : Nat), .int .u64 (y0 : Nat), .int .u64 (y1 : Nat), .int .u64 (y2 : Nat), .int .u64 (y3 : Nat)] 26)) := by
  unfold execOp
  rw [h]
  generalize a.eval = ρ at *
  simp [go_sem, hx, hy]
theorem ex_build (h : o.op = .build 26 #[]) : (execOp a.eval o).run Tryd.prog w = .ok (.value (.agg #[.int .u64 0, .int .u64 0, .int .u64 0, .int .u64 0])) w := by
  unfold execOp
  rw [h]
  generalize a.eval = ρ at *
  simp [go_sem]
theorem ex_eql {x y : Operand} {P : Nat → Bool} (h : o.op = .binOp .eql 26 x y 26) (hx : a.eval x = clV P) (hy : a.eval y = clV P) : (execOp a.eval o).run Tryd.prog w = .ok (.value (.bool true)) w := by
  have e := eql4 (wdc P 0) (wdc P 1) (wdc P 2) (wdc P 3) (wdc P 0) (wdc P 1) (wdc P 2) (wdc P 3) w
  unfold execOp
  rw [h]
  generalize a.eval = ρ at *
  simp only [hx, hy]
  unfold clV
  simp only [beq_self_eq_true, Bool.and_self] at e
  generalize binOp BinOp.eql 26 _ _ = X at *
  simp [go_sem, e]
theorem ex_pick {x y : Operand} (h : o.op = .pick x y (.const (.bool false))) (hx : a.eval x = .bool true) (hy : a.eval y = .bool true) : (execOp a.eval o).run Tryd.prog w = .ok (.value (.bool true)) w := by
  unfold execOp
  rw [h]
  generalize a.eval = ρ at *
  simp [go_sem, hx, hy]
theorem ex_call {f : Operand} {args : Array Operand} {ts : Array TypeId} {g : Nat} (h : o.op = .call { callee := .value f, args := args, argTypes := ts }) (hf : a.eval f = .func (.func g) #[] #[]) (eg : ∀ args w, (callFunc g args).run Tryd.prog w = .ok (.enter g args) w) : (execOp a.eval o).run Tryd.prog w = .ok (.enter g (args.map a.eval)) w := by
  unfold execOp
  rw [h]
  generalize a.eval = ρ at *
  simp [go_sem, hf, resolve, invoke, eg]
end
/-- The slots that the region finds. -/
structure Fx (w0 : World) (a : Act) : Prop where
  size : a.tmps.size = 143
  defers : a.defers = []
  s3 : a.tmps.getD 3 undef = .pointer (some ⟨w0.heap.size, 0, none⟩)
  s4 : a.tmps.getD 4 undef = .pointer (some ⟨w0.heap.size + 1, 0, none⟩)
  s5 : a.tmps.getD 5 undef = .pointer (some ⟨w0.heap.size + 2, 0, none⟩)
  s7 : a.tmps.getD 7 undef = .func (.func 27) #[] #[]
  s8 : a.tmps.getD 8 undef = .func (.func 29) #[] #[]
  s9 : a.tmps.getD 9 undef = .func (.func 31) #[] #[]
theorem getD_put {a : Act} {d t : Nat} {v : Value} (h : d ≠ t) : (a.put (some d) v).tmps.getD t undef = a.tmps.getD t undef := by
  simp only [Act.put, Array.getD_eq_getD_getElem?, Array.getElem?_setIfInBounds_ne h]
theorem Fx.put {w0 : World} {a : Act} (h : Fx w0 a) {d : Nat} (hd : d = 6 ∨ 10 ≤ d) (v : Value) : Fx w0 (a.put (some d) v) :=
  ⟨by simpa [Act.put] using h.size, h.defers, by rw [getD_put (by omega)]; exact h.s3, by rw [getD_put (by omega)]; exact h.s4, by rw [getD_put (by omega)]; exact h.s5, by rw [getD_put (by omega)]; exact h.s7, by rw [getD_put (by omega)]; exact h.s8, by rw [getD_put (by omega)]; exact h.s9⟩
/-- The worlds of the region: the boxes of three classes, as they were laid. -/
structure CS (w0 : World) (A B C : Nat → Bool) (w : World) : Prop where
  bel : Below w0.heap.size w0 w
  b0 : Bx w w0.heap.size (.int .u64 (wdc A 0 : Nat)) (.int .u64 (wdc A 1 : Nat)) (.int .u64 (wdc A 2 : Nat)) (.int .u64 (wdc A 3 : Nat))
  b1 : Bx w (w0.heap.size + 1) (.int .u64 (wdc B 0 : Nat)) (.int .u64 (wdc B 1 : Nat)) (.int .u64 (wdc B 2 : Nat)) (.int .u64 (wdc B 3 : Nat))
  b2 : Bx w (w0.heap.size + 2) (.int .u64 (wdc C 0 : Nat)) (.int .u64 (wdc C 1 : Nat)) (.int .u64 (wdc C 2 : Nat)) (.int .u64 (wdc C 3 : Nat))
theorem CS.next {w0 w w' : World} {A B C : Nat → Bool} (h : CS w0 A B C w) (hb : Below w.heap.size w w') : CS w0 A B C w' :=
  ⟨h.bel.trans (hb.mono h.bel.size), h.b0.below hb, h.b1.below hb, h.b2.below hb⟩
theorem rdc_pair (W : World) (a b c d e f g h : Nat) : RdC (W.alloc (.cells #[.int .u64 (a : Nat), .int .u64 (b : Nat), .int .u64 (c : Nat), .int .u64 (d : Nat), .int .u64 (e : Nat), .int .u64 (f : Nat), .int .u64 (g : Nat), .int .u64 (h : Nat)] 26)) (some ⟨W.heap.size, 0, none⟩) 2 (fun i j => if i = 0 then (if j = 0 then a else if j = 1 then b else if j = 2 then c else d) else (if j = 0 then e else if j = 1 then f else if j = 2 then g else h)) := by
  refine ⟨fun _ => ⟨W.heap.size, 0, rfl, by simp, fun i hi j hj => ?_⟩⟩
  rw [cell_of_row _ W.heap.size (0 + i * 4 + j) _ 26 (0, 0) (heap_alloc_new W _)]
  have h1 : i = 0 ∨ i = 1 := by omega
  have h2 : j = 0 ∨ j = 1 ∨ j = 2 ∨ j = 3 := by omega
  rcases h1 with rfl | rfl <;> rcases h2 with rfl | rfl | rfl | rfl <;> rfl
theorem union_sl {A B C : Nat → Bool} {t u : Nat} {w : World} {v : Value} (h : IsSl w v (den A B C t) (den A B C u)) : Calls Tryd.prog 27 #[v] w fun e w' => e = .returned (clV (den A B C (t ||| u))) ∧ Below w.heap.size w w' := by
  obtain ⟨b, F, rfl, hr, h1, h2⟩ := h
  refine (union_any _ 2 2 F (fun i => if i = 0 then den A B C t else den A B C u) w hr (fun i hi => ?_) (by decide)).mono fun e w' h => ?_
  · have hi2 : i = 0 ∨ i = 1 := by omega
    rcases hi2 with rfl | rfl
    · exact h1
    · exact h2
  · have := retV h
    rw [show unN (fun i => if i = 0 then den A B C t else den A B C u) 2 = den A B C (t ||| u) by rw [← den_or]; funext x; simp [unN]] at this
    exact this
theorem meet_v {A B C : Nat → Bool} (t u : Nat) (w : World) : Calls Tryd.prog 29 #[clV (den A B C t), clV (den A B C u)] w fun e w' => e = .returned (clV (den A B C (t &&& u))) ∧ Below w.heap.size w w' :=
  (meet_c (wdc_is _) (wdc_is _) w).mono fun e w' h => by rw [← den_and]; exact retV h
theorem not_v {A B C : Nat → Bool} (t : Nat) (w : World) : Calls Tryd.prog 31 #[clV (den A B C t)] w fun e w' => e = .returned (clV (den A B C (255 ^^^ t))) ∧ Below w.heap.size w w' :=
  (not_c (wdc_is _) w).mono fun e w' h => by rw [← den_not]; exact retV h
theorem full_v {A B C : Nat → Bool} (w : World) : Calls Tryd.prog 14 #[] w fun e w' => e = .returned (clV (den A B C 255)) ∧ Below w.heap.size w w' :=
  (full_any w).mono fun e w' h => by rw [den_full]; exact retV h
section
variable {P : Program} {ops : Array Oper} {Q : Exit → Act → World → Prop} {i : Nat} {o : Oper} {a : Act} {w : World} {K : Act → World → Prop}
theorem map0 (ρ : Operand → Value) : Array.map ρ #[] = #[] := by simp
theorem map1 (ρ : Operand → Value) (x : Operand) : Array.map ρ #[x] = #[ρ x] := by simp
theorem map2 (ρ : Operand → Value) (x y : Operand) : Array.map ρ #[x, y] = #[ρ x, ρ y] := by simp
theorem eg9 (args : Array Value) (w : World) : (callFunc 9 args).run Tryd.prog w = .ok (.enter 9 args) w := enters_of Tryd.func9 (by kernel_rfl) rfl args w
theorem eg14 (args : Array Value) (w : World) : (callFunc 14 args).run Tryd.prog w = .ok (.enter 14 args) w := enters_of Tryd.func14 (by kernel_rfl) rfl args w
theorem eg27 (args : Array Value) (w : World) : (callFunc 27 args).run Tryd.prog w = .ok (.enter 27 args) w := enters_of Tryd.func27 (by kernel_rfl) rfl args w
theorem eg29 (args : Array Value) (w : World) : (callFunc 29 args).run Tryd.prog w = .ok (.enter 29 args) w := enters_of Tryd.func29 (by kernel_rfl) rfl args w
theorem eg31 (args : Array Value) (w : World) : (callFunc 31 args).run Tryd.prog w = .ok (.enter 31 args) w := enters_of Tryd.func31 (by kernel_rfl) rfl args w
theorem op_value {v : Value} {w' : World} (hi : ops[i]? = some o) (hw : Region.wanted o (yielded ops a.tmps) = true) (hr : (execOp a.eval o).run P w = .ok (.value v) w') (hK : K (a.put o.dst v) w') : wpOp P ops Q i K a w := by
  unfold wpOp
  simp only [hi, hw, if_true]
  left
  unfold Oper.wp
  rw [hr]
  exact hK
theorem op_call {f : FuncId} {args : Array Value} {v : Value} (hi : ops[i]? = some o) (hw : Region.wanted o (yielded ops a.tmps) = true) (hr : (execOp a.eval o).run P w = .ok (.enter f args) w) (hc : Calls P f args w fun e w' => e = .returned v ∧ Below w.heap.size w w') (hK : ∀ w', Below w.heap.size w w' → K (a.put o.dst v) w') : wpOp P ops Q i K a w := by
  unfold wpOp
  simp only [hi, hw, if_true]
  left
  unfold Oper.wp
  rw [hr, Oper.upon_enter]
  refine hc.mono ?_
  rintro e w' ⟨rfl, hb⟩
  exact hK w' hb
end
section
variable {ops : Array Oper} {Q : Exit → Act → World → Prop} {L : List (Nat × Nat × Nat)} {A B C : Nat → Bool} {w0 : World}
theorem ent_says {a : Act} {w : World} {after : Array Edge} (hF : Fx w0 a) (hdep : ∀ j, (∃ e ∈ after, Region.binds .any e = true ∧ e.on = j) → Says A B C (L.getD j (9, 0, 0)) (a.tmps.getD (10 + j) undef) w) (x : Operand) : Says A B C (ent L after x) (a.eval x) w := by
  cases x with
  | tmp t =>
    simp only [ent, Act.eval]
    split
    · rename_i h; subst h; exact ⟨by simp, fun _ => hF.s7, by simp, by simp⟩
    split
    · rename_i h; subst h; exact ⟨by simp, fun _ => hF.s8, by simp, by simp⟩
    split
    · rename_i h; subst h; exact ⟨by simp, fun _ => hF.s9, by simp, by simp⟩
    split
    · rename_i h
      rw [Bool.and_eq_true] at h
      obtain ⟨h10, hany⟩ := h
      have h10' : 10 ≤ t := by simpa using h10
      have := hdep (t - 10) (by
        rw [Array.any_eq_true'] at hany
        obtain ⟨e, he, hb⟩ := hany
        rw [Bool.and_eq_true] at hb
        exact ⟨e, he, hb.1, by simpa using hb.2⟩)
      rwa [show 10 + (t - 10) = t from Nat.add_sub_of_le h10'] at this
    · exact says_any
  | func f => exact ⟨by simp [ent], fun _ => rfl, by simp [ent], by simp [ent]⟩
  | const v => exact says_any
  | global g => exact says_any
set_option maxHeartbeats 1000000 in
theorem step_ok (hT : Tab w0) (hn : ops.size = 134) (hdst : ∀ (j : Nat) (oj : Oper), ops[j]? = some oj → oj.dst = some (slotOf j)) {i : Nat} {o : Oper} (ho : ops[i]? = some o) (hB : operB L i o = true) (a : Act) (w : World) (hC : CS w0 A B C w) (hF : Fx w0 a)
    (hd : ∀ (j : Nat) (oj : Oper) (d : Tmp), ops[j]? = some oj → oj.dst = some d → (∃ e ∈ o.after, Region.binds .any e = true ∧ e.on = j) → Says A B C (L.getD j (9, 0, 0)) (a.tmps.getD d undef) w) :
    wpOp Tryd.prog ops Q i (fun a' w' => ∃ v, a' = a.put o.dst v ∧ Says A B C (L.getD i (9, 0, 0)) v w' ∧ CS w0 A B C w' ∧ Below w.heap.size w w') a w := by
  have hi : i < 134 := by have := (Array.getElem?_eq_some_iff.1 ho).1; omega
  unfold operB at hB
  simp only [Bool.and_eq_true] at hB
  obtain ⟨⟨⟨hg, hop⟩, hds⟩, haf⟩ := hB
  have hon : ∀ e ∈ o.after, e.on < i := fun e he => by
    rw [Array.all_eq_true'] at haf
    simpa using haf e he
  have hdep : ∀ j, (∃ e ∈ o.after, Region.binds .any e = true ∧ e.on = j) → Says A B C (L.getD j (9, 0, 0)) (a.tmps.getD (10 + j) undef) w := fun j hj => by
    obtain ⟨e, he, hb, rfl⟩ := hj
    have hlt := hon e he
    have hoj : ops[e.on]? = some ops[e.on] := by simp
    have := hd e.on _ (10 + e.on) hoj (by rw [hdst _ _ hoj]; unfold slotOf; rw [if_neg (by omega)]) ⟨e, he, hb, rfl⟩
    exact this
  have hE := ent_says (L := L) (A := A) (B := B) (C := C) hF hdep
  have hw : Region.wanted o (yielded ops a.tmps) = true := by
    unfold guardB at hg
    unfold Region.wanted
    cases hgo : o.guard with
    | none => rfl
    | some p =>
      obtain ⟨j, b⟩ := p
      rw [hgo] at hg
      simp only [Bool.and_eq_true] at hg
      obtain ⟨⟨rfl, hL⟩, hany⟩ := hg
      rw [Array.any_eq_true'] at hany
      obtain ⟨e, he, hb⟩ := hany
      rw [Bool.and_eq_true] at hb
      obtain rfl : e.on = j := by simpa using hb.2
      have hlt := hon e he
      have hv := (hdep e.on ⟨e, he, hb.1, rfl⟩).t (by simpa using hL)
      have hoj : ops[e.on]? = some ops[e.on] := by simp
      have hdj := hdst _ _ hoj
      rw [show slotOf e.on = 10 + e.on by unfold slotOf; rw [if_neg (by omega)]] at hdj
      have hsz := hF.size
      have : yielded ops a.tmps e.on = some true := by
        unfold yielded
        rw [hoj]
        simp only [Option.bind_some, hdj]
        have hl2 : 10 + e.on < a.tmps.size := by omega
        rw [Array.getD_eq_getD_getElem?, Array.getElem?_eq_getElem hl2] at hv
        rw [Array.getElem?_eq_getElem hl2]
        simp only [Option.getD_some] at hv
        rw [hv]
      simp [this]
  have hbr : Below w.heap.size w w := Below.refl _ _
  generalize hr : L.getD i (9, 0, 0) = r at *
  unfold opB at hop
  split at hop
  · rename_i x hx
    have e : r = ent L o.after x := by simpa using hop
    exact op_value ho hw (BigFrame.run_move x hx w) ⟨_, rfl, e ▸ hE x, hC, hbr⟩
  · rename_i x hx
    have e : r = ent L o.after x := by simpa using hop
    exact op_value ho hw (BigFrame.run_assign x hx w) ⟨_, rfl, e ▸ hE x, hC, hbr⟩
  · rename_i k t hx
    simp only [Bool.or_eq_true, Bool.and_eq_true, beq_iff_eq] at hop
    obtain ⟨rfl, hop⟩ := hop
    rcases hop with (⟨rfl, rfl⟩ | ⟨rfl, rfl⟩) | ⟨rfl, rfl⟩
    · exact op_value ho hw (ex_load hx hF.s3 hC.b0) ⟨_, rfl, says_c (by rw [den_a]; rfl), hC, hbr⟩
    · exact op_value ho hw (ex_load hx hF.s4 hC.b1) ⟨_, rfl, says_c (by rw [den_b]; rfl), hC, hbr⟩
    · exact op_value ho hw (ex_load hx hF.s5 hC.b2) ⟨_, rfl, says_c (by rw [den_c]; rfl), hC, hbr⟩
  · rename_i k m ps hx
    simp only [Bool.and_eq_true, beq_iff_eq] at hop
    obtain ⟨⟨rfl, rfl⟩, hop⟩ := hop
    unfold slB at hop
    split at hop
    rotate_left
    · cases hop
    rename_i i' x j' y hl
    simp only [Bool.and_eq_true, beq_iff_eq] at hop
    obtain ⟨⟨⟨⟨rfl, rfl⟩, h1⟩, h2⟩, rfl⟩ := hop
    obtain rfl : ps = #[(0, x), (1, y)] := by cases ps; simp_all
    have hb := (Below.refl w.heap.size w).alloc (Nat.le_refl _) (.cells #[.int .u64 (wdc (den A B C (ent L o.after x).2.1) 0 : Nat), .int .u64 (wdc (den A B C (ent L o.after x).2.1) 1 : Nat), .int .u64 (wdc (den A B C (ent L o.after x).2.1) 2 : Nat), .int .u64 (wdc (den A B C (ent L o.after x).2.1) 3 : Nat), .int .u64 (wdc (den A B C (ent L o.after y).2.1) 0 : Nat), .int .u64 (wdc (den A B C (ent L o.after y).2.1) 1 : Nat), .int .u64 (wdc (den A B C (ent L o.after y).2.1) 2 : Nat), .int .u64 (wdc (den A B C (ent L o.after y).2.1) 3 : Nat)] 26)
    refine op_value ho hw (ex_slice hx ((hE x).c h1) ((hE y).c h2)) ⟨_, rfl, says_s ?_, hC.next hb, hb⟩
    exact ⟨_, _, rfl, rdc_pair w _ _ _ _ _ _ _ _, wdc_is _, wdc_is _⟩
  · rename_i k ps hx
    simp only [Bool.and_eq_true, beq_iff_eq] at hop
    obtain ⟨⟨rfl, hps⟩, rfl⟩ := hop
    obtain rfl : ps = #[] := by cases ps; simp_all
    exact op_value ho hw (ex_build hx) ⟨_, rfl, says_c (by rw [den_none]; exact clV_of c4_none), hC, hbr⟩
  · rename_i k x y m hx
    simp only [Bool.and_eq_true, beq_iff_eq] at hop
    obtain ⟨⟨⟨⟨⟨rfl, rfl⟩, h1⟩, h2⟩, h3⟩, h4⟩ := hop
    obtain ⟨r1, r2, r3⟩ := r
    obtain rfl : r1 = 0 := h4
    exact op_value ho hw (ex_eql hx ((hE x).c h1) (by rw [h3]; exact (hE y).c h2)) ⟨_, rfl, says_t, hC, hbr⟩
  · rename_i x y b hx
    simp only [Bool.and_eq_true, beq_iff_eq, Bool.not_eq_true'] at hop
    obtain ⟨⟨⟨rfl, h1⟩, h2⟩, h4⟩ := hop
    obtain ⟨r1, r2, r3⟩ := r
    obtain rfl : r1 = 0 := h4
    exact op_value ho hw (ex_pick hx ((hE x).t h1) ((hE y).t h2)) ⟨_, rfl, says_t, hC, hbr⟩
  · rename_i f xs ts hx
    have hf := hE f
    unfold callB at hop
    split at hop
    · rename_i q he hl
      rw [he] at hf
      obtain ⟨r1, r2, r3⟩ := r
      obtain rfl : r1 = 0 := by simpa using hop
      refine op_call ho hw (ex_call (g := 9) hx (hf.f rfl) eg9) ?_ fun w' hb => ⟨_, rfl, says_t, hC.next hb, hb⟩
      rw [show xs = #[] by cases xs; simp_all, map0]
      exact begun_any w (hT.below hC.bel)
    · rename_i q he hl
      rw [he] at hf
      obtain rfl : r = (2, 255, 0) := by simpa using hop
      refine op_call ho hw (ex_call (g := 14) hx (hf.f rfl) eg14) ?_ fun w' hb => ⟨_, rfl, says_c rfl, hC.next hb, hb⟩
      rw [show xs = #[] by cases xs; simp_all, map0]
      exact full_v w
    · rename_i q x he hl
      rw [he] at hf
      simp only [Bool.and_eq_true, beq_iff_eq] at hop
      obtain ⟨h1, rfl⟩ := hop
      refine op_call ho hw (ex_call (g := 27) hx (hf.f rfl) eg27) ?_ fun w' hb => ⟨_, rfl, says_c rfl, hC.next hb, hb⟩
      rw [show xs = #[x] by cases xs; simp_all, map1]
      exact union_sl ((hE x).s h1)
    · rename_i q x y he hl
      rw [he] at hf
      simp only [Bool.and_eq_true, beq_iff_eq] at hop
      obtain ⟨⟨h1, h2⟩, rfl⟩ := hop
      refine op_call ho hw (ex_call (g := 29) hx (hf.f rfl) eg29) ?_ fun w' hb => ⟨_, rfl, says_c rfl, hC.next hb, hb⟩
      rw [show xs = #[x, y] by cases xs; simp_all, map2, (hE x).c h1, (hE y).c h2]
      exact meet_v _ _ w
    · rename_i q x he hl
      rw [he] at hf
      simp only [Bool.and_eq_true, beq_iff_eq] at hop
      obtain ⟨h1, rfl⟩ := hop
      refine op_call ho hw (ex_call (g := 31) hx (hf.f rfl) eg31) ?_ fun w' hb => ⟨_, rfl, says_c rfl, hC.next hb, hb⟩
      rw [show xs = #[x] by cases xs; simp_all, map1, (hE x).c h1]
      exact not_v _ w
    · cases hop
  · cases hop
end
end Go.Proofs.YthgjklhjfpillaaDoor
