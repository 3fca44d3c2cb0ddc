/- Two classes held against each other. Text: the walk. -/
import Derived.Test.YtkbeiadbolihiaaDoorM03It
import Derived.ChangeKeysEq
import Derived.Deep.RegionWith
import Derived.Deep.RegionHeld3
import Derived.Deep.DeepCutAuto
namespace Go.Proofs.YtkbeiadbolihiaaDoor
open Go.RowKit
theorem part0 (x y z t : Value) (w : World) : (part 22 #[x, y, z, t] (0 * Tryd.prog.cellsOf 22)).run Tryd.prog w = .ok x w := by kernel_rfl
theorem part1 (x y z t : Value) (w : World) : (part 22 #[x, y, z, t] (1 * Tryd.prog.cellsOf 22)).run Tryd.prog w = .ok y w := by kernel_rfl
theorem part2 (x y z t : Value) (w : World) : (part 22 #[x, y, z, t] (2 * Tryd.prog.cellsOf 22)).run Tryd.prog w = .ok z w := by kernel_rfl
theorem part3 (x y z t : Value) (w : World) : (part 22 #[x, y, z, t] (3 * Tryd.prog.cellsOf 22)).run Tryd.prog w = .ok t w := by kernel_rfl
theorem eq24 (m : Nat) (x y : Int) (w : World) : (Op.equalIn (m + 1) 22 (.int .u64 x) (.int .u64 y)).run Tryd.prog w = .ok (x == y) w := by
  simp [Op.equalIn, run_underlying Tryd.underlying22]
/-- Two arrays held against each other. -/
theorem eql4 (a b c d a' b' c' d' : Int) (w : World) : (Go.binOp .eql 24 (.agg #[.int .u64 a, .int .u64 b, .int .u64 c, .int .u64 d]) (.agg #[.int .u64 a', .int .u64 b', .int .u64 c', .int .u64 d'])).run Tryd.prog w = .ok (.bool (a == a' && b == b' && c == c' && d == d')) w := by
  obtain ⟨j, hj, _⟩ := Option.map_eq_some_iff.1 (show (Tryd.prog.info? 22).map (·.size) = some 1 by kernel_rfl)
  have h : (Op.equalIn (9999 + 1) 24 (.agg #[.int .u64 a, .int .u64 b, .int .u64 c, .int .u64 d]) (.agg #[.int .u64 a', .int .u64 b', .int .u64 c', .int .u64 d'])).run Tryd.prog w = .ok (a == a' && b == b' && c == c' && d == d') w := by
    rw [run_equalIn_array w 9999 _ _ Tryd.underlying24 hj, show List.range 4 = [0, 1, 2, 3] from rfl]
    simp only [Op.eqItems, Sem.run_bind, part0, Result.andThen_ok, eq24 9998]
    cases a == a'
    · simp only [Bool.not_false, if_true, Sem.run_pure, Bool.false_and]
    simp only [Bool.not_true, Bool.false_eq_true, if_false, Sem.run_bind, part1, Result.andThen_ok, eq24 9998, Bool.true_and]
    cases b == b'
    · simp only [Bool.not_false, if_true, Sem.run_pure, Bool.false_and]
    simp only [Bool.not_true, Bool.false_eq_true, if_false, Sem.run_bind, part2, Result.andThen_ok, eq24 9998, Bool.true_and]
    cases c == c'
    · simp only [Bool.not_false, if_true, Sem.run_pure, Bool.false_and]
    simp only [Bool.not_true, Bool.false_eq_true, if_false, Sem.run_bind, part3, Result.andThen_ok, eq24 9998, Bool.true_and]
    cases d == d'
    · simp only [Bool.not_false, if_true, Sem.run_pure]
    simp only [Bool.not_true, Bool.false_eq_true, if_false, Sem.run_pure]
  simp only [binOp]
  simp only [Op.equal, Op.maxDepth, Sem.run_bind, h, Result.andThen_ok]
  simp
/-- Whether two classes have the same bytes. -/
def eqC (P Q : Nat → Bool) : Bool := (List.range 256).all fun x => P x == Q x
theorem eqC_iff (P Q : Nat → Bool) : eqC P Q = true ↔ ∀ x, x < 256 → P x = Q x := by
  unfold eqC
  simp
theorem eq4_iff {P Q : Nat → Bool} {a b c d a' b' c' d' : Nat} (h : C4 P a b c d) (k : C4 Q a' b' c' d') : ((a : Int) == a' && (b : Int) == b' && (c : Int) == c' && (d : Int) == d') = eqC P Q := by
  rw [Bool.eq_iff_iff, eqC_iff]
  simp only [Bool.and_eq_true, beq_iff_eq, Int.ofNat_inj]
  constructor
  · rintro ⟨⟨⟨rfl, rfl⟩, rfl⟩, rfl⟩ x hx
    by_cases h0 : x < 64
    · rw [← h.ha x h0, k.ha x h0]
    by_cases h1 : x < 128
    · have e : 64 + (x - 64) = x := by omega
      rw [← e, ← h.hb (x - 64) (by omega), k.hb (x - 64) (by omega)]
    by_cases h2 : x < 192
    · have e : 128 + (x - 128) = x := by omega
      rw [← e, ← h.hc (x - 128) (by omega), k.hc (x - 128) (by omega)]
    · have e : 192 + (x - 192) = x := by omega
      rw [← e, ← h.hd (x - 192) (by omega), k.hd (x - 192) (by omega)]
  · intro e
    obtain ⟨h1, h2, h3, h4⟩ := (h.congr e).uniq k
    exact ⟨⟨⟨h1, h2⟩, h3⟩, h4⟩
end Go.Proofs.YtkbeiadbolihiaaDoor
namespace Go.Proofs.YtkbeiadbolihiaaDoor
open Go.RowKit Go.Shelf
attribute [local go_sem] Oper.semAt_some
theorem rd_one (W : World) (k : Nat) (hk : k < 256) : Rd (W.alloc (.cells #[.int .u8 (k : Nat)] 5)) (some ⟨W.heap.size, 0, none⟩) 1 (fun _ => k) := by
  refine ⟨fun _ _ => hk, fun _ => ⟨W.heap.size, 0, rfl, by simp, fun i hi => ?_⟩⟩
  obtain rfl : i = 0 := by omega
  rw [cell_of_row _ W.heap.size (0 + 0) _ 5 (0, 0) (heap_alloc_new W _)]
  rfl
theorem Rd.drew {w : World} {ao : Option Addr} {len : Nat} {z : Nat → Nat} (h : Rd w ao len z) : Rd w.drew ao len z := h.below (Below.refl _ _).drew
/-- What Of of one byte leaves, for the test whether a class is that byte alone. -/
structure One (q : Bool) (a b c d : Nat) (w : World) (e : Ending) (w2 : World) : Prop where
  ex : ∃ a' b' c' d' : Nat, e = .returned (.agg #[.int .u64 (a' : Nat), .int .u64 (b' : Nat), .int .u64 (c' : Nat), .int .u64 (d' : Nat)]) ∧ (∀ w, (Go.binOp .eql 24 (.agg #[.int .u64 (a : Nat), .int .u64 (b : Nat), .int .u64 (c : Nat), .int .u64 (d : Nat)]) (.agg #[.int .u64 (a' : Nat), .int .u64 (b' : Nat), .int .u64 (c' : Nat), .int .u64 (d' : Nat)])).run Tryd.prog w = .ok (.bool q) w) ∧
    (w2.cell? ⟨w.heap.size, 0, none⟩ = some (.int .u64 (a : Nat)) ∧ w2.cell? ⟨w.heap.size, 1, none⟩ = some (.int .u64 (b : Nat)) ∧ w2.cell? ⟨w.heap.size, 2, none⟩ = some (.int .u64 (c : Nat)) ∧ w2.cell? ⟨w.heap.size, 3, none⟩ = some (.int .u64 (d : Nat))) ∧
    Hid (Bx w2 w.heap.size (.int .u64 (a : Nat)) (.int .u64 (b : Nat)) (.int .u64 (c : Nat)) (.int .u64 (d : Nat))) ∧ Hid (Below w.heap.size w w2)
theorem of_one {P : Nat → Bool} {a b c d k : Nat} {w w1 : World} (h4 : C4 P a b c d) (hx : Bx w1 w.heap.size (.int .u64 (a : Nat)) (.int .u64 (b : Nat)) (.int .u64 (c : Nat)) (.int .u64 (d : Nat))) (hB : Below w.heap.size w w1) (hk : k < 256) :
    Calls Tryd.prog 38 #[.slice (some ⟨w1.heap.size, 0, none⟩) 1 1] (w1.alloc (.cells #[.int .u8 (k : Nat)] 5)).drew (One (eqC P (ofN (fun _ => k) 1)) a b c d w) := by
  refine (of_any _ 1 1 (fun _ => k) _ (rd_one _ _ hk).drew (by decide)).mono ?_
  rintro e w2 ⟨⟨a', b', c', d', rfl, h4'⟩, hb2⟩
  have hx2 : Bx w2 w.heap.size (.int .u64 (a : Nat)) (.int .u64 (b : Nat)) (.int .u64 (c : Nat)) (.int .u64 (d : Nat)) := (hx.alloc _).drew.below hb2
  obtain ⟨g0, g1, g2, g3, _⟩ := hx2.cells
  exact ⟨a', b', c', d', rfl, fun w => by rw [eql4, eq4_iff h4 h4'], ⟨g0, g1, g2, g3⟩, hx2, ((hB.alloc hB.size _).drew).trans (hb2.mono (by have := hB.size; simp; omega))⟩
/-- The text of a class. -/
def brk (P : Nat → Bool) : List UInt8 := [91] ++ ((rs P 257).1.flatMap fun r => runB r.1 r.2) ++ [93]
def oneB (P : Nat → Bool) : Bool := match (List.range 256).find? P with
  | some k => eqC P (ofN (fun _ => k) 1)
  | none => false
def textB (P : Nat → Bool) : List UInt8 := match (List.range 256).find? P with
  | some k => if eqC P (ofN (fun _ => k) 1) then litB k else brk P
  | none => brk P
/-- A run that may be. -/
abbrev Rn : Type := { p : Nat × Nat // p.1 ≤ p.2 ∧ p.2 < 256 }
def flat (l : List Rn) : List UInt8 := l.flatMap fun r => runB r.1.1 r.1.2
theorem flat_eq (l : List Rn) : flat l = (l.map (·.1)).flatMap fun r => runB r.1 r.2 := by
  unfold flat; rw [List.flatMap_map]
theorem runB_len (lo hi : Nat) : (runB lo hi).length ≤ 9 := by
  have h1 := innB_len lo
  have h2 := innB_len hi
  unfold runB
  split
  · omega
  · split
    · rw [List.length_append]; omega
    · rw [List.length_append, List.length_append]; simp; omega
theorem flat_len (l : List Rn) : (flat l).length ≤ 9 * l.length := by
  unfold flat
  induction l with
  | nil => simp
  | cons r l ih =>
    have := runB_len r.1.1 r.1.2
    rw [List.flatMap_cons, List.length_append, List.length_cons]; omega
theorem flat_snoc (l : List Rn) (r : Rn) : flat (l ++ [r]) = flat l ++ runB r.1.1 r.1.2 := by
  unfold flat; simp
/-- All cells but block b's and the rows of bytes are as they were. -/
def KeepC (b : Nat) (W W' : World) : Prop := ∀ k cs t fz, W.heap[k]? = some (.cells cs t fz) → k ≠ b → t ≠ 5 → W'.heap[k]? = some (.cells cs t fz)
theorem KeepC.trans {b : Nat} {A B C : World} (h : KeepC b A B) (k : KeepC b B C) : KeepC b A C := fun i cs t fz hi hn ht => k i cs t fz (h i cs t fz hi hn ht) hn ht
theorem KeepC.put {b : Nat} (W : World) (l : Nat) (o o' : Obj) (h : W.heap[l]? = some o) (ho : o.isCells = false) : KeepC b W (W.putObj l o') := fun k cs t fz hk _ _ => by
  rw [World.putObj_heap_other (fun e => ?_)]
  · exact hk
  · subst e; rw [h] at hk; cases hk; cases ho
theorem KeepC.of {b : Nat} {W W' : World} (h : Lib.OthersKept 5 (some b) W W') : KeepC b W W' := fun k cs t fz hk hn ht => h k _ hk (by simpa using hn) (fun c fz e => by cases e; exact ht rfl)
theorem KeepC.below {b : Nat} {W W' : World} (h : Below W.heap.size W W') : KeepC b W W' := fun k cs t fz hk _ _ => by
  rw [h.block k (Array.getElem?_eq_some_iff.1 hk).1]; exact hk
theorem builder_grown {B b : Nat} {p : Value} {bs : List Value} {W W' : World} {row : Option Nat} (h : Lib.BuilderAt 76 5 B b p bs W) (hg : W.grownBy W' row) (hr : ∀ r, row = some r → ∃ o : Obj, W.heap[r]? = some o ∧ o.isCells = false) : Lib.BuilderAt 76 5 B b p bs W' := by
  have hlt := h.lt
  obtain ⟨hB, v, hb, hown, hne⟩ := h
  refine ⟨hB, v, ?_, hown.kept hg ?_, hne⟩
  · rw [hg.block b hlt (fun e => ?_)]
    · exact hb
    · obtain ⟨o, ho, hc⟩ := hr b e.symm
      rw [hb] at ho; cases ho; cases hc
  · rcases hown.2 with ⟨rfl, _⟩ | ⟨g, cap, cur, rfl, _, hgb, _⟩
    · exact .inl rfl
    · refine .inr fun e => ?_
      obtain ⟨o, ho, hc⟩ := hr g (by simpa [Value.ownBlock] using e.symm)
      rw [hgb] at ho; cases ho; cases hc
theorem builder_own {β : Type} (B b : Nat) (p : Value) (f : β → List Value) : Go.Own (fun s W => Lib.BuilderAt 76 5 B b p (f s) W) := fun _ _ _ _ h hg hr => builder_grown h hg hr
theorem builder_below {B b : Nat} {p : Value} {bs : List Value} {W W' : World} (h : Lib.BuilderAt 76 5 B b p bs W) (hb : Below W.heap.size W W') : Lib.BuilderAt 76 5 B b p bs W' :=
  builder_grown h (grown_below hb) (fun r e => by cases e)
theorem builder_new (W : World) : Lib.IsBuilder 76 5 W.heap.size W.heap.size [] (W.alloc (.cells #[.pointer none, .slice none 0 0] 76)) :=
  .inl ⟨Nat.le_refl _, .slice none 0 0, heap_alloc_new W _, World.ownsRow_nil _ _ _ _, by simp [Value.ownBlock]⟩
theorem keeps_of {B b : Nat} {bs cs : List Value} {p : Value} {W W' : World} (hb : Lib.BuilderAt 76 5 B b p bs W) (h : Wrote B b cs W W') : KeepsOthers W W' :=
  ⟨h.bel.size, fun k o hk ho => h.kept k o hk (fun e => by
    cases e
    obtain ⟨_, v, hbk, _⟩ := hb
    rw [hbk] at hk; cases hk; cases ho) (fun c fz e => by subst e; cases ho)⟩
theorem cells_app (l m : List UInt8) : Lib.byteCells l ++ Lib.strCells ⟨m.toArray⟩ = Lib.byteCells (l ++ m) := by
  simp [Lib.byteCells, Lib.strCells]
theorem cells_one (l : List UInt8) (c : UInt8) (z : Int) (h : z = c.toNat) : Lib.byteCells l ++ [.int .u8 z] = Lib.byteCells (l ++ [c]) := by
  subst h; simp [Lib.byteCells]
theorem bx_keep {b k : Nat} {x y z t : Value} {W W' : World} (h : KeepC b W W') (hx : Bx W k x y z t) (hn : k ≠ b) : Bx W' k x y z t := h k _ 24 (0, 0) hx hn (by decide)
theorem runs_seq {P : Nat → Bool} {a b c d : Nat} {nb bc l : Nat} {w4 W : World} {J Jx : List Rn → World → Prop} (h4 : C4 P a b c d) (hx : Bx w4 bc (.int .u64 (a : Nat)) (.int .u64 (b : Nat)) (.int .u64 (c : Nat)) (.int .u64 (d : Nat))) (hne : bc ≠ nb) (hW : Below w4.heap.size w4 W) (hA : AbidesFrom W.heap.size J)
    (hY : ∀ (pre : List Rn) (x : Rn) W1, J pre W1 → pre.length < 257 → YieldAt Fence.wide (5 - 1 - 1) Tryd.prog l #[.int .u8 (x.1.1 : Nat), .int .u8 (x.1.2 : Nat)] W1 fun e W' =>
      (e = .returned (.bool true) ∧ J (pre ++ [x]) W' ∧ KeepC nb W1 W') ∨ (e = .returned (.bool false) ∧ Jx (pre ++ [x]) W')) (h0 : J [] W) :
    CallsIn Fence.wide (5 - 1) Tryd.prog 66 (#[.func (.yield l) #[] #[]] ++ #[.pointer (some ⟨bc, 0, none⟩)]) W fun e W' => (∃ v, e = .returned v) ∧ ((∃ ys : List Rn, ys.map (·.1) = (rs P 257).1 ∧ J ys W') ∨ (∃ pre, True ∧ Jx pre W')) := by
  have := runsIt_in 4 l bc W.heap.size h4 (KeepC nb) (fun pre W => ∃ p : List Rn, p.map (·.1) = pre ∧ J p W) (fun pre W => ∃ p : List Rn, p.map (·.1) = pre ∧ Jx p W) (by decide)
    (fun s X Y row ⟨p, hp, hj⟩ hg hr => ⟨p, hp, hA p X Y row hj hg hr⟩) (fun X Y hk hb => bx_keep hk hb hne) (fun pre x X hj hlen h1 h2 => by
      obtain ⟨p, hp, hj⟩ := hj
      obtain ⟨fn, tmps, assign, body, hy, hR⟩ := hY p ⟨x, h1, h2⟩ X hj (by rw [← hp] at hlen; simpa using hlen)
      refine ⟨fn, tmps, assign, body, hy, hR.mono ?_⟩
      rintro e X' (⟨he, hj', hk⟩ | ⟨he, hj'⟩)
      · exact .inl ⟨he, ⟨_, by simp [hp], hj'⟩, hk⟩
      · exact .inr ⟨he, ⟨_, by simp [hp], hj'⟩⟩) W (hx.below hW) ⟨[], rfl, h0⟩
  refine this.mono ?_
  rintro e X ⟨hv, ⟨ys, hys, p, hp, hj⟩ | ⟨pre, _, p, hp, hj⟩⟩
  · exact ⟨hv, .inl ⟨p, by rw [hp, hys], hj⟩⟩
  · exact ⟨hv, .inr ⟨p, trivial, hj⟩⟩
theorem keeps_below {W W' : World} (h : Below W.heap.size W W') : KeepsOthers W W' := ⟨h.size, fun k o hk _ => by rw [h.block k (Array.getElem?_eq_some_iff.1 hk).1]; exact hk⟩
/-- Behind the call of First. -/
structure Fst (w : World) (P : Nat → Bool) (a b c d : Nat) (t3 t4 : Value) (wx : World) : Prop where
  bx : Bx wx w.heap.size (.int .u64 (a : Nat)) (.int .u64 (b : Nat)) (.int .u64 (c : Nat)) (.int .u64 (d : Nat))
  bel : Below w.heap.size w wx
  ex : (∃ k : Nat, k < 256 ∧ t3 = .int .u8 (k : Nat) ∧ t4 = .bool true ∧ (List.range 256).find? P = some k) ∨ (t3 = .int .u8 0 ∧ t4 = .bool false ∧ (List.range 256).find? P = none)
theorem find_some {P : Nat → Bool} {k : Nat} (hk : k < 256) (h : P k = true) (hm : ∀ j, j < k → P j = false) : (List.range 256).find? P = some k := by
  rw [List.find?_range_eq_some]
  exact ⟨h, List.mem_range.2 hk, fun j hj => by rw [hm j hj]; rfl⟩
theorem find_none {P : Nat → Bool} (h : ∀ j, j < 256 → P j = false) : (List.range 256).find? P = none := by
  rw [List.find?_range_eq_none]
  intro j hj
  rw [h j hj]; rfl
set_option maxRecDepth 100000 in
set_option maxHeartbeats 4000000 in
theorem text_c {P : Nat → Bool} {a b c d : Nat} (h4 : C4 P a b c d) (w : World) (hT : Tab w) : Calls Tryd.prog 36 #[.agg #[.int .u64 (a : Nat), .int .u64 (b : Nat), .int .u64 (c : Nat), .int .u64 (d : Nat)]] w (RetS w (textB P)) := by
  have hB0 : Below w.heap.size w (w.alloc (.cells #[.int .u64 (a : Nat), .int .u64 (b : Nat), .int .u64 (c : Nat), .int .u64 (d : Nat)] 24)) := (Below.refl _ _).alloc (Nat.le_refl _) _
  have bx := Bx.new w (.int .u64 (a : Nat)) (.int .u64 (b : Nat)) (.int .u64 (c : Nat)) (.int .u64 (d : Nat))
  refine (callsIn_wide (n := 5)).1 ?_
  refine callsIn_of_wp_marks Tryd.func36 rfl trivial ?_ rfl
  simp only [Tryd.ntmps36, List.size_toArray, List.length_cons, List.length_nil, Nat.reduceAdd, Nat.reduceSub, Array.replicate_succ, Array.replicate_zero, List.push_toArray, List.append_toArray, List.nil_append, List.cons_append]
  refine wpIn_wide.2 ?_
  go_upto_region 1 with fail
  go_cut [3, 4] from 3 to 12 (fun t3 t4 wx => Fst w P a b c d t3 t4 wx)
  case first =>
    go_wp2_with (go_at_call 37; refine (first_c h4 _ (hT.below hB0)).mono ?_; rintro e w1 ⟨(⟨k, hk, rfl, hPk, hmin⟩ | ⟨rfl, hno⟩), hb⟩)
    · go_meet
      exact ⟨bx.below hb, hB0.trans (hb.mono (by simp)), .inl ⟨k, hk, rfl, rfl, find_some hk hPk hmin⟩⟩
    · go_meet
      exact ⟨bx.below hb, hB0.trans (hb.mono (by simp)), .inr ⟨rfl, rfl, find_none hno⟩⟩
  case rest =>
    obtain ⟨hx1, hB1, hex⟩ := hcut
    clear bx hB0 hT
    go_upto_region 2 with fail
    go_cut [20] from 13 to 20 (fun t wx => t = .bool (oneB P) ∧ Bx wx w.heap.size (.int .u64 (a : Nat)) (.int .u64 (b : Nat)) (.int .u64 (c : Nat)) (.int .u64 (d : Nat)) ∧ Below w.heap.size w wx)
    case first =>
      rename_i J' K' hJ' hK'
      refine Code.wp_mono (Q := Exit.then K' (fun _ _ _ => False)) (fun e a w h => by cases e <;> first | exact h | exact False.elim h) ?_
      rcases hex with ⟨k, hk, rfl, rfl, hf⟩ | ⟨rfl, rfl, hf⟩
      · have e : eqC P (ofN (fun _ => k) 1) = oneB P := by unfold oneB; rw [hf]
        obtain ⟨c0, c1, c2, c3, _⟩ := hx1.cells
        have hc : wc.drew.cell? ⟨w.heap.size, 0, none⟩ = some (.int .u64 (a : Nat)) ∧ wc.drew.cell? ⟨w.heap.size, 1, none⟩ = some (.int .u64 (b : Nat)) ∧ wc.drew.cell? ⟨w.heap.size, 2, none⟩ = some (.int .u64 (c : Nat)) ∧ wc.drew.cell? ⟨w.heap.size, 3, none⟩ = some (.int .u64 (d : Nat)) := ⟨c0, c1, c2, c3⟩
        obtain ⟨c4, c5, c6, c7, _⟩ := (hx1.alloc (.cells #[.int .u8 (k : Nat)] 5)).cells
        have hca : (wc.alloc (.cells #[.int .u8 (k : Nat)] 5)).drew.cell? ⟨w.heap.size, 0, none⟩ = some (.int .u64 (a : Nat)) ∧ (wc.alloc (.cells #[.int .u8 (k : Nat)] 5)).drew.cell? ⟨w.heap.size, 1, none⟩ = some (.int .u64 (b : Nat)) ∧ (wc.alloc (.cells #[.int .u8 (k : Nat)] 5)).drew.cell? ⟨w.heap.size, 2, none⟩ = some (.int .u64 (c : Nat)) ∧ (wc.alloc (.cells #[.int .u8 (k : Nat)] 5)).drew.cell? ⟨w.heap.size, 3, none⟩ = some (.int .u64 (d : Nat)) := ⟨c4, c5, c6, c7⟩
        have hO := of_one h4 hx1 hB1 hk
        rw [e] at hO
        clear hf
        go_region_held3 (fun w' => w'.cell? ⟨w.heap.size, 0, none⟩ = some (.int .u64 (a : Nat)) ∧ w'.cell? ⟨w.heap.size, 1, none⟩ = some (.int .u64 (b : Nat)) ∧ w'.cell? ⟨w.heap.size, 2, none⟩ = some (.int .u64 (c : Nat)) ∧ w'.cell? ⟨w.heap.size, 3, none⟩ = some (.int .u64 (d : Nat))) (first | exact hc | exact hca) (first | (go_at_call 38; refine hO.mono ?_; rintro e w2 hO2; clear hc; obtain ⟨a', b', c', d', rfl, hq, hc, hx2, hB2⟩ := hO2.ex; clear hO2))
        all_goals go_wp2_with fail
        all_goals go_meet
        all_goals exact ⟨rfl, hx2.out, hB2.out⟩
      · have e : oneB P = false := by unfold oneB; rw [hf]
        obtain ⟨c0, c1, c2, c3, _⟩ := hx1.cells
        go_region
        all_goals go_wp2_with fail
        all_goals go_meet
        all_goals exact ⟨by rw [e], hx1.drew, hB1.drew⟩
    case rest =>
      obtain ⟨rfl, hx2, hB2⟩ := hcut
      cases hq : oneB P with
      | true =>
        rcases hex with ⟨k, hk, rfl, rfl, hf⟩ | ⟨rfl, rfl, hf⟩
        · have e : textB P = litB k := by
            unfold oneB at hq
            rw [hf] at hq
            unfold textB
            rw [hf]
            simp only [hq, if_true]
          have hl := literal_any k wc hk
          rw [← e] at hl
          clear hf e
          go_wp2_with (go_at_call 22; refine hl.mono ?_; rintro e w3 ⟨rfl, hb3⟩)
          exact ⟨_, results_tmp rfl _ _ _, rfl, hB2.trans (hb3.mono hB2.size)⟩
        · unfold oneB at hq; rw [hf] at hq; cases hq
      | false =>
        have e : textB P = brk P := by
          unfold oneB at hq
          unfold textB
          split <;> simp_all
        have hn := hx2.lt
        have hb0 := builder_new wc
        have hB3 : Below w.heap.size w (wc.alloc (.cells #[.pointer none, .slice none 0 0] 76)) := hB2.alloc hB2.size _
        have hw1 := writeByte_any wc.heap.size wc.heap.size [] 91 _ hb0 (by simp) (by simp)
        go_wp2_with (go_at_call 51; refine hw1.mono ?_; rintro e1 w3 ⟨rfl, hw3⟩; (have hx3 := (hx2.alloc (.cells #[.pointer none, .slice none 0 0] 76)).belowB hw3.bel hn); obtain ⟨c0, c1, c2, c3, f0, f1, f2, f3⟩ := hx3.cells)
        refine (runs_mk a b c d w3).mono ?_
        rintro e2 w4 ⟨rfl, hx4, hb4⟩
        have his : Lib.BuilderAt 76 5 wc.heap.size wc.heap.size (.pointer (some ⟨wc.heap.size, 0, none⟩)) (Lib.byteCells ([91] ++ flat [])) w4 := builder_below hw3.is hb4
        have hB4 : Below w.heap.size w w4 := (hB3.trans (hw3.bel.mono (by omega))).trans (hb4.mono (by have := hw3.bel.size; simp at this; omega))
        have hsz : wc.heap.size < w3.heap.size := hw3.is.lt
        go_wp2_with fail
        refine (wpIn_wide (n := 5)).1 ?_
        have hsz4 := hb4.size
        have hb5 : Below wc.heap.size w3 w4 := hb4.mono (by omega)
        refine wpIn_rangeFunc_ownG (n := 5) rfl (by decide) (gf := 66) (lb := #[.pointer (some ⟨w3.heap.size, 0, none⟩)]) rfl trivial (enters_of Tryd.func66 (by kernel_rfl) rfl)
          (w0 := w4) (encs := fun x : Rn => #[Value.int .u8 (x.1.1 : Nat), Value.int .u8 (x.1.2 : Nat)]) (Kp := KeepC wc.heap.size) (S := fun ys => ys.map (·.1) = (rs P 257).1) (Sp := fun _ => True) (N := 257)
          (fun l J Jx W hW hA _ hY h0 => runs_seq h4 hx4 (by omega) hW hA hY h0)
          KeepC.trans (fun W l o o' _ h ho _ => KeepC.put W l o o' h ho) (Below.refl _ _) (fun _ => rfl)
          (fun pre W => Lib.BuilderAt 76 5 wc.heap.size wc.heap.size (.pointer (some ⟨wc.heap.size, 0, none⟩)) (Lib.byteCells ([91] ++ flat pre)) W ∧ Below wc.heap.size w4 W)
          (fun _ _ _ => False)
          (OwnFrom.and (Own.from (builder_own _ _ _ _) _) (ownFrom_below (by omega) (by omega)))
          (fun _ _ _ _ _ hs _ _ => hs)
          ⟨his, Below.refl _ _⟩
          (fun x => { tmps := #[.agg #[.int .u64 (a : Nat), .int .u64 (b : Nat), .int .u64 (c : Nat), .int .u64 (d : Nat)], .pointer (some ⟨w.heap.size, 0, none⟩), .string ⟨#[]⟩, u3, u4, .pointer (some ⟨wc.heap.size, 0, none⟩), .int .u8 (x.1.1 : Nat), .int .u8 (x.1.2 : Nat), u8, u9, u10, u11, u12, u13, u14, u15, u16, u17, u18, u19, .bool false, undef, undef, .nilIface, .agg #[.int .u64 (a : Nat), .int .u64 (b : Nat), .int .u64 (c : Nat), .int .u64 (d : Nat)], .func (.func 66) #[] #[.pointer (some ⟨w3.heap.size, 0, none⟩)], .int .u8 (x.1.1 : Nat), .int .u8 (x.1.2 : Nat), undef, undef, undef, undef, undef, undef], defers := [] }) ?assign ?body ?done ?stop
        case assign =>
          intro l x W K hK
          gi_wp2
          exact hK
        case body =>
          rintro l pre x W ⟨hbu, hBW⟩ hlt
          have hrt := runText_any x.1.1 x.1.2 W x.2.1 x.2.2
          have hszW := hBW.size
          have hfl := flat_len pre
          gi_wp2_with (first | (refine ⟨trivial, ?_⟩; gi_at_call 54; refine (CallsIn.inRound l (callsIn_wide.2 hrt)).mono ?_; rintro e1 w5 ⟨rfl, hb5'⟩; have hbu5 := builder_below hbu hb5'; have hsz5 := hb5'.size; have hws := writeString_any wc.heap.size wc.heap.size _ ⟨(runB x.1.1 x.1.2).toArray⟩ w5 (.inr hbu5) (by have := runB_len x.1.1 x.1.2; rw [Lib.byteCells_length, size_str, List.length_append]; simp; omega) (by omega)) | (refine ⟨trivial, ?_⟩; gi_at_call 53; refine (CallsIn.inRound l (callsIn_wide.2 hws)).mono ?_; rintro e2 w6 ⟨rfl, hw6⟩))
          refine ⟨((keeps_below hb5').trans (keeps_of hbu5 hw6)).from _, (KeepC.below hb5').trans (KeepC.of hw6.kept), ?_, (hBW.trans (hb5'.mono (by omega))).trans hw6.bel⟩
          have := hw6.is
          rw [cells_app, List.append_assoc, ← flat_snoc] at this
          exact this
        case done =>
          rintro D ys W hD hys ⟨hbu, hBW⟩ hK
          have hszW := hBW.size
          have hyl : ys.length ≤ 257 := by have := rs_len P 257; rw [← hys] at this; simpa using this
          have hfl := flat_len ys
          have hwb := writeByte_any wc.heap.size wc.heap.size _ 93 W (.inr hbu) (by rw [Lib.byteCells_length, List.length_append]; simp; omega) (by omega)
          rw [cells_one _ 93 93 rfl] at hwb
          gi_wp2
          go_wp2_with (first | (go_at_call 51; refine hwb.mono ?_; rintro e1 w5 ⟨rfl, hw5⟩; (have hst := Tryd.Builder_String_any_k wc.heap.size wc.heap.size _ w5 (Lib.IsBuilderF.of (.inr hw5.is)) (by have := hw5.bel.size; omega))) | (go_at_call 55; refine hst.mono ?_; rintro e2 w6 ⟨rfl, hf6, hb6, hk6⟩))
          have hK5 : w5.heap[D]? = some (.deferred (some [])) := hw5.kept D _ hK (by simp; omega) (fun c fz e => by cases e)
          have hK6 : w6.heap[D]? = some (.deferred (some [])) := hk6 D _ hK5 (by simp; omega) (fun c fz e => by cases e)
          have ht : textB P = [91] ++ flat ys ++ [93] := by rw [e, flat_eq, hys]; rfl
          refine ⟨by simp, .inl ⟨_, _, rfl, run_takeDeferred hK6, ?_⟩⟩
          rw [ht]
          exact ⟨_, results_tmp rfl _ _ _, rfl, ((hB4.trans (hBW.mono (by omega))).trans ((hw5.bel.trans hb6).mono (by omega))).trans (belowK_b (w := w) (Nat.le_refl _) w6 D _ _ (by have := hB2.size; omega) hK6 rfl rfl)⟩
        case stop =>
          rintro D c pre W _ _ h _
          exact h.elim
end Go.Proofs.YtkbeiadbolihiaaDoor
