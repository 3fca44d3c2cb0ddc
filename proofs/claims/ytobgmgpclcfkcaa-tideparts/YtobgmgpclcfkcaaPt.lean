/- TideParts: the walk. -/
import Derived.Test.YtobgmgpclcfkcaaKg
import Derived.Test.YtobgmgpclcfkcaaGs
import Derived.Test.YtobgmgpclcfkcaaPp
import Derived.Deep.AppendLies
namespace Go.Proofs.Ytobgmgpclcfkcaa
open Go.RowKit Go.Shelf
set_option maxRecDepth 100000 in
set_option maxHeartbeats 4000000 in
/-- Of inputs that the law passes by. -/
theorem parts_out {a b c d : Nat} {lo g : Int} (w : World) (ao bo zo : Option Addr) (n m l ca cb lc : Nat) (h : 200 < (n : Int) ∨ 200 < (m : Int) ∨ 200 < (l : Int)) :
    Calls Try.prog 7 #[tdV a b c d lo, stV g, .slice ao n ca, .slice bo m cb, .slice zo l lc] w fun e w' => e = .returned (.bool true) ∧ Below w.heap.size w w' := by
  have hT := B2.start w a b c d lo g
  have HB : Hid (∀ W, Calls Try.prog 9 #[] W fun e w' => e = .returned (.bool true) ∧ Below W.heap.size W w') := fun W => begun_any W
  unfold w2 tdO stO at hT
  unfold tdV at *
  by_cases hn : 200 < (n : Int)
  · clear h
    go_enter Try.func7, Try.ntmps7
    go_wp2_with (go_at_call 9; refine (HB.out _).mono ?_; rintro e w1 ⟨rfl, hb1⟩; replace hT := hT.next hb1)
    go_ret
    exact ⟨rfl, hT.bel⟩
  by_cases hm : 200 < (m : Int)
  · clear h
    go_enter Try.func7, Try.ntmps7
    go_wp2_with (go_at_call 9; refine (HB.out _).mono ?_; rintro e w1 ⟨rfl, hb1⟩; replace hT := hT.next hb1)
    go_ret
    exact ⟨rfl, hT.bel⟩
  have hl : 200 < (l : Int) := by
    rcases h with h | h | h
    · exact absurd h hn
    · exact absurd h hm
    · exact h
  clear h
  go_enter Try.func7, Try.ntmps7
  go_wp2_with (go_at_call 9; refine (HB.out _).mono ?_; rintro e w1 ⟨rfl, hb1⟩; replace hT := hT.next hb1)
  go_ret
  exact ⟨rfl, hT.bel⟩
/-- What the loop over the triggers holds on to. -/
structure PtI (w : World) (a b c d : Nat) (lo g : Int) (l1 : List Int) (v1 : Value) (l2 : List Int) (v2 : Value) (W : World) : Prop where
  b2 : B2 w a b c d lo g W
  o1 : RowL (w.heap.size + 2) W v1 l1
  o2 : RowL (w.heap.size + 2) W v2 l2
  ap : ∀ k, v1.ownBlock = some k → v2.ownBlock ≠ some k
theorem PtI.app1 {w : World} {a b c d : Nat} {lo g : Int} {l1 l2 : List Int} {v1 v2 : Value} {W w3 : World} {x : Int} {k cap : Nat} (h : PtI w a b c d lo g l1 v1 l2 v2 W) {o : Obj} (hown' : w3.ownsRow (w.heap.size + 2) 3 1 (.slice (some ⟨k, 0, none⟩) (l1.length + 1) cap) (l1.length + 1) (intsL l1 ++ [.int .i64 x])) (hgrow : (W.alloc o).grownBy w3 v1.ownBlock) (hk : v1.ownBlock = some k ∨ k = W.heap.size + 1) :
    PtI w a b c d lo g (l1 ++ [x]) (.slice (some ⟨k, 0, none⟩) (l1.length + 1) cap) l2 v2 w3 := by
  have hlt := h.b2.s.lt
  have hb0 : Below W.heap.size W (W.alloc o) := (Below.refl _ _).alloc (Nat.le_refl _) o
  have hbw : Below (w.heap.size + 2) (W.alloc o) w3 := (Below.refl _ _).grown hgrow (by simp; omega) (fun j e => (h.o1.lt j e).1)
  have h2 := h.b2.next hb0
  refine ⟨⟨Cl.belowB h2.t hbw (by omega), Cl.belowB h2.s hbw (by omega), h2.bel.trans (hbw.mono (by omega))⟩, ?_, ?_, ?_⟩
  · unfold RowL; simpa [intsL] using hown'
  · exact World.ownsRow.kept (World.ownsRow.alloc h.o2 o) hgrow (by
      rcases hv : v2.ownBlock with _ | j
      · exact .inl rfl
      · refine .inr fun e => ?_
        exact h.ap j e.symm hv)
  · intro j hj e
    obtain rfl : k = j := by simpa [Value.ownBlock] using hj
    rcases hk with hk | hk
    · exact h.ap k hk e
    · have := (h.o2.lt k e).2; omega
theorem PtI.app2 {w : World} {a b c d : Nat} {lo g : Int} {l1 l2 : List Int} {v1 v2 : Value} {W w3 : World} {x : Int} {k cap : Nat} (h : PtI w a b c d lo g l1 v1 l2 v2 W) {o : Obj} (hown' : w3.ownsRow (w.heap.size + 2) 3 1 (.slice (some ⟨k, 0, none⟩) (l2.length + 1) cap) (l2.length + 1) (intsL l2 ++ [.int .i64 x])) (hgrow : (W.alloc o).grownBy w3 v2.ownBlock) (hk : v2.ownBlock = some k ∨ k = W.heap.size + 1) :
    PtI w a b c d lo g l1 v1 (l2 ++ [x]) (.slice (some ⟨k, 0, none⟩) (l2.length + 1) cap) w3 := by
  have hlt := h.b2.s.lt
  have hb0 : Below W.heap.size W (W.alloc o) := (Below.refl _ _).alloc (Nat.le_refl _) o
  have hbw : Below (w.heap.size + 2) (W.alloc o) w3 := (Below.refl _ _).grown hgrow (by simp; omega) (fun j e => (h.o2.lt j e).1)
  have h2 := h.b2.next hb0
  refine ⟨⟨Cl.belowB h2.t hbw (by omega), Cl.belowB h2.s hbw (by omega), h2.bel.trans (hbw.mono (by omega))⟩, ?_, ?_, ?_⟩
  · exact World.ownsRow.kept (World.ownsRow.alloc h.o1 o) hgrow (by
      rcases hv : v1.ownBlock with _ | j
      · exact .inl rfl
      · refine .inr fun e => ?_
        exact h.ap j hv e.symm)
  · unfold RowL; simpa [intsL] using hown'
  · intro j hj e
    obtain rfl : k = j := by simpa [Value.ownBlock] using e
    rcases hk with hk | hk
    · exact h.ap k hj hk
    · have := (h.o1.lt k hj).2; omega
/-- A box is kept where a row of numbers grows. -/
theorem StAt.grown {W w3 : World} {o : Obj} {p : Nat} {x : Int} {B : Nat} {v : Value} {l : List Int} (h : StAt W p x) (hr : RowL B W v l) (hg : (W.alloc o).grownBy w3 v.ownBlock) : StAt w3 p x := by
  have h1 := h.alloc o
  have hl := h1.lt
  unfold StAt Cl at h1 ⊢
  rw [hg.block p hl ?_]
  · exact h1
  · intro e
    obtain ⟨_, _, cur, hh⟩ := own_block hr e.symm
    unfold StAt Cl at h
    rw [h] at hh
    injection hh with hh
    injection hh with _ h2 _
    exact absurd h2 (by decide)
/-- What the last loop holds on to. -/
structure CbI (w : World) (px py : Nat) (Y : Int) (l1 l2 l3 : List Int) (va vb vl : Value) (W : World) : Prop where
  ra : RowL w.heap.size W va l1
  rb : RowL 0 W vb l2
  rl : RowL 0 W vl l3
  ab : ∀ j, va.ownBlock = some j → vb.ownBlock ≠ some j
  al : ∀ j, va.ownBlock = some j → vl.ownBlock ≠ some j
  x : StAt W px Y
  y : StAt W py Y
  bel : Below w.heap.size w W
theorem CbI.next {w : World} {px py : Nat} {Y : Int} {l1 l2 l3 : List Int} {va vb vl : Value} {W W' : World} (h : CbI w px py Y l1 l2 l3 va vb vl W) (hb : Below W.heap.size W W') : CbI w px py Y l1 l2 l3 va vb vl W' :=
  ⟨ownsRow_below h.ra hb, ownsRow_below h.rb hb, ownsRow_below h.rl hb, h.ab, h.al, h.x.below hb, h.y.below hb, h.bel.trans (hb.mono h.bel.size)⟩
theorem CbI.app {w : World} {px py : Nat} {Y : Int} {l1 l2 l3 : List Int} {va vb vl : Value} {W w3 : World} {x : Int} {k cap : Nat} (h : CbI w px py Y l1 l2 l3 va vb vl W) {o : Obj} (hown' : w3.ownsRow w.heap.size 3 1 (.slice (some ⟨k, 0, none⟩) (l1.length + 1) cap) (l1.length + 1) (intsL l1 ++ [.int .i64 x])) (hgrow : (W.alloc o).grownBy w3 va.ownBlock) (hk : va.ownBlock = some k ∨ k = W.heap.size + 1) :
    CbI w px py Y (l1 ++ [x]) l2 l3 (.slice (some ⟨k, 0, none⟩) (l1.length + 1) cap) vb vl w3 := by
  have hbs := h.bel.size
  have hbw : Below w.heap.size w w3 := (h.bel.alloc hbs o).grown hgrow (by simp; omega) (fun j e => (h.ra.lt j e).1)
  refine ⟨?_, ?_, ?_, ?_, ?_, h.x.grown h.ra hgrow, h.y.grown h.ra hgrow, hbw⟩
  · unfold RowL; simpa [intsL] using hown'
  · exact World.ownsRow.kept (World.ownsRow.alloc h.rb o) hgrow (by
      rcases hv : vb.ownBlock with _ | j
      · exact .inl rfl
      · exact .inr fun e => h.ab j e.symm hv)
  · exact World.ownsRow.kept (World.ownsRow.alloc h.rl o) hgrow (by
      rcases hv : vl.ownBlock with _ | j
      · exact .inl rfl
      · exact .inr fun e => h.al j e.symm hv)
  · intro j hj e
    obtain rfl : k = j := by simpa [Value.ownBlock] using hj
    rcases hk with hk | hk
    · exact h.ab k hk e
    · have := (h.rb.lt k e).2; omega
  · intro j hj e
    obtain rfl : k = j := by simpa [Value.ownBlock] using hj
    rcases hk with hk | hk
    · exact h.al k hk e
    · have := (h.rl.lt k e).2; omega
theorem cmb_yes {A : List Int} {n : Nat} {B : List Int} {k : Nat} (h : 0 < B.getD k 0 ∨ amL (cmb A n B k) n = false) : cmb A n B (k + 1) = cmb A n B k ++ [B.getD k 0 + n] := by
  show (if 0 < B.getD k 0 ∨ amL (cmb A n B k) n = false then _ else _) = _
  rw [if_pos h]
theorem cmb_no {A : List Int} {n : Nat} {B : List Int} {k : Nat} (h : ¬ (0 < B.getD k 0 ∨ amL (cmb A n B k) n = false)) : cmb A n B (k + 1) = cmb A n B k := by
  show (if 0 < B.getD k 0 ∨ amL (cmb A n B k) n = false then _ else _) = _
  rw [if_neg h]
theorem ownsRow_base5 {W : World} {base base' e size k : Nat} {v : Value} {xs : List Value} (h : W.ownsRow base e size v k xs) (hb : base' ≤ base) : W.ownsRow base' e size v k xs :=
  ⟨h.1, h.2.imp id fun ⟨g, cap, cur, hv, hg, r⟩ => ⟨g, cap, cur, hv, Nat.le_trans hb hg, r⟩⟩
/-- A row of numbers is kept where a box is written. -/
theorem RowL.box {B : Nat} {W : World} {v : Value} {l : List Int} {p : Nat} {x y : Int} (h : RowL B W v l) (hp : StAt W p x) : RowL B (W.setCell ⟨p, 0, none⟩ (.int .i64 y)) v l :=
  ⟨h.1, h.2.imp id fun ⟨g, cap, cur, hv, hg, hh, r⟩ => ⟨g, cap, cur, hv, hg, by
    rw [Below.heap_setCell _ _ _ _ (fun e => by
      subst e
      unfold StAt Cl at hp
      rw [hp] at hh
      injection hh with hh
      injection hh with _ h2 _
      exact absurd h2 (by decide))]
    exact hh, r⟩⟩
theorem Ans.mk' {V : Nat → (Nat → Value) → World → Prop} {C : World → Prop} {G : World → World → Prop} {o : Oper} {i : Nat} {g : Nat → Value} {w : World} {b a' : Act} {w' : World} {Q : Exit → Act → World → Prop} (v : Value) (h1 : a' = b.put o.dst v) (h2 : ∀ g' : Nat → Value, g' i = v → (∀ e ∈ o.after, Region.binds .any e = true → g' e.on = g e.on) → V i g' w') (hC : C w') (hG : G w w') : Qk Q (Ans V C G o i g w b) .normal a' w' :=
  ⟨v, h1, h2, hC, hG⟩
/-- What each operation answers. -/
def V15 (a b c d : Nat) (lo sg : Int) (ao bo zo : Option Addr) (n m l ca cb lc : Nat) (f f2 : Nat → Nat) (Y : Int) (L : List Int) (BB : Nat) (j : Nat) (g : Nat → Value) (w : World) : Prop :=
  match j with
  | 0 => g 0 = .agg #[.int .u64 (a : Nat), .int .u64 (b : Nat), .int .u64 (c : Nat), .int .u64 (d : Nat), .int .i64 lo]
  | 1 => g 1 = .agg #[.int .i64 sg]
  | 2 => g 2 = .slice ao n ca
  | 3 => g 3 = .slice bo m cb
  | 4 => ∃ b : Nat, g 4 = .slice (some ⟨b, 0, none⟩) 2 2 ∧ Bk BB w b 38 #[.slice ao n ca, .slice bo m cb]
  | 5 => ∃ so cap, g 5 = .slice so (n + m) cap ∧ w.ownsRow BB 5 1 (.slice so (n + m) cap) (n + m) (bts (cat2 f n f2) (n + m))
  | 6 => g 6 = .slice zo l lc
  | 7 => ∃ v : Value, g 7 = .tuple #[.agg #[.int .i64 Y], v] ∧ RowL BB w v L
  | 8 => ∃ v : Value, g 8 = .tuple #[.agg #[.int .i64 Y], v] ∧ RowL BB w v L
  | 9 => g 9 = .agg #[.int .i64 Y]
  | 10 => RowL BB w (g 10) L
  | 11 => ∃ b : Nat, g 11 = .pointer (some ⟨b, 0, none⟩) ∧ Bo BB w b 28 1
  | 12 => ∃ b : Nat, g 11 = .pointer (some ⟨b, 0, none⟩) ∧ Bs (fun t cs => t = 28 ∧ cs = #[.int .i64 Y]) BB w b 28
  | 13 => RowL BB w (g 13) L
  | _ => True
theorem V15.keep (a b c d : Nat) (lo sg : Int) (ao bo zo : Option Addr) (n m l ca cb lc : Nat) (f f2 : Nat → Nat) (Y : Int) (L : List Int) (BB : Nat) (j : Nat) (g : Nat → Value) (w w' : World) (hv : V15 a b c d lo sg ao bo zo n m l ca cb lc f f2 Y L BB j g w) (h : Gy (fun t => t == 28) (fun _ => false) (fun t cs => t = 28 ∧ cs = #[.int .i64 Y]) w w') : V15 a b c d lo sg ao bo zo n m l ca cb lc f f2 Y L BB j g w' := by
  match j, hv with
  | 0, hv =>
    exact hv
  | 1, hv =>
    exact hv
  | 2, hv =>
    exact hv
  | 3, hv =>
    exact hv
  | 4, hv =>
    obtain ⟨b, e, hb⟩ := hv
    exact ⟨b, e, hb.keepy h rfl⟩
  | 5, hv =>
    obtain ⟨so, cap, e, hr⟩ := hv
    exact ⟨so, cap, e, ownsRow_gy hr h rfl rfl⟩
  | 6, hv =>
    exact hv
  | 7, hv =>
    obtain ⟨v, e, hr⟩ := hv
    exact ⟨v, e, ownsRow_gy hr h rfl rfl⟩
  | 8, hv =>
    obtain ⟨v, e, hr⟩ := hv
    exact ⟨v, e, ownsRow_gy hr h rfl rfl⟩
  | 9, hv =>
    exact hv
  | 10, hv =>
    exact ownsRow_gy hv h rfl rfl
  | 11, hv =>
    obtain ⟨b, e, hb⟩ := hv
    exact ⟨b, e, hb.keepy h rfl⟩
  | 12, hv =>
    obtain ⟨b, e, hb⟩ := hv
    exact ⟨b, e, hb.keepy h rfl⟩
  | 13, hv =>
    exact ownsRow_gy hv h rfl rfl
  | _ + 14, _ => trivial
def V15N (e j : Nat) : Bool := (e == 11 && j == 12)
theorem V15.same (a b c d : Nat) (lo sg : Int) (ao bo zo : Option Addr) (n m l ca cb lc : Nat) (f f2 : Nat → Nat) (Y : Int) (L : List Int) (BB : Nat) (j : Nat) (g g' : Nat → Value) (w : World) (h0 : g' j = g j) (h1 : ∀ e, V15N e j = true → g' e = g e) (hv : V15 a b c d lo sg ao bo zo n m l ca cb lc f f2 Y L BB j g w) : V15 a b c d lo sg ao bo zo n m l ca cb lc f f2 Y L BB j g' w := by
  match j, hv, h0, h1 with
  | 0, hv, h0, _ => unfold V15 at hv ⊢; rw [h0]; exact hv
  | 1, hv, h0, _ => unfold V15 at hv ⊢; rw [h0]; exact hv
  | 2, hv, h0, _ => unfold V15 at hv ⊢; rw [h0]; exact hv
  | 3, hv, h0, _ => unfold V15 at hv ⊢; rw [h0]; exact hv
  | 4, hv, h0, _ => unfold V15 at hv ⊢; rw [h0]; exact hv
  | 5, hv, h0, _ => unfold V15 at hv ⊢; rw [h0]; exact hv
  | 6, hv, h0, _ => unfold V15 at hv ⊢; rw [h0]; exact hv
  | 7, hv, h0, _ => unfold V15 at hv ⊢; rw [h0]; exact hv
  | 8, hv, h0, _ => unfold V15 at hv ⊢; rw [h0]; exact hv
  | 9, hv, h0, _ => unfold V15 at hv ⊢; rw [h0]; exact hv
  | 10, hv, h0, _ => unfold V15 at hv ⊢; rw [h0]; exact hv
  | 11, hv, h0, _ => unfold V15 at hv ⊢; rw [h0]; exact hv
  | 12, hv, _, h1 => unfold V15 at hv ⊢; rw [h1 11 (by decide)]; exact hv
  | 13, hv, h0, _ => unfold V15 at hv ⊢; rw [h0]; exact hv
  | _ + 14, _, _, _ => trivial
set_option maxRecDepth 100000 in
set_option maxHeartbeats 8000000 in
theorem parts_in {a b c d : Nat} {lo g : Int} {P : Nat → Bool} (w : World) (ao bo zo : Option Addr) (n m l ca cb lc : Nat) (f f2 : Nat → Nat) (z : Nat → Int) (hn : ¬ 200 < (n : Int)) (hm : ¬ 200 < (m : Int)) (hl : ¬ 200 < (l : Int)) (hP : C4 P a b c d) (hf : RdB w ao n f) (hf2 : RdB w bo m f2) (hz : RdI w zo l z) :
    Calls Try.prog 7 #[tdV a b c d lo, stV g, .slice ao n ca, .slice bo m cb, .slice zo l lc] w fun e w' => e = .returned (.bool true) ∧ Below w.heap.size w w' := by
  obtain ⟨i0, hi, hz0, hz1, hz2⟩ := info_parts Try.info3'
  have hT := B2.start w a b c d lo g
  unfold w2 tdO stO at hT
  obtain ⟨a', b', c', d', lo', P', hlo, -, hP', HE, -, HE', -, -⟩ := eff_of lo hP
  obtain ⟨X, Y, A, B, L, e1, e2, e3, e4, e5, e6, e7, e8, hA, hB, hL, hBr, -, -⟩ := parts_pure (P := P') (lo := lo') z l f f2 (clS lo' g) n m (clS_ge _ _) (clS_le _ (by omega))
  have HB : Hid (∀ W, Calls Try.prog 9 #[] W fun e w' => e = .returned (.bool true) ∧ Below W.heap.size W w') := fun W => begun_any W
  have hfl := fsL_len n (n + m) z l
  have hsl := sdL_len n (n + m) z l
  have R1 : Hid (∀ W fo fc, Below w.heap.size w W → RdI W fo (fsL n (n + m) z l).length (fun i => (fsL n (n + m) z l).getD i 0) → Calls Try.prog 21 #[.agg #[.int .u64 (a : Nat), .int .u64 (b : Nat), .int .u64 (c : Nat), .int .u64 (d : Nat), .int .i64 lo], .agg #[.int .i64 g], .slice ao n ca, .slice fo (fsL n (n + m) z l).length fc] W (RetRun W X A)) := by
    intro W fo fc hW hr
    have := run_t g W ao n ca f fo _ fc _ HE HE' hP' hlo (hf.below hW) (by omega) hr (by omega)
    rw [show among (fun i => (fsL n (n + m) z l).getD i 0) (fsL n (n + m) z l).length = amL (fsL n (n + m) z l) from rfl, e1, e2] at this
    exact this
  have R2 : Hid (∀ W fo fc, Below w.heap.size w W → RdI W fo (sdL n (n + m) z l).length (fun i => (sdL n (n + m) z l).getD i 0) → Calls Try.prog 21 #[.agg #[.int .u64 (a : Nat), .int .u64 (b : Nat), .int .u64 (c : Nat), .int .u64 (d : Nat), .int .i64 lo], .agg #[.int .i64 X], .slice bo m cb, .slice fo (sdL n (n + m) z l).length fc] W (RetRun W Y B)) := by
    intro W fo fc hW hr
    have := run_t X W bo m cb f2 fo _ fc _ HE HE' hP' hlo (hf2.below hW) (by omega) hr (by omega)
    rw [show among (fun i => (sdL n (n + m) z l).getD i 0) (sdL n (n + m) z l).length = amL (sdL n (n + m) z l) from rfl, e3, e4, e5] at this
    exact this
  have R3 : Hid (∀ W fo fc, Below w.heap.size w W → RdB W fo (n + m) (cat2 f n f2) → Calls Try.prog 21 #[.agg #[.int .u64 (a : Nat), .int .u64 (b : Nat), .int .u64 (c : Nat), .int .u64 (d : Nat), .int .i64 lo], .agg #[.int .i64 g], .slice fo (n + m) fc, .slice zo l lc] W (RetRun W Y L)) := by
    intro W fo fc hW hr
    have := run_t g W fo (n + m) fc (cat2 f n f2) zo l lc z HE HE' hP' hlo hr (by omega) (hz.below hW) (by omega)
    rw [e6, e7] at this
    exact this
  have E8 := Hid.mk' e8
  clear e1 e2 e3 e4 e5 e6 e7 e8 HE HE' hP' hP hlo
  unfold tdV at *
  go_enter Try.func7, Try.ntmps7
  go_upto_region 4 with (go_at_call 9; refine (HB.out _).mono ?_; rintro e w1 ⟨rfl, hb1⟩; replace hT := hT.next hb1; clear hb1)
  have hI : PtI w a b c d lo g [] (.slice none 0 0) [] (.slice none 0 0) w1 := ⟨hT, World.ownsRow_nil _ _ _ _, World.ownsRow_nil _ _ _ _, fun k h => by cases h⟩
  clear hT
  go_wp2_with fail
  go_loopw [11, 12, 42] (fun v1 v2 i wr => ∃ k : Nat, k ≤ l ∧ i = .int .i64 k ∧ PtI w a b c d lo g (fsL n (n + m) z k) v1 (sdL n (n + m) z k) v2 wr) (fun _ _ i _ => l - (intOf i).toNat)
  case atStart => exact ⟨0, Nat.zero_le _, rfl, hI⟩
  case round =>
    clear hI
    obtain ⟨k, hk, rfl, hI⟩ := hrel
    by_cases hlt : k < l
    · have hki : (k : Int) < (l : Int) := by omega
      obtain ⟨bb, off, hzo, hbl, hcz⟩ := (hz.below hI.b2.bel) (by omega)
      have t1 := hcz k hlt
      subst hzo
      have hfk := fsL_len n (n + m) z k
      have hsk := sdL_len n (n + m) z k
      have HF1 : Hid (0 ≤ z k ∧ z k ≤ (n : Int) + m ∧ z k ≤ n → fsL n (n + m) z (k + 1) = fsL n (n + m) z k ++ [z k]) := fun h => fsL_yes (by omega)
      have HF0 : Hid (¬ (0 ≤ z k ∧ z k ≤ (n : Int) + m ∧ z k ≤ n) → fsL n (n + m) z (k + 1) = fsL n (n + m) z k) := fun h => fsL_no (by omega)
      have HS1 : Hid (0 ≤ z k ∧ z k ≤ (n : Int) + m ∧ (n : Int) ≤ z k → sdL n (n + m) z (k + 1) = sdL n (n + m) z k ++ [z k - n]) := fun h => sdL_yes (by omega)
      have HS0 : Hid (¬ (0 ≤ z k ∧ z k ≤ (n : Int) + m ∧ (n : Int) ≤ z k) → sdL n (n + m) z (k + 1) = sdL n (n + m) z k) := fun h => sdL_no (by omega)
      clear hcz
      obtain ⟨x, hx⟩ : ∃ x, z k = x := ⟨_, rfl⟩
      rw [hx] at t1 HF1 HF0 HS1 HS0
      clear hx
      have hnm : IntKind.i64.wrap ((n : Int) + m) = (n : Int) + m := wrapi64_in _ (by omega) (by omega)
      by_cases h0 : x < 0
      · have f0 := HF0.out (by omega)
        have s0 := HS0.out (by omega)
        have FS := Hid.mk' (And.intro f0 s0)
        clear HF1 HF0 HS1 HS0 f0 s0
        go_wp2_with fail
        go_roundw
        case rel => exact ⟨k + 1, by omega, by go_num, by rw [FS.out.1, FS.out.2]; exact hI⟩
        case measure => simp [intOf]; omega
      by_cases h1 : (n : Int) + m < x
      · have f0 := HF0.out (by omega)
        have s0 := HS0.out (by omega)
        have FS := Hid.mk' (And.intro f0 s0)
        clear HF1 HF0 HS1 HS0 f0 s0
        go_wp2_with fail
        go_roundw
        case rel => exact ⟨k + 1, by omega, by go_num, by rw [FS.out.1, FS.out.2]; exact hI⟩
        case measure => simp [intOf]; omega
      by_cases h2 : x ≤ (n : Int)
      · have f1 := HF1.out ⟨by omega, by omega, h2⟩
        by_cases h3 : x = (n : Int)
        · have s1 := HS1.out ⟨by omega, by omega, by omega⟩
          have FS := Hid.mk' (And.intro f1 s1)
          have h3' : (n : Int) ≤ x := by omega
          have hxw : IntKind.i64.wrap (x - n) = x - n := wrapi64_in _ (by omega) (by omega)
          clear HF1 HF0 HS1 HS0 f1 s1 h3
          have hmm := hI.b2.s.lt
          generalize fsL n (n + m) z k = L1 at *
          generalize sdL n (n + m) z k = L2 at *
          go_wp2_with (first
            | (at_builtin; (fail_if_success (have hx := hI6)); refine wpList_append_lies _ rfl _ _ 39 rfl (w.heap.size + 2) 3 i0 (.int .i64 0) 1 8 Try.underlying39 hi hz0 hz1 hz2 rfl (by decide) _ _ _ rfl (World.ownsRow.alloc hI.o1 _) ⟨wr.heap.size, 0, none⟩ 1 1 [.int .i64 x] rfl rfl (cell_one_new _ _ _) (by simp [Value.oneCell']) (by decide) (by unfold maxLen; omega) (by omega) (by simp; omega) (wr.heap.size + 1) (by simp) ?_; intro gk capk w6 hown' hgrow hkk _; have hI6 := hI.app1 hown' hgrow hkk; clear hown' hgrow hkk)
            | (at_builtin; refine wpList_append_lies _ rfl _ _ 39 rfl (w.heap.size + 2) 3 i0 (.int .i64 0) 1 8 Try.underlying39 hi hz0 hz1 hz2 rfl (by decide) _ _ _ rfl (World.ownsRow.alloc hI6.o2 _) ⟨w6.heap.size, 0, none⟩ 1 1 [.int .i64 (x - n)] rfl rfl (cell_one_new _ _ _) (by simp [Value.oneCell']) (by decide) (by unfold maxLen; omega) (by omega) (by have := hI6.b2.s.lt; simp; omega) (w6.heap.size + 1) (by simp) ?_; intro gk2 capk2 w7 hown' hgrow hkk _; have hI7 := hI6.app2 hown' hgrow hkk; clear hown' hgrow hkk))
          go_roundw
          case rel => exact ⟨k + 1, by omega, by go_num, by rw [FS.out.1, FS.out.2]; exact hI7⟩
          case measure => simp [intOf]; omega
        · have s0 := HS0.out (by omega)
          have FS := Hid.mk' (And.intro f1 s0)
          have h3' : ¬ (n : Int) ≤ x := by omega
          clear HF1 HF0 HS1 HS0 f1 s0 h3
          have hmm := hI.b2.s.lt
          generalize fsL n (n + m) z k = L1 at *
          generalize sdL n (n + m) z k = L2 at *
          go_wp2_with (at_builtin; refine wpList_append_lies _ rfl _ _ 39 rfl (w.heap.size + 2) 3 i0 (.int .i64 0) 1 8 Try.underlying39 hi hz0 hz1 hz2 rfl (by decide) _ _ _ rfl (World.ownsRow.alloc hI.o1 _) ⟨wr.heap.size, 0, none⟩ 1 1 [.int .i64 x] rfl rfl (cell_one_new _ _ _) (by simp [Value.oneCell']) (by decide) (by unfold maxLen; omega) (by omega) (by simp; omega) (wr.heap.size + 1) (by simp) ?_; intro gk capk w6 hown' hgrow hkk _; have hI6 := hI.app1 hown' hgrow hkk; clear hown' hgrow hkk)
          go_roundw
          case rel => exact ⟨k + 1, by omega, by go_num, by rw [FS.out.1, FS.out.2]; exact hI6⟩
          case measure => simp [intOf]; omega
      · have f0 := HF0.out (by omega)
        have s1 := HS1.out ⟨by omega, by omega, by omega⟩
        have FS := Hid.mk' (And.intro f0 s1)
        have h3' : (n : Int) ≤ x := by omega
        have hxw : IntKind.i64.wrap (x - n) = x - n := wrapi64_in _ (by omega) (by omega)
        clear HF1 HF0 HS1 HS0 f0 s1
        have hmm := hI.b2.s.lt
        generalize fsL n (n + m) z k = L1 at *
        generalize sdL n (n + m) z k = L2 at *
        go_wp2_with (at_builtin; refine wpList_append_lies _ rfl _ _ 39 rfl (w.heap.size + 2) 3 i0 (.int .i64 0) 1 8 Try.underlying39 hi hz0 hz1 hz2 rfl (by decide) _ _ _ rfl (World.ownsRow.alloc hI.o2 _) ⟨wr.heap.size, 0, none⟩ 1 1 [.int .i64 (x - n)] rfl rfl (cell_one_new _ _ _) (by simp [Value.oneCell']) (by decide) (by unfold maxLen; omega) (by omega) (by simp; omega) (wr.heap.size + 1) (by simp) ?_; intro gk capk w7 hown' hgrow hkk _; have hI7 := hI.app2 hown' hgrow hkk; clear hown' hgrow hkk)
        go_roundw
        case rel => exact ⟨k + 1, by omega, by go_num, by rw [FS.out.1, FS.out.2]; exact hI7⟩
        case measure => simp [intOf]; omega
    · obtain rfl : k = l := by omega
      have hki : ¬ (k : Int) < (k : Int) := by omega
      obtain ⟨fo1, fc1, rfl⟩ := hI.o1.slice
      obtain ⟨fo2, fc2, rfl⟩ := hI.o2.slice
      generalize fsL n (n + m) z k = L1 at *
      generalize sdL n (n + m) z k = L2 at *
      have hT := hI.b2
      have hwz := hT.bel.size
      have o1 := hI.o1
      have o2 := hI.o2
      clear hI
      obtain ⟨⟨g0, g1, g2, g3, g4⟩, -⟩ := hT.t.cells
      obtain ⟨c0, -⟩ := hT.s.cells
      go_upto_region 15 with (first
        | (go_at_call 21; (fail_if_success (have hx := hX)); refine (R1.out _ _ _ hT.bel o1.rd).mono ?_; rintro e w5 ⟨v5, rfl, hrA, hb5⟩; have hAlt := World.ownsRow.lt hrA; replace hT := hT.next hb5; have hw5 := hT.s.lt; replace hT := hT.next ((Below.refl _ _).alloc (Nat.le_refl _) (.cells #[.int .i64 X] 28)); replace o2 := ownsRow_below (ownsRow_below o2 hb5) ((Below.refl _ _).alloc (Nat.le_refl _) (.cells #[.int .i64 X] 28)); have hX := StAt.new w5 X; replace hrA := ownsRow_below hrA ((Below.refl _ _).alloc (Nat.le_refl _) (.cells #[.int .i64 X] 28)); clear g0 g1 g2 g3 g4 c0; obtain ⟨⟨g0, g1, g2, g3, g4⟩, -⟩ := hT.t.cells; obtain ⟨x0, -⟩ := hX.cells)
        | (go_at_call 21; refine (R2.out _ _ _ hT.bel (RowL.rd o2)).mono ?_; rintro e w6 ⟨v6, rfl, hrB, hb6⟩; have hBlt := World.ownsRow.lt hrB; replace hT := hT.next hb6; replace hX := hX.below hb6; replace hrA := ownsRow_below hrA hb6; clear g0 g1 g2 g3 g4 x0; obtain ⟨x0, x1⟩ := hX.cells; have hxl := hX.lt; have hT7 : B2 w a b c d lo g (w6.setCell ⟨w5.heap.size, 0, none⟩ (.int .i64 Y)) := ⟨hT.t.other (by omega) _ _, hT.s.other (by omega) _ _, hT.bel.setCell (by simp; omega) _⟩))
      have hX7 := hX.set Y
      have rA7 := RowL.box (y := Y) hrA hX
      have rB7 := RowL.box (y := Y) hrB hX
      have hAB : ∀ j, v5.ownBlock = some j → v6.ownBlock ≠ some j := by
        intro j h1 h2
        have := (hAlt j h1).2
        have := (hBlt j h2).1
        simp at this
        omega
      have TB := Hid.mk' hT7
      have RF : Hid (RdB (w6.setCell ⟨w5.heap.size, 0, none⟩ (.int .i64 Y)) ao n f ∧ RdB (w6.setCell ⟨w5.heap.size, 0, none⟩ (.int .i64 Y)) bo m f2 ∧ ∀ i, i < n + m → cat2 f n f2 i < 256) := ⟨hf.below hT7.bel, hf2.below hT7.bel, fun i hi => by
        unfold cat2
        split
        · exact hf.small i (by assumption)
        · exact hf2.small (i - n) (by omega)⟩
      have hpx := hX7.lt
      clear hX hrA hrB hT hT7 hb5 hb6 x0 x1 hAlt hBlt hxl o1 o2 R1 R2 hfl hsl hw5
      generalize w6.setCell ⟨w5.heap.size, 0, none⟩ (.int .i64 Y) = W at *
      generalize w5.heap.size = px at *
      have rA := RowL.mono (B' := w.heap.size) rA7 hwz
      have rB := RowL.mono (B' := 0) rB7 (Nat.zero_le _)
      clear rA7 rB7
      refine wp_region_ops [false, false, false, false, false, false, false, false, false, false, false, false, false, false, false, false, false, false, true, true, false, false, false, false, false, false, false, false, false, false, false, false, false, false, false, false, false, false, false, false, false, false, false, false, false, false, false, false, false, false, false, false, false, false, false, false, false, false, false, false, false, false, false, false, false, false, false, false, false, false, false, false, false, false, false, false, false, false, false, false, false, false, false, false, false, false, false, false, false, false, false, false, false, true, true, true, true, true, true, true, true, true, true, true] 135 (fun w' => Below W.heap.size W w') (V15 a b c d lo g ao bo zo n m k ca cb lc f f2 Y L W.heap.size) (Gy (fun t => t == 28) (fun _ => false) (fun t cs => t = 28 ∧ cs = #[.int .i64 Y])) (by kernel_rfl) rfl (by decide +kernel) (by decide +kernel) (by decide +kernel) ((Below.refl _ _).drew) (V15.keep a b c d lo g ao bo zo n m k ca cb lc f f2 Y L W.heap.size) (fun j o ga gb wz ho h0 hd hv => V15.same a b c d lo g ao bo zo n m k ca cb lc f f2 Y L W.heap.size j ga gb wz h0 (fun e he => by simp only [V15N, Bool.and_eq_true, beq_iff_eq] at he; obtain ⟨rfl, rfl⟩ := he; obtain rfl := Option.some.inj (show some _ = some o from ho); exact hd ⟨11, .data⟩ (by simp) rfl) hv) ?step ?done
      case step =>
        intro i o ho u w1 g1 hC hdep
        have hBs := hC.size
        match i, ho with
        | 0, ho =>
          have ho0 := ho
          obtain rfl := Option.some.inj (show some _ = some o from ho)
          clear hdep
          refine op_list ho0 ?_
          clear ho ho0
          simp only [puts, mp, Nat.reduceAdd, Nat.zero_add]
          generalize u 18 = x18 at *
          generalize u 19 = x19 at *
          generalize u 93 = x93 at *
          generalize u 94 = x94 at *
          generalize u 95 = x95 at *
          generalize u 96 = x96 at *
          generalize u 97 = x97 at *
          generalize u 98 = x98 at *
          generalize u 99 = x99 at *
          generalize u 100 = x100 at *
          generalize u 101 = x101 at *
          generalize u 102 = x102 at *
          generalize u 103 = x103 at *
          obtain ⟨⟨c0, c1, c2, c3, c4⟩, -⟩ := (TB.out.t.below hC).cells
          go_wp2
          exact Ans.mk _ rfl (fun g2 hg => hg) hC (Gy.refl _)
        | 1, ho =>
          have ho0 := ho
          obtain rfl := Option.some.inj (show some _ = some o from ho)
          clear hdep
          refine op_list ho0 ?_
          clear ho ho0
          simp only [puts, mp, Nat.reduceAdd, Nat.zero_add]
          generalize u 18 = x18 at *
          generalize u 19 = x19 at *
          generalize u 93 = x93 at *
          generalize u 94 = x94 at *
          generalize u 95 = x95 at *
          generalize u 96 = x96 at *
          generalize u 97 = x97 at *
          generalize u 98 = x98 at *
          generalize u 99 = x99 at *
          generalize u 100 = x100 at *
          generalize u 101 = x101 at *
          generalize u 102 = x102 at *
          generalize u 103 = x103 at *
          obtain ⟨c0, -⟩ := (TB.out.s.below hC).cells
          go_wp2
          exact Ans.mk _ rfl (fun g2 hg => hg) hC (Gy.refl _)
        | 2, ho =>
          have ho0 := ho
          obtain rfl := Option.some.inj (show some _ = some o from ho)
          clear hdep
          refine op_list ho0 ?_
          clear ho ho0
          simp only [puts, mp, Nat.reduceAdd, Nat.zero_add]
          generalize u 18 = x18 at *
          generalize u 19 = x19 at *
          generalize u 93 = x93 at *
          generalize u 94 = x94 at *
          generalize u 95 = x95 at *
          generalize u 96 = x96 at *
          generalize u 97 = x97 at *
          generalize u 98 = x98 at *
          generalize u 99 = x99 at *
          generalize u 100 = x100 at *
          generalize u 101 = x101 at *
          generalize u 102 = x102 at *
          generalize u 103 = x103 at *
          go_wp2
          exact Ans.mk _ rfl (fun g2 hg => hg) hC (Gy.refl _)
        | 3, ho =>
          have ho0 := ho
          obtain rfl := Option.some.inj (show some _ = some o from ho)
          clear hdep
          refine op_list ho0 ?_
          clear ho ho0
          simp only [puts, mp, Nat.reduceAdd, Nat.zero_add]
          generalize u 18 = x18 at *
          generalize u 19 = x19 at *
          generalize u 93 = x93 at *
          generalize u 94 = x94 at *
          generalize u 95 = x95 at *
          generalize u 96 = x96 at *
          generalize u 97 = x97 at *
          generalize u 98 = x98 at *
          generalize u 99 = x99 at *
          generalize u 100 = x100 at *
          generalize u 101 = x101 at *
          generalize u 102 = x102 at *
          generalize u 103 = x103 at *
          go_wp2
          exact Ans.mk _ rfl (fun g2 hg => hg) hC (Gy.refl _)
        | 4, ho =>
          have ho0 := ho
          obtain rfl := Option.some.inj (show some _ = some o from ho)
          obtain ⟨h2, s2⟩ := hdep ⟨2, .data⟩ (by simp) rfl
          replace s2 : u 96 = g1 2 := s2 _ 96 rfl rfl
          obtain ⟨h3, s3⟩ := hdep ⟨3, .data⟩ (by simp) rfl
          replace s3 : u 97 = g1 3 := s3 _ 97 rfl rfl
          clear hdep
          refine op_list ho0 ?_
          clear ho ho0
          simp only [puts, mp, Nat.reduceAdd, Nat.zero_add]
          generalize u 18 = x18 at *
          generalize u 19 = x19 at *
          generalize u 93 = x93 at *
          generalize u 94 = x94 at *
          generalize u 95 = x95 at *
          generalize u 96 = x96 at *
          generalize u 97 = x97 at *
          generalize u 98 = x98 at *
          generalize u 99 = x99 at *
          generalize u 100 = x100 at *
          generalize u 101 = x101 at *
          generalize u 102 = x102 at *
          generalize u 103 = x103 at *
          have e2 : g1 2 = _ := h2
          rw [e2] at s2
          subst s2
          have e3 : g1 3 = _ := h3
          rw [e3] at s3
          subst s3
          go_wp2
          exact Ans.mk _ rfl (fun g2 hg => ⟨w1.heap.size, hg, hBs, (0, 0), heap_alloc_new _ _⟩) (hC.alloc hBs _) (Gy.of_below ((Below.refl _ _).alloc (Nat.le_refl _) _))
        | 5, ho =>
          have ho0 := ho
          obtain rfl := Option.some.inj (show some _ = some o from ho)
          obtain ⟨h4, s4⟩ := hdep ⟨4, .data⟩ (by simp) rfl
          replace s4 : u 98 = g1 4 := s4 _ 98 rfl rfl
          clear hdep
          refine op_list ho0 ?_
          clear ho ho0
          simp only [puts, mp, Nat.reduceAdd, Nat.zero_add]
          generalize u 18 = x18 at *
          generalize u 19 = x19 at *
          generalize u 93 = x93 at *
          generalize u 94 = x94 at *
          generalize u 95 = x95 at *
          generalize u 96 = x96 at *
          generalize u 97 = x97 at *
          generalize u 98 = x98 at *
          generalize u 99 = x99 at *
          generalize u 100 = x100 at *
          generalize u 101 = x101 at *
          generalize u 102 = x102 at *
          generalize u 103 = x103 at *
          obtain ⟨b4, e4, k4⟩ := h4
          rw [e4] at s4
          subst s4
          obtain ⟨hb4, fz4, hh4⟩ := k4
          go_wp2_with (go_at_call 33; refine (concat_two b4 ao bo n m ca cb f f2 w1 (Array.getElem?_eq_some_iff.1 hh4).1 (by rw [cell_of_row w1 b4 0 _ 38 fz4 hh4]; rfl) (by rw [cell_of_row w1 b4 1 _ 38 fz4 hh4]; rfl) (RF.out.1.below hC) (RF.out.2.1.below hC) (by omega) (by omega)).mono ?_; rintro e w2 ⟨so, cap, rfl, hrow, hb⟩)
          exact Ans.mk _ rfl (fun g2 hg => ⟨so, cap, hg, ownsRow_base5 hrow hBs⟩) (hC.trans (hb.mono hBs)) (Gy.of_below hb)
        | 6, ho =>
          have ho0 := ho
          obtain rfl := Option.some.inj (show some _ = some o from ho)
          clear hdep
          refine op_list ho0 ?_
          clear ho ho0
          simp only [puts, mp, Nat.reduceAdd, Nat.zero_add]
          generalize u 18 = x18 at *
          generalize u 19 = x19 at *
          generalize u 93 = x93 at *
          generalize u 94 = x94 at *
          generalize u 95 = x95 at *
          generalize u 96 = x96 at *
          generalize u 97 = x97 at *
          generalize u 98 = x98 at *
          generalize u 99 = x99 at *
          generalize u 100 = x100 at *
          generalize u 101 = x101 at *
          generalize u 102 = x102 at *
          generalize u 103 = x103 at *
          go_wp2
          exact Ans.mk _ rfl (fun g2 hg => hg) hC (Gy.refl _)
        | 7, ho =>
          have ho0 := ho
          obtain rfl := Option.some.inj (show some _ = some o from ho)
          obtain ⟨h0, s0⟩ := hdep ⟨0, .data⟩ (by simp) rfl
          replace s0 : u 94 = g1 0 := s0 _ 94 rfl rfl
          obtain ⟨h1, s1⟩ := hdep ⟨1, .data⟩ (by simp) rfl
          replace s1 : u 95 = g1 1 := s1 _ 95 rfl rfl
          obtain ⟨h5, s5⟩ := hdep ⟨5, .data⟩ (by simp) rfl
          replace s5 : u 99 = g1 5 := s5 _ 99 rfl rfl
          obtain ⟨h6, s6⟩ := hdep ⟨6, .data⟩ (by simp) rfl
          replace s6 : u 100 = g1 6 := s6 _ 100 rfl rfl
          clear hdep
          refine op_list ho0 ?_
          clear ho ho0
          simp only [puts, mp, Nat.reduceAdd, Nat.zero_add]
          generalize u 18 = x18 at *
          generalize u 19 = x19 at *
          generalize u 93 = x93 at *
          generalize u 94 = x94 at *
          generalize u 95 = x95 at *
          generalize u 96 = x96 at *
          generalize u 97 = x97 at *
          generalize u 98 = x98 at *
          generalize u 99 = x99 at *
          generalize u 100 = x100 at *
          generalize u 101 = x101 at *
          generalize u 102 = x102 at *
          generalize u 103 = x103 at *
          have e0 : g1 0 = _ := h0
          rw [e0] at s0
          subst s0
          have e1 : g1 1 = _ := h1
          rw [e1] at s1
          subst s1
          obtain ⟨so5, cap5, e5, k5⟩ := h5
          rw [e5] at s5
          subst s5
          have e6 : g1 6 = _ := h6
          rw [e6] at s6
          subst s6
          have HW := TB.out.bel.trans (hC.mono TB.out.bel.size)
          go_wp2_with (go_at_call 21; refine (R3.out w1 so5 cap5 HW (rd_row (fun i hi => RF.out.2.2 i hi) k5)).mono ?_; rintro e w2 ⟨v, rfl, hrow, hb⟩)
          exact Ans.mk _ rfl (fun g2 hg => ⟨v, hg, hrow.mono hBs⟩) (hC.trans (hb.mono hBs)) (Gy.of_below hb)
        | 8, ho =>
          have ho0 := ho
          obtain rfl := Option.some.inj (show some _ = some o from ho)
          obtain ⟨h7, s7⟩ := hdep ⟨7, .data⟩ (by simp) rfl
          replace s7 : u 101 = g1 7 := s7 _ 101 rfl rfl
          clear hdep
          refine op_list ho0 ?_
          clear ho ho0
          simp only [puts, mp, Nat.reduceAdd, Nat.zero_add]
          generalize u 18 = x18 at *
          generalize u 19 = x19 at *
          generalize u 93 = x93 at *
          generalize u 94 = x94 at *
          generalize u 95 = x95 at *
          generalize u 96 = x96 at *
          generalize u 97 = x97 at *
          generalize u 98 = x98 at *
          generalize u 99 = x99 at *
          generalize u 100 = x100 at *
          generalize u 101 = x101 at *
          generalize u 102 = x102 at *
          generalize u 103 = x103 at *
          obtain ⟨v7, e7, k7⟩ := h7
          rw [e7] at s7
          subst s7
          go_wp2
          exact Ans.mk _ rfl (fun g2 hg => ⟨v7, hg, k7⟩) hC (Gy.refl _)
        | 9, ho =>
          have ho0 := ho
          obtain rfl := Option.some.inj (show some _ = some o from ho)
          obtain ⟨h8, s8⟩ := hdep ⟨8, .data⟩ (by simp) rfl
          replace s8 : u 93 = g1 8 := s8 _ 93 rfl rfl
          clear hdep
          refine op_list ho0 ?_
          clear ho ho0
          simp only [puts, mp, Nat.reduceAdd, Nat.zero_add]
          generalize u 18 = x18 at *
          generalize u 19 = x19 at *
          generalize u 93 = x93 at *
          generalize u 94 = x94 at *
          generalize u 95 = x95 at *
          generalize u 96 = x96 at *
          generalize u 97 = x97 at *
          generalize u 98 = x98 at *
          generalize u 99 = x99 at *
          generalize u 100 = x100 at *
          generalize u 101 = x101 at *
          generalize u 102 = x102 at *
          generalize u 103 = x103 at *
          obtain ⟨v8, e8, k8⟩ := h8
          rw [e8] at s8
          subst s8
          go_wp2
          exact Ans.mk _ rfl (fun g2 hg => hg) hC (Gy.refl _)
        | 10, ho =>
          have ho0 := ho
          obtain rfl := Option.some.inj (show some _ = some o from ho)
          obtain ⟨h8, s8⟩ := hdep ⟨8, .data⟩ (by simp) rfl
          replace s8 : u 93 = g1 8 := s8 _ 93 rfl rfl
          clear hdep
          refine op_list ho0 ?_
          clear ho ho0
          simp only [puts, mp, Nat.reduceAdd, Nat.zero_add]
          generalize u 18 = x18 at *
          generalize u 19 = x19 at *
          generalize u 93 = x93 at *
          generalize u 94 = x94 at *
          generalize u 95 = x95 at *
          generalize u 96 = x96 at *
          generalize u 97 = x97 at *
          generalize u 98 = x98 at *
          generalize u 99 = x99 at *
          generalize u 100 = x100 at *
          generalize u 101 = x101 at *
          generalize u 102 = x102 at *
          generalize u 103 = x103 at *
          obtain ⟨v8, e8, k8⟩ := h8
          rw [e8] at s8
          subst s8
          go_wp2
          exact Ans.mk _ rfl (fun g2 hg => (by show RowL W.heap.size w1 (g2 10) L; rw [hg]; exact k8)) hC (Gy.refl _)
        | 11, ho =>
          have ho0 := ho
          obtain rfl := Option.some.inj (show some _ = some o from ho)
          clear hdep
          refine op_list ho0 ?_
          clear ho ho0
          simp only [puts, mp, Nat.reduceAdd, Nat.zero_add]
          generalize u 18 = x18 at *
          generalize u 19 = x19 at *
          generalize u 93 = x93 at *
          generalize u 94 = x94 at *
          generalize u 95 = x95 at *
          generalize u 96 = x96 at *
          generalize u 97 = x97 at *
          generalize u 98 = x98 at *
          generalize u 99 = x99 at *
          generalize u 100 = x100 at *
          generalize u 101 = x101 at *
          generalize u 102 = x102 at *
          generalize u 103 = x103 at *
          go_wp2
          exact Ans.mk _ rfl (fun g2 hg => ⟨w1.heap.size, hg, hBs, #[.int .i64 0], rfl, heap_alloc_new _ _⟩) (hC.alloc hBs _) (Gy.of_below ((Below.refl _ _).alloc (Nat.le_refl _) _))
        | 12, ho =>
          have ho0 := ho
          obtain rfl := Option.some.inj (show some _ = some o from ho)
          obtain ⟨h11, s11⟩ := hdep ⟨11, .data⟩ (by simp) rfl
          replace s11 : u 18 = g1 11 := s11 _ 18 rfl rfl
          obtain ⟨h9, s9⟩ := hdep ⟨9, .data⟩ (by simp) rfl
          replace s9 : u 102 = g1 9 := s9 _ 102 rfl rfl
          clear hdep
          refine op_list ho0 ?_
          clear ho ho0
          simp only [puts, mp, Nat.reduceAdd, Nat.zero_add]
          generalize u 18 = x18 at *
          generalize u 19 = x19 at *
          generalize u 93 = x93 at *
          generalize u 94 = x94 at *
          generalize u 95 = x95 at *
          generalize u 96 = x96 at *
          generalize u 97 = x97 at *
          generalize u 98 = x98 at *
          generalize u 99 = x99 at *
          generalize u 100 = x100 at *
          generalize u 101 = x101 at *
          generalize u 102 = x102 at *
          generalize u 103 = x103 at *
          obtain ⟨b11, e11, k11⟩ := h11
          rw [e11] at s11
          subst s11
          have e9 : g1 9 = _ := h9
          rw [e9] at s9
          subst s9
          obtain ⟨hb11, cs11, hs11, hh11⟩ := k11
          have hc11 : w1.cell? ⟨b11, 0, none⟩ = some (cs11[0]'(by omega)) := by rw [cell_of_row w1 b11 0 cs11 28 (0, 0) hh11]; simp [hs11]
          have hf11 := frozen_of_row w1 b11 0 cs11 28 hh11
          go_wp2
          have hcs : cs11.setIfInBounds 0 (.int .i64 Y) = #[.int .i64 Y] := by
            apply Array.ext_getElem?
            intro j
            rw [Array.getElem?_setIfInBounds]
            by_cases h0 : 0 = j
            · subst h0; simp [hs11]
            · rw [if_neg h0, Array.getElem?_eq_none (by omega), Array.getElem?_eq_none (by simp; omega)]
          refine Ans.mk' undef rfl (fun g2 hg hd => ⟨b11, (hd ⟨11, .data⟩ (by simp) rfl).trans e11, hb11, #[.int .i64 Y], ⟨rfl, rfl⟩, ?_⟩) (hC.setCell (p := ⟨b11, 0, none⟩) hb11 _) (Gy.set hh11 rfl ⟨rfl, hcs⟩)
          rw [← hcs]
          exact heap_setCell_same w1 b11 0 cs11 28 (.int .i64 Y) hh11
        | 13, ho =>
          have ho0 := ho
          obtain rfl := Option.some.inj (show some _ = some o from ho)
          obtain ⟨h10, s10⟩ := hdep ⟨10, .data⟩ (by simp) rfl
          replace s10 : u 103 = g1 10 := s10 _ 103 rfl rfl
          clear hdep
          refine op_list ho0 ?_
          clear ho ho0
          simp only [puts, mp, Nat.reduceAdd, Nat.zero_add]
          generalize u 18 = x18 at *
          generalize u 19 = x19 at *
          generalize u 93 = x93 at *
          generalize u 94 = x94 at *
          generalize u 95 = x95 at *
          generalize u 96 = x96 at *
          generalize u 97 = x97 at *
          generalize u 98 = x98 at *
          generalize u 99 = x99 at *
          generalize u 100 = x100 at *
          generalize u 101 = x101 at *
          generalize u 102 = x102 at *
          generalize u 103 = x103 at *
          obtain ⟨v10, e10⟩ : ∃ v, g1 10 = v := ⟨_, rfl⟩
          have k10 : RowL W.heap.size w1 v10 L := by rw [← e10]; exact h10
          rw [e10] at s10
          subst s10
          go_wp2
          exact Ans.mk _ rfl (fun g2 hg => (by show RowL W.heap.size w1 (g2 13) L; rw [hg]; exact k10)) hC (Gy.refl _)
        | _ + 14, ho => cases ho
      case done =>
        intro u w1 g1 hC hu hV
        have h13 := hV 13 _ rfl
        replace h13 : RowL W.heap.size w1 (g1 13) L := h13
        have s13 : u 19 = g1 13 := hu 13 _ 19 rfl rfl
        obtain ⟨b12, e12, k12⟩ := hV 12 _ rfl
        have s11 : u 18 = g1 11 := hu 11 _ 18 rfl rfl
        rw [← s13] at h13
        rw [e12] at s11
        clear hu hV s13 e12
        simp only [puts, mp, Nat.reduceAdd, Nat.zero_add]
        generalize u 19 = x19 at *
        generalize u 18 = x18 at *
        subst s11
        obtain ⟨hb12, cs12, ⟨-, rfl⟩, hh12⟩ := k12
        have hY : StAt w1 b12 Y := hh12
        have hW1 := TB.out.bel.trans (hC.mono TB.out.bel.size)
        have hI : CbI w px b12 Y A B L v5 v6 x19 w1 := ⟨ownsRow_below rA hC, ownsRow_below rB hC, RowL.mono h13 (Nat.zero_le _), hAB, fun j h1 h2 => by
          have := (rA.lt j h1).2
          have := (h13.lt j h2).1
          omega, hX7.below hC, hY, hW1⟩
        obtain ⟨ao6, cap6, rfl⟩ := rB.slice
        clear rA rB h13 hAB hX7 hY hC TB RF R3 hW1 hb12 hh12 hpx HB
        go_wp2_with fail
        go_loopw [16, 106] (fun va i wr => ∃ q : Nat, q ≤ B.length ∧ i = .int .i64 q ∧ CbI w px b12 Y (cmb A n B q) B L va (.slice ao6 B.length cap6) x19 wr) (fun _ i _ => B.length - (intOf i).toNat)
        case atStart => exact ⟨0, Nat.zero_le _, rfl, hI⟩
        case round =>
          clear hI
          obtain ⟨q, hq, rfl, hI⟩ := hrel
          by_cases hql : q < B.length
          · have hqi : (q : Int) < (B.length : Int) := by omega
            obtain ⟨bb, off, hzo, hbl, hcz⟩ := hI.rb.rd (by omega)
            have t1 : wr.cell? ⟨bb, off + q, none⟩ = some (.int .i64 (B.getD q 0)) := hcz q hql
            subst hzo
            clear hcz
            obtain ⟨hy1, hy2⟩ := hBr q hql
            have hcl := cmb_len A n B q
            have HC1 : Hid (0 < B.getD q 0 ∨ amL (cmb A n B q) n = false → cmb A n B (q + 1) = cmb A n B q ++ [B.getD q 0 + n]) := cmb_yes
            have HC0 : Hid (¬ (0 < B.getD q 0 ∨ amL (cmb A n B q) n = false) → cmb A n B (q + 1) = cmb A n B q) := cmb_no
            generalize B.getD q 0 = y at *
            have hyw : IntKind.i64.wrap (y + n) = y + n := wrapi64_in _ (by omega) (by omega)
            obtain ⟨aoA, capA, rfl⟩ := hI.ra.slice
            by_cases hy : 0 < y
            · have CY := Hid.mk' (HC1.out (.inl hy))
              clear HC1 HC0
              go_wp2_with (first
                | (go_at_call 32; refine HCt.mono ?_; rintro e w7 ⟨rfl, rfl⟩)
                | (at_builtin; have hmm := hI.x.lt; refine wpList_append_lies _ rfl _ _ 39 rfl w.heap.size 3 i0 (.int .i64 0) 1 8 Try.underlying39 hi hz0 hz1 hz2 rfl (by decide) _ _ _ rfl (World.ownsRow.alloc hI.ra _) ⟨wr.heap.size, 0, none⟩ 1 1 [.int .i64 (y + n)] rfl rfl (cell_one_new _ _ _) (by simp [Value.oneCell']) (by decide) (by unfold maxLen; omega) (by omega) (by have := hI.bel.size; simp; omega) (wr.heap.size + 1) (by simp) ?_; intro gk capk w6 hown' hgrow hkk _; have hI6 := hI.app hown' hgrow hkk; clear hown' hgrow hkk))
              go_roundw
              case rel => exact ⟨q + 1, by omega, by go_num, by rw [CY.out]; exact hI6⟩
              case measure => simp [intOf]; omega
            · cases hm2 : amL (cmb A n B q) n with
              | false =>
                have CY := Hid.mk' (HC1.out (.inr hm2))
                have hm3 : among (fun i => (cmb A n B q).getD i 0) (cmb A n B q).length n = false := hm2
                have HCt := contains_any aoA (cmb A n B q).length capA n _ wr (RowL.rd hI.ra) (by omega)
                rw [hm3] at HCt
                clear hm3
                clear HC1 HC0 hm2
                go_wp2_with (first
                  | (go_at_call 32; refine HCt.mono ?_; rintro e w7 ⟨rfl, rfl⟩)
                  | (at_builtin; have hmm := hI.x.lt; refine wpList_append_lies _ rfl _ _ 39 rfl w.heap.size 3 i0 (.int .i64 0) 1 8 Try.underlying39 hi hz0 hz1 hz2 rfl (by decide) _ _ _ rfl (World.ownsRow.alloc hI.ra _) ⟨wr.heap.size, 0, none⟩ 1 1 [.int .i64 (y + n)] rfl rfl (cell_one_new _ _ _) (by simp [Value.oneCell']) (by decide) (by unfold maxLen; omega) (by omega) (by have := hI.bel.size; simp; omega) (wr.heap.size + 1) (by simp) ?_; intro gk capk w6 hown' hgrow hkk _; have hI6 := hI.app hown' hgrow hkk; clear hown' hgrow hkk))
                go_roundw
                case rel => exact ⟨q + 1, by omega, by go_num, by rw [CY.out]; exact hI6⟩
                case measure => simp [intOf]; omega
              | true =>
                have CY := Hid.mk' (HC0.out (by rintro (h | h); exact absurd h hy; rw [hm2] at h; cases h))
                have hm3 : among (fun i => (cmb A n B q).getD i 0) (cmb A n B q).length n = true := hm2
                have HCt := contains_any aoA (cmb A n B q).length capA n _ wr (RowL.rd hI.ra) (by omega)
                rw [hm3] at HCt
                clear hm3
                clear HC1 HC0 hm2
                go_wp2_with (go_at_call 32; refine HCt.mono ?_; rintro e w7 ⟨rfl, rfl⟩)
                go_roundw
                case rel => exact ⟨q + 1, by omega, by go_num, by rw [CY.out]; exact hI⟩
                case measure => simp [intOf]; omega
          · obtain rfl : q = B.length := by omega
            have hqi : ¬ (B.length : Int) < (B.length : Int) := by omega
            rw [E8.out] at hI
            obtain ⟨x0, -⟩ := hI.x.cells
            obtain ⟨y0, -⟩ := hI.y.cells
            have e1 := eql28 Y Y
            rw [show (Y == Y) = true by simp] at e1
            obtain ⟨aoA, capA, rfl⟩ := hI.ra.slice
            obtain ⟨aoL, capL, rfl⟩ := hI.rl.slice
            have HQ := equalI_same aoA aoL L.length capA capL (fun i => L.getD i 0) wr (RowL.rd hI.ra) (RowL.rd hI.rl) (by omega)
            have hbb := hI.bel
            clear hI
            go_wp2_with (go_at_call 23; refine HQ.mono ?_; rintro e w9 ⟨rfl, hb9⟩)
            go_ret
            exact ⟨rfl, hbb.trans (hb9.mono hbb.size)⟩
theorem parts_walk {a b c d : Nat} {lo g : Int} {P : Nat → Bool} (w : World) (ao bo zo : Option Addr) (n m l ca cb lc : Nat) (f f2 : Nat → Nat) (z : Nat → Int) (hP : C4 P a b c d) (hf : RdB w ao n f) (hf2 : RdB w bo m f2) (hz : RdI w zo l z) :
    Calls Try.prog 7 #[tdV a b c d lo, stV g, .slice ao n ca, .slice bo m cb, .slice zo l lc] w fun e w' => e = .returned (.bool true) ∧ Below w.heap.size w w' := by
  by_cases h : 200 < (n : Int) ∨ 200 < (m : Int) ∨ 200 < (l : Int)
  · exact parts_out w ao bo zo n m l ca cb lc h
  · exact parts_in w ao bo zo n m l ca cb lc f f2 z (fun h' => h (.inl h')) (fun h' => h (.inr (.inl h'))) (fun h' => h (.inr (.inr h'))) hP hf hf2 hz
end Go.Proofs.Ytobgmgpclcfkcaa
