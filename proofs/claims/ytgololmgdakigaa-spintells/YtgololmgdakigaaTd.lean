/- All as a whole; what is told, at most so many: the walks. -/
import Derived.Test.YtgololmgdakigaaTc
namespace Go.Proofs.Ytgololmgdakigaa
open Go.RowKit Go.Shelf
attribute [local go_sem] Oper.semAt_some
attribute [local go_sem] wide_fn
attribute [local go_sem] run_store_complex
theorem ownsRow_at {W W' : World} {base e size k : Nat} {v : Value} {xs : List Value} (h : W.ownsRow base e size v k xs) (hs : ∀ g, base ≤ g → g < W.heap.size → W'.heap[g]? = W.heap[g]?) : W'.ownsRow base e size v k xs :=
  ⟨h.1, h.2.imp id fun ⟨g, cap, cur, hv, hg, hc, r⟩ => ⟨g, cap, cur, hv, hg, (hs g hg (Array.getElem?_eq_some_iff.1 hc).1).trans hc, r⟩⟩
theorem ownsRow_own {W : World} {base e size k : Nat} {v : Value} {xs : List Value} (h : W.ownsRow base e size v k xs) : ∀ g, v.ownBlock = some g → base ≤ g := by
  intro g hg
  rcases h.2 with ⟨rfl, _⟩ | ⟨g', cap, cur, rfl, hb, _⟩
  · cases hg
  · simp [Value.ownBlock] at hg; omega
theorem ownsRow_base {W : World} {base base' e size k : Nat} {v : Value} {xs : List Value} (h : W.ownsRow base e size v k xs) (hb : base' ≤ base) : W.ownsRow base' e size v k xs :=
  ⟨h.1, h.2.imp id fun ⟨g, cap, cur, hv, hg, r⟩ => ⟨g, cap, cur, hv, Nat.le_trans hb hg, r⟩⟩

theorem all_any (ao : Option Addr) (n cap : Nat) (m : Int) (z : Nat → Nat) (w : World) (hr : Rd w ao n z) (hn : n ≤ 2000) (hs : (ao = none ∧ n = 0 ∧ cap = 0) ∨ ∃ a, ao = some a) : Calls Try.prog 19 #[.slice ao n cap, .int .i64 m] w fun e w' => e = .returned (.func (.func 28) #[] #[.pointer (some ⟨w.heap.size, 0, none⟩), .pointer (some ⟨w.heap.size + 1, 0, none⟩)]) ∧ (∃ ao' cap', Cl w' w.heap.size 22 [.slice ao' n cap'] ∧ Cl w' (w.heap.size + 1) 3 [.int .i64 m] ∧ Rd w' ao' n z ∧ n ≤ cap') ∧ Below w.heap.size w w' := by
  have hB2 : Below w.heap.size w ((w.alloc (.cells #[.slice ao n cap] 22)).alloc (.cells #[.int .i64 m] 3)) := below2 w _ _
  have c0 : Cl ((w.alloc (.cells #[.slice ao n cap] 22)).alloc (.cells #[.int .i64 m] 3)) w.heap.size 22 [.slice ao n cap] := (Cl.new w 22 [_]).alloc _
  have c1 : Cl ((w.alloc (.cells #[.slice ao n cap] 22)).alloc (.cells #[.int .i64 m] 3)) (w.heap.size + 1) 3 [.int .i64 m] := by
    have := Cl.new (w.alloc (.cells #[.slice ao n cap] 22)) 3 [.int .i64 m]
    simpa using this
  have HC := cloneb_any ao n cap z _ (hr.below hB2) (by omega) hs
  have hz := hr.small
  have HF : Hid (∀ (w1 : World) ao' cap', Below ((w.alloc (.cells #[.slice ao n cap] 22)).alloc (.cells #[.int .i64 m] 3)).heap.size ((w.alloc (.cells #[.slice ao n cap] 22)).alloc (.cells #[.int .i64 m] 3)) w1 → OwB w1 ((w.alloc (.cells #[.slice ao n cap] 22)).alloc (.cells #[.int .i64 m] 3)).heap.size ao' n cap' z → (∃ a2 c2, Cl (w1.setCell ⟨w.heap.size, 0, none⟩ (.slice ao' n cap')) w.heap.size 22 [.slice a2 n c2] ∧ Cl (w1.setCell ⟨w.heap.size, 0, none⟩ (.slice ao' n cap')) (w.heap.size + 1) 3 [.int .i64 m] ∧ Rd (w1.setCell ⟨w.heap.size, 0, none⟩ (.slice ao' n cap')) a2 n z ∧ n ≤ c2) ∧ Below w.heap.size w (w1.setCell ⟨w.heap.size, 0, none⟩ (.slice ao' n cap'))) := fun w1 ao' cap' hb ho => by
    have k0 := c0.below hb
    have k1 := c1.below hb
    have hne : ∀ g, ((w.alloc (.cells #[.slice ao n cap] 22)).alloc (.cells #[.int .i64 m] 3)).heap.size ≤ g → g < w1.heap.size → (w1.setCell ⟨w.heap.size, 0, none⟩ (.slice ao' n cap')).heap[g]? = w1.heap[g]? := fun g hg _ => Below.heap_setCell _ _ _ _ (show g ≠ w.heap.size by simp at hg; omega)
    have ho2 : OwB (w1.setCell ⟨w.heap.size, 0, none⟩ (.slice ao' n cap')) ((w.alloc (.cells #[.slice ao n cap] 22)).alloc (.cells #[.int .i64 m] 3)).heap.size ao' n cap' z := ownsRow_at ho hne
    refine ⟨⟨ao', cap', ?_, k1.other (by omega) 0 _, rd_row hz ho2, ?_⟩, (hB2.trans (hb.mono hB2.size)).setCell (p := ⟨w.heap.size, 0, none⟩) (Nat.le_refl _) _⟩
    · have := k0.set 0 (.slice ao' n cap')
      simpa using this
    · rcases ho.2 with ⟨h', h0⟩ | ⟨g, cp, cur, h', _, _, hc, _⟩
      · omega
      · cases h'; exact hc
  have d0 := c0.cell 0 rfl
  have f0 := c0.frozen 0
  clear hr
  go_enter Try.func19, Try.ntmps19
  go_wp2_with (go_at_call 27; refine HC.mono ?_; rintro e w1 ⟨ao', cap', rfl, ho, hb⟩; have d1 := (c0.below hb).cell 0 rfl; have f1 := (c0.below hb).frozen 0; have HG : Hid _ := HF.out w1 ao' cap' hb ho; clear ho hb HF)
  go_ret
  exact ⟨rfl, HG.out⟩
theorem two_new (w : World) (x0 x1 : Value) (t : TypeId) : ∀ j u, [x0, x1][j]? = some u → (w.alloc (.cells #[x0, x1] t)).cell? ((⟨w.heap.size, 0, none⟩ : Addr).add j) = some u := by
  intro j u hj
  have h := (Cl.new w t [x0, x1]).cell j hj
  have e : (⟨w.heap.size, 0, none⟩ : Addr).add j = ⟨w.heap.size, j, none⟩ := by simp [Addr.add]; exact fun h => h.symm
  rw [e]
  exact h
def wnC (u : Wn) : List Value := [.int .i64 (u.at_ : Nat), .complex .f64 u.x u.y]
def wnL (l : List Wn) : List Value := l.flatMap wnC
theorem wnL_snoc (l : List Wn) (x : Wn) : wnL (l ++ [x]) = wnL l ++ wnC x := by simp [wnL]
theorem TurnR.below {N lo hi : Nat} {w A B : World} (ht : TurnR lo hi A B) (h : Below N w A) (hN : N ≤ lo) (hs : N ≤ A.heap.size) : Below N w B :=
  ⟨ht.os.trans h.os, ht.tape.trans h.tape, ht.output.trans h.output, Nat.le_trans h.size ht.size, fun k hk => (ht.block k (by omega) (by omega)).trans (h.block k hk)⟩
theorem b_win : (Try.prog.info? 38).map (fun i => (i.zero, i.size, i.bytes)) = some (some (.agg #[.int .i64 0, .complex .f64 0 0]), 2, 24) := by kernel_rfl
/-- What told holds between rounds. -/
structure ToI (w : World) (mo : Nat) (pre : List Wn) (W : World) : Prop where
  row : ∃ v, Cl W (w.heap.size + 1) 36 [v] ∧ W.ownsRow (w.heap.size + 10) 38 2 v pre.length (wnL pre)
  box : Cl W w.heap.size 3 [.int .i64 (mo : Nat)]
  bel : Below w.heap.size w W
  le : pre.length ≤ mo
theorem ToI.turn {w A B : World} {mo : Nat} {pre : List Wn} (h : ToI w mo pre A) (ht : TurnR (w.heap.size + 2) (w.heap.size + 10) A B) : ToI w mo pre B := by
  obtain ⟨⟨v, hv, hrow⟩, h0, hb, hl⟩ := h
  exact ⟨⟨v, hv.turnR ht (by omega), ownsRow_at hrow fun g hg hl => ht.block g hl (by omega)⟩, h0.turnR ht (by omega), ht.below hb (by omega) (Nat.le_of_lt h0.lt), hl⟩
/-- Where it has been told enough. -/
def ToX (w : World) (mo : Nat) (c : Code) (pre : List Wn) (W : World) : Prop := c = .exit 0 ∧ ∃ pre' x, pre = pre' ++ [x] ∧ pre'.length = mo ∧ ToI w mo pre' W
/-- What told answers. -/
def RetTl (w : World) (P : Nat → Int × Int) (k : Nat) (e : Ending) (w' : World) : Prop :=
  ∃ (ys : List Wn) (ao : Option Addr) (cap : Nat), ys.length = k ∧ Okl P ys ∧ e = .returned (.slice ao k cap) ∧ w'.ownsRow w.heap.size 38 2 (.slice ao k cap) k (wnL ys) ∧ Below w.heap.size w w'
def ToA (w : World) (b1 b2 mo : Nat) (x : Wn) (a' : Act) (_ : World) : Prop := a' = ⟨#[.func (.func 28) #[] #[.pointer (some ⟨b1, 0, none⟩), .pointer (some ⟨b2, 0, none⟩)], .int .i64 (mo : Nat), undef, .pointer (some ⟨w.heap.size, 0, none⟩), .slice none 0 0, .pointer (some ⟨w.heap.size + 1, 0, none⟩), .int .i64 (x.at_ : Nat), .complex .f64 x.x x.y, .func (.func 28) #[] #[.pointer (some ⟨b1, 0, none⟩), .pointer (some ⟨b2, 0, none⟩)], .bool false, .func (.func 28) #[] #[.pointer (some ⟨b1, 0, none⟩), .pointer (some ⟨b2, 0, none⟩)], .int .i64 (x.at_ : Nat), .complex .f64 x.x x.y, undef, undef, undef, undef, undef, undef, undef, undef, undef, undef, undef], []⟩
theorem to_step {w W w2 : World} {mo : Nat} {pre : List Wn} {x : Wn} {v v' : Value} {tmp : Obj} (h : ToI w mo pre W) (hlt : pre.length < mo) (hsz : w.heap.size + 10 ≤ W.heap.size) (hv : Cl W (w.heap.size + 1) 36 [v]) (hrow : W.ownsRow (w.heap.size + 10) 38 2 v pre.length (wnL pre))
    (hown' : w2.ownsRow (w.heap.size + 10) 38 2 v' (pre.length + 1) (wnL pre ++ wnC x)) (hgrow : (W.alloc tmp).grownBy w2 v.ownBlock) :
    Cl w2 (w.heap.size + 1) 36 [v] ∧ KeepR (w.heap.size + 2) (w.heap.size + 10) (fun k => k < w.heap.size) W (w2.setCell ⟨w.heap.size + 1, 0, none⟩ v') ∧ ToI w mo (pre ++ [x]) (w2.setCell ⟨w.heap.size + 1, 0, none⟩ v') := by
  have hsm : ∀ k, k < W.heap.size → k < w.heap.size + 10 → w2.heap[k]? = W.heap[k]? := fun k hk hk9 => by
    rw [hgrow.block k (by simp; omega) (fun e => by have := ownsRow_own hrow k e.symm; omega), Below.heap_alloc W tmp k hk]
  have hss : ∀ k, k ≠ w.heap.size + 1 → (w2.setCell ⟨w.heap.size + 1, 0, none⟩ v').heap[k]? = w2.heap[k]? := fun k hk => Below.heap_setCell _ _ _ _ hk
  have hv2 := hv.same (hsm _ hv.lt (by omega))
  have hsize : W.heap.size ≤ w2.heap.size := by have := hgrow.size; simp at this; omega
  have hsz2 : (w2.setCell ⟨w.heap.size + 1, 0, none⟩ v').heap.size = w2.heap.size := by simp
  refine ⟨hv2, ⟨by omega, fun k hk => ?_⟩, ⟨⟨v', ?_, ?_⟩, ?_, ?_, ?_⟩⟩
  · rw [hss k (by omega), hsm k (by omega) (by omega)]
  · exact hv2.set 0 v'
  · rw [List.length_append, List.length_singleton, wnL_snoc]
    exact ownsRow_at hown' fun g hg _ => hss g (by omega)
  · exact (h.box.same (hsm _ h.box.lt (by omega))).same (hss _ (by omega))
  · exact ⟨hgrow.os.trans h.bel.os, hgrow.tape.trans h.bel.tape, hgrow.output.trans h.bel.output, by rw [hsz2]; exact Nat.le_trans h.bel.size hsize, fun k hk => by rw [hss k (by omega), hsm k (by omega) (by omega)]; exact h.bel.block k hk⟩
  · rw [List.length_append, List.length_singleton]; omega
theorem Okl.take {p : Nat → Int × Int} {ys : List Wn} (h : Okl p ys) (k : Nat) : Okl p (ys.take k) := fun i u hu => by
  rw [List.getElem?_take] at hu
  split at hu
  · exact h i u hu
  · cases hu
theorem Okl.left {p : Nat → Int × Int} {ys zs : List Wn} (h : Okl p (ys ++ zs)) : Okl p ys := by
  have := h.take ys.length
  rwa [List.take_left] at this
set_option maxRecDepth 100000 in
set_option maxHeartbeats 2000000 in
theorem told_any (b1 b2 mo c : Nat) (P : Nat → Int × Int) (w : World)
    (hseq : SeqR Fence.wide 4 Try.prog (w.heap.size + 2) (w.heap.size + 2 + 8) (fun k => k < w.heap.size) 28 #[.pointer (some ⟨b1, 0, none⟩), .pointer (some ⟨b2, 0, none⟩)] (fun u : Wn => #[.int .i64 (u.at_ : Nat), .complex .f64 u.x u.y]) (fun _ _ => True) (fun ys => ys.length = c ∧ Okl P ys) (fun pre => pre.length ≤ c ∧ Okl P pre) 4096 ((w.alloc (.cells #[.int .i64 (mo : Nat)] 3)).alloc (.cells #[.slice none 0 0] 36))) :
    Calls Try.prog 18 #[.func (.func 28) #[] #[.pointer (some ⟨b1, 0, none⟩), .pointer (some ⟨b2, 0, none⟩)], .int .i64 (mo : Nat)] w (RetTl w P (min c mo)) := by
  have heq : ∀ (fn : Fn) (a b : Array Value) (w : World), (Go.binOp BinOp.eql 42 (.func fn a b) .nilFunc).run Try.prog w = Result.ok (.bool false) w := fun _ _ _ _ => rfl
  have hB0 : Below w.heap.size w ((w.alloc (.cells #[.int .i64 (mo : Nat)] 3)).alloc (.cells #[.slice none 0 0] 36)) := below2 _ _ _
  have hI0 : ToI w mo [] ((w.alloc (.cells #[.int .i64 (mo : Nat)] 3)).alloc (.cells #[.slice none 0 0] 36)) := by
    refine ⟨⟨.slice none 0 0, ?_, World.ownsRow_nil _ _ _ _⟩, (Cl.new w 3 [_]).alloc _, hB0, Nat.zero_le _⟩
    have := Cl.new (w.alloc (.cells #[.int .i64 (mo : Nat)] 3)) 36 [.slice none 0 0]
    simpa using this
  refine (callsIn_wide (n := 5)).1 ?_
  refine callsIn_of_wp_marks Try.func18 rfl trivial ?_ rfl
  simp only [Try.ntmps18, List.size_toArray, List.length_cons, List.length_nil, Nat.reduceAdd, Nat.reduceSub, Array.replicate_succ, Array.replicate_zero, List.push_toArray, List.append_toArray, List.nil_append, List.cons_append]
  gi_wp2
  generalize hw1 : (w.alloc (.cells #[.int .i64 (mo : Nat)] 3)).alloc (.cells #[.slice none 0 0] 36) = w1 at *
  have hs : w1.heap.size = w.heap.size + 2 := by rw [← hw1]; simp
  clear hw1
  obtain ⟨i0, hi, hz0, hz1, hz2⟩ := info_parts b_win
  refine wpIn_rangeFunc_turnR (n := 5) rfl (by decide) (gf := 28) (lb := #[.pointer (some ⟨b1, 0, none⟩), .pointer (some ⟨b2, 0, none⟩)]) rfl trivial (enters_of Try.func28 (by kernel_rfl) rfl)
    (encs := fun u : Wn => #[.int .i64 (u.at_ : Nat), .complex .f64 u.x u.y]) (V := fun _ _ => True) (S := fun ys => ys.length = c ∧ Okl P ys) (Sp := fun pre => pre.length ≤ c ∧ Okl P pre) (N := 4096) (hi := w.heap.size + 10) (by omega) (fun k => k < w.heap.size) (fun k hk => by omega)
    (by rw [hs]; exact hseq) (fun _ => rfl)
    (ToI w mo) (ToX w mo) (fun s A B h ht => h.turn (hs ▸ ht)) (fun c s A B h ht => ?_) hI0
    (ToA w b1 b2 mo) (fun x a' A B h ht => h) ?assign ?body ?done ?stop
  · obtain ⟨hc, p, x, e, hl, hI⟩ := h
    exact ⟨hc, p, x, e, hl, hI.turn (hs ▸ ht)⟩
  case assign =>
    intro pre x W K hI hsz hK
    have HX : Hid (∀ a', ToA w b1 b2 mo x a' W → K a' W) := fun a' h => hK a' W ⟨Nat.le_refl _, fun _ _ => rfl⟩ hI h
    clear hI hI0 hB0 hseq hK
    gi_wp2
    exact HX.out _ rfl
  case body =>
    rintro pre x a' W hI - rfl hsz hlen
    obtain ⟨v, hv, hrow⟩ := hI.row
    obtain ⟨v0, v1⟩ := hv.one
    obtain ⟨m0, m1⟩ := hI.box.one
    obtain ⟨ao', cap', rfl⟩ := ownsRow_slice hrow
    have hb : (pre.length : Int) < 4096 := by omega
    by_cases hge : (pre.length : Int) ≥ (mo : Int)
    · have HZ : Hid (KeepR w1.heap.size (w.heap.size + 10) (fun k => k < w.heap.size) W W ∧ ToX w mo (.exit 0) (pre ++ [x]) W) := ⟨⟨Nat.le_refl _, fun _ _ => rfl⟩, rfl, pre, x, rfl, by have := hI.le; omega, hI⟩
      clear hI hI0 hB0 hseq hrow hv
      gi_wp2
      exact HZ.out
    · have HS : Hid (∀ v' w2, w2.ownsRow (w.heap.size + 10) 38 2 v' (pre.length + 1) (wnL pre ++ [.int .i64 (x.at_ : Nat), .complex .f64 x.x x.y]) → (W.alloc (.cells #[.int .i64 (x.at_ : Nat), .complex .f64 x.x x.y] 38)).grownBy w2 (Value.slice ao' pre.length cap').ownBlock → _) := fun v' w2 ho hg => to_step (x := x) hI (by omega) hsz hv hrow ho hg
      clear hI hv hI0 hB0 hseq
      gi_wp2_with (gi_at_builtin; refine wpListIn_append_own _ rfl _ _ 36 rfl (w.heap.size + 10) 38 i0 (.agg #[.int .i64 0, .complex .f64 0 0]) 2 24 Try.underlying36 hi hz0 hz1 hz2 rfl (by decide) _ _ _ rfl (hrow.alloc _) ⟨W.heap.size, 0, none⟩ 1 1 [.int .i64 (x.at_ : Nat), .complex .f64 x.x x.y] rfl rfl (two_new _ _ _ _) (by simp [Value.oneCell']) (by unfold maxLen; omega) (by omega) (by simp; omega) ?_; intro v' w2 hown' hgrow _; obtain ⟨hv2, hk2, hi2⟩ := HS.out v' w2 hown' hgrow; obtain ⟨ao2, cap2, rfl⟩ := ownsRow_slice hown'; obtain ⟨q0, q1⟩ := hv2.one; have HZ : Hid (_ ∧ _) := ⟨hk2, hi2⟩; clear hk2 hi2 hv2 hgrow)
      exact HZ.out
  case done =>
    rintro xs W ⟨hxl, hxo⟩ hI hD
    obtain ⟨v, hv, hrow⟩ := hI.row
    obtain ⟨ao', cap', rfl⟩ := ownsRow_slice hrow
    obtain ⟨v0, v1⟩ := hv.one
    have HR : Hid (RetTl w P (min c mo) (.returned (.slice ao' xs.length cap')) (W.putObj w1.heap.size (.deferred none))) := by
      rw [show min c mo = xs.length by have := hI.le; omega]
      exact ⟨xs, ao', cap', rfl, hxo, rfl, ownsRow_base (ownsRow_at hrow fun g hg _ => World.putObj_heap_other (by omega)) (by omega), (TurnR.put (lo := w1.heap.size) (hi := w1.heap.size + 1) (w1.heap.size) _ ⟨Nat.le_refl _, by omega⟩).below hI.bel (by omega) (Nat.le_of_lt hI.box.lt)⟩
    clear hI hrow hv hI0 hB0 hseq hxl hxo
    generalize xs.length = len at *
    gi_wp2
    refine ⟨by simp, .inl ⟨_, _, rfl, run_takeDeferred hD, ?_⟩⟩
    exact ⟨.slice ao' len cap', results_tmp (t := 4) rfl _ _ _, HR.out⟩
  case stop =>
    rintro cc pre W ⟨hxl, hxo⟩ ⟨rfl, pre', x, rfl, hl, hI⟩ hD
    obtain ⟨v, hv, hrow⟩ := hI.row
    obtain ⟨ao', cap', rfl⟩ := ownsRow_slice hrow
    obtain ⟨v0, v1⟩ := hv.one
    have HR : Hid (RetTl w P (min c mo) (.returned (.slice ao' pre'.length cap')) (W.putObj w1.heap.size (.deferred none))) := by
      rw [show min c mo = pre'.length by rw [List.length_append, List.length_singleton] at hxl; omega]
      exact ⟨pre', ao', cap', rfl, hxo.left, rfl, ownsRow_base (ownsRow_at hrow fun g hg _ => World.putObj_heap_other (by omega)) (by omega), (TurnR.put (lo := w1.heap.size) (hi := w1.heap.size + 1) (w1.heap.size) _ ⟨Nat.le_refl _, by omega⟩).below hI.bel (by omega) (Nat.le_of_lt hI.box.lt)⟩
    clear hI hrow hv hI0 hB0 hseq hl hxl hxo
    generalize pre'.length = len at *
    gi_wp2
    refine ⟨by simp, .inl ⟨_, _, rfl, run_takeDeferred hD, ?_⟩⟩
    exact ⟨.slice ao' len cap', results_tmp (t := 4) rfl _ _ _, HR.out⟩
end Go.Proofs.Ytgololmgdakigaa
