/- The laws' same, where both trees mean the same: the walks. -/
import Derived.Test.YtiiecppkabdkgaaDoorSb
import Derived.Test.YtiiecppkabdkgaaDoorDr
namespace Go.Proofs.YtiiecppkabdkgaaDoor
open Go.RowKit
/-- What codes mean: the common ones, and others by X. -/
def semB (X : Nat → Value → World → Prop) (c : Nat) (v : Value) (w : World) : Prop :=
  if c = 0 then v = .bool true else if c = 1 then v = .bool false else if c = 9 then True else if c = 2 then v = .int .i64 (-1)
  else if 1000 ≤ c ∧ c < 2000 then v = .func (.func (c - 1000)) #[] #[] else if 2000 ≤ c then v = .int .i64 ((c - 2000 : Nat) : Int) else X c v w
theorem semB_mid {X : Nat → Value → World → Prop} {c : Nat} (h1 : 10 ≤ c) (h2 : c < 1000) {v : Value} {w : World} : semB X c v w ↔ X c v w := by
  unfold semB
  rw [if_neg (by omega), if_neg (by omega), if_neg (by omega), if_neg (by omega), if_neg (by omega), if_neg (by omega)]
theorem semB_grow {X : Nat → Value → World → Prop} (hX : ∀ c v w w', X c v w → Below w.heap.size w w' → X c v w') (c : Nat) (v : Value) (w w' : World) (h : semB X c v w) (hb : Below w.heap.size w w') : semB X c v w' := by
  unfold semB at *
  by_cases h0 : c = 0
  · simp only [h0, if_true] at *; exact h
  by_cases h1 : c = 1
  · rw [if_neg h0, if_pos h1] at *; exact h
  by_cases h9 : c = 9
  · simp only [h9, if_true]; simp
  by_cases h2 : c = 2
  · rw [if_neg h0, if_neg h1, if_neg h9, if_pos h2] at *; exact h
  by_cases hf : 1000 ≤ c ∧ c < 2000
  · rw [if_neg h0, if_neg h1, if_neg h9, if_neg h2, if_pos hf] at *; exact h
  by_cases hn : 2000 ≤ c
  · rw [if_neg h0, if_neg h1, if_neg h9, if_neg h2, if_neg hf, if_pos hn] at *; exact h
  · rw [if_neg h0, if_neg h1, if_neg h9, if_neg h2, if_neg hf, if_neg hn] at *; exact hX _ _ _ _ h hb
theorem semB_yes {X : Nat → Value → World → Prop} (v : Value) (w : World) : semB X 0 v w ↔ v = .bool true := by unfold semB; rw [if_pos rfl]
theorem semB_no {X : Nat → Value → World → Prop} (v : Value) (w : World) : semB X 1 v w ↔ v = .bool false := by unfold semB; rw [if_neg (by omega), if_pos rfl]
theorem semB_neg {X : Nat → Value → World → Prop} (v : Value) (w : World) : semB X 2 v w ↔ v = .int .i64 (-1) := by unfold semB; rw [if_neg (by omega), if_neg (by omega), if_neg (by omega), if_pos rfl]
theorem semB_any {X : Nat → Value → World → Prop} (v : Value) (w : World) : semB X 9 v w := by unfold semB; rw [if_neg (by omega), if_neg (by omega), if_pos rfl]; trivial
theorem semB_num {X : Nat → Value → World → Prop} (n : Nat) (v : Value) (w : World) : semB X (2000 + n) v w ↔ v = .int .i64 (n : Nat) := by
  unfold semB
  rw [if_neg (by omega), if_neg (by omega), if_neg (by omega), if_neg (by omega), if_neg (by omega), if_pos (by omega), Nat.add_sub_cancel_left]
theorem semB_fn {X : Nat → Value → World → Prop} (f : Nat) (v : Value) (w : World) (hf : f < 1000) : semB X (1000 + f) v w ↔ v = .func (.func f) #[] #[] := by
  unfold semB
  rw [if_neg (by omega), if_neg (by omega), if_neg (by omega), if_neg (by omega), if_pos (by omega), Nat.add_sub_cancel_left]
theorem Fits.nil {sem : Nat → Value → World → Prop} {w : World} {vs : List Value} (h : Fits sem w [] vs) : vs = [] := by
  cases vs with
  | nil => rfl
  | cons _ _ => exact h.elim
theorem Fits.cons {sem : Nat → Value → World → Prop} {w : World} {c : Nat} {cs : List Nat} {vs : List Value} (h : Fits sem w (c :: cs) vs) : ∃ v vs', vs = v :: vs' ∧ sem c v w ∧ Fits sem w cs vs' := by
  cases vs with
  | nil => exact h.elim
  | cons v vs' => exact ⟨v, vs', rfl, h.1, h.2⟩
theorem eg11 (args : Array Value) (w : World) : (callFunc 11 args).run Tryd.prog w = .ok (.enter 11 args) w := enters_of Tryd.func11 (by kernel_rfl) rfl args w
theorem eg12 (args : Array Value) (w : World) : (callFunc 12 args).run Tryd.prog w = .ok (.enter 12 args) w := enters_of Tryd.func12 (by kernel_rfl) rfl args w
theorem ex_load24 {o : Oper} {a : Act} {w : World} {t : Nat} {b : Nat} {v : Value} (h : o.op = .load 24 (.tmp t)) (hx : a.eval (.tmp t) = .pointer (some ⟨b, 0, none⟩)) (hb : w.cell? ⟨b, 0, none⟩ = some v) : (execOp a.eval o).run Tryd.prog w = .ok (.value (.agg #[v])) w := by
  unfold execOp
  rw [h]
  generalize a.eval = ρ at *
  simp [go_sem, hx, hb]
theorem ex_load25 {o : Oper} {a : Act} {w : World} {t : Nat} {b : Nat} {v : Value} (h : o.op = .load 25 (.tmp t)) (hx : a.eval (.tmp t) = .pointer (some ⟨b, 0, none⟩)) (hb : w.cell? ⟨b, 0, none⟩ = some v) : (execOp a.eval o).run Tryd.prog w = .ok (.value v) w := by
  unfold execOp
  rw [h]
  generalize a.eval = ρ at *
  simp [go_sem, hx, hb]
/-- What the codes of same's region mean. -/
def semS (xo : Option Addr) (xn xc : Nat) (yo : Option Addr) (yn yc : Nat) (ao : Option Addr) (n cap : Nat) (T1 T2 : Tab) (B : Nat) (c : Nat) (v : Value) (w : World) : Prop :=
  if c = 10 then v = .agg #[.slice xo xn xc] else if c = 11 then v = .agg #[.slice yo yn yc] else if c = 12 then v = .slice ao n cap
  else if c = 13 then ∃ ta, v = .slice (some ⟨ta, 0, none⟩) (n + 1) (n + 1) ∧ BRows w B ta (n + 1) (n + 1) T1
  else if c = 14 then ∃ ta, v = .slice (some ⟨ta, 0, none⟩) (n + 1) (n + 1) ∧ BRows w B ta (n + 1) (n + 1) T2 else True
theorem BRows.lower {W : World} {B B' tb N r : Nat} {T : Tab} (h : BRows W B tb N r T) (hB : B' ≤ B) : BRows W B' tb N r T := by
  obtain ⟨M, h1, h2⟩ := h
  refine ⟨M, h1, fun i hi => ?_⟩
  obtain ⟨b, h3, h4⟩ := h2 i hi
  exact ⟨b, by omega, h4⟩
def lookS : Look := { base := 6, res := 5, num := 8, fixed := [], loads := [(3, 24, 10), (2, 25, 12), (4, 24, 11)], calls := [(1012, [10, 1, 12], 13), (1012, [11, 1, 12], 14), (1011, [13, 14], 0)], bools := [], L := [10, 12, 13, 11, 12, 14, 0, 0] }
def fvS (a0 a1 : Value) (wb h : Nat) (t : Nat) : Value := if t = 0 then a0 else if t = 1 then a1 else if t = 2 then .pointer (some ⟨wb, 0, none⟩) else if t = 3 then .pointer (some ⟨h, 0, none⟩) else if t = 4 then .pointer (some ⟨h + 1, 0, none⟩) else undef
theorem owedS (xo : Option Addr) (xn xc : Nat) (F : Nat → Nd) (yo : Option Addr) (yn yc : Nat) (G : Nat → Nd) (ao : Option Addr) (n cap : Nat) (f : Nat → Nat) (wb h : Nat) (a0 a1 : Value) (w0 : World) (hX : RdN w0 xo xn F) (hxn : (xn : Int) ≤ 9223372036854775807) (hFx : ∀ i, i < xn → wfN (F i)) (hY : RdN w0 yo yn G) (hyn : (yn : Int) ≤ 9223372036854775807) (hGy : ∀ i, i < yn → wfN (G i)) (hr : RdB w0 ao n f) (hn : n ≤ 24) (hT : TabZ w0)
    (k0 : Cl w0 h 24 [.slice xo xn xc]) (k1 : Cl w0 (h + 1) 24 [.slice yo yn yc]) (kw : Cl w0 wb 25 [.slice ao n cap]) (he : ∀ i j, i < n + 1 → j < n + 1 → spB (mTab f n false F xn) i j = spB (mTab f n false G yn) i j) :
    Owed Tryd.prog lookS (semB (semS xo xn xc yo yn yc ao n cap (mTab f n false F xn) (mTab f n false G yn) 0)) (fun w => Below w0.heap.size w0 w) 13 (fvS a0 a1 wb h) := by
  refine ⟨Tryd.underlying4, semB_grow ?_, fun w w' h1 h2 => h1.trans (h2.mono h1.size), semB_yes, semB_no, semB_neg, semB_any, semB_num, semB_fn, ?_, ?_, ?_, ?_, ?_⟩
  · intro c v w w' hs hb
    unfold semS at *
    split
    · rename_i e; simpa [e] using hs
    split
    · rename_i e; simpa [e] using hs
    split
    · rename_i e; simpa [e] using hs
    split
    · rename_i e
      simp [e] at hs
      obtain ⟨ta, h1, h2⟩ := hs
      exact ⟨ta, h1, h2.below hb⟩
    split
    · rename_i e
      simp [e] at hs
      obtain ⟨ta, h1, h2⟩ := hs
      exact ⟨ta, h1, h2.below hb⟩
    · trivial
  · intro c cs r hm
    simp [lookS] at hm
    omega
  · intro t c hm
    simp [lookS] at hm
  · intro t k r hm
    simp only [lookS, List.mem_cons, List.not_mem_nil, or_false, Prod.mk.injEq] at hm
    rcases hm with ⟨rfl, rfl, rfl⟩ | ⟨rfl, rfl, rfl⟩ | ⟨rfl, rfl, rfl⟩
    · exact ⟨by decide, fun o a w ho ha hC => ⟨_, ex_load24 ho ha ((k0.below hC).cell 0 rfl), (semB_mid (by decide) (by decide)).2 rfl⟩⟩
    · exact ⟨by decide, fun o a w ho ha hC => ⟨_, ex_load25 ho ha ((kw.below hC).cell 0 rfl), (semB_mid (by decide) (by decide)).2 rfl⟩⟩
    · exact ⟨by decide, fun o a w ho ha hC => ⟨_, ex_load24 ho ha ((k1.below hC).cell 0 rfl), (semB_mid (by decide) (by decide)).2 rfl⟩⟩
  · intro c hm
    simp [lookS] at hm
  · intro c cs r hm
    simp only [lookS, List.mem_cons, List.not_mem_nil, or_false, Prod.mk.injEq] at hm
    rcases hm with ⟨rfl, rfl, rfl⟩ | ⟨rfl, rfl, rfl⟩ | ⟨rfl, rfl, rfl⟩
    · refine ⟨12, #[], fun v w h => (semB_fn 12 v w (by decide)).1 h, eg12, fun w vs hC hf => ?_⟩
      obtain ⟨v0, vs0, rfl, h0, hf⟩ := hf.cons
      obtain ⟨v1, vs1, rfl, h1, hf⟩ := hf.cons
      obtain ⟨v2, vs2, rfl, h2, hf⟩ := hf.cons
      obtain rfl := hf.nil
      obtain rfl : v0 = _ := (semB_mid (by decide) (by decide)).1 h0
      obtain rfl := (semB_no _ _).1 h1
      obtain rfl : v2 = _ := (semB_mid (by decide) (by decide)).1 h2
      refine (spans12_any xo xn xc F ao n cap false f w (hX.below hC) hxn hFx (hr.below hC) hn (hT.below hC)).mono ?_
      rintro e w' ⟨ta, rfl, hb, hbel, _⟩
      exact ⟨_, rfl, (semB_mid (by decide) (by decide)).2 ⟨ta, rfl, hb.lower (Nat.zero_le _)⟩, hbel⟩
    · refine ⟨12, #[], fun v w h => (semB_fn 12 v w (by decide)).1 h, eg12, fun w vs hC hf => ?_⟩
      obtain ⟨v0, vs0, rfl, h0, hf⟩ := hf.cons
      obtain ⟨v1, vs1, rfl, h1, hf⟩ := hf.cons
      obtain ⟨v2, vs2, rfl, h2, hf⟩ := hf.cons
      obtain rfl := hf.nil
      obtain rfl : v0 = _ := (semB_mid (by decide) (by decide)).1 h0
      obtain rfl := (semB_no _ _).1 h1
      obtain rfl : v2 = _ := (semB_mid (by decide) (by decide)).1 h2
      refine (spans12_any yo yn yc G ao n cap false f w (hY.below hC) hyn hGy (hr.below hC) hn (hT.below hC)).mono ?_
      rintro e w' ⟨ta, rfl, hb, hbel, _⟩
      exact ⟨_, rfl, (semB_mid (by decide) (by decide)).2 ⟨ta, rfl, hb.lower (Nat.zero_le _)⟩, hbel⟩
    · refine ⟨11, #[], fun v w h => (semB_fn 11 v w (by decide)).1 h, eg11, fun w vs hC hf => ?_⟩
      obtain ⟨v0, vs0, rfl, h0, hf⟩ := hf.cons
      obtain ⟨v1, vs1, rfl, h1, hf⟩ := hf.cons
      obtain rfl := hf.nil
      obtain ⟨ta, rfl, hA⟩ : ∃ ta, v0 = .slice (some ⟨ta, 0, none⟩) (n + 1) (n + 1) ∧ BRows w 0 ta (n + 1) (n + 1) (mTab f n false F xn) := (semB_mid (by decide) (by decide)).1 h0
      obtain ⟨tb, rfl, hB⟩ : ∃ ta, v1 = .slice (some ⟨ta, 0, none⟩) (n + 1) (n + 1) ∧ BRows w 0 ta (n + 1) (n + 1) (mTab f n false G yn) := (semB_mid (by decide) (by decide)).1 h1
      refine (sameT_any 0 0 ta tb (n + 1) _ _ w hA hB (by omega) he).mono ?_
      rintro e w' ⟨rfl, hbel⟩
      exact ⟨_, rfl, (semB_yes _ _).2 rfl, hbel⟩
set_option maxRecDepth 10000 in
set_option maxHeartbeats 2000000 in
theorem same25_any (xo : Option Addr) (xn xc : Nat) (F : Nat → Nd) (yo : Option Addr) (yn yc : Nat) (G : Nat → Nd) (ao : Option Addr) (n cap : Nat) (f : Nat → Nat) (wb : Nat) (w : World) (hX : RdN w xo xn F) (hxn : (xn : Int) ≤ 9223372036854775807) (hFx : ∀ i, i < xn → wfN (F i)) (hY : RdN w yo yn G) (hyn : (yn : Int) ≤ 9223372036854775807) (hGy : ∀ i, i < yn → wfN (G i)) (hr : RdB w ao n f) (hn : n ≤ 24) (hT : TabZ w)
    (kw : Cl w wb 25 [.slice ao n cap]) (he : ∀ i j, i < n + 1 → j < n + 1 → spB (mTab f n false F xn) i j = spB (mTab f n false G yn) i j) :
    Calls Tryd.prog 25 #[.agg #[.slice xo xn xc], .agg #[.slice yo yn yc], .pointer (some ⟨wb, 0, none⟩)] w (RetTrue w) := by
  have hb0 := below2 w (.cells #[.slice xo xn xc] 24) (.cells #[.slice yo yn yc] 24)
  have k0 : Cl ((w.alloc (.cells #[.slice xo xn xc] 24)).alloc (.cells #[.slice yo yn yc] 24)) w.heap.size 24 [.slice xo xn xc] := (Cl.new w 24 [.slice xo xn xc]).alloc _
  have k1 : Cl ((w.alloc (.cells #[.slice xo xn xc] 24)).alloc (.cells #[.slice yo yn yc] 24)) (w.heap.size + 1) 24 [.slice yo yn yc] := by
    have := Cl.new (w.alloc (.cells #[.slice xo xn xc] 24)) 24 [.slice yo yn yc]
    simpa only [World.size_alloc] using this
  have HO := owedS xo xn xc F yo yn yc G ao n cap f wb w.heap.size (.agg #[.slice xo xn xc]) (.agg #[.slice yo yn yc]) _ (hX.below hb0) hxn hFx (hY.below hb0) hyn hGy (hr.below hb0) hn (hT.below hb0) k0 k1 (kw.below hb0) he
  clear hX hFx hY hGy hr hT kw he k0 k1
  go_enter Tryd.func25, Tryd.ntmps25
  go_wp2_with fail
  refine region_codes (K := lookS) (by kernel_rfl) HO (fun c h => by simp [lookS] at h) (by decide) (by kernel_rfl) (by decide) (by kernel_rfl) (by kernel_rfl) (Below.refl _ _) ⟨rfl, rfl, fun t ht hne => ?_⟩ (by decide) (by decide) ?_
  · have h5 : t = 0 ∨ t = 1 ∨ t = 2 ∨ t = 3 ∨ t = 4 := by simp only [lookS] at ht hne; omega
    rcases h5 with rfl | rfl | rfl | rfl | rfl <;> rfl
  · intro a' w' hC hFd hres
    rename_i hK
    refine hK a' w' ?_
    obtain ⟨tm, ds⟩ := a'
    obtain rfl : ds = [] := hFd.defers
    have h6' : tm.getD 5 undef = .bool true := hres
    refine wp_ret ?_
    exact bodyPost_ret (v := tm.getD 5 undef) (results_tmp (t := 5) rfl tm _ _) rfl ⟨by rw [h6'], hb0.trans (hC.mono hb0.size)⟩
set_option maxRecDepth 10000 in
set_option maxHeartbeats 2000000 in
theorem same30_any (xo : Option Addr) (xn xc : Nat) (F : Nat → Nd) (yo : Option Addr) (yn yc : Nat) (G : Nat → Nd) (ao : Option Addr) (n cap : Nat) (f : Nat → Nat) (wb : Nat) (w : World) (hX : RdN w xo xn F) (hxn : (xn : Int) ≤ 9223372036854775807) (hFx : ∀ i, i < xn → wfN (F i)) (hY : RdN w yo yn G) (hyn : (yn : Int) ≤ 9223372036854775807) (hGy : ∀ i, i < yn → wfN (G i)) (hr : RdB w ao n f) (hn : n ≤ 24) (hT : TabZ w)
    (kw : Cl w wb 25 [.slice ao n cap]) (he : ∀ i j, i < n + 1 → j < n + 1 → spB (mTab f n false F xn) i j = spB (mTab f n false G yn) i j) :
    Calls Tryd.prog 30 #[.agg #[.slice xo xn xc], .agg #[.slice yo yn yc], .pointer (some ⟨wb, 0, none⟩)] w (RetTrue w) := by
  have hb0 := below2 w (.cells #[.slice xo xn xc] 24) (.cells #[.slice yo yn yc] 24)
  have k0 : Cl ((w.alloc (.cells #[.slice xo xn xc] 24)).alloc (.cells #[.slice yo yn yc] 24)) w.heap.size 24 [.slice xo xn xc] := (Cl.new w 24 [.slice xo xn xc]).alloc _
  have k1 : Cl ((w.alloc (.cells #[.slice xo xn xc] 24)).alloc (.cells #[.slice yo yn yc] 24)) (w.heap.size + 1) 24 [.slice yo yn yc] := by
    have := Cl.new (w.alloc (.cells #[.slice xo xn xc] 24)) 24 [.slice yo yn yc]
    simpa only [World.size_alloc] using this
  have HO := owedS xo xn xc F yo yn yc G ao n cap f wb w.heap.size (.agg #[.slice xo xn xc]) (.agg #[.slice yo yn yc]) _ (hX.below hb0) hxn hFx (hY.below hb0) hyn hGy (hr.below hb0) hn (hT.below hb0) k0 k1 (kw.below hb0) he
  clear hX hFx hY hGy hr hT kw he k0 k1
  go_enter Tryd.func30, Tryd.ntmps30
  go_wp2_with fail
  refine region_codes (K := lookS) (by kernel_rfl) HO (fun c h => by simp [lookS] at h) (by decide) (by kernel_rfl) (by decide) (by kernel_rfl) (by kernel_rfl) (Below.refl _ _) ⟨rfl, rfl, fun t ht hne => ?_⟩ (by decide) (by decide) ?_
  · have h5 : t = 0 ∨ t = 1 ∨ t = 2 ∨ t = 3 ∨ t = 4 := by simp only [lookS] at ht hne; omega
    rcases h5 with rfl | rfl | rfl | rfl | rfl <;> rfl
  · intro a' w' hC hFd hres
    rename_i hK
    refine hK a' w' ?_
    obtain ⟨tm, ds⟩ := a'
    obtain rfl : ds = [] := hFd.defers
    have h6' : tm.getD 5 undef = .bool true := hres
    refine wp_ret ?_
    exact bodyPost_ret (v := tm.getD 5 undef) (results_tmp (t := 5) rfl tm _ _) rfl ⟨by rw [h6'], hb0.trans (hC.mono hb0.size)⟩
end Go.Proofs.YtiiecppkabdkgaaDoor
