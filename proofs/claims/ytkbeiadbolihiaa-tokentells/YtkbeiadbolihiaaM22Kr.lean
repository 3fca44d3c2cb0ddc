/- The reference of token: one as a whole, given what brackets says. Scopes in which the run jumps to several labels; bracket's code. token: bracket: the ways of one pass from its label. -/
import Derived.Test.YtkbeiadbolihiaaM21Xk
import Derived.Test.YtkbeiadbolihiaaM19Pu
import Derived.ScopeJumps
import Derived.WalkMore
import Derived.Deep.RegionWith
namespace Go.Proofs.Ytkbeiadbolihiaa
open Go.RowKit
theorem tokOf_bad (en : Nat) (er : Int) : tokOf (TokS.bad en er).z = tokV 0 0 0 0 0 0 false 0 0 false 0 := by rw [tokOf_none _ rfl]; rfl
theorem tokOf_sgn (k : Int) (b a e : Nat) : tokOf (TokS.sgn k b a e).z = tokV k b 0 0 0 0 false 0 0 false 0 := by rw [tokOf_none _ rfl]; rfl
theorem escS_two (z : Nat → Nat) (n at_ : Nat) : (escS z n at_).er = 0 ∧ 0 < (escS z n at_).en ∨ escS z n at_ = .bad at_ 40 := by
  unfold escS
  repeat' split
  all_goals first | (right; rfl) | (left; refine ⟨rfl, ?_⟩; simp [TokS.cls, TokS.sgn])
theorem cntV_two (z : Nat → Nat) (n fr : Nat) : (cntV z n fr).2.2.2 = 0 ∨ cntV z n fr = (0, 0, fr, 43) := by
  unfold cntV
  repeat' split
  all_goals first | (right; rfl) | (left; rfl)
theorem repS_two (z : Nat → Nat) (n at_ : Nat) : (repS z n at_).2.2.2 = 0 ∧ 0 < (repS z n at_).2.2.1 ∨ repS z n at_ = (0, 0, at_, 43) ∧ z at_ ≠ 42 ∧ z at_ ≠ 43 ∧ z at_ ≠ 63 := by
  unfold repS
  split
  · left; exact ⟨rfl, by simp⟩
  split
  · left; exact ⟨rfl, by simp⟩
  split
  · left; exact ⟨rfl, by simp⟩
  rcases cntV_two z n at_ with h | h
  · left; exact ⟨h, by have := cntV_lt h; omega⟩
  · right; exact ⟨h, by omega⟩
theorem rptS_two (z : Nat → Nat) (n at_ : Nat) : (rptS z n at_).er = 0 ∧ 0 < (rptS z n at_).en ∨ rptS z n at_ = .bad at_ 43 ∧ z at_ ≠ 42 ∧ z at_ ≠ 43 ∧ z at_ ≠ 63 := by
  unfold rptS
  rcases repS_two z n at_ with ⟨h, h2⟩ | ⟨h, h2⟩
  · rw [if_neg (by simp [h])]
    split
    · left; exact ⟨rfl, by simp [TokS.rep]⟩
    · left; exact ⟨rfl, h2⟩
  · right; rw [h, if_pos (by simp)]; exact ⟨rfl, h2⟩
theorem rone_any (ao : Option Addr) (n cap at_ : Nat) (z : Nat → Nat) (w : World) (hr : Rd w ao n z) (hn : (n : Int) ≤ 1024) (ha : at_ < n) (br : TokS) (hbr : z at_ = 91 → ∀ W, Below w.heap.size w W → Calls Try.prog 25 #[.slice ao n cap, .int .i64 (at_ : Nat)] W (RetO W (tokOf br.z) br.en br.er)) : Calls Try.prog 18 #[.slice ao n cap, .int .i64 (at_ : Nat)] w (RetO w (tokOf (wrdS br z n at_).z) (wrdS br z n at_).en (wrdS br z n at_).er) := by
  have hE := fun W (hb : Below w.heap.size w W) => rescape_any ao n cap at_ z W (hr.below hb) hn ha
  have hP := fun (hq : z at_ = 42 ∨ z at_ = 43 ∨ z at_ = 63 ∨ z at_ = 123) W (hb : Below w.heap.size w W) => rrepeat_any ao n cap at_ z W (hr.below hb) hn ha hq
  obtain ⟨bb, off, rfl, _, _⟩ := hr.at_ (by omega)
  unfold wrdS
  by_cases h92 : z at_ = 92
  · rw [if_pos h92]
    clear hP hbr
    rcases escS_two z n at_ with ⟨he, h0⟩ | he
    · generalize escS z n at_ = s at *
      unfold refR at hE
      simp only [if_pos he] at hE
      rw [he]
      exact ro_esc bb off n cap at_ z w hr ha h92 _ _ _ _ _ _ _ _ _ _ _ _ h0 hE
    · rw [he] at hE ⊢
      rw [refR_bad (by simp [TokS.bad])] at hE
      rw [tokOf_bad]
      exact ro_esc_bad bb off n cap at_ z w hr ha h92 0 0 0 0 0 0 false 0 0 false 0 hE
  rw [if_neg h92]
  clear hE
  by_cases h91 : z at_ = 91
  · rw [if_pos h91]
    exact ro_brk bb off n cap at_ z w hr ha h91 _ _ _ _ _ _ _ _ _ _ _ _ _ (hbr h91)
  rw [if_neg h91]
  clear hbr
  by_cases h40 : z at_ = 40
  · rw [if_pos h40]
    clear hP
    unfold opnS
    by_cases h1 : at_ + 1 < n
    · by_cases h63 : z (at_ + 1) = 63
      · rw [if_neg (by rw [hasP_eq h1 h63]; decide)]
        by_cases h2 : at_ + 2 < n
        · by_cases h58 : z (at_ + 2) = 58
          · rw [if_pos (hasP_eq h2 h58), tokOf_sgn]
            exact ro_open_yes bb off n cap at_ z w hr hn ha h40 h1 h63 h2 h58
          · rw [if_neg (by rw [hasP_ne h58]; decide), tokOf_bad]
            exact ro_open_bad bb off n cap at_ z w hr hn ha h40 h1 h63 h2 _ rfl h58
        · rw [if_neg (by rw [hasP_out h2]; decide), tokOf_bad]
          exact ro_open_bad_end bb off n cap at_ z w hr hn ha h40 h1 h63 h2
      · rw [if_pos (hasP_ne h63), tokOf_sgn]
        exact ro_open_no bb off n cap at_ z w hr hn ha h40 h1 _ rfl h63
    · rw [if_pos (hasP_out h1), tokOf_sgn]
      exact ro_open_end bb off n cap at_ z w hr hn ha h40 h1
  rw [if_neg h40]
  by_cases hq : z at_ = 42 ∨ z at_ = 43 ∨ z at_ = 63 ∨ z at_ = 123
  · rw [if_pos hq]
    have hP := hP hq
    rcases rptS_two z n at_ with ⟨he, h0⟩ | ⟨he, h1, h2, h3⟩
    · generalize rptS z n at_ = s at *
      unfold refR at hP
      simp only [if_pos he] at hP
      rw [he]
      rcases hq with hq | hq | hq | hq
      · exact ro_star bb off n cap at_ z w hr ha hq _ _ _ _ _ _ _ _ _ _ _ _ h0 hP
      · exact ro_plus bb off n cap at_ z w hr ha hq _ _ _ _ _ _ _ _ _ _ _ _ h0 hP
      · exact ro_quest bb off n cap at_ z w hr ha hq _ _ _ _ _ _ _ _ _ _ _ _ h0 hP
      · exact ro_cnt bb off n cap at_ z w hr ha hq _ _ _ _ _ _ _ _ _ _ _ _ h0 hP
    · rw [he] at hP ⊢
      rw [refR_bad (by simp [TokS.bad])] at hP
      rw [tokOf_bad]
      exact ro_cnt_bad bb off n cap at_ z w hr ha (by omega) 0 0 0 0 0 0 false 0 0 false 0 hP
  rw [if_neg hq]
  clear hP
  unfold sgnS signK
  by_cases q1 : z at_ = 41
  · rw [q1, tokOf_sgn]; exact ro_close bb off n cap at_ z w hr hn ha q1
  by_cases q2 : z at_ = 124
  · rw [q2, tokOf_sgn]; exact ro_bar bb off n cap at_ z w hr hn ha q2
  by_cases q3 : z at_ = 46
  · rw [q3, tokOf_sgn]; exact ro_dot bb off n cap at_ z w hr hn ha q3
  by_cases q4 : z at_ = 94
  · rw [q4, tokOf_sgn]; exact ro_hat bb off n cap at_ z w hr hn ha q4
  by_cases q5 : z at_ = 36
  · rw [q5, tokOf_sgn]; exact ro_dollar bb off n cap at_ z w hr hn ha q5
  have := ro_byte bb off n cap at_ z w hr hn ha _ rfl (by omega)
  rw [if_neg q3, if_neg q1, if_neg q2, if_neg q4, if_neg q5, if_pos rfl, tokOf_sgn]
  exact this
end Go.Proofs.Ytkbeiadbolihiaa
namespace Go.Proofs.Ytkbeiadbolihiaa
open Go.RowKit
/-- As Q; by a goto to label l: J l. -/
def jumps (J : Nat → Act → World → Prop) (Q : Exit → Act → World → Prop) : Exit → Act → World → Prop
  | .goto l, a, w => J l a w
  | e, a, w => Q e a w
/-- A scope in which the run jumps to several labels; every jump lowers a measure. -/
theorem wp_scope_labels {P : Program} {c : Code} {Q : Exit → Act → World → Prop} {a : Act} {w : World} (J : Nat → Nat → Act → World → Prop)
    (first : c.wp P (jumps (fun l a w => ∃ m, J l m a w) Q) a w)
    (pass : ∀ l m a w, J l m a w → ∃ rest, findLabel c l = some rest ∧ rest.wp P (jumps (fun l' a' w' => ∃ m', m' < m ∧ J l' m' a' w') Q) a w) : (Code.scope c).wp P Q a w := by
  intro b k cs
  have key : ∀ n l a w, J l n a w → ∃ rest, findLabel c l = some rest ∧ ∃ e a' w', Q e a' w' ∧ Arrives P (lone (b.at a (.code rest :: .inScope c :: k)) cs w) b k cs e a' w' := by
    intro n
    induction n using Nat.strongRecOn with
    | _ n ih =>
      intro l a w hJ
      obtain ⟨rest, hf, hp⟩ := pass l n a w hJ
      refine ⟨rest, hf, ?_⟩
      obtain ⟨e, a₁, w₁, hq, harr⟩ := hp b (.inScope c :: k) cs
      cases e with
      | normal => exact ⟨.normal, a₁, w₁, hq, Steps.trans harr (.one step_inScope)⟩
      | exit id => exact ⟨.exit id, a₁, w₁, hq, fun k' hk => harr k' (by simp [exitTo, hk])⟩
      | goto l' =>
        obtain ⟨m', hlt, hJ'⟩ := hq
        obtain ⟨rest', hf', e₂, a₂, w₂, hq₂, harr₂⟩ := ih m' hlt l' a₁ w₁ hJ'
        have hg : gotoIn l' (.inScope c :: k) = some (.code rest' :: .inScope c :: k) := by simp [gotoIn, hf']
        exact ⟨e₂, a₂, w₂, hq₂, .of_steps (harr _ hg) harr₂⟩
      | ret => exact ⟨_, a₁, w₁, hq, harr⟩
      | panic ch => exact ⟨_, a₁, w₁, hq, harr⟩
      | outgrown => exact ⟨_, a₁, w₁, hq, harr⟩
  obtain ⟨e, a₁, w₁, hq, harr⟩ := first b (.inScope c :: k) cs
  cases e with
  | normal => exact ⟨.normal, a₁, w₁, hq, .head step_scope (Steps.trans harr (.one step_inScope))⟩
  | exit id => exact ⟨.exit id, a₁, w₁, hq, fun k' hk => .head step_scope (harr k' (by simp [exitTo, hk]))⟩
  | goto l' =>
    obtain ⟨m, hJ⟩ := hq
    obtain ⟨rest', hf', e₂, a₂, w₂, hq₂, harr₂⟩ := key m l' a₁ w₁ hJ
    have hg : gotoIn l' (.inScope c :: k) = some (.code rest' :: .inScope c :: k) := by simp [gotoIn, hf']
    exact ⟨e₂, a₂, w₂, hq₂, .of_steps (.head step_scope (harr _ hg)) harr₂⟩
  | ret => exact ⟨_, a₁, w₁, hq, .of_steps (.one step_scope) harr⟩
  | panic ch => exact ⟨_, a₁, w₁, hq, .of_steps (.one step_scope) harr⟩
  | outgrown => exact ⟨_, a₁, w₁, hq, .of_steps (.one step_scope) harr⟩
theorem jumps_mono {J J' : Nat → Act → World → Prop} {Q : Exit → Act → World → Prop} (h : ∀ l a w, J l a w → J' l a w) (e : Exit) (a : Act) (w : World) (hq : jumps J Q e a w) : jumps J' Q e a w := by
  cases e <;> first | exact hq | exact h _ _ _ hq
theorem wp_skip_seq {P : Program} {c : Code} {Q : Exit → Act → World → Prop} {a : Act} {w : World} (h : c.wp P Q a w) : (Code.skip.seq c).wp P Q a w := wp_seq (wp_skip h)
/-- The code inside the first scope of a code; what stands behind a code's first part. -/
def inScope : Code → Option Code
  | .scope c => some c
  | .seq a b => match inScope a with
    | some c => some c
    | none => inScope b
  | .block _ c => inScope c
  | _ => none
def behind : Code → Code
  | .seq _ b => b
  | c => c
/-- The value at a place of a frame. -/
def nth : List Value → Nat → Value
  | [], _ => undef
  | x :: _, 0 => x
  | _ :: xs, n + 1 => nth xs n
/-- The code inside a function's scope; what stands behind a label of it. -/
def scopeIn (fn : Func) : Code := ((fn.body.bind inScope).getD .skip)
def labelIn (fn : Func) (l : Nat) : Code := behind ((findLabel (scopeIn fn) l).getD .skip)
theorem br11_0 : findLabel (scopeIn Try.f20) 0 = some (Code.skip.seq (labelIn Try.f20 0)) := by kernel_rfl
theorem br11_1 : findLabel (scopeIn Try.f20) 1 = some (Code.skip.seq (labelIn Try.f20 1)) := by kernel_rfl
theorem br11_2 : findLabel (scopeIn Try.f20) 2 = some (Code.skip.seq (labelIn Try.f20 2)) := by kernel_rfl
/-- bracket's frame. -/
def fr11 (ao : Option Addr) (n cap at_ N : Nat) (u : Nat → Value) : Array Value := #[.slice ao n cap, .int .i64 (at_ : Nat), u 2, u 3, .pointer (some ⟨N, 0, none⟩), .pointer (some ⟨N + 1, 0, none⟩), .pointer (some ⟨N + 1 + 1, 0, none⟩), .pointer (some ⟨N + 1 + 1 + 1, 0, none⟩), .pointer (some ⟨N + 1 + 1 + 1 + 1, 0, none⟩), u 9, u 10, u 11, u 12, u 13, u 14, u 15, u 16, u 17, u 18, u 19, u 20, u 21, u 22, u 23, u 24, u 25, u 26, u 27, u 28, u 29, u 30, u 31, u 32, u 33, u 34, u 35, u 36, u 37, u 38, u 39, u 40, u 41, u 42, u 43, u 44, u 45, u 46, u 47, u 48, u 49, u 50, u 51, u 52, u 53, u 54, u 55, u 56, u 57, u 58, u 59, u 60, u 61, u 62, u 63, u 64, u 65]
def Fr11 (ao : Option Addr) (n cap at_ N : Nat) (tm : Array Value) : Prop := ∃ u, tm = fr11 ao n cap at_ N u
theorem Fr11.of {ao : Option Addr} {n cap at_ N : Nat} (tm : Array Value) (h : tm = fr11 ao n cap at_ N (nth tm.toList)) : Fr11 ao n cap at_ N tm := ⟨_, h⟩
/-- bracket's five blocks. -/
structure Bq (w : World) (N at_ : Nat) (nt : Bool) (c0 c1 c2 c3 i : Nat) (er : Int) (p0 p1 p2 p3 : Nat) (W : World) : Prop where
  k0 : Cl W N 33 [.int .i64 0, .int .u8 0, .int .u64 0, .int .u64 0, .int .u64 0, .int .u64 0, .bool false, .int .i64 0, .int .i64 0, .bool false, .int .i64 0]
  k1 : Cl W (N + 1) 45 [.int .i64 0, .int .i64 0]
  k2 : Cl W (N + 1 + 1) 33 [.int .i64 2, .int .u8 0, .int .u64 (c0 : Nat), .int .u64 (c1 : Nat), .int .u64 (c2 : Nat), .int .u64 (c3 : Nat), .bool nt, .int .i64 0, .int .i64 0, .bool false, .int .i64 (at_ : Nat)]
  k3 : Cl W (N + 1 + 1 + 1) 45 [.int .i64 (i : Nat), .int .i64 er]
  k4 : Cl W (N + 1 + 1 + 1 + 1) 31 [.int .u64 (p0 : Nat), .int .u64 (p1 : Nat), .int .u64 (p2 : Nat), .int .u64 (p3 : Nat)]
  bel : Below N w W
end Go.Proofs.Ytkbeiadbolihiaa
namespace Go.Proofs.Ytkbeiadbolihiaa
open Go.RowKit
theorem Bq.next {w W w1 : World} {N at_ : Nat} {nt : Bool} {c0 c1 c2 c3 i : Nat} {er : Int} {p0 p1 p2 p3 : Nat} (h : Bq w N at_ nt c0 c1 c2 c3 i er p0 p1 p2 p3 W) (hb : Below W.heap.size W w1) : Bq w N at_ nt c0 c1 c2 c3 i er p0 p1 p2 p3 w1 :=
  ⟨h.k0.below hb, h.k1.below hb, h.k2.below hb, h.k3.below hb, h.k4.below hb, h.bel.trans (hb.mono (Nat.le_of_lt h.k0.lt))⟩
theorem wp_then_only {P : Program} {c : Code} {K : Act → World → Prop} {Q : Exit → Act → World → Prop} {a : Act} {w : World} (h : c.wp P (Exit.then K (fun _ _ _ => False)) a w) : c.wp P (Exit.then K Q) a w :=
  Code.wp_mono (fun e a w h => by cases e <;> first | exact h | exact False.elim h) h
theorem jumps_ret {J : Nat → Act → World → Prop} {Q : Exit → Act → World → Prop} {a : Act} {w : World} : jumps J Q .ret a w = Q .ret a w := rfl
set_option maxRecDepth 10000 in
set_option maxHeartbeats 1000000 in
theorem br_n {K : Nat → Act → World → Prop} {Q : Exit → Act → World → Prop} (ao : Option Addr) (n cap at_ N : Nat) (u : Nat → Value) {w W : World} {nt : Bool} {c0 c1 c2 c3 i p0 p1 p2 p3 : Nat} (hq : Bq w N at_ nt c0 c1 c2 c3 i 0 p0 p1 p2 p3 W) (hi : i = n)
    (hK : Hid (∀ tm, Fr11 ao n cap at_ N tm → K 0 ⟨tm, []⟩ W)) : Code.wp Try.prog (labelIn Try.f20 1) (jumps K Q) ⟨fr11 ao n cap at_ N u, []⟩ W := by
  subst hi
  obtain ⟨⟨r0, r1⟩, s0, s1⟩ := hq.k3.two
  clear hq
  unfold fr11
  conv => arg 2; whnf
  go_wp2_with fail
  go_step3
  exact hK.out _ (Fr11.of _ rfl)
set_option maxRecDepth 10000 in
set_option maxHeartbeats 1000000 in
theorem br_e {K : Nat → Act → World → Prop} {Q : Exit → Act → World → Prop} (bb off : Nat) (n cap at_ N : Nat) (u : Nat → Value) {w W : World} {nt : Bool} {c0 c1 c2 c3 i p0 p1 p2 p3 : Nat} (hq : Bq w N at_ nt c0 c1 c2 c3 i 0 p0 p1 p2 p3 W) (hi : i < n) (hc : W.cell? ⟨bb, off + i, none⟩ = some (.int .u8 93))
    (hK : Hid (∀ tm, Fr11 (some ⟨bb, off, none⟩) n cap at_ N tm → K 2 ⟨tm, []⟩ W)) : Code.wp Try.prog (labelIn Try.f20 1) (jumps K Q) ⟨fr11 (some ⟨bb, off, none⟩) n cap at_ N u, []⟩ W := by
  obtain ⟨⟨r0, r1⟩, s0, s1⟩ := hq.k3.two
  clear hq
  have h1 : ((i : Int) == (n : Int)) = false := by simp; omega
  have h2 : (i : Int) < (n : Int) := by omega
  clear hi
  unfold fr11
  conv => arg 2; whnf
  go_wp2_with fail
  go_step3
  exact hK.out _ (Fr11.of _ rfl)
set_option maxRecDepth 20000 in
set_option maxHeartbeats 4000000 in
theorem br_bad {K : Nat → Act → World → Prop} {R : Ending → World → Prop} (bb off : Nat) (n cap at_ N : Nat) (u : Nat → Value) {w W : World} {nt : Bool} {c0 c1 c2 c3 i p0 p1 p2 p3 : Nat} (hq : Bq w N at_ nt c0 c1 c2 c3 i 0 p0 p1 p2 p3 W) (hi : i < n) (q : Nat) (hc : W.cell? ⟨bb, off + i, none⟩ = some (.int .u8 (q : Nat))) (hne : q ≠ 93)
    (U : Nat → Bool) (en : Nat) (er : Int) (her : er ≠ 0) (HU : Hid (Calls Try.prog 33 #[.slice (some ⟨bb, off, none⟩) n cap, .int .i64 (i : Nat)] W (RetU W U en er)))
    (hR : Hid (∀ W', Below N w W' → R (.returned (.tuple #[tokV 0 0 0 0 0 0 false 0 0 false 0, markV en er])) W')) : Code.wp Try.prog (labelIn Try.f20 1) (jumps K (bodyPost Try.prog Try.f20 R)) ⟨fr11 (some ⟨bb, off, none⟩) n cap at_ N u, []⟩ W := by
  obtain ⟨⟨r0, r1⟩, s0, s1⟩ := hq.k3.two
  have h1 : ((i : Int) == (n : Int)) = false := by simp; omega
  have h2 : (i : Int) < (n : Int) := by omega
  have h3 : ((q : Int) == 93) = false := by simp; omega
  have h9 : (er != 0) = true := by simp [her]
  clear hi hne her
  unfold fr11
  conv => arg 2; whnf
  obtain ⟨Q0, hQ0⟩ : ∃ Q0, Q0 = bodyPost Try.prog Try.f20 R := ⟨_, rfl⟩
  rw [← hQ0]
  have HQ0 : Hid (Q0 = bodyPost Try.prog Try.f20 R) := hQ0
  clear hQ0
  have HQ : Hid (Bq w N at_ nt c0 c1 c2 c3 i 0 p0 p1 p2 p3 W) := hq
  clear hq
  go_wp2_with fail
  refine HU.out.mono ?_
  rintro e w1 ⟨x0, x1, x2, x3, rfl, -, hb⟩
  have q1 := HQ.out.next hb
  clear HU r0 r1 s0 s1 hc h1 h2 h3 hb
  have v0 := (q1.k0.others4 (k := N + 1 + 1 + 1 + 1) (by omega) (.int .u64 (x0 : Nat)) (.int .u64 (x1 : Nat)) (.int .u64 (x2 : Nat)) (.int .u64 (x3 : Nat))).others2 (k := N + 1 + 1 + 1) (by omega) (.int .i64 (en : Nat)) (.int .i64 er)
  have v1 := (q1.k1.others4 (k := N + 1 + 1 + 1 + 1) (by omega) (.int .u64 (x0 : Nat)) (.int .u64 (x1 : Nat)) (.int .u64 (x2 : Nat)) (.int .u64 (x3 : Nat))).others2 (k := N + 1 + 1 + 1) (by omega) (.int .i64 (en : Nat)) (.int .i64 er)
  have v3 := (q1.k3.others4 (k := N + 1 + 1 + 1 + 1) (by omega) (.int .u64 (x0 : Nat)) (.int .u64 (x1 : Nat)) (.int .u64 (x2 : Nat)) (.int .u64 (x3 : Nat))).put2 (.int .i64 (en : Nat)) (.int .i64 er)
  have vb := below_put2 (b := N + 1 + 1 + 1) (below_putc (b := N + 1 + 1 + 1 + 1) q1.bel (by omega) (.int .u64 (x0 : Nat)) (.int .u64 (x1 : Nat)) (.int .u64 (x2 : Nat)) (.int .u64 (x3 : Nat))) (by omega) (.int .i64 (en : Nat)) (.int .i64 er)
  obtain ⟨⟨a0, a1, a2, a3⟩, b0, b1, b2, b3⟩ := q1.k4.four
  obtain ⟨⟨m0, m1⟩, n0, n1⟩ := (q1.k3.others4 (k := N + 1 + 1 + 1 + 1) (by omega) (.int .u64 (x0 : Nat)) (.int .u64 (x1 : Nat)) (.int .u64 (x2 : Nat)) (.int .u64 (x3 : Nat))).two
  simp only [put2, putc] at v0 v1 v3 vb m0 m1 n0 n1
  have V0 : Hid (Cl _ _ _ _) := v0
  have V1 : Hid (Cl _ _ _ _) := v1
  have V3 : Hid (Cl _ _ _ _) := v3
  have VB : Hid (Below _ _ _) := vb
  clear v0 v1 v3 vb q1 HQ
  simp only [markV]
  go_wp2_with fail
  generalize ((((((w1.setCell ⟨N + 1 + 1 + 1 + 1, 0, none⟩ (.int .u64 (x0 : Nat))).setCell ⟨N + 1 + 1 + 1 + 1, 1, none⟩ (.int .u64 (x1 : Nat))).setCell ⟨N + 1 + 1 + 1 + 1, 2, none⟩ (.int .u64 (x2 : Nat))).setCell ⟨N + 1 + 1 + 1 + 1, 3, none⟩ (.int .u64 (x3 : Nat))).setCell ⟨N + 1 + 1 + 1, 0, none⟩ (.int .i64 (en : Nat))).setCell ⟨N + 1 + 1 + 1, 1, none⟩ (.int .i64 er)) = W3 at *
  clear a0 a1 a2 a3 b0 b1 b2 b3 m0 m1 n0 n1
  obtain ⟨⟨r0, r1⟩, s0, s1⟩ := V3.out.two
  obtain ⟨⟨b0, b1, b2, b3, b4, b5, b6, b7, b8, b9, b10⟩, g0, g1, g2, g3, g4, g5, g6, g7, g8, g9, g10⟩ := V0.out.eleven
  obtain ⟨⟨d0, d1⟩, e0, e1⟩ := V1.out.two
  have F := ((V0.out.put11 (.int .i64 0) (.int .u8 0) (.int .u64 0) (.int .u64 0) (.int .u64 0) (.int .u64 0) (.bool false) (.int .i64 0) (.int .i64 0) (.bool false) (.int .i64 0)).others2 (k := N + 1) (by omega) (.int .i64 (en : Nat)) (.int .i64 er)).drew.eleven.1
  have G := ((V1.out.others11 (k := N) (by omega) (.int .i64 0) (.int .u8 0) (.int .u64 0) (.int .u64 0) (.int .u64 0) (.int .u64 0) (.bool false) (.int .i64 0) (.int .i64 0) (.bool false) (.int .i64 0)).put2 (.int .i64 (en : Nat)) (.int .i64 er)).drew.two.1
  have hB4 := (below_put2 (b := N + 1) (below_put11 (b := N) VB.out (Nat.le_refl _) (.int .i64 0) (.int .u8 0) (.int .u64 0) (.int .u64 0) (.int .u64 0) (.int .u64 0) (.bool false) (.int .i64 0) (.int .i64 0) (.bool false) (.int .i64 0)) (by omega) (.int .i64 (en : Nat)) (.int .i64 er)).drew
  simp only [put2, put11] at F G hB4
  obtain ⟨F0, F1, F2, F3, F4, F5, F6, F7, F8, F9, F10⟩ := F
  obtain ⟨G0, G1⟩ := G
  have HF : Hid (Below N w _) := hB4
  clear hB4
  refine wp_then_only ?_
  go_region_with (fail)
  all_goals go_wp2
  all_goals rw [jumps_ret, HQ0.out]
  all_goals exact bodyPost_ret (v := .tuple #[tokV 0 0 0 0 0 0 false 0 0 false 0, markV en er]) (by simp [results, Try.results20, go_sem, tokV, markV, F0, F1, F2, F3, F4, F5, F6, F7, F8, F9, F10, G0, G1]) rfl (hR.out _ HF.out)
set_option maxRecDepth 20000 in
set_option maxHeartbeats 4000000 in
theorem br_go {K : Nat → Act → World → Prop} {Q : Exit → Act → World → Prop} (bb off : Nat) (n cap at_ N : Nat) (u : Nat → Value) {w W : World} {nt : Bool} {c0 c1 c2 c3 i p0 p1 p2 p3 : Nat} (hq : Bq w N at_ nt c0 c1 c2 c3 i 0 p0 p1 p2 p3 W) (hi : i < n) (q : Nat) (hc : W.cell? ⟨bb, off + i, none⟩ = some (.int .u8 (q : Nat))) (hne : q ≠ 93)
    (P U : Nat → Bool) (h4 : C4 P c0 c1 c2 c3) (en : Nat) (HU : Hid (Calls Try.prog 33 #[.slice (some ⟨bb, off, none⟩) n cap, .int .i64 (i : Nat)] W (RetU W U en 0)))
    (hK : Hid (∀ tm W' d0 d1 d2 d3 e0 e1 e2 e3, Fr11 (some ⟨bb, off, none⟩) n cap at_ N tm → Bq w N at_ nt d0 d1 d2 d3 en 0 e0 e1 e2 e3 W' → C4 (fun x => P x || U x) d0 d1 d2 d3 → K 1 ⟨tm, []⟩ W')) : Code.wp Try.prog (labelIn Try.f20 1) (jumps K Q) ⟨fr11 (some ⟨bb, off, none⟩) n cap at_ N u, []⟩ W := by
  obtain ⟨⟨r0, r1⟩, s0, s1⟩ := hq.k3.two
  have h1 : ((i : Int) == (n : Int)) = false := by simp; omega
  have h2 : (i : Int) < (n : Int) := by omega
  have h3 : ((q : Int) == 93) = false := by simp; omega
  clear hi hne
  unfold fr11
  conv => arg 2; whnf
  have HQ : Hid (Bq w N at_ nt c0 c1 c2 c3 i 0 p0 p1 p2 p3 W) := hq
  have H4 : Hid (C4 P c0 c1 c2 c3) := h4
  clear hq h4
  go_wp2_with fail
  refine HU.out.mono ?_
  rintro e w1 ⟨x0, x1, x2, x3, rfl, hx, hb⟩
  have HX : Hid (C4 U x0 x1 x2 x3) := hx
  have q1 := HQ.out.next hb
  clear HU r0 r1 s0 s1 hc h1 h2 h3 hb hx
  have v0 := (q1.k0.others4 (k := N + 1 + 1 + 1 + 1) (by omega) (.int .u64 (x0 : Nat)) (.int .u64 (x1 : Nat)) (.int .u64 (x2 : Nat)) (.int .u64 (x3 : Nat))).others2 (k := N + 1 + 1 + 1) (by omega) (.int .i64 (en : Nat)) (.int .i64 0)
  have v1 := (q1.k1.others4 (k := N + 1 + 1 + 1 + 1) (by omega) (.int .u64 (x0 : Nat)) (.int .u64 (x1 : Nat)) (.int .u64 (x2 : Nat)) (.int .u64 (x3 : Nat))).others2 (k := N + 1 + 1 + 1) (by omega) (.int .i64 (en : Nat)) (.int .i64 0)
  have v2 := (q1.k2.others4 (k := N + 1 + 1 + 1 + 1) (by omega) (.int .u64 (x0 : Nat)) (.int .u64 (x1 : Nat)) (.int .u64 (x2 : Nat)) (.int .u64 (x3 : Nat))).others2 (k := N + 1 + 1 + 1) (by omega) (.int .i64 (en : Nat)) (.int .i64 0)
  have v3 := (q1.k3.others4 (k := N + 1 + 1 + 1 + 1) (by omega) (.int .u64 (x0 : Nat)) (.int .u64 (x1 : Nat)) (.int .u64 (x2 : Nat)) (.int .u64 (x3 : Nat))).put2 (.int .i64 (en : Nat)) (.int .i64 0)
  have v4 := (q1.k4.putc (.int .u64 (x0 : Nat)) (.int .u64 (x1 : Nat)) (.int .u64 (x2 : Nat)) (.int .u64 (x3 : Nat))).others2 (k := N + 1 + 1 + 1) (by omega) (.int .i64 (en : Nat)) (.int .i64 0)
  have vb := below_put2 (b := N + 1 + 1 + 1) (below_putc (b := N + 1 + 1 + 1 + 1) q1.bel (by omega) (.int .u64 (x0 : Nat)) (.int .u64 (x1 : Nat)) (.int .u64 (x2 : Nat)) (.int .u64 (x3 : Nat))) (by omega) (.int .i64 (en : Nat)) (.int .i64 0)
  obtain ⟨⟨a0, a1, a2, a3⟩, b0, b1, b2, b3⟩ := q1.k4.four
  obtain ⟨⟨m0, m1⟩, n0, n1⟩ := (q1.k3.others4 (k := N + 1 + 1 + 1 + 1) (by omega) (.int .u64 (x0 : Nat)) (.int .u64 (x1 : Nat)) (.int .u64 (x2 : Nat)) (.int .u64 (x3 : Nat))).two
  obtain ⟨y0, y1, y2, y3, y4, y5, y6, y7, y8, y9, y10⟩ := v2.eleven.1
  obtain ⟨o0, o1, o2, o3⟩ := v4.four.1
  simp only [put2, putc] at v0 v1 v2 v3 v4 vb m0 m1 n0 n1 y2 y3 y4 y5 o0 o1 o2 o3
  clear y0 y1 y6 y7 y8 y9 y10
  have VV : Hid (Bq w N at_ nt c0 c1 c2 c3 en 0 x0 x1 x2 x3 _) := ⟨v0, v1, v2, v3, v4, vb⟩
  clear v0 v1 v2 v3 v4 vb q1 HQ
  simp only [markV]
  go_wp2_with fail
  have hz : w1.heap.size = ((((((w1.setCell ⟨N + 1 + 1 + 1 + 1, 0, none⟩ (.int .u64 (x0 : Nat))).setCell ⟨N + 1 + 1 + 1 + 1, 1, none⟩ (.int .u64 (x1 : Nat))).setCell ⟨N + 1 + 1 + 1 + 1, 2, none⟩ (.int .u64 (x2 : Nat))).setCell ⟨N + 1 + 1 + 1 + 1, 3, none⟩ (.int .u64 (x3 : Nat))).setCell ⟨N + 1 + 1 + 1, 0, none⟩ (.int .i64 (en : Nat))).setCell ⟨N + 1 + 1 + 1, 1, none⟩ (.int .i64 0)).heap.size := by simp
  rw [hz]
  clear hz
  generalize ((((((w1.setCell ⟨N + 1 + 1 + 1 + 1, 0, none⟩ (.int .u64 (x0 : Nat))).setCell ⟨N + 1 + 1 + 1 + 1, 1, none⟩ (.int .u64 (x1 : Nat))).setCell ⟨N + 1 + 1 + 1 + 1, 2, none⟩ (.int .u64 (x2 : Nat))).setCell ⟨N + 1 + 1 + 1 + 1, 3, none⟩ (.int .u64 (x3 : Nat))).setCell ⟨N + 1 + 1 + 1, 0, none⟩ (.int .i64 (en : Nat))).setCell ⟨N + 1 + 1 + 1, 1, none⟩ (.int .i64 0)) = W3 at *
  clear a0 a1 a2 a3 b0 b1 b2 b3 m0 m1 n0 n1 y2 y3 y4 y5 o0 o1 o2 o3
  refine (union_any _ 2 2 _ (fun i => if i = 0 then P else U) _ (rdc_two W3 c0 c1 c2 c3 x0 x1 x2 x3) (fun i hi => ?_) (by decide)).mono ?_
  · have hi4 : i = 0 ∨ i = 1 := by omega
    rcases hi4 with rfl | rfl
    · exact H4.out
    · exact HX.out
  rintro e w4 ⟨⟨d0, d1, d2, d3, rfl, h5⟩, hb⟩
  have q4 := (VV.out.next ((Below.refl _ _).alloc (Nat.le_refl _) _)).next hb
  have H5 : Hid (C4 (fun x => P x || U x) d0 d1 d2 d3) := h5.congr fun b _ => by simp [unN]
  obtain ⟨⟨b0, b1, b2, b3, b4, b5, b6, b7, b8, b9, b10⟩, g0, g1, g2, g3, g4, g5, g6, g7, g8, g9, g10⟩ := q4.k2.eleven
  have V2 := (((q4.k2.set 2 (.int .u64 (d0 : Nat))).set 3 (.int .u64 (d1 : Nat))).set 4 (.int .u64 (d2 : Nat))).set 5 (.int .u64 (d3 : Nat))
  have V0 := (((q4.k0.other (k := N + 1 + 1) (by omega) 2 (.int .u64 (d0 : Nat))).other (k := N + 1 + 1) (by omega) 3 (.int .u64 (d1 : Nat))).other (k := N + 1 + 1) (by omega) 4 (.int .u64 (d2 : Nat))).other (k := N + 1 + 1) (by omega) 5 (.int .u64 (d3 : Nat))
  have V1 := (((q4.k1.other (k := N + 1 + 1) (by omega) 2 (.int .u64 (d0 : Nat))).other (k := N + 1 + 1) (by omega) 3 (.int .u64 (d1 : Nat))).other (k := N + 1 + 1) (by omega) 4 (.int .u64 (d2 : Nat))).other (k := N + 1 + 1) (by omega) 5 (.int .u64 (d3 : Nat))
  have V3 := (((q4.k3.other (k := N + 1 + 1) (by omega) 2 (.int .u64 (d0 : Nat))).other (k := N + 1 + 1) (by omega) 3 (.int .u64 (d1 : Nat))).other (k := N + 1 + 1) (by omega) 4 (.int .u64 (d2 : Nat))).other (k := N + 1 + 1) (by omega) 5 (.int .u64 (d3 : Nat))
  have V4 := (((q4.k4.other (k := N + 1 + 1) (by omega) 2 (.int .u64 (d0 : Nat))).other (k := N + 1 + 1) (by omega) 3 (.int .u64 (d1 : Nat))).other (k := N + 1 + 1) (by omega) 4 (.int .u64 (d2 : Nat))).other (k := N + 1 + 1) (by omega) 5 (.int .u64 (d3 : Nat))
  have VB := (((q4.bel.setCell (p := ⟨N + 1 + 1, 2, none⟩) (by show N ≤ N + 1 + 1; omega) (.int .u64 (d0 : Nat))).setCell (p := ⟨N + 1 + 1, 3, none⟩) (by show N ≤ N + 1 + 1; omega) (.int .u64 (d1 : Nat))).setCell (p := ⟨N + 1 + 1, 4, none⟩) (by show N ≤ N + 1 + 1; omega) (.int .u64 (d2 : Nat))).setCell (p := ⟨N + 1 + 1, 5, none⟩) (by show N ≤ N + 1 + 1; omega) (.int .u64 (d3 : Nat))
  have ZZ : Hid (Bq w N at_ nt d0 d1 d2 d3 en 0 x0 x1 x2 x3 _) := ⟨V0, V1, V2, V3, V4, VB⟩
  clear V0 V1 V2 V3 V4 VB q4 hb h5 VV
  go_wp2_with fail
  go_step3
  exact hK.out _ _ _ _ _ _ _ _ _ _ (Fr11.of _ rfl) ZZ.out H5.out
end Go.Proofs.Ytkbeiadbolihiaa
