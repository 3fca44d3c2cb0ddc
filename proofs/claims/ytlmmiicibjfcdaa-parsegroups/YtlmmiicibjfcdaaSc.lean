/- Scopes in which the run jumps to several labels; bracket's code. -/
import Derived.Test.YtlmmiicibjfcdaaPu
import Derived.ScopeJumps
import Derived.WalkMore
import Derived.Deep.RegionWith
namespace Go.Proofs.Ytlmmiicibjfcdaa
open Go.RowKit
/-- As Q; by a goto to label l: J l. -/
def jumps (J : Nat → Act → World → Prop) (Q : Exit → Act → World → Prop) : Exit → Act → World → Prop
  | .goto l, a, w => J l a w
  | e, a, w => Q e a w
/-- A scope in which the run jumps to several labels; every jump lowers a measure. -/
theorem wp_scope_labels {P : Program} {c : Code} {Q : Exit → Act → World → Prop} {a : Act} {w : World} (J : Nat → Nat → Act → World → Prop)
    (first : c.wp P (jumps (fun l a w => ∃ m, J l m a w) Q) a w)
    (pass : ∀ l m a w, J l m a w → ∃ rest, findLabel c l = some rest ∧ rest.wp P (jumps (fun l' a' w' => ∃ m', m' < m ∧ J l' m' a' w') Q) a w) : (Code.scope c).wp P Q a w := by
  intro b k cs
  have key : ∀ n l a w, J l n a w → ∃ rest, findLabel c l = some rest ∧ ∃ e a' w', Q e a' w' ∧ Arrives P (lone (b.at a (.code rest :: .inScope c :: k)) cs w) b k cs e a' w' := by
    intro n
    induction n using Nat.strongRecOn with
    | _ n ih =>
      intro l a w hJ
      obtain ⟨rest, hf, hp⟩ := pass l n a w hJ
      refine ⟨rest, hf, ?_⟩
      obtain ⟨e, a₁, w₁, hq, harr⟩ := hp b (.inScope c :: k) cs
      cases e with
      | normal => exact ⟨.normal, a₁, w₁, hq, Steps.trans harr (.one step_inScope)⟩
      | exit id => exact ⟨.exit id, a₁, w₁, hq, fun k' hk => harr k' (by simp [exitTo, hk])⟩
      | goto l' =>
        obtain ⟨m', hlt, hJ'⟩ := hq
        obtain ⟨rest', hf', e₂, a₂, w₂, hq₂, harr₂⟩ := ih m' hlt l' a₁ w₁ hJ'
        have hg : gotoIn l' (.inScope c :: k) = some (.code rest' :: .inScope c :: k) := by simp [gotoIn, hf']
        exact ⟨e₂, a₂, w₂, hq₂, .of_steps (harr _ hg) harr₂⟩
      | ret => exact ⟨_, a₁, w₁, hq, harr⟩
      | panic ch => exact ⟨_, a₁, w₁, hq, harr⟩
      | outgrown => exact ⟨_, a₁, w₁, hq, harr⟩
  obtain ⟨e, a₁, w₁, hq, harr⟩ := first b (.inScope c :: k) cs
  cases e with
  | normal => exact ⟨.normal, a₁, w₁, hq, .head step_scope (Steps.trans harr (.one step_inScope))⟩
  | exit id => exact ⟨.exit id, a₁, w₁, hq, fun k' hk => .head step_scope (harr k' (by simp [exitTo, hk]))⟩
  | goto l' =>
    obtain ⟨m, hJ⟩ := hq
    obtain ⟨rest', hf', e₂, a₂, w₂, hq₂, harr₂⟩ := key m l' a₁ w₁ hJ
    have hg : gotoIn l' (.inScope c :: k) = some (.code rest' :: .inScope c :: k) := by simp [gotoIn, hf']
    exact ⟨e₂, a₂, w₂, hq₂, .of_steps (.head step_scope (harr _ hg)) harr₂⟩
  | ret => exact ⟨_, a₁, w₁, hq, .of_steps (.one step_scope) harr⟩
  | panic ch => exact ⟨_, a₁, w₁, hq, .of_steps (.one step_scope) harr⟩
  | outgrown => exact ⟨_, a₁, w₁, hq, .of_steps (.one step_scope) harr⟩
theorem jumps_mono {J J' : Nat → Act → World → Prop} {Q : Exit → Act → World → Prop} (h : ∀ l a w, J l a w → J' l a w) (e : Exit) (a : Act) (w : World) (hq : jumps J Q e a w) : jumps J' Q e a w := by
  cases e <;> first | exact hq | exact h _ _ _ hq
theorem wp_skip_seq {P : Program} {c : Code} {Q : Exit → Act → World → Prop} {a : Act} {w : World} (h : c.wp P Q a w) : (Code.skip.seq c).wp P Q a w := wp_seq (wp_skip h)
/-- The code inside the first scope of a code; what stands behind a code's first part. -/
def inScope : Code → Option Code
  | .scope c => some c
  | .seq a b => match inScope a with
    | some c => some c
    | none => inScope b
  | .block _ c => inScope c
  | _ => none
def behind : Code → Code
  | .seq _ b => b
  | c => c
/-- The value at a place of a frame. -/
def nth : List Value → Nat → Value
  | [], _ => undef
  | x :: _, 0 => x
  | _ :: xs, n + 1 => nth xs n
/-- The code inside a function's scope; what stands behind a label of it. -/
def scopeIn (fn : Func) : Code := ((fn.body.bind inScope).getD .skip)
def labelIn (fn : Func) (l : Nat) : Code := behind ((findLabel (scopeIn fn) l).getD .skip)
theorem br11_0 : findLabel (scopeIn Try.f85) 0 = some (Code.skip.seq (labelIn Try.f85 0)) := by kernel_rfl
theorem br11_1 : findLabel (scopeIn Try.f85) 1 = some (Code.skip.seq (labelIn Try.f85 1)) := by kernel_rfl
theorem br11_2 : findLabel (scopeIn Try.f85) 2 = some (Code.skip.seq (labelIn Try.f85 2)) := by kernel_rfl
/-- bracket's frame. -/
def fr11 (ao : Option Addr) (n cap at_ N : Nat) (u : Nat → Value) : Array Value := #[.slice ao n cap, .int .i64 (at_ : Nat), u 2, u 3, .pointer (some ⟨N, 0, none⟩), .pointer (some ⟨N + 1, 0, none⟩), .pointer (some ⟨N + 1 + 1, 0, none⟩), .pointer (some ⟨N + 1 + 1 + 1, 0, none⟩), .pointer (some ⟨N + 1 + 1 + 1 + 1, 0, none⟩), u 9, u 10, u 11, u 12, u 13, u 14, u 15, u 16, u 17, u 18, u 19, u 20, u 21, u 22, u 23, u 24, u 25, u 26, u 27, u 28, u 29, u 30, u 31, u 32, u 33, u 34, u 35, u 36, u 37, u 38, u 39, u 40, u 41, u 42, u 43, u 44, u 45, u 46, u 47, u 48, u 49, u 50, u 51, u 52, u 53, u 54, u 55, u 56, u 57, u 58, u 59, u 60, u 61, u 62, u 63, u 64, u 65]
def Fr11 (ao : Option Addr) (n cap at_ N : Nat) (tm : Array Value) : Prop := ∃ u, tm = fr11 ao n cap at_ N u
theorem Fr11.of {ao : Option Addr} {n cap at_ N : Nat} (tm : Array Value) (h : tm = fr11 ao n cap at_ N (nth tm.toList)) : Fr11 ao n cap at_ N tm := ⟨_, h⟩
/-- bracket's five blocks. -/
structure Bq (w : World) (N at_ : Nat) (nt : Bool) (c0 c1 c2 c3 i : Nat) (er : Int) (p0 p1 p2 p3 : Nat) (W : World) : Prop where
  k0 : Cl W N 42 [.int .i64 0, .int .u8 0, .int .u64 0, .int .u64 0, .int .u64 0, .int .u64 0, .bool false, .int .i64 0, .int .i64 0, .bool false, .int .i64 0]
  k1 : Cl W (N + 1) 96 [.int .i64 0, .int .i64 0]
  k2 : Cl W (N + 1 + 1) 42 [.int .i64 2, .int .u8 0, .int .u64 (c0 : Nat), .int .u64 (c1 : Nat), .int .u64 (c2 : Nat), .int .u64 (c3 : Nat), .bool nt, .int .i64 0, .int .i64 0, .bool false, .int .i64 (at_ : Nat)]
  k3 : Cl W (N + 1 + 1 + 1) 96 [.int .i64 (i : Nat), .int .i64 er]
  k4 : Cl W (N + 1 + 1 + 1 + 1) 40 [.int .u64 (p0 : Nat), .int .u64 (p1 : Nat), .int .u64 (p2 : Nat), .int .u64 (p3 : Nat)]
  bel : Below N w W
end Go.Proofs.Ytlmmiicibjfcdaa
