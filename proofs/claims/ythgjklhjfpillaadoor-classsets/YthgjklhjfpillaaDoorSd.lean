/- ClassSets: what each operation of the law's region answers, looked at by a program. -/
import Derived.Test.YthgjklhjfpillaaDoorEq
import Derived.Test.YthgjklhjfpillaaDoorUn
import Derived.Test.YthgjklhjfpillaaDoorIv
import Derived.BigRegion
namespace Go.Proofs.YthgjklhjfpillaaDoor
open Go.RowKit
/-- The words of a class. -/
def wdN (f : Nat → Bool) : Nat → Nat
  | 0 => 0
  | n + 1 => wdN f n + if f n then 2 ^ n else 0
theorem wdN_is (f : Nat → Bool) : ∀ n, wdN f n < 2 ^ n ∧ ∀ j, j < n → (wdN f n).testBit j = f j
  | 0 => ⟨by simp [wdN], fun j hj => by omega⟩
  | n + 1 => by
    obtain ⟨h1, h2⟩ := wdN_is f n
    have e : 2 ^ (n + 1) = 2 ^ n + 2 ^ n := by rw [Nat.pow_succ]; omega
    unfold wdN
    cases hf : f n
    · refine ⟨by simp; omega, fun j hj => ?_⟩
      by_cases hjn : j = n
      · subst hjn; simp [Nat.testBit_lt_two_pow h1, hf]
      · simpa using h2 j (by omega)
    · refine ⟨by simp; omega, fun j hj => ?_⟩
      by_cases hjn : j = n
      · subst hjn
        simp only [if_true]
        rw [Nat.add_comm, Nat.testBit_two_pow_add_eq, Nat.testBit_lt_two_pow h1, hf]; rfl
      · simp only [if_true]
        rw [Nat.add_comm, Nat.testBit_two_pow_add_gt (by omega)]
        exact h2 j (by omega)
def wdc (P : Nat → Bool) (i : Nat) : Nat := wdN (fun j => P (64 * i + j)) 64
theorem wdc_is (P : Nat → Bool) : C4 P (wdc P 0) (wdc P 1) (wdc P 2) (wdc P 3) := by
  have h := fun i => wdN_is (fun j => P (64 * i + j)) 64
  exact ⟨(h 0).1, (h 1).1, (h 2).1, (h 3).1, fun j hj => by have := (h 0).2 j hj; rw [Nat.mul_zero, Nat.zero_add] at this; exact this, fun j hj => (h 1).2 j hj, fun j hj => (h 2).2 j hj, fun j hj => (h 3).2 j hj⟩
/-- A class as a value. -/
def clV (P : Nat → Bool) : Value := .agg #[.int .u64 (wdc P 0 : Nat), .int .u64 (wdc P 1 : Nat), .int .u64 (wdc P 2 : Nat), .int .u64 (wdc P 3 : Nat)]
theorem clV_of {P : Nat → Bool} {a b c d : Nat} (h : C4 P a b c d) : (.agg #[.int .u64 (a : Nat), .int .u64 (b : Nat), .int .u64 (c : Nat), .int .u64 (d : Nat)] : Value) = clV P := by
  obtain ⟨rfl, rfl, rfl, rfl⟩ := h.uniq (wdc_is P)
  rfl
theorem retV {w : World} {P : Nat → Bool} {e : Ending} {w' : World} (h : RetC w P e w') : e = .returned (clV P) ∧ Below w.heap.size w w' := by
  obtain ⟨⟨a, b, c, d, rfl, h4⟩, hb⟩ := h
  exact ⟨by rw [clV_of h4], hb⟩
/-- A class over three others, by the table of which of them it has. -/
def den (A B C : Nat → Bool) (t : Nat) (n : Nat) : Bool := t.testBit ((A n).toNat + 2 * (B n).toNat + 4 * (C n).toNat)
section
variable {A B C : Nat → Bool}
theorem den_a : den A B C 170 = A := by funext n; unfold den; cases A n <;> cases B n <;> cases C n <;> decide
theorem den_b : den A B C 204 = B := by funext n; unfold den; cases A n <;> cases B n <;> cases C n <;> decide
theorem den_c : den A B C 240 = C := by funext n; unfold den; cases A n <;> cases B n <;> cases C n <;> decide
theorem den_full : den A B C 255 = fun _ => true := by funext n; unfold den; cases A n <;> cases B n <;> cases C n <;> decide
theorem den_none : den A B C 0 = fun _ => false := by funext n; simp [den]
theorem den_or (t u : Nat) : (fun n => den A B C t n || den A B C u n) = den A B C (t ||| u) := by funext n; simp [den]
theorem den_and (t u : Nat) : (fun n => den A B C t n && den A B C u n) = den A B C (t &&& u) := by funext n; simp [den]
theorem den_not (t : Nat) : (fun n => !den A B C t n) = den A B C (255 ^^^ t) := by
  funext n
  have h : ∀ i, i < 8 → (255 : Nat).testBit i = true := by decide
  simp only [den, Nat.testBit_xor]
  rw [h _ (by cases A n <;> cases B n <;> cases C n <;> decide)]
  simp
end
/-- A slice of two classes. -/
def IsSl (w : World) (v : Value) (P R : Nat → Bool) : Prop := ∃ b F, v = .slice (some ⟨b, 0, none⟩) 2 2 ∧ RdC w (some ⟨b, 0, none⟩) 2 F ∧ C4 P (F 0 0) (F 0 1) (F 0 2) (F 0 3) ∧ C4 R (F 1 0) (F 1 1) (F 1 2) (F 1 3)
/-- What an entry says: 0: true; 1: a function; 2: a class; 3: a slice of two. -/
structure Says (A B C : Nat → Bool) (e : Nat × Nat × Nat) (v : Value) (w : World) : Prop where
  t : e.1 = 0 → v = .bool true
  f : e.1 = 1 → v = .func (.func e.2.1) #[] #[]
  c : e.1 = 2 → v = clV (den A B C e.2.1)
  s : e.1 = 3 → IsSl w v (den A B C e.2.1) (den A B C e.2.2)
theorem Says.grow {A B C : Nat → Bool} {e : Nat × Nat × Nat} {v : Value} {w w' : World} (h : Says A B C e v w) (hb : Below w.heap.size w w') : Says A B C e v w' :=
  ⟨h.t, h.f, h.c, fun he => by obtain ⟨b, F, e1, hr, h1, h2⟩ := h.s he; exact ⟨b, F, e1, hr.below hb, h1, h2⟩⟩
theorem says_t {A B C : Nat → Bool} {x y : Nat} {w : World} : Says A B C (0, x, y) (.bool true) w := ⟨fun _ => rfl, by simp, by simp, by simp⟩
theorem says_c {A B C : Nat → Bool} {t y : Nat} {w : World} {v : Value} (h : v = clV (den A B C t)) : Says A B C (2, t, y) v w := ⟨by simp, by simp, fun _ => h, by simp⟩
theorem says_s {A B C : Nat → Bool} {t u : Nat} {w : World} {v : Value} (h : IsSl w v (den A B C t) (den A B C u)) : Says A B C (3, t, u) v w := ⟨by simp, by simp, by simp, fun _ => h⟩
theorem says_any {A B C : Nat → Bool} {w : World} {v : Value} : Says A B C (9, 0, 0) v w := ⟨by simp, by simp, by simp, by simp⟩
/-- What is known of an operand. -/
def ent (L : List (Nat × Nat × Nat)) (after : Array Edge) : Operand → Nat × Nat × Nat
  | .tmp t => if t = 7 then (1, 27, 0) else if t = 8 then (1, 29, 0) else if t = 9 then (1, 31, 0) else if 10 ≤ t && after.any (fun e => Region.binds .any e && e.on == t - 10) then L.getD (t - 10) (9, 0, 0) else (9, 0, 0)
  | .func f => (1, f, 0)
  | _ => (9, 0, 0)
def callB (L : List (Nat × Nat × Nat)) (after : Array Edge) (r : Nat × Nat × Nat) (f : Operand) (args : List Operand) : Bool :=
  match ent L after f, args with
  | (1, 9, _), [] => r.1 == 0
  | (1, 14, _), [] => r == (2, 255, 0)
  | (1, 27, _), [x] => (ent L after x).1 == 3 && r == (2, (ent L after x).2.1 ||| (ent L after x).2.2, 0)
  | (1, 29, _), [x, y] => (ent L after x).1 == 2 && (ent L after y).1 == 2 && r == (2, (ent L after x).2.1 &&& (ent L after y).2.1, 0)
  | (1, 31, _), [x] => (ent L after x).1 == 2 && r == (2, 255 ^^^ (ent L after x).2.1, 0)
  | _, _ => false
def slB (L : List (Nat × Nat × Nat)) (after : Array Edge) (r : Nat × Nat × Nat) : List (Nat × Operand) → Bool
  | [(i, x), (j, y)] => i == 0 && j == 1 && (ent L after x).1 == 2 && (ent L after y).1 == 2 && r == (3, (ent L after x).2.1, (ent L after y).2.1)
  | _ => false
def opB (L : List (Nat × Nat × Nat)) (after : Array Edge) (r : Nat × Nat × Nat) : Op → Bool
  | .move x => r == ent L after x
  | .assign x => r == ent L after x
  | .load k (.tmp t) => k == 26 && ((t == 3 && r == (2, 170, 0)) || (t == 4 && r == (2, 204, 0)) || (t == 5 && r == (2, 240, 0)))
  | .buildSlice k n ps => k == 37 && n == 2 && slB L after r ps.toList
  | .build k ps => k == 26 && ps.toList.isEmpty && r == (2, 0, 0)
  | .binOp .eql k x y m => k == 26 && m == 26 && (ent L after x).1 == 2 && (ent L after y).1 == 2 && (ent L after x).2.1 == (ent L after y).2.1 && r.1 == 0
  | .pick x y (.const (.bool b)) => !b && (ent L after x).1 == 0 && (ent L after y).1 == 0 && r.1 == 0
  | .call { callee := .value f, args := xs, argTypes := _ } => callB L after r f xs.toList
  | _ => false
def guardB (L : List (Nat × Nat × Nat)) (o : Oper) : Bool :=
  match o.guard with
  | none => true
  | some (j, b) => b && (L.getD j (9, 0, 0)).1 == 0 && o.after.any (fun e => Region.binds .any e && e.on == j)
def slotOf (i : Nat) : Nat := if i = 133 then 6 else 10 + i
def operB (L : List (Nat × Nat × Nat)) (i : Nat) (o : Oper) : Bool := guardB L o && opB L o.after (L.getD i (9, 0, 0)) o.op && o.dst == some (slotOf i) && o.after.all (fun e => e.on < i)
def allB (L : List (Nat × Nat × Nat)) (ops : List Oper) : Nat → Bool
  | 0 => true
  | n + 1 => (match ops[n]? with | some o => operB L n o | none => false) && allB L ops n
theorem allB_get {L : List (Nat × Nat × Nat)} {ops : List Oper} {i : Nat} {o : Oper} (ho : ops[i]? = some o) (n : Nat) (h : allB L ops n = true) (hi : i < n) : operB L i o = true := by
  induction n with
  | zero => omega
  | succ n ih =>
    unfold allB at h
    rw [Bool.and_eq_true] at h
    by_cases e : i = n
    · subst e; rw [ho] at h; exact h.1
    · exact ih h.2 (by omega)
end Go.Proofs.YthgjklhjfpillaaDoor
