/- Words of fingerprints: Trunc, half, Word on both sides: the walks. -/
import Derived.Test.YtgololmgdakigaaRh
import Derived.Laws.Externs
namespace Go.Proofs.Ytgololmgdakigaa
open Go.RowKit Ieee
/-- A whole number made whole is itself. -/
theorem whole_cut {s : Bool} {n p : Nat} : Datum.integral .zero (.number s (n * 2 ^ p) (-(p : Nat) : Int)) = .number s n 0 := by
  unfold Datum.integral
  have e1 : (-(p : Int)).toNat = 0 := by omega
  have e2 : (- -(p : Int)).toNat = p := by omega
  simp only [e1, e2, Nat.shiftLeft_zero]
  congr 1
  unfold Toward.cut
  by_cases h0 : n = 0
  · subst h0
    simp
  · have hl := log2_mul h0 p
    have e3 : min p ((n * 2 ^ p).log2 + 2) = p := by rw [hl]; omega
    simp only [e3, Nat.one_shiftLeft]
    rw [Nat.mul_div_cancel _ (Nat.two_pow_pos _)]
    simp
theorem trunc_f {b : Nat} {i : Int} (h : IsF b i) (hi : i.natAbs < 2 ^ 53) (w : World) : (Extern.MathFloor.toIntegral "math.archTrunc" .zero #[.float .f64 b]).run Try.prog w = .ok (.float .f64 b) w := by
  obtain ⟨s, rfl, hs⟩ := h
  obtain ⟨m, p, hr, hp, hm⟩ := read_fw s hi
  have hd : FloatKind.f64.decode (fw s i.natAbs) = .number s m (-(p : Nat) : Int) := hr
  rw [hm] at hd
  have key : ∀ x d, FloatKind.f64.decode x = .number s d (-(p : Nat) : Int) → (Extern.MathFloor.toIntegral "math.archTrunc" .zero #[.float .f64 x]).run Try.prog w = .ok (.float .f64 (FloatKind.f64.encode (Datum.integral .zero (.number s d (-(p : Nat) : Int))))) w := by
    intro x d h
    change Sem.run Try.prog (Extern.MathFloor.toIntegral.match_1 (fun _ => Sem Value) (FloatKind.f64.decode x) _ (fun d => pure (.float .f64 (FloatKind.f64.encode (d.integral .zero))))) w = _
    rw [h]
    rfl
  rw [key _ _ hd, whole_cut]
  rfl
theorem toint_f {b : Nat} {i : Int} (h : IsF b i) (hi : -2147483648 ≤ i ∧ i ≤ 2147483647) : floatToIntVal .f64 b .i32 = some i := by
  have hi2 : i.natAbs < 2 ^ 53 := by omega
  obtain ⟨s, rfl, hs⟩ := h
  obtain ⟨m, p, hr, hp, hm⟩ := read_fw s hi2
  have hd : FloatKind.f64.decode (fw s i.natAbs) = .number s m (-(p : Nat) : Int) := hr
  unfold floatToIntVal Datum.toInt
  rw [hd, hm, whole_cut]
  have e : signed s i.natAbs 0 = i := by
    unfold signed
    rw [Nat.shiftLeft_zero]
    by_cases h0 : i = 0
    · subst h0; cases s <;> rfl
    · have := hs h0
      by_cases hn : i < 0
      · rw [this, if_pos (by simpa using hn)]; omega
      · rw [this, if_neg (by simpa using hn)]; omega
  simp only [e]
  have h1 : IntKind.i32.min ≤ i ∧ i ≤ IntKind.i32.max := by simpa [IntKind.min, IntKind.max, IntKind.signed, IntKind.bits] using hi
  rw [if_pos h1]
theorem find34 : Extern.find Try.f34 = some (Extern.MathFloor.toIntegral "math.archTrunc" .zero) := by kernel_rfl
theorem call34 {b : Nat} {i : Int} (h : IsF b i) (hi : i.natAbs < 2 ^ 53) (w : World) : (callFunc 34 #[.float .f64 b]).run Try.prog w = .ok (.value (.float .f64 b)) w := by
  rw [run_callFunc_extern Try.func34 (by kernel_rfl) (by kernel_rfl) (by kernel_rfl) find34, trunc_f h hi]
  rfl
set_option maxRecDepth 10000 in
theorem trunc_any (b : Nat) (i : Int) (h : IsF b i) (hi : i.natAbs < 2 ^ 53) (w : World) : Calls Try.prog 33 #[.float .f64 b] w fun e w' => e = .returned (.float .f64 b) ∧ w' = w := by
  have h34 := call34 h hi w
  clear h
  go_enter Try.func33, Try.ntmps33
  go_wp2
  go_ret
  exact ⟨rfl, rfl⟩
/-- The lowest half of a number. -/
def lo32 (i : Int) : Nat := (i % 4294967296).toNat
theorem lo32_lt (i : Int) : lo32 i < 4294967296 := by
  unfold lo32
  omega
theorem lo32_inj {i j : Int} (hi : i.natAbs ≤ 2147483640) (hj : j.natAbs ≤ 2147483640) (h : lo32 i = lo32 j) : i = j := by
  unfold lo32 at h
  omega
set_option maxRecDepth 10000 in
theorem half_any (b : Nat) (i : Int) (h : IsF b i) (hi : i.natAbs ≤ 2147483640) (w : World) : Calls Try.prog 31 #[.float .f64 b] w fun e w' => e = .returned (.tuple #[.int .u32 (lo32 i : Nat), .bool true]) ∧ w' = w := by
  have c1 : IsF 13970166044103278592 (-2147483648) := ⟨true, by decide +kernel, fun _ => by decide⟩
  have c2 : IsF 4746794007244308480 2147483647 := ⟨false, by decide +kernel, fun _ => by decide⟩
  have o1 := order_f h c1 (by omega) (by decide)
  have o2 := order_f h c2 (by omega) (by decide)
  have o3 := order_f h h (by omega) (by omega)
  rw [Int.compare_eq_gt.2 (by omega)] at o1
  rw [Int.compare_eq_lt.2 (by omega)] at o2
  rw [Int.compare_eq_eq.2 rfl] at o3
  have HT : Hid (∀ W, Calls Try.prog 33 #[.float .f64 b] W fun e w' => e = .returned (.float .f64 b) ∧ w' = W) := fun W => trunc_any b i h (by omega) W
  have hcv : ∀ w, (convert 54 21 (.float .f64 b)).run Try.prog w = .ok (.int .i32 i) w := fun w => run_convert_float_int w 54 21 .f64 .i32 b i (by rw [Try.underlying54]; rfl) Try.underlying21 (toint_f h (by omega))
  obtain ⟨k, hk⟩ : ∃ k, k = lo32 i := ⟨_, rfl⟩
  have hw : IntKind.u32.wrap i = (k : Int) := by
    rw [hk]
    unfold lo32
    simp [IntKind.wrap, IntKind.signed, IntKind.bits]
    omega
  rw [← hk]
  clear hk c1 c2 h
  go_enter Try.func31, Try.ntmps31
  go_wp2_with (go_at_call 33; refine (HT.out _).mono ?_; rintro e w1 ⟨rfl, hw1⟩; subst hw1)
  go_ret2
  exact ⟨rfl, rfl⟩
theorem bits_or32 {x y : Nat} (hx : x < 4294967296) (hy : y < 4294967296) : bits .or .u64 ((x : Int) * 4294967296) (y : Int) = ((x * 4294967296 + y : Nat) : Int) := by
  unfold bits
  have h1 : (BitVec.ofInt IntKind.u64.bits ((x : Int) * 4294967296) ||| BitVec.ofInt IntKind.u64.bits (y : Int)).toNat = x * 4294967296 + y := by
    show (BitVec.ofInt 64 ((x : Int) * 4294967296) ||| BitVec.ofInt 64 (y : Int)).toNat = _
    rw [BitVec.toNat_or, BitVec.toNat_ofInt, BitVec.toNat_ofInt]
    have e1 : (((x : Int) * 4294967296) % ((2 ^ 64 : Nat) : Int)).toNat = x <<< 32 := by
      rw [Nat.shiftLeft_eq]
      omega
    have e2 : ((y : Int) % ((2 ^ 64 : Nat) : Int)).toNat = y := by omega
    rw [e1, e2, ← Nat.shiftLeft_add_eq_or_of_lt (by omega), Nat.shiftLeft_eq]
  simp only [h1]
  simp [IntKind.wrap, IntKind.signed, IntKind.bits]
  omega
/-- The word of a fingerprint. -/
def wdP (p : Int × Int) : Nat := lo32 p.1 * 4294967296 + lo32 p.2
set_option maxRecDepth 10000 in
theorem word_any (a b : Nat) (p : Int × Int) (h : IsC (.complex .f64 a b) p) (hp : Wd p 2147483640) (w : World) : Calls Try.prog 24 #[.complex .f64 a b] w fun e w' => e = .returned (.int .u64 (wdP p : Nat)) ∧ w' = w := by
  obtain ⟨_, _, e, ha, hb⟩ := h
  cases e
  have HA : Hid (∀ W, Calls Try.prog 31 #[.float .f64 a] W fun e w' => e = .returned (.tuple #[.int .u32 (lo32 p.1 : Nat), .bool true]) ∧ w' = W) := fun W => half_any a p.1 ha hp.1 W
  have HB : Hid (∀ W, Calls Try.prog 31 #[.float .f64 b] W fun e w' => e = .returned (.tuple #[.int .u32 (lo32 p.2 : Nat), .bool true]) ∧ w' = W) := fun W => half_any b p.2 hb hp.2 W
  obtain ⟨x, hx⟩ : ∃ x, x = lo32 p.1 := ⟨_, rfl⟩
  obtain ⟨y, hy⟩ : ∃ y, y = lo32 p.2 := ⟨_, rfl⟩
  have lx : x < 4294967296 := by rw [hx]; exact lo32_lt _
  have ly : y < 4294967296 := by rw [hy]; exact lo32_lt _
  rw [← hx] at HA
  rw [← hy] at HB
  have HW : Hid (wdP p = x * 4294967296 + y) := by show wdP p = _; rw [hx, hy]; rfl
  clear hx hy ha hb hp
  go_enter Try.func24, Try.ntmps24
  go_wp2_with (first
    | (go_at_call 31; have g := g1; refine (HB.out _).mono ?_; rintro e w2 ⟨rfl, hw2⟩; subst hw2)
    | (go_at_call 31; refine (HA.out _).mono ?_; rintro e w1 ⟨rfl, hw1⟩; subst hw1; have g1 : True := trivial))
  go_ret
  rw [HW.out, bits_or32 lx ly]
  exact ⟨rfl, rfl⟩
set_option maxRecDepth 10000 in
theorem rword_any (p : Int × Int) (w : World) : Calls Try.prog 25 #[ptV p] w fun e w' => e = .returned (.int .u64 (wdP p : Nat)) ∧ Below w.heap.size w w' := by
  obtain ⟨i, j⟩ := p
  have hB := below1 w (.cells #[.int .i64 i, .int .i64 j] 25)
  have k := Cl.new w 25 [.int .i64 i, .int .i64 j]
  obtain ⟨⟨c0, c1⟩, _⟩ := k.two
  obtain ⟨x, hx⟩ : ∃ x, x = lo32 i := ⟨_, rfl⟩
  obtain ⟨y, hy⟩ : ∃ y, y = lo32 j := ⟨_, rfl⟩
  have lx : x < 4294967296 := by rw [hx]; exact lo32_lt _
  have ly : y < 4294967296 := by rw [hy]; exact lo32_lt _
  have w1 : IntKind.u32.wrap i = (x : Int) := by
    rw [hx]
    unfold lo32
    simp [IntKind.wrap, IntKind.signed, IntKind.bits]
    omega
  have w2 : IntKind.u32.wrap j = (y : Int) := by
    rw [hy]
    unfold lo32
    simp [IntKind.wrap, IntKind.signed, IntKind.bits]
    omega
  have HW : Hid (wdP (i, j) = x * 4294967296 + y) := by show wdP (i, j) = _; rw [hx, hy]; rfl
  clear hx hy k
  unfold ptV
  dsimp only
  go_enter Try.func25, Try.ntmps25
  go_wp2
  go_ret
  rw [HW.out, bits_or32 lx ly]
  exact ⟨rfl, hB⟩
theorem wdP_inj {p q : Int × Int} (hp : Wd p 2147483640) (hq : Wd q 2147483640) (h : wdP p = wdP q) : p = q := by
  unfold wdP at h
  have l1 := lo32_lt p.1
  have l2 := lo32_lt p.2
  have l3 := lo32_lt q.1
  have l4 := lo32_lt q.2
  have e1 : lo32 p.1 = lo32 q.1 := by omega
  have e2 : lo32 p.2 = lo32 q.2 := by omega
  exact Prod.ext (lo32_inj hp.1 hq.1 e1) (lo32_inj hp.2 hq.2 e2)
end Go.Proofs.Ytgololmgdakigaa
