/- Letters of parts, runs: plain; letterOf: the walk. -/
import Derived.Test.YthbmfnibgjlkhaaDoorLd
import Derived.Test.YthbmfnibgjlkhaaDoorGMiPq
import Derived.Test.YthbmfnibgjlkhaaDoorGSpSaNl
namespace Go.Proofs.YthbmfnibgjlkhaaDoor
open Go.RowKit K
/-- The bytes of a node's class. -/
def clsP (q : Nd) : Nat → Bool := fun x => if x < 64 then q.c0.toNat.testBit x else if x < 128 then q.c1.toNat.testBit (x - 64) else if x < 192 then q.c2.toNat.testBit (x - 128) else q.c3.toNat.testBit (x - 192)
/-- The words of a node's class are words. -/
def wfN (q : Nd) : Prop := (0 ≤ q.c0 ∧ q.c0 < 18446744073709551616) ∧ (0 ≤ q.c1 ∧ q.c1 < 18446744073709551616) ∧ (0 ≤ q.c2 ∧ q.c2 < 18446744073709551616) ∧ (0 ≤ q.c3 ∧ q.c3 < 18446744073709551616)
theorem c4_cls {q : Nd} (h : wfN q) : C4 (clsP q) q.c0.toNat q.c1.toNat q.c2.toNat q.c3.toNat := by
  obtain ⟨h0, h1, h2, h3⟩ := h
  refine ⟨by omega, by omega, by omega, by omega, fun j hj => ?_, fun j hj => ?_, fun j hj => ?_, fun j hj => ?_⟩
  · unfold clsP; rw [if_pos hj]
  · unfold clsP; rw [if_neg (by omega), if_pos (by omega), Nat.add_sub_cancel_left]
  · unfold clsP; rw [if_neg (by omega), if_neg (by omega), if_pos (by omega), Nat.add_sub_cancel_left]
  · unfold clsP; rw [if_neg (by omega), if_neg (by omega), if_neg (by omega), Nat.add_sub_cancel_left]
/-- The letter of bytes, if there is one. -/
def ltF (P : Nat → Bool) : Option (Nat × Bool) := ((List.range 512).find? fun i => (!(i % 2 == 1) || smB (i / 2)) && eqC (clP (i / 2) (i % 2 == 1)) P).map fun i => (i / 2, i % 2 == 1)
theorem ltF_some {P : Nat → Bool} {l : Nat × Bool} (h : ltF P = some l) : LetQ P l.1 l.2 true := by
  obtain ⟨i, hi, rfl⟩ := Option.map_eq_some_iff.1 h
  have h1 := List.find?_some hi
  have h2 := List.mem_of_find?_eq_some hi
  simp only [Bool.and_eq_true] at h1
  obtain ⟨h1, h3⟩ := h1
  refine .inl ⟨rfl, ⟨?_, fun e => ?_⟩, h3⟩
  · have : i < 512 := by simpa using h2
    dsimp only
    omega
  · dsimp only at e
    rw [e] at h1
    simpa using h1
theorem ltF_none {P : Nat → Bool} (h : ltF P = none) : LetQ P 0 false false := by
  rw [ltF, Option.map_eq_none_iff, List.find?_eq_none] at h
  refine .inr ⟨rfl, rfl, rfl, fun b f hc => ?_⟩
  have := h (2 * b + (if f then 1 else 0)) (by have := hc.1; cases f <;> simp <;> omega)
  have e1 : (2 * b + (if f then 1 else 0)) / 2 = b := by cases f <;> simp <;> omega
  have e2 : ((2 * b + (if f then 1 else 0)) % 2 == 1) = f := by cases f <;> simp <;> omega
  rw [e1, e2] at this
  cases he : eqC (clP b f) P with
  | false => rfl
  | true =>
    exfalso
    apply this
    rw [he]
    cases f
    · rfl
    · simp [hc.2 rfl]
/-- What Letter tells of bytes. -/
def ltV (o : Option (Nat × Bool)) : Value := match o with
  | some l => .tuple #[.agg #[.int .u8 (l.1 : Nat), .bool l.2], .bool true]
  | none => .tuple #[.agg #[.int .u8 0, .bool false], .bool false]
theorem RetLt.is {w : World} {P : Nat → Bool} {e : Ending} {w' : World} (h : RetLt w P e w') : e = .returned (ltV (ltF P)) ∧ Below w.heap.size w w' := by
  obtain ⟨⟨b, f, ok, rfl, hq⟩, hb⟩ := h
  refine ⟨?_, hb⟩
  cases hl : ltF P with
  | none =>
    obtain ⟨rfl, rfl, rfl⟩ := hq.uniq (ltF_none hl)
    rfl
  | some l =>
    obtain ⟨rfl, rfl, rfl⟩ := hq.uniq (ltF_some hl)
    rfl
/-- The letter of a part's root. -/
def ltT (u : Tre) : Option (Nat × Bool) := ltF (clsP (nodes u (u.size - 1)))
/-- The letters that stand open ahead of part i. -/
def curY (p : Nat → Option (Nat × Bool)) : Nat → List (Nat × Bool)
  | 0 => []
  | i + 1 => match p i with
    | some l => curY p i ++ [l]
    | none => []
/-- The run that is open ahead of part i. -/
def opnY (p : Nat → Option (Nat × Bool)) (i : Nat) : List (Nat × List (Nat × Bool)) := if curY p i = [] then [] else [(i - (curY p i).length, curY p i)]
/-- The runs that are over ahead of part i. -/
def stY (p : Nat → Option (Nat × Bool)) : Nat → List (Nat × List (Nat × Bool))
  | 0 => []
  | i + 1 => match p i with
    | some _ => stY p i
    | none => stY p i ++ opnY p i
/-- The runs of n parts. -/
def runsY (p : Nat → Option (Nat × Bool)) (n : Nat) : List (Nat × List (Nat × Bool)) := stY p n ++ opnY p n
theorem curY_len (p : Nat → Option (Nat × Bool)) : ∀ i, (curY p i).length ≤ i
  | 0 => by simp [curY]
  | i + 1 => by
    have := curY_len p i
    unfold curY
    split
    · simp; omega
    · simp
theorem curY_some {p : Nat → Option (Nat × Bool)} {i : Nat} {l : Nat × Bool} (h : p i = some l) : curY p (i + 1) = curY p i ++ [l] := by simp [curY, h]
theorem curY_none {p : Nat → Option (Nat × Bool)} {i : Nat} (h : p i = none) : curY p (i + 1) = [] := by simp [curY, h]
theorem stY_some {p : Nat → Option (Nat × Bool)} {i : Nat} {l : Nat × Bool} (h : p i = some l) : stY p (i + 1) = stY p i := by simp [stY, h]
theorem stY_none {p : Nat → Option (Nat × Bool)} {i : Nat} (h : p i = none) : stY p (i + 1) = stY p i ++ opnY p i := by simp [stY, h]
theorem stY_pre (p : Nat → Option (Nat × Bool)) (i k : Nat) : stY p i <+: stY p (i + k) := by
  induction k with
  | zero => exact List.prefix_refl _
  | succ k ih =>
    refine ih.trans ?_
    rw [← Nat.add_assoc]
    cases h : p (i + k) with
    | none => rw [stY_none h]; exact List.prefix_append _ _
    | some l => rw [stY_some h]; exact List.prefix_refl _
/-- What is over is told as it is. -/
theorem runsY_at {p : Nat → Option (Nat × Bool)} {i n : Nat} (hi : i < n) (h : p i = none) (hc : curY p i ≠ []) : (runsY p n)[(stY p i).length]? = some (i - (curY p i).length, curY p i) := by
  have h1 := stY_pre p (i + 1) (n - (i + 1))
  rw [show i + 1 + (n - (i + 1)) = n by omega, stY_none h] at h1
  have h2 := h1.trans (List.prefix_append (stY p n) (opnY p n))
  obtain ⟨r, hr⟩ := h2
  unfold runsY
  rw [← hr, opnY, if_neg hc, List.append_assoc, List.getElem?_append_right (Nat.le_refl _)]
  simp
theorem runsY_last {p : Nat → Option (Nat × Bool)} {n : Nat} (hc : curY p n ≠ []) : (runsY p n)[(stY p n).length]? = some (n - (curY p n).length, curY p n) := by
  unfold runsY
  rw [opnY, if_neg hc, List.getElem?_append_right (Nat.le_refl _)]
  simp
theorem runsY_len_nil {p : Nat → Option (Nat × Bool)} {n : Nat} (hc : curY p n = []) : (runsY p n).length = (stY p n).length := by simp [runsY, opnY, hc]
theorem runsY_len_one {p : Nat → Option (Nat × Bool)} {n : Nat} (hc : curY p n ≠ []) : (runsY p n).length = (stY p n).length + 1 := by simp [runsY, opnY, hc]
theorem stY_len_none {p : Nat → Option (Nat × Bool)} {i : Nat} (h : p i = none) (hc : curY p i ≠ []) : (stY p (i + 1)).length = (stY p i).length + 1 := by simp [stY_none h, opnY, hc]
theorem stY_len_nil {p : Nat → Option (Nat × Bool)} {i : Nat} (h : p i = none) (hc : curY p i = []) : (stY p (i + 1)).length = (stY p i).length := by simp [stY_none h, opnY, hc]
/-- The cells of letters. -/
def lcs (l : List (Nat × Bool)) : List Value := l.flatMap fun x => [.int .u8 (x.1 : Nat), .bool x.2]
theorem lcs_snoc (l : List (Nat × Bool)) (x : Nat × Bool) : lcs (l ++ [x]) = lcs l ++ [.int .u8 (x.1 : Nat), .bool x.2] := by simp [lcs]
theorem lcs_get : ∀ (l : List (Nat × Bool)) (i : Nat) (x : Nat × Bool), l[i]? = some x → (lcs l)[i * 2]? = some (.int .u8 (x.1 : Nat)) ∧ (lcs l)[i * 2 + 1]? = some (.bool x.2)
  | [], i, x, h => by simp at h
  | y :: r, 0, x, h => by
    simp at h
    subst h
    simp [lcs]
  | y :: r, i + 1, x, h => by
    have := lcs_get r i x (by simpa using h)
    rw [show (i + 1) * 2 = i * 2 + 2 by omega]
    simpa [lcs] using this
/-- Letters that can be read. -/
def RdL (W : World) (ao : Option Addr) (l : List (Nat × Bool)) : Prop := 0 < l.length → ∃ b off, ao = some ⟨b, off, none⟩ ∧ b < W.heap.size ∧ ∀ i x, l[i]? = some x → W.cell? ⟨b, off + i * 2, none⟩ = some (.int .u8 (x.1 : Nat)) ∧ W.cell? ⟨b, off + i * 2 + 1, none⟩ = some (.bool x.2)
theorem RdL.below {w w' : World} {ao : Option Addr} {l : List (Nat × Bool)} (h : RdL w ao l) (hb : Below w.heap.size w w') : RdL w' ao l := by
  intro hn
  obtain ⟨b, off, e, hlt, hc⟩ := h hn
  refine ⟨b, off, e, Nat.lt_of_lt_of_le hlt hb.size, fun i x hi => ?_⟩
  rw [hb.cell (p := ⟨b, _, none⟩) hlt, hb.cell (p := ⟨b, _, none⟩) hlt]
  exact hc i x hi
/-- A row of letters of one's own can be read. -/
theorem rdl_row {W : World} {B cap : Nat} {ao : Option Addr} {l : List (Nat × Bool)} (h : W.ownsRow B 26 2 (.slice ao l.length cap) l.length (lcs l)) : RdL W ao l := by
  intro hn
  obtain ⟨g, e, hg, _, hc, _⟩ := row_cell h hn
  refine ⟨g, 0, e, hg, fun i x hi => ?_⟩
  obtain ⟨h1, h2⟩ := lcs_get l i x hi
  have := hc _ _ h1
  have := hc _ _ h2
  rw [Nat.zero_add]
  exact ⟨hc _ _ h1, hc _ _ h2⟩
set_option maxRecDepth 10000 in
set_option maxHeartbeats 2000000 in
theorem letterOf_any (u : Tre) (ao : Option Addr) (cap : Nat) (w : World) (hr : RdN w ao u.size (nodes u)) (hw : wfN (nodes u (u.size - 1))) (hs : u.size ≤ 2048) (hT : Tab w) : Calls Tryd.prog 50 #[.agg #[.slice ao u.size cap]] w (fun e w' => e = .returned (ltV (ltT u)) ∧ Below w.heap.size w w') := by
  have pu := u.size_pos
  have hB := (below1 w (.cells #[.slice ao u.size cap] 48)).alloc (by simp) (.cells #[.int .u8 0, .bool false] 26)
  have R0 : Cl ((w.alloc (.cells #[.slice ao u.size cap] 48)).alloc (.cells #[.int .u8 0, .bool false] 26)) (w.heap.size + 1) 26 [.int .u8 0, .bool false] := by
    have := Cl.new (w.alloc (.cells #[.slice ao u.size cap] 48)) 26 [.int .u8 0, .bool false]
    simpa only [World.size_alloc] using this
  obtain ⟨bb, off, rfl, hbb, hc⟩ := hr.below hB pu
  obtain ⟨q0, q1, q2, q3, q4, q5, q6, q7, q8, q9⟩ := hc (u.size - 1) (by omega)
  have HL := letter_any (c4_cls hw) _ (hT.below hB)
  unfold ltT
  generalize nodes u (u.size - 1) = N at *
  obtain ⟨h0, h1, h2, h3⟩ := hw
  rw [show ((N.c0.toNat : Nat) : Int) = N.c0 by omega, show ((N.c1.toNat : Nat) : Int) = N.c1 by omega, show ((N.c2.toNat : Nat) : Int) = N.c2 by omega, show ((N.c3.toNat : Nat) : Int) = N.c3 by omega] at HL
  have hcast : ((u.size : Int) - 1) = ((u.size - 1 : Nat) : Int) := by omega
  have hlt : ((u.size - 1 : Nat) : Int) < (u.size : Int) := by omega
  have HL2 := HL.mono fun e w' h => RetLt.is h
  clear HL
  obtain ⟨b, f, ok, hv⟩ : ∃ (b : Nat) (f ok : Bool), ltV (ltF (clsP N)) = .tuple #[.agg #[.int .u8 (b : Nat), .bool f], .bool ok] := by
    cases ltF (clsP N) with
    | none => exact ⟨0, false, false, rfl⟩
    | some l => exact ⟨l.1, l.2, true, rfl⟩
  rw [hv] at HL2 ⊢
  clear hv
  obtain ⟨nk, n0, n1, n2, n3, na, nb, nl, nm, nz⟩ := N
  dsimp only at *
  clear hc hr h0 h1 h2 h3
  generalize u.size - 1 = m at *
  generalize u.size = n at *
  go_enter Tryd.func50, Tryd.ntmps50
  go_wp2_with (go_at_call 8; refine HL2.mono ?_; rintro e w2 ⟨rfl, hb2⟩; obtain ⟨⟨r0, r1⟩, r2, r3⟩ := (R0.below hb2).two)
  have RR := ((R0.below hb2).set 0 (.int .u8 (b : Nat))).set 1 (.bool f)
  obtain ⟨⟨z0, z1⟩, _⟩ := RR.two
  have hB2 := hB.trans (hb2.mono hB.size)
  exact bodyPost_ret (v := .tuple #[.agg #[.int .u8 (b : Nat), .bool f], .bool ok]) (by simp [results, Tryd.results50, go_sem, z0, z1]) rfl ⟨rfl, (hB2.setCell (p := ⟨w.heap.size + 1, 0, none⟩) (by simp) _).setCell (p := ⟨w.heap.size + 1, 1, none⟩) (by simp) _⟩
end Go.Proofs.YthbmfnibgjlkhaaDoor
