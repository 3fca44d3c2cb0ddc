/- ClassTells: the walk of the law. What the runs of a class are: the sums. The reference's within, hex, Literal, Inner: the walks. -/
import Derived.Test.YtkbeiadbolihiaaDoorM23Ha
import Derived.Test.YtkbeiadbolihiaaDoorM22Rv
import Derived.Test.YtkbeiadbolihiaaDoorM21To
import Derived.Deep.RegionHeld3
import Derived.Test.YtkbeiadbolihiaaDoorM04Tx
import Derived.Test.YtkbeiadbolihiaaDoorM02Str
namespace Go.Proofs.YtkbeiadbolihiaaDoor
open Go.RowKit
theorem row52_below {B : Nat} {w w' : World} {v : Value} {n : Nat} {xs : List Value} (h : w.ownsRow B 65 2 v n xs) (hb : Below w.heap.size w w') : w'.ownsRow B 65 2 v n xs := by
  refine ⟨h.1, ?_⟩
  rcases h.2 with h' | ⟨g, cap, cur, e, hg, hh, r⟩
  · exact .inl h'
  · exact .inr ⟨g, cap, cur, e, hg, by rw [hb.block g (Array.getElem?_eq_some_iff.1 hh).1]; exact hh, r⟩
theorem row52_cap {B : Nat} {w : World} {ao : Option Addr} {n cap : Nat} {xs : List Value} (h : w.ownsRow B 65 2 (.slice ao n cap) n xs) : n ≤ cap := by
  rcases h.2 with ⟨h', h0⟩ | ⟨g, cap', cur, e, _, _, hc, _⟩
  · omega
  · obtain ⟨-, -, rfl⟩ : ao = some ⟨g, 0, none⟩ ∧ n = n ∧ cap = cap' := by simpa using e
    exact hc
theorem low43 (ao : Option Addr) (n cap x : Nat) (hx : x ≤ cap) (w : World) : (Instr.slice 62 (.slice ao n cap) none (some (.int .i64 (x : Nat))) none).run Tryd.prog w = .ok (.slice ao x cap) w := by
  have hxc : (x : Int) ≤ (cap : Int) := by omega
  have hs : ∀ w, (Go.sizeOf 65).run Tryd.prog w = .ok 2 w := fun w => by kernel_rfl
  by_cases h : cap = 0
  · subst h
    obtain rfl : x = 0 := by omega
    simp [go_sem, Tryd.underlying62, hs]
  · simp [go_sem, Tryd.underlying62, hxc, h, hs]
theorem min_tells (n x k : Nat) (h : k = min n x) (w : World) : (Builtin.min_ #[3, 3] 3 #[.int .i64 (n : Nat), .int .i64 (x : Nat)]).run Tryd.prog w = .ok (.int .i64 (k : Nat)) w := by
  rw [run_min_int2]
  subst h
  congr 2
  split <;> omega
theorem conv53 (x : Nat) (hx : x < 256) (W : World) : (convert 5 3 (.int .u8 (x : Nat))).run Tryd.prog W = .ok (.int .i64 (x : Nat)) W := by
  have hk : Tryd.prog.intKind 3 = .i64 := by kernel_rfl
  rw [run_convert_int W 5 3 .u8 _ (by rw [Tryd.underlying5]; rfl) (by rw [hk]; exact Tryd.underlying3), hk]
  rw [show IntKind.i64.wrap (x : Int) = (x : Int) by rw [IntKind.wrap_i64]; omega]
theorem row_convert {B : Nat} {w : World} {ao : Option Addr} {n cap : Nat} {l : List Nat} (h : w.ownsRow B 5 1 (.slice ao n cap) n (byt l)) (hl : l.length = n) : (convert 34 9 (.slice ao n cap)).run Tryd.prog w = .ok (.string (strOfNums (l.map Int.ofNat))) w := by
  rcases h.2 with ⟨h', h0⟩ | ⟨g, cap', cur, e, _⟩
  · obtain ⟨rfl, rfl, rfl⟩ : ao = none ∧ n = 0 ∧ cap = 0 := by simpa using h'
    obtain rfl : l = [] := List.eq_nil_of_length_eq_zero hl
    rw [run_convert_bytes_nil w 34 5 Tryd.underlying34 Tryd.underlying5 0 0 9 Tryd.underlying9]
    rfl
  · obtain ⟨rfl, -, rfl⟩ : ao = some ⟨g, 0, none⟩ ∧ n = n ∧ cap = cap' := by simpa using e
    refine run_convert_bytes_arg w 34 5 Tryd.underlying34 Tryd.underlying5 g 0 n cap _ (by simpa using hl) (fun i hi => ?_) 9 Tryd.underlying9
    rw [Nat.zero_add, h.cellAt i (by omega)]
    simp [byt, List.getElem?_eq_getElem (show i < l.length by omega), List.getD]
/-- A list of bytes, of a length with a name. -/
def RetB2 (w : World) (l : List Nat) (n : Nat) (e : Ending) (w' : World) : Prop := ∃ ao cap, e = .returned (.slice ao n cap) ∧ w'.ownsRow w.heap.size 5 1 (.slice ao n cap) n (byt l) ∧ Below w.heap.size w w'
def RetR2 (w : World) (l : List (Nat × Nat)) (n : Nat) (e : Ending) (w' : World) : Prop := ∃ ao cap, e = .returned (.slice ao n cap) ∧ w'.ownsRow w.heap.size 65 2 (.slice ao n cap) n (runV l) ∧ Below w.heap.size w w'
theorem retB2 {w : World} {l : List Nat} {n : Nat} (h : l.length = n) (e : Ending) (w' : World) (hr : RetBs w l e w') : RetB2 w l n e w' := by subst h; exact hr
theorem retR2 {w : World} {l : List (Nat × Nat)} {n : Nat} (h : l.length = n) (e : Ending) (w' : World) (hr : RetRn w l e w') : RetR2 w l n e w' := by subst h; exact hr
/-- The box of a class and the list of its runs, as they were laid. -/
structure T6 (w : World) (a b c d : Nat) (v : Value) (n : Nat) (l : List (Nat × Nat)) (W : World) : Prop where
  bel : Below w.heap.size w W
  b0 : Bx W w.heap.size (.int .u64 (a : Nat)) (.int .u64 (b : Nat)) (.int .u64 (c : Nat)) (.int .u64 (d : Nat))
  own : W.ownsRow w.heap.size 65 2 v n (runV l)
theorem T6.next {w W W' : World} {a b c d : Nat} {v : Value} {n : Nat} {l : List (Nat × Nat)} (t : T6 w a b c d v n l W) (hb : Below W.heap.size W W') : T6 w a b c d v n l W' :=
  ⟨t.bel.trans (hb.mono t.bel.size), t.b0.below hb, row52_below t.own hb⟩
theorem T6.cells {w W : World} {a b c d : Nat} {v : Value} {n : Nat} {l : List (Nat × Nat)} (t : T6 w a b c d v n l W) : W.cell? ⟨w.heap.size, 0, none⟩ = some (.int .u64 (a : Nat)) ∧ W.cell? ⟨w.heap.size, 1, none⟩ = some (.int .u64 (b : Nat)) ∧ W.cell? ⟨w.heap.size, 2, none⟩ = some (.int .u64 (c : Nat)) ∧ W.cell? ⟨w.heap.size, 3, none⟩ = some (.int .u64 (d : Nat)) := by
  obtain ⟨c0, c1, c2, c3, _⟩ := t.b0.cells
  exact ⟨c0, c1, c2, c3⟩
theorem below_drewN (w : World) (q : Nat) : Below w.heap.size w (w.drewN q) := by
  induction q with
  | zero => exact Below.refl _ _
  | succ q ih => exact ih.drew
theorem eq36 {W : World} {B1 B2 : Nat} {ao1 ao2 : Option Addr} {c1 c2 n : Nat} {l : List Nat} (hl : l.length = n) (h1 : W.ownsRow B1 5 1 (.slice ao1 n c1) n (byt l)) (h2 : W.ownsRow B2 5 1 (.slice ao2 n c2) n (byt l)) :
    Calls Tryd.prog 14 #[.slice ao1 n c1, .slice ao2 n c2] W fun e w' => e = .returned (.bool true) ∧ w' = W := by
  refine (Tryd.bytes_Equal _ _ _ _ W (row_convert h1 hl) (row_convert h2 hl)).mono ?_
  rintro e w' ⟨rfl, rfl⟩
  exact ⟨by simp, rfl⟩
end Go.Proofs.YtkbeiadbolihiaaDoor
namespace Go.Proofs.YtkbeiadbolihiaaDoor
open Go.RowKit
/-- The runs that have ended ahead of n: apart, rising, just the bytes. -/
structure RunsAt (P : Nat → Bool) (n : Nat) : Prop where
  le : ∀ r ∈ (rs P n).1, r.1 ≤ r.2 ∧ r.2 < 256 ∧ r.2 + 2 ≤ (rs P n).2
  is : ∀ x, x < (rs P n).2 → ((∃ r ∈ (rs P n).1, r.1 ≤ x ∧ x ≤ r.2) ↔ (x < 256 ∧ P x = true))
  op : ∀ x, (rs P n).2 ≤ x → x < n → x < 256 ∧ P x = true
  pw : (rs P n).1.Pairwise fun r s => r.2 + 2 ≤ s.1
theorem runsAt (P : Nat → Bool) (n : Nat) : RunsAt P n := by
  induction n with
  | zero => exact ⟨fun r h => by simp [rs] at h, fun x h => by simp [rs] at h, fun x _ h => by omega, by simp [rs]⟩
  | succ n ih =>
    have hlo := rs_lo P n
    cases hq : (decide (n < 256) && P n) with
    | true =>
      have hq' : n < 256 ∧ P n = true := by simpa using hq
      have e := rs_in hq'.1 hq'.2
      refine ⟨?_, ?_, ?_, ?_⟩
      · rw [e]; exact ih.le
      · rw [e]; exact ih.is
      · rw [e]
        intro x h1 h2
        by_cases h : x = n
        · subst h; exact hq'
        · exact ih.op x h1 (by omega)
      · rw [e]; exact ih.pw
    | false =>
      have hno : ¬ (n < 256 ∧ P n = true) := by
        intro ⟨h1, h2⟩
        rw [decide_eq_true h1, h2] at hq
        cases hq
      by_cases hl : (rs P n).2 < n
      · have e := rs_out hq hl
        have ho := ih.op (n - 1) (by omega) (by omega)
        refine ⟨?_, ?_, ?_, ?_⟩
        · rw [e]
          intro r hr
          rcases List.mem_append.1 hr with h | h
          · obtain ⟨h1, h2, h3⟩ := ih.le r h
            exact ⟨h1, h2, by show r.2 + 2 ≤ n + 1; omega⟩
          · obtain rfl := List.mem_singleton.1 h
            exact ⟨by show (rs P n).2 ≤ n - 1; omega, ho.1, by show n - 1 + 2 ≤ n + 1; omega⟩
        · rw [e]
          intro x hx
          have hx' : x < n + 1 := hx
          by_cases h1 : x < (rs P n).2
          · rw [← ih.is x h1]
            constructor
            · rintro ⟨r, hr, h2⟩
              rcases List.mem_append.1 hr with h | h
              · exact ⟨r, h, h2⟩
              · obtain rfl := List.mem_singleton.1 h
                have : (rs P n).2 ≤ x := h2.1
                omega
            · rintro ⟨r, hr, h2⟩
              exact ⟨r, List.mem_append_left _ hr, h2⟩
          · by_cases h2 : x = n
            · subst h2
              refine ⟨?_, fun h => absurd h hno⟩
              rintro ⟨r, hr, h3⟩
              exfalso
              rcases List.mem_append.1 hr with h | h
              · have := ih.le r h; omega
              · obtain rfl := List.mem_singleton.1 h
                have : x ≤ x - 1 := h3.2
                omega
            · have := ih.op x (by omega) (by omega)
              refine ⟨fun _ => this, fun _ => ⟨((rs P n).2, n - 1), List.mem_append_right _ (List.mem_singleton.2 rfl), ?_⟩⟩
              show (rs P n).2 ≤ x ∧ x ≤ n - 1
              omega
        · rw [e]
          intro x h1 h2
          have : n + 1 ≤ x := h1
          omega
        · rw [e]
          refine List.pairwise_append.2 ⟨ih.pw, List.pairwise_singleton _ _, ?_⟩
          intro r hr s hs
          obtain rfl := List.mem_singleton.1 hs
          exact (ih.le r hr).2.2
      · have e := rs_skip hq hl
        refine ⟨?_, ?_, ?_, ?_⟩
        · rw [e]
          intro r h
          obtain ⟨h1, h2, h3⟩ := ih.le r h
          exact ⟨h1, h2, by show r.2 + 2 ≤ n + 1; omega⟩
        · rw [e]
          intro x hx
          have hx' : x < n + 1 := hx
          by_cases h1 : x < (rs P n).2
          · exact ih.is x h1
          · obtain rfl : x = n := by omega
            refine ⟨?_, fun h => absurd h hno⟩
            rintro ⟨r, hr, h3⟩
            have := ih.le r hr
            omega
        · rw [e]
          intro x h1 h2
          have : n + 1 ≤ x := h1
          omega
        · rw [e]; exact ih.pw
theorem rs_end (P : Nat → Bool) : (rs P 257).2 = 257 := by
  rw [rs]
  rfl
/-- Each byte of a class is in a run, and no other one. -/
theorem runs_is (P : Nat → Bool) (x : Nat) (hx : x < 256) : (∃ r ∈ (rs P 257).1, r.1 ≤ x ∧ x ≤ r.2) ↔ P x = true := by
  rw [(runsAt P 257).is x (by rw [rs_end]; omega)]
  exact ⟨fun h => h.2, fun h => ⟨hx, h⟩⟩
theorem runs_le (P : Nat → Bool) (r : Nat × Nat) (h : r ∈ (rs P 257).1) : r.1 ≤ r.2 ∧ r.2 < 256 := ⟨((runsAt P 257).le r h).1, ((runsAt P 257).le r h).2.1⟩
/-- One byte alone. -/
theorem runs_one (P : Nat → Bool) (k : Nat) (hk : k < 256) : (rs P 257).1 = [(k, k)] ↔ ∀ x, x < 256 → (P x = true ↔ x = k) := by
  constructor
  · intro h x hx
    rw [← runs_is P x hx, h]
    simp
    omega
  · intro h
    have hin : ∀ r ∈ (rs P 257).1, r = (k, k) := by
      rintro ⟨lo, hi⟩ hr
      obtain ⟨h1, h2⟩ := runs_le P _ hr
      have h1' : lo ≤ hi := h1
      have h2' : hi < 256 := h2
      have a := (h lo (by omega)).1 ((runs_is P lo (by omega)).1 ⟨_, hr, Nat.le_refl _, h1⟩)
      have b := (h hi h2).1 ((runs_is P hi h2).1 ⟨_, hr, h1, Nat.le_refl _⟩)
      rw [a, b]
    obtain ⟨r, hr, _⟩ := (runs_is P k hk).2 ((h k hk).2 rfl)
    have hpw := (runsAt P 257).pw
    match hL : (rs P 257).1 with
    | [] => rw [hL] at hr; cases hr
    | [r] => rw [hin r (by rw [hL]; simp)]
    | r :: s :: l =>
      rw [hL] at hpw
      have e1 := hin r (by rw [hL]; simp)
      have e2 := hin s (by rw [hL]; simp)
      have := (List.pairwise_cons.1 hpw).1 s (by simp)
      rw [e1, e2] at this
      have : k + 2 ≤ k := this
      omega
/-- The reference's text of runs. -/
def refB (l : List (Nat × Nat)) : List UInt8 := match l with
  | [r] => if r.1 = r.2 then litB r.1 else [91] ++ (l.flatMap fun r => runB r.1 r.2) ++ [93]
  | _ => [91] ++ (l.flatMap fun r => runB r.1 r.2) ++ [93]
theorem text_ref (P : Nat → Bool) : textB P = refB (rs P 257).1 := by
  by_cases h : ∃ k, k < 256 ∧ ∀ x, x < 256 → (P x = true ↔ x = k)
  · obtain ⟨k, hk, h⟩ := h
    rw [(runs_one P k hk).2 h]
    have hf : (List.range 256).find? P = some k := find_some hk ((h k hk).2 rfl) fun j hj => by
      cases hp : P j with
      | false => rfl
      | true => have := (h j (by omega)).1 hp; omega
    have he : eqC P (ofN (fun _ => k) 1) = true := by
      rw [eqC_iff]
      intro x hx
      rw [Bool.eq_iff_iff, h x hx, ofN_iff]
      exact ⟨fun e => ⟨0, by omega, e.symm⟩, fun ⟨_, _, e⟩ => e.symm⟩
    unfold textB
    rw [hf]
    show (if eqC P (ofN (fun _ => k) 1) = true then litB k else brk P) = _
    rw [if_pos he]
    simp [refB]
  · have h1 : textB P = brk P := by
      unfold textB
      cases hf : (List.range 256).find? P with
      | none => rfl
      | some k =>
        have hk : k < 256 := by
          rw [List.find?_range_eq_some] at hf
          exact List.mem_range.1 hf.2.1
        show (if eqC P (ofN (fun _ => k) 1) = true then litB k else brk P) = _
        rw [if_neg]
        intro he
        rw [eqC_iff] at he
        refine h ⟨k, hk, fun x hx => ?_⟩
        rw [he x hx, ofN_iff]
        exact ⟨fun ⟨_, _, e⟩ => e.symm, fun e => ⟨0, by omega, e.symm⟩⟩
    rw [h1]
    unfold refB brk
    split
    · rename_i r hr
      rw [if_neg]
      · intro e
        have hr' : (rs P 257).1 = [(r.1, r.1)] := by rw [hr]; rw [show (r.1, r.1) = r by rw [Prod.ext_iff]; exact ⟨rfl, e⟩]
        have hk : r.1 < 256 := by have := runs_le P r (by rw [hr]; simp); omega
        exact h ⟨r.1, hk, (runs_one P r.1 hk).1 hr'⟩
    · rfl
end Go.Proofs.YtkbeiadbolihiaaDoor
namespace Go.Proofs.YtkbeiadbolihiaaDoor
open Go.RowKit
set_option maxHeartbeats 1000000 in
theorem within_any (S : ByteArray) (l : List Nat) (n b : Nat) (hn : l.length = n) (hsz : S.size = n) (hm : n ≤ 100) (hix : ∀ k, k < n → ∀ w, (Instr.index 9 (.string S) (.int .i64 (k : Nat))).run Tryd.prog w = .ok (.int .u8 (l.getD k 0 : Nat)) w) (w : World) :
    Calls Tryd.prog 42 #[.int .u8 (b : Nat), .string S] w fun e w' => e = .returned (.bool (decide (b ∈ l))) ∧ w' = w := by
  go_enter Tryd.func42, Tryd.ntmps42
  go_wp2_with fail
  go_loopw [5] (fun i wr => ∃ k : Nat, k ≤ n ∧ i = .int .i64 k ∧ (∀ j, j < k → l.getD j 0 ≠ b) ∧ wr = w) (fun i _ => n - (intOf i).toNat)
  case atStart => exact ⟨0, Nat.zero_le _, rfl, fun j h => by omega, rfl⟩
  case round =>
    obtain ⟨k, hk, rfl, hno, rfl⟩ := hrel
    by_cases hlt : k < n
    · have hki : (k : Int) < (n : Int) := by omega
      have hi := hix k hlt
      obtain ⟨x, hx⟩ : ∃ x, l.getD k 0 = x := ⟨_, rfl⟩
      rw [hx] at hi
      clear hix
      by_cases he : x = b
      · have HI : Hid (decide (b ∈ l) = true) := by
          show decide (b ∈ l) = true
          rw [decide_eq_true_eq, ← he, ← hx, List.getD_eq_getElem?_getD, List.getElem?_eq_getElem (by omega)]
          simp
        have hei : ((x : Int) == (b : Int)) = true := by rw [he]; simp
        clear hx he hno
        go_wp2
        go_ret
        exact ⟨by rw [HI.out]; rfl, rfl⟩
      · have hei : ((x : Int) == (b : Int)) = false := by simp; omega
        have HN : Hid (∀ j, j < k + 1 → l.getD j 0 ≠ b) := fun j hj => by
          by_cases h : j = k
          · rw [h, hx]; exact he
          · exact hno j (by omega)
        clear hno hx he
        go_wp2
        go_roundw
        case rel => exact ⟨k + 1, by omega, by go_num, HN.out, trivial⟩
        case measure => simp [intOf]; omega
    · have hki : ¬ (k : Int) < (n : Int) := by omega
      have HI : Hid (decide (b ∈ l) = false) := by
        show decide (b ∈ l) = false
        rw [decide_eq_false_iff_not]
        intro h
        obtain ⟨j, hj, e⟩ := List.mem_iff_getElem.1 h
        refine hno j (by omega) ?_
        rw [List.getD_eq_getElem?_getD, List.getElem?_eq_getElem hj]
        simpa using e
      clear hno hix
      go_wp2
      go_ret
      exact ⟨by rw [HI.out]; rfl, rfl⟩
theorem ext16 (n : Nat) (h : n < 16) : (⟨#[48, 49, 50, 51, 52, 53, 54, 55, 56, 57, 97, 98, 99, 100, 101, 102]⟩ : ByteArray).extract n (n + 1) = ⟨#[(hexd n).toUInt8]⟩ := by
  have hn : n = 0 ∨ n = 1 ∨ n = 2 ∨ n = 3 ∨ n = 4 ∨ n = 5 ∨ n = 6 ∨ n = 7 ∨ n = 8 ∨ n = 9 ∨ n = 10 ∨ n = 11 ∨ n = 12 ∨ n = 13 ∨ n = 14 ∨ n = 15 := by omega
  rcases hn with rfl | rfl | rfl | rfl | rfl | rfl | rfl | rfl | rfl | rfl | rfl | rfl | rfl | rfl | rfl | rfl
  all_goals rfl
theorem lbel_drewN (w : World) (q : Nat) : Below w.heap.size w (w.drewN q) := by
  induction q with
  | zero => exact Below.refl _ _
  | succ q ih => exact ih.drew
theorem numB_is (b : Nat) (hb : b < 256) : (⟨#[92, 120]⟩ : ByteArray) ++ (⟨#[48, 49, 50, 51, 52, 53, 54, 55, 56, 57, 97, 98, 99, 100, 101, 102]⟩ : ByteArray).extract (b / 16) (b / 16 + 1) ++ (⟨#[48, 49, 50, 51, 52, 53, 54, 55, 56, 57, 97, 98, 99, 100, 101, 102]⟩ : ByteArray).extract (b % 16) (b % 16 + 1) = ⟨(numB b).toArray⟩ := by
  rw [ext16 _ (by omega), ext16 _ (by omega)]
  apply ByteArray.ext
  simp [ByteArray.data_append, numB]
set_option maxRecDepth 100000 in
set_option maxHeartbeats 1000000 in
theorem rhex_any (b : Nat) (w : World) (hb : b < 256) : Calls Tryd.prog 41 #[.int .u8 (b : Nat)] w (RetS w (numB b)) := by
  unfold RetS
  rw [← numB_is b hb]
  go_enter Tryd.func41, Tryd.ntmps41
  go_wp2
  go_quiet (fail)
  go_wp2
  go_ret
  exact ⟨rfl, lbel_drewN _ _⟩
set_option maxRecDepth 100000 in
theorem within_lit (b : Nat) (w : World) : Calls Tryd.prog 42 #[.int .u8 (b : Nat), .string ⟨#[46, 91, 93, 40, 41, 123, 125, 124, 42, 43, 63, 94, 36, 92]⟩] w fun e w' => e = .returned (.bool (decide (b ∈ [46, 91, 93, 40, 41, 123, 125, 124, 42, 43, 63, 94, 36, 92]))) ∧ w' = w := by
  refine within_any _ [46, 91, 93, 40, 41, 123, 125, 124, 42, 43, 63, 94, 36, 92] 14 b rfl rfl (by decide) ?_ w
  intro k hk w
  have hn : k = 0 ∨ k = 1 ∨ k = 2 ∨ k = 3 ∨ k = 4 ∨ k = 5 ∨ k = 6 ∨ k = 7 ∨ k = 8 ∨ k = 9 ∨ k = 10 ∨ k = 11 ∨ k = 12 ∨ k = 13 := by omega
  rcases hn with rfl | rfl | rfl | rfl | rfl | rfl | rfl | rfl | rfl | rfl | rfl | rfl | rfl | rfl
  all_goals rfl
set_option maxRecDepth 100000 in
theorem within_inn (b : Nat) (w : World) : Calls Tryd.prog 42 #[.int .u8 (b : Nat), .string ⟨#[93, 91, 92, 94, 45]⟩] w fun e w' => e = .returned (.bool (decide (b ∈ [93, 91, 92, 94, 45]))) ∧ w' = w := by
  refine within_any _ [93, 91, 92, 94, 45] 5 b rfl rfl (by decide) ?_ w
  intro k hk w
  have hn : k = 0 ∨ k = 1 ∨ k = 2 ∨ k = 3 ∨ k = 4 := by omega
  rcases hn with rfl | rfl | rfl | rfl | rfl
  all_goals rfl
theorem spec_in (b : Nat) (hb : b < 256) : decide (b ∈ [46, 91, 93, 40, 41, 123, 125, 124, 42, 43, 63, 94, 36, 92]) = spec b := by
  have h : ∀ b : Fin 256, decide (b.val ∈ [46, 91, 93, 40, 41, 123, 125, 124, 42, 43, 63, 94, 36, 92]) = spec b.val := by decide +kernel
  exact h ⟨b, hb⟩
theorem specI_in (b : Nat) (hb : b < 256) : decide (b ∈ [93, 91, 92, 94, 45]) = specI b := by
  have h : ∀ b : Fin 256, decide (b.val ∈ [93, 91, 92, 94, 45]) = specI b.val := by decide +kernel
  exact h ⟨b, hb⟩
theorem conv_one (W : World) (b : Nat) : (convert 34 9 (.slice (some ⟨W.heap.size, 0, none⟩) 1 1)).run Tryd.prog (W.alloc (.cells #[.int .u8 (b : Nat)] 5)) = .ok (.string ⟨#[b.toUInt8]⟩) (W.alloc (.cells #[.int .u8 (b : Nat)] 5)) := by
  rw [run_convert_bytes_arg _ 34 5 Tryd.underlying34 Tryd.underlying5 _ 0 1 1 [(b : Nat)] rfl (fun i hi => ?_) 9 Tryd.underlying9]
  · rfl
  · obtain rfl : i = 0 := by omega
    rw [cell_of_row _ W.heap.size (0 + 0) _ 5 (0, 0) (heap_alloc_new W _)]
    rfl
set_option maxRecDepth 100000 in
set_option maxHeartbeats 1000000 in
theorem rliteral_any (b : Nat) (w : World) (hb : b < 256) : Calls Tryd.prog 25 #[.int .u8 (b : Nat)] w (RetS w (litB b)) := by
  have hw := within_lit b
  rw [spec_in b hb] at hw
  cases hv : vis b with
  | false =>
    have e : litB b = numB b := by unfold litB; rw [hv]; rfl
    rw [e]
    by_cases h1 : b < 33
    · have g1 : (b : Int) < 33 := by omega
      go_enter Tryd.func25, Tryd.ntmps25
      go_wp2_with (go_at_call 41; refine (rhex_any b _ hb).mono ?_; rintro e w' ⟨rfl, hB⟩)
      go_ret
      exact ⟨rfl, hB⟩
    · have g1 : ¬ (b : Int) < 33 := by omega
      have g2 : (126 : Int) < (b : Int) := by unfold vis at hv; simp at hv; omega
      go_enter Tryd.func25, Tryd.ntmps25
      go_wp2_with (go_at_call 41; refine (rhex_any b _ hb).mono ?_; rintro e w' ⟨rfl, hB⟩)
      go_ret
      exact ⟨rfl, hB⟩
  | true =>
    have hlt : 33 ≤ b ∧ b ≤ 126 := by unfold vis at hv; simp at hv; omega
    have g1 : ¬ (b : Int) < 33 := by omega
    have g2 : ¬ (126 : Int) < (b : Int) := by omega
    have hcv := conv_one w b
    have hB : Below w.heap.size w (w.alloc (.cells #[.int .u8 (b : Nat)] 5)) := (Below.refl _ _).alloc (Nat.le_refl _) _
    cases hs : spec b with
    | true =>
      have e : (⟨(litB b).toArray⟩ : ByteArray) = ⟨#[92]⟩ ++ ⟨#[b.toUInt8]⟩ := by unfold litB; rw [hv, hs]; rfl
      unfold RetS
      rw [e]
      rw [hs] at hw
      clear e
      have s1 : (⟨#[92]⟩ : ByteArray).size = 1 := rfl
      have s2 : (⟨#[b.toUInt8]⟩ : ByteArray).size = 1 := rfl
      generalize (⟨#[b.toUInt8]⟩ : ByteArray) = u at *
      go_enter Tryd.func25, Tryd.ntmps25
      go_wp2_with (go_at_call 42; refine (hw _).mono ?_; rintro e w' ⟨rfl, rfl⟩)
      go_ret
      exact ⟨rfl, hB⟩
    | false =>
      have e : (⟨(litB b).toArray⟩ : ByteArray) = ⟨#[b.toUInt8]⟩ := by unfold litB; rw [hv, hs]; rfl
      unfold RetS
      rw [e]
      rw [hs] at hw
      clear e
      generalize (⟨#[b.toUInt8]⟩ : ByteArray) = u at *
      go_enter Tryd.func25, Tryd.ntmps25
      go_wp2_with (go_at_call 42; refine (hw _).mono ?_; rintro e w' ⟨rfl, rfl⟩)
      go_ret
      exact ⟨rfl, hB⟩
set_option maxRecDepth 100000 in
set_option maxHeartbeats 1000000 in
theorem rinner_any (b : Nat) (w : World) (hb : b < 256) : Calls Tryd.prog 28 #[.int .u8 (b : Nat)] w (RetS w (innB b)) := by
  have hw := within_inn b
  rw [specI_in b hb] at hw
  cases hv : vis b with
  | false =>
    have e : innB b = numB b := by unfold innB; rw [hv]; rfl
    rw [e]
    by_cases h1 : b < 33
    · have g1 : (b : Int) < 33 := by omega
      go_enter Tryd.func28, Tryd.ntmps28
      go_wp2_with (go_at_call 41; refine (rhex_any b _ hb).mono ?_; rintro e w' ⟨rfl, hB⟩)
      go_ret
      exact ⟨rfl, hB⟩
    · have g1 : ¬ (b : Int) < 33 := by omega
      have g2 : (126 : Int) < (b : Int) := by unfold vis at hv; simp at hv; omega
      go_enter Tryd.func28, Tryd.ntmps28
      go_wp2_with (go_at_call 41; refine (rhex_any b _ hb).mono ?_; rintro e w' ⟨rfl, hB⟩)
      go_ret
      exact ⟨rfl, hB⟩
  | true =>
    have hlt : 33 ≤ b ∧ b ≤ 126 := by unfold vis at hv; simp at hv; omega
    have g1 : ¬ (b : Int) < 33 := by omega
    have g2 : ¬ (126 : Int) < (b : Int) := by omega
    cases hs : specI b with
    | true =>
      have e : innB b = numB b := by unfold innB; rw [hv, hs]; rfl
      rw [e]
      rw [hs] at hw
      go_enter Tryd.func28, Tryd.ntmps28
      go_wp2_with (first | (go_at_call 42; refine (hw _).mono ?_; rintro e w' ⟨rfl, rfl⟩) | (go_at_call 41; refine (rhex_any b _ hb).mono ?_; rintro e w' ⟨rfl, hB⟩))
      go_ret
      exact ⟨rfl, hB⟩
    | false =>
      have hcv := conv_one w b
      have hB : Below w.heap.size w (w.alloc (.cells #[.int .u8 (b : Nat)] 5)) := (Below.refl _ _).alloc (Nat.le_refl _) _
      have e : (⟨(innB b).toArray⟩ : ByteArray) = ⟨#[b.toUInt8]⟩ := by unfold innB; rw [hv, hs]; rfl
      unfold RetS
      rw [e]
      rw [hs] at hw
      clear e
      generalize (⟨#[b.toUInt8]⟩ : ByteArray) = u at *
      go_enter Tryd.func28, Tryd.ntmps28
      go_wp2_with (go_at_call 42; refine (hw _).mono ?_; rintro e w' ⟨rfl, rfl⟩)
      go_ret
      exact ⟨rfl, hB⟩
end Go.Proofs.YtkbeiadbolihiaaDoor
