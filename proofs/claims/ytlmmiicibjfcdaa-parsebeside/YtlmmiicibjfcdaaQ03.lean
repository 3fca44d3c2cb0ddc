/- token: open, sign: the walks. token: count: the walk. -/
import Derived.Test.YtlmmiicibjfcdaaQ02
import Derived.ScopeJumps
import Derived.WalkMore
namespace Go.Proofs.Ytlmmiicibjfcdaa
open Go.RowKit
/-- A token and a mark, as values. -/
def tokV (k : Int) (b a0 a1 a2 a3 : Nat) (not : Bool) (l m : Int) (lazy : Bool) (at_ : Nat) : Value := .agg #[.int .i64 k, .int .u8 (b : Nat), .int .u64 (a0 : Nat), .int .u64 (a1 : Nat), .int .u64 (a2 : Nat), .int .u64 (a3 : Nat), .bool not, .int .i64 l, .int .i64 m, .bool lazy, .int .i64 (at_ : Nat)]
def markV (at_ : Nat) (e : Int) : Value := .agg #[.int .i64 (at_ : Nat), .int .i64 e]
/-- What a call answers that reads: a token and a mark; nothing old has turned. -/
def RetK (w : World) (t m : Value) (e : Ending) (w' : World) : Prop := e = .returned (.tuple #[t, m]) ∧ Below w.heap.size w w'
theorem bel3 (w : World) (o p q : Obj) : Below w.heap.size w (((w.alloc o).alloc p).alloc q) := (((Below.refl _ _).alloc (Nat.le_refl _) _).alloc (by simp) _).alloc (by simp; omega) _
theorem has_at (ao : Option Addr) (n cap at_ k b : Nat) (z : Nat → Nat) (w : World) (hr : Rd w ao n z) (v : Bool) (h : hasP z n (at_ + k) b = v) : ∀ W, Below w.heap.size w W → Calls Try.prog 99 #[.slice ao n cap, .int .i64 ((at_ : Int) + (k : Nat)), .int .u8 (b : Nat)] W fun e w' => e = .returned (.bool v) ∧ w' = W := fun W hb => by
  have := has_any ao n cap (at_ + k) b z W (hr.below hb)
  rw [h] at this
  exact this
set_option maxRecDepth 10000 in
set_option maxHeartbeats 1000000 in
theorem open_plain (ao : Option Addr) (n cap at_ : Nat) (z : Nat → Nat) (w : World) (hr : Rd w ao n z) (hn : (n : Int) ≤ 1024) (ha : at_ < n) (h : hasP z n (at_ + 1) 63 = false) : Calls Try.prog 86 #[.slice ao n cap, .int .i64 (at_ : Nat)] w (RetK w (tokV 4 0 0 0 0 0 false 0 0 false at_) (markV (at_ + 1) 0)) := by
  have HH : Hid (∀ W, Below w.heap.size w W → Calls Try.prog 99 #[.slice ao n cap, .int .i64 ((at_ : Int) + 1), .int .u8 63] W fun e w' => e = .returned (.bool false) ∧ w' = W) := has_at ao n cap at_ 1 63 z w hr false h
  clear h hr
  go_enter Try.func86, Try.ntmps86
  go_wp2_with fail
  refine (HH.out _ (bel3 _ _ _ _)).mono ?_
  rintro e w1 ⟨rfl, rfl⟩
  go_wp2
  exact bodyPost_ret (v := .tuple #[tokV 4 0 0 0 0 0 false 0 0 false at_, markV (at_ + 1) 0]) (by simp [results, Try.results86, go_sem, tokV, markV]) rfl ⟨rfl, bel3 _ _ _ _⟩
set_option maxRecDepth 10000 in
set_option maxHeartbeats 1000000 in
theorem open_group (ao : Option Addr) (n cap at_ : Nat) (z : Nat → Nat) (w : World) (hr : Rd w ao n z) (hn : (n : Int) ≤ 1024) (ha : at_ < n) (h : hasP z n (at_ + 1) 63 = true) (h2 : hasP z n (at_ + 2) 58 = true) : Calls Try.prog 86 #[.slice ao n cap, .int .i64 (at_ : Nat)] w (RetK w (tokV 4 0 0 0 0 0 false 0 0 false at_) (markV (at_ + 3) 0)) := by
  have HH : Hid (∀ W, Below w.heap.size w W → Calls Try.prog 99 #[.slice ao n cap, .int .i64 ((at_ : Int) + 1), .int .u8 63] W fun e w' => e = .returned (.bool true) ∧ w' = W) := has_at ao n cap at_ 1 63 z w hr true h
  have HI : Hid (∀ W, Below w.heap.size w W → Calls Try.prog 99 #[.slice ao n cap, .int .i64 ((at_ : Int) + 2), .int .u8 58] W fun e w' => e = .returned (.bool true) ∧ w' = W) := has_at ao n cap at_ 2 58 z w hr true h2
  clear h h2 hr
  go_enter Try.func86, Try.ntmps86
  go_wp2_with fail
  refine (HH.out _ (bel3 _ _ _ _)).mono ?_
  rintro e w1 ⟨rfl, rfl⟩
  go_wp2_with fail
  refine (HI.out _ (bel3 _ _ _ _)).mono ?_
  rintro e w2 ⟨rfl, rfl⟩
  go_wp2
  exact bodyPost_ret (v := .tuple #[tokV 4 0 0 0 0 0 false 0 0 false at_, markV (at_ + 3) 0]) (by simp [results, Try.results86, go_sem, tokV, markV]) rfl ⟨rfl, bel3 _ _ _ _⟩
set_option maxRecDepth 10000 in
set_option maxHeartbeats 1000000 in
theorem open_wrong (ao : Option Addr) (n cap at_ : Nat) (z : Nat → Nat) (w : World) (hr : Rd w ao n z) (hn : (n : Int) ≤ 1024) (ha : at_ < n) (h : hasP z n (at_ + 1) 63 = true) (h2 : hasP z n (at_ + 2) 58 = false) : Calls Try.prog 86 #[.slice ao n cap, .int .i64 (at_ : Nat)] w (RetK w (tokV 0 0 0 0 0 0 false 0 0 false 0) (markV at_ 44)) := by
  have HH : Hid (∀ W, Below w.heap.size w W → Calls Try.prog 99 #[.slice ao n cap, .int .i64 ((at_ : Int) + 1), .int .u8 63] W fun e w' => e = .returned (.bool true) ∧ w' = W) := has_at ao n cap at_ 1 63 z w hr true h
  have HI : Hid (∀ W, Below w.heap.size w W → Calls Try.prog 99 #[.slice ao n cap, .int .i64 ((at_ : Int) + 2), .int .u8 58] W fun e w' => e = .returned (.bool false) ∧ w' = W) := has_at ao n cap at_ 2 58 z w hr false h2
  clear h h2 hr
  go_enter Try.func86, Try.ntmps86
  go_wp2_with fail
  refine (HH.out _ (bel3 _ _ _ _)).mono ?_
  rintro e w1 ⟨rfl, rfl⟩
  go_wp2_with fail
  refine (HI.out _ (bel3 _ _ _ _)).mono ?_
  rintro e w2 ⟨rfl, rfl⟩
  go_wp2
  exact bodyPost_ret (v := .tuple #[tokV 0 0 0 0 0 0 false 0 0 false 0, markV at_ 44]) (by simp [results, Try.results86, go_sem, tokV, markV]) rfl ⟨rfl, bel3 _ _ _ _⟩
/-- The kind of a sign that stands alone; 1: a byte. -/
def signK (q : Nat) : Nat := if q = 46 then 3 else if q = 41 then 5 else if q = 124 then 6 else if q = 94 then 8 else if q = 36 then 9 else 1
set_option maxRecDepth 10000 in
set_option maxHeartbeats 2000000 in
theorem sign_any (ao : Option Addr) (n cap at_ : Nat) (z : Nat → Nat) (w : World) (hr : Rd w ao n z) (hn : (n : Int) ≤ 1024) (ha : at_ < n) : Calls Try.prog 88 #[.slice ao n cap, .int .i64 (at_ : Nat)] w (RetK w (tokV (signK (z at_) : Nat) (if signK (z at_) = 1 then z at_ else 0) 0 0 0 0 false 0 0 false at_) (markV (at_ + 1) 0)) := by
  obtain ⟨bb, off, rfl, hbb, hc⟩ := hr.at_ (by omega)
  have t0 := hc at_ ha
  have hai : (at_ : Int) < (n : Int) := by omega
  have t : ∀ W, Below w.heap.size w W → W.cell? ⟨bb, off + at_, none⟩ = some (.int .u8 (z at_ : Nat)) := fun W hb => by rw [hb.cell (p := ⟨bb, off + at_, none⟩) hbb]; exact t0
  clear hc hr t0
  have hne : bb ≠ w.heap.size := by omega
  generalize z at_ = q at *
  have t1 := t _ (bel3 w (.cells #[.int .i64 0, .int .u8 0, .int .u64 0, .int .u64 0, .int .u64 0, .int .u64 0, .bool false, .int .i64 0, .int .i64 0, .bool false, .int .i64 0] 42) (.cells #[.int .i64 0, .int .i64 0] 96) (.cells #[.int .i64 0, .int .u8 0, .int .u64 0, .int .u64 0, .int .u64 0, .int .u64 0, .bool false, .int .i64 0, .int .i64 0, .bool false, .int .i64 (at_ : Nat)] 42))
  by_cases h46 : q = 46
  · subst h46
    show Calls Try.prog 88 _ w (RetK w (tokV 3 0 0 0 0 0 false 0 0 false at_) (markV (at_ + 1) 0))
    go_enter Try.func88, Try.ntmps88
    go_wp2
    exact bodyPost_ret (v := .tuple #[tokV 3 0 0 0 0 0 false 0 0 false at_, markV (at_ + 1) 0]) (by simp [results, Try.results88, go_sem, tokV, markV]) rfl ⟨rfl, bel3 _ _ _ _⟩
  by_cases h41 : q = 41
  · subst h41
    show Calls Try.prog 88 _ w (RetK w (tokV 5 0 0 0 0 0 false 0 0 false at_) (markV (at_ + 1) 0))
    go_enter Try.func88, Try.ntmps88
    go_wp2
    exact bodyPost_ret (v := .tuple #[tokV 5 0 0 0 0 0 false 0 0 false at_, markV (at_ + 1) 0]) (by simp [results, Try.results88, go_sem, tokV, markV]) rfl ⟨rfl, bel3 _ _ _ _⟩
  by_cases h124 : q = 124
  · subst h124
    show Calls Try.prog 88 _ w (RetK w (tokV 6 0 0 0 0 0 false 0 0 false at_) (markV (at_ + 1) 0))
    go_enter Try.func88, Try.ntmps88
    go_wp2
    exact bodyPost_ret (v := .tuple #[tokV 6 0 0 0 0 0 false 0 0 false at_, markV (at_ + 1) 0]) (by simp [results, Try.results88, go_sem, tokV, markV]) rfl ⟨rfl, bel3 _ _ _ _⟩
  by_cases h94 : q = 94
  · subst h94
    show Calls Try.prog 88 _ w (RetK w (tokV 8 0 0 0 0 0 false 0 0 false at_) (markV (at_ + 1) 0))
    go_enter Try.func88, Try.ntmps88
    go_wp2
    exact bodyPost_ret (v := .tuple #[tokV 8 0 0 0 0 0 false 0 0 false at_, markV (at_ + 1) 0]) (by simp [results, Try.results88, go_sem, tokV, markV]) rfl ⟨rfl, bel3 _ _ _ _⟩
  by_cases h36 : q = 36
  · subst h36
    show Calls Try.prog 88 _ w (RetK w (tokV 9 0 0 0 0 0 false 0 0 false at_) (markV (at_ + 1) 0))
    go_enter Try.func88, Try.ntmps88
    go_wp2
    exact bodyPost_ret (v := .tuple #[tokV 9 0 0 0 0 0 false 0 0 false at_, markV (at_ + 1) 0]) (by simp [results, Try.results88, go_sem, tokV, markV]) rfl ⟨rfl, bel3 _ _ _ _⟩
  have e : signK q = 1 := by unfold signK; rw [if_neg h46, if_neg h41, if_neg h124, if_neg h94, if_neg h36]
  rw [e, if_pos rfl]
  have e46 : ((q : Int) == 46) = false := by simp; omega
  have e41 : ((q : Int) == 41) = false := by simp; omega
  have e124 : ((q : Int) == 124) = false := by simp; omega
  have e94 : ((q : Int) == 94) = false := by simp; omega
  have e36 : ((q : Int) == 36) = false := by simp; omega
  clear h46 h41 h124 h94 h36 e
  go_enter Try.func88, Try.ntmps88
  go_wp2_with fail
  have k0 := ((Cl.new w 42 [.int .i64 0, .int .u8 0, .int .u64 0, .int .u64 0, .int .u64 0, .int .u64 0, .bool false, .int .i64 0, .int .i64 0, .bool false, .int .i64 0]).alloc (.cells #[.int .i64 0, .int .i64 0] 96)).alloc (.cells #[.int .i64 0, .int .u8 0, .int .u64 0, .int .u64 0, .int .u64 0, .int .u64 0, .bool false, .int .i64 0, .int .i64 0, .bool false, .int .i64 (at_ : Nat)] 42)
  have k1 := (Cl.new (w.alloc (.cells #[.int .i64 0, .int .u8 0, .int .u64 0, .int .u64 0, .int .u64 0, .int .u64 0, .bool false, .int .i64 0, .int .i64 0, .bool false, .int .i64 0] 42)) 96 [.int .i64 0, .int .i64 0]).alloc (.cells #[.int .i64 0, .int .u8 0, .int .u64 0, .int .u64 0, .int .u64 0, .int .u64 0, .bool false, .int .i64 0, .int .i64 0, .bool false, .int .i64 (at_ : Nat)] 42)
  have k2 := Cl.new ((w.alloc (.cells #[.int .i64 0, .int .u8 0, .int .u64 0, .int .u64 0, .int .u64 0, .int .u64 0, .bool false, .int .i64 0, .int .i64 0, .bool false, .int .i64 0] 42)).alloc (.cells #[.int .i64 0, .int .i64 0] 96)) 42 [.int .i64 0, .int .u8 0, .int .u64 0, .int .u64 0, .int .u64 0, .int .u64 0, .bool false, .int .i64 0, .int .i64 0, .bool false, .int .i64 (at_ : Nat)]
  have hB := bel3 w (.cells #[.int .i64 0, .int .u8 0, .int .u64 0, .int .u64 0, .int .u64 0, .int .u64 0, .bool false, .int .i64 0, .int .i64 0, .bool false, .int .i64 0] 42) (.cells #[.int .i64 0, .int .i64 0] 96) (.cells #[.int .i64 0, .int .u8 0, .int .u64 0, .int .u64 0, .int .u64 0, .int .u64 0, .bool false, .int .i64 0, .int .i64 0, .bool false, .int .i64 (at_ : Nat)] 42)
  simp only [World.size_alloc] at k1 k2
  generalize (((w.alloc (.cells #[.int .i64 0, .int .u8 0, .int .u64 0, .int .u64 0, .int .u64 0, .int .u64 0, .bool false, .int .i64 0, .int .i64 0, .bool false, .int .i64 0] 42)).alloc (.cells #[.int .i64 0, .int .i64 0] 96)).alloc (.cells #[.int .i64 0, .int .u8 0, .int .u64 0, .int .u64 0, .int .u64 0, .int .u64 0, .bool false, .int .i64 0, .int .i64 0, .bool false, .int .i64 (at_ : Nat)] 42)) = W at *
  have hB1 := hB.setCell (p := ⟨w.heap.size + 1 + 1, 0, none⟩) (by simp; omega) (.int .i64 1)
  have hB2 := hB1.setCell (p := ⟨w.heap.size + 1 + 1, 1, none⟩) (by simp; omega) (.int .u8 (q : Nat))
  have t2 := t _ hB.drew
  have t3 := t _ hB1.drew
  have t4 := t _ hB2.drew
  obtain ⟨⟨d0, d1, _⟩, f0, f1, _⟩ := k2.drew.eleven
  obtain ⟨⟨d2, d3, _⟩, f2, f3, _⟩ := (k2.set 0 (.int .i64 1)).drew.eleven
  clear t t1
  go_region_held3 (fun w' => w'.cell? ⟨bb, off + at_, none⟩ = some (.int .u8 (q : Nat))) (first | exact t2 | exact t3 | exact t4) (fail)
  have h2 := ((k2.set 0 (.int .i64 1)).set 1 (.int .u8 (q : Nat))).drew
  have h0 := ((k0.other (k := w.heap.size + 1 + 1) (by omega) 0 (.int .i64 1)).other (k := w.heap.size + 1 + 1) (by omega) 1 (.int .u8 (q : Nat))).drew
  have h1 := ((k1.other (k := w.heap.size + 1 + 1) (by omega) 0 (.int .i64 1)).other (k := w.heap.size + 1 + 1) (by omega) 1 (.int .u8 (q : Nat))).drew
  have hB3 := hB2.drew
  clear t2 t3 t4 d0 d1 d2 d3 f0 f1 f2 f3 k0 k1 k2 hB hB1 hB2
  generalize ((W.setCell ⟨w.heap.size + 1 + 1, 0, none⟩ (.int .i64 1)).setCell ⟨w.heap.size + 1 + 1, 1, none⟩ (.int .u8 (q : Nat))).drew = W3 at *
  have h2' : Cl W3 (w.heap.size + 1 + 1) 42 [.int .i64 1, .int .u8 (q : Nat), .int .u64 0, .int .u64 0, .int .u64 0, .int .u64 0, .bool false, .int .i64 0, .int .i64 0, .bool false, .int .i64 (at_ : Nat)] := h2
  obtain ⟨⟨a0, a1, a2, a3, a4, a5, a6, a7, a8, a9, a10⟩, _⟩ := h2'.eleven
  obtain ⟨⟨b0, b1, b2, b3, b4, b5, b6, b7, b8, b9, b10⟩, g0, g1, g2, g3, g4, g5, g6, g7, g8, g9, g10⟩ := h0.eleven
  obtain ⟨⟨r0, r1⟩, s0, s1⟩ := h1.two
  have F := ((h0.put11 (.int .i64 1) (.int .u8 (q : Nat)) (.int .u64 0) (.int .u64 0) (.int .u64 0) (.int .u64 0) (.bool false) (.int .i64 0) (.int .i64 0) (.bool false) (.int .i64 (at_ : Nat))).others2 (k := w.heap.size + 1) (by omega) (.int .i64 ((at_ : Int) + 1)) (.int .i64 0)).eleven.1
  have G := ((h1.others11 (k := w.heap.size) (by omega) (.int .i64 1) (.int .u8 (q : Nat)) (.int .u64 0) (.int .u64 0) (.int .u64 0) (.int .u64 0) (.bool false) (.int .i64 0) (.int .i64 0) (.bool false) (.int .i64 (at_ : Nat))).put2 (.int .i64 ((at_ : Int) + 1)) (.int .i64 0)).two.1
  have hB4 := below_put2 (b := w.heap.size + 1) (below_put11 (b := w.heap.size) hB3 (Nat.le_refl _) (.int .i64 1) (.int .u8 (q : Nat)) (.int .u64 0) (.int .u64 0) (.int .u64 0) (.int .u64 0) (.bool false) (.int .i64 0) (.int .i64 0) (.bool false) (.int .i64 (at_ : Nat))) (by omega) (.int .i64 ((at_ : Int) + 1)) (.int .i64 0)
  simp only [put2, put11] at F G
  obtain ⟨F0, F1, F2, F3, F4, F5, F6, F7, F8, F9, F10⟩ := F
  obtain ⟨G0, G1⟩ := G
  have HF : Hid (Below w.heap.size w _) := hB4
  clear h2 hB4 hB3 h0 h1
  go_wp2
  exact bodyPost_ret (v := .tuple #[tokV 1 q 0 0 0 0 false 0 0 false at_, markV (at_ + 1) 0]) (by simp [results, Try.results88, go_sem, tokV, markV, F0, F1, F2, F3, F4, F5, F6, F7, F8, F9, F10, G0, G1]) rfl ⟨rfl, HF.out⟩
end Go.Proofs.Ytlmmiicibjfcdaa
namespace Go.Proofs.Ytlmmiicibjfcdaa
open Go.RowKit
/-- A scope in which the run jumps at most once, ahead. -/
theorem wp_scope_once {P : Program} {c rest : Code} {Q : Exit → Act → World → Prop} {a : Act} {w : World} (l : Nat) (hf : findLabel c l = some rest)
    (h : c.wp P (Exit.jump l (fun a w => rest.wp P (Exit.noGoto Q) a w) Q) a w) : (Code.scope c).wp P Q a w := by
  refine wp_scope_jumps l (fun a w => rest.wp P (Exit.noGoto Q) a w) (fun _ _ => 0) hf h fun a w hJ => ?_
  refine Code.wp_mono ?_ hJ
  intro e a' w' hq
  cases e <;> first | exact hq | exact hq.elim
theorem numG_le (z : Nat → Nat) (n : Nat) : ∀ f k v, k ≤ n → v ≤ 10009 → k ≤ (numG z n f k v).2 ∧ (numG z n f k v).2 ≤ n ∧ (numG z n f k v).1 ≤ 10009 := by
  intro f
  induction f with
  | zero => intro k v h1 h2; exact ⟨Nat.le_refl _, h1, h2⟩
  | succ f ih =>
    intro k v h1 h2
    rw [numG]
    split
    · rename_i h
      simp only [Bool.and_eq_true, decide_eq_true_eq] at h
      have hd : z k - 48 ≤ 9 := by have := h.1.2; unfold digP at this; simp at this; omega
      have := ih (k + 1) (v * 10 + (z k - 48)) (by omega) (by omega)
      exact ⟨by omega, this.2⟩
    · exact ⟨Nat.le_refl _, h1, h2⟩
theorem numR_le (z : Nat → Nat) (n k : Nat) (h : k ≤ n) : k ≤ (numR z n k).2 ∧ (numR z n k).2 ≤ n ∧ (numR z n k).1 ≤ 10009 := numG_le z n _ k 0 h (by omega)
/-- What stands behind a brace: least, most, the place behind it, and the error. -/
def cntV (z : Nat → Nat) (n fr : Nat) : Int × Int × Nat × Int :=
  if numOk z n (fr + 1) = false then (0, 0, fr, 43)
  else if hasP z n (numR z n (fr + 1)).2 125 = true then ((numR z n (fr + 1)).1, (numR z n (fr + 1)).1, (numR z n (fr + 1)).2 + 1, 0)
  else if hasP z n (numR z n (fr + 1)).2 44 = false then (0, 0, fr, 43)
  else if hasP z n ((numR z n (fr + 1)).2 + 1) 125 = true then ((numR z n (fr + 1)).1, -1, (numR z n (fr + 1)).2 + 2, 0)
  else if numOk z n ((numR z n (fr + 1)).2 + 1) = false then (0, 0, fr, 43)
  else if repP (numR z n (fr + 1)).1 (numR z n ((numR z n (fr + 1)).2 + 1)).1 = false then (0, 0, fr, 43)
  else if hasP z n (numR z n ((numR z n (fr + 1)).2 + 1)).2 125 = false then (0, 0, fr, 43)
  else ((numR z n (fr + 1)).1, (numR z n ((numR z n (fr + 1)).2 + 1)).1, (numR z n ((numR z n (fr + 1)).2 + 1)).2 + 1, 0)
def RetCt (w : World) (v : Int × Int × Nat × Int) (e : Ending) (w' : World) : Prop := e = .returned (.tuple #[.int .i64 v.1, .int .i64 v.2.1, markV v.2.2.1 v.2.2.2]) ∧ Below w.heap.size w w'
theorem bel1 (w : World) (o : Obj) : Below w.heap.size w (w.alloc o) := (Below.refl _ _).alloc (Nat.le_refl _) _
set_option maxRecDepth 10000 in
set_option maxHeartbeats 2000000 in
theorem count_any (ao : Option Addr) (n cap fr : Nat) (z : Nat → Nat) (w : World) (hr : Rd w ao n z) (hn : (n : Int) ≤ 1024) (ha : fr < n) : Calls Try.prog 102 #[.slice ao n cap, .int .i64 (fr : Nat)] w (RetCt w (cntV z n fr)) := by
  have hN1 := fun W (hb : Below w.heap.size w W) => knumber_any ao n cap (fr + 1) z W (hr.below hb) hn (by omega)
  obtain ⟨hk1, hk2, hv1⟩ := numR_le z n (fr + 1) (by omega)
  have hH1 := fun W (hb : Below w.heap.size w W) => has_any ao n cap (numR z n (fr + 1)).2 125 z W (hr.below hb)
  have hH2 := fun W (hb : Below w.heap.size w W) => has_any ao n cap (numR z n (fr + 1)).2 44 z W (hr.below hb)
  have hH3 := fun W (hb : Below w.heap.size w W) => has_any ao n cap ((numR z n (fr + 1)).2 + 1) 125 z W (hr.below hb)
  have hlt : hasP z n (numR z n (fr + 1)).2 44 = true → (numR z n (fr + 1)).2 < n := fun h => by unfold hasP at h; simp at h; omega
  have hN2 := fun (h : (numR z n (fr + 1)).2 < n) W (hb : Below w.heap.size w W) => knumber_any ao n cap ((numR z n (fr + 1)).2 + 1) z W (hr.below hb) hn (by omega)
  have hL2 := fun (h : (numR z n (fr + 1)).2 < n) => numR_le z n ((numR z n (fr + 1)).2 + 1) (by omega)
  have hH4 := fun W (hb : Below w.heap.size w W) => has_any ao n cap (numR z n ((numR z n (fr + 1)).2 + 1)).2 125 z W (hr.below hb)
  unfold cntV
  generalize hv : (numR z n (fr + 1)).1 = v at *
  generalize hk : (numR z n (fr + 1)).2 = k at *
  generalize hx : (numR z n (k + 1)).1 = x at *
  generalize hy : (numR z n (k + 1)).2 = y at *
  have hM := fun W => mayRepeat_any (v : Int) (x : Int) W
  generalize numOk z n (fr + 1) = o1 at *
  generalize numOk z n (k + 1) = o2 at *
  generalize hasP z n k 125 = q1 at *
  generalize hasP z n k 44 = q2 at *
  generalize hasP z n (k + 1) 125 = q3 at *
  generalize hasP z n y 125 = q4 at *
  generalize repP (v : Int) (x : Int) = q5 at *
  clear hv hk hx hy hr
  cases o1 with
  | false =>
    rw [if_pos rfl]
    have N1 : Hid (∀ W, Below w.heap.size w W → Calls Try.prog 122 #[.slice ao n cap, .int .i64 ((fr : Int) + 1)] W fun e w' => e = .returned (.tuple #[.int .i64 (v : Nat), .int .i64 (k : Nat), .bool false]) ∧ w' = W) := hN1
    clear hN1 hH1 hH2 hH3 hlt hN2 hL2 hH4 hM
    go_enter Try.func102, Try.ntmps102
    go_wp2_with fail
    refine wp_scope_once 0 rfl ?_
    go_wp2_with fail
    refine (N1.out _ (bel1 _ _)).mono ?_
    rintro e w1 ⟨rfl, rfl⟩
    go_wp2_with fail
    go_step3
    refine And.intro rfl ?_
    go_wp2
    rw [Exit.noGoto_ret]
    exact bodyPost_ret (v := .tuple #[.int .i64 0, .int .i64 0, markV fr 43]) (by simp [results, Try.results102, go_sem, markV]) rfl ⟨rfl, bel1 _ _⟩
  | true =>
    rw [if_neg (by decide)]
    cases q1 with
    | true =>
      rw [if_pos rfl]
      have N1 : Hid (∀ W, Below w.heap.size w W → Calls Try.prog 122 #[.slice ao n cap, .int .i64 ((fr : Int) + 1)] W fun e w' => e = .returned (.tuple #[.int .i64 (v : Nat), .int .i64 (k : Nat), .bool true]) ∧ w' = W) := hN1
      have H1 : Hid (∀ W, Below w.heap.size w W → Calls Try.prog 99 #[.slice ao n cap, .int .i64 (k : Nat), .int .u8 125] W fun e w' => e = .returned (.bool true) ∧ w' = W) := hH1
      clear hN1 hH1 hH2 hH3 hlt hN2 hL2 hH4 hM
      go_enter Try.func102, Try.ntmps102
      go_wp2_with fail
      refine wp_scope_once 1 rfl ?_
      go_wp2_with fail
      refine (N1.out _ (bel1 _ _)).mono ?_
      rintro e w1 ⟨rfl, rfl⟩
      go_wp2_with fail
      refine (H1.out _ (bel1 _ _)).mono ?_
      rintro e w1 ⟨rfl, rfl⟩
      go_wp2_with fail
      go_step3
      refine And.intro rfl ?_
      go_wp2
      rw [Exit.noGoto_ret]
      exact bodyPost_ret (v := .tuple #[.int .i64 (v : Nat), .int .i64 (v : Nat), markV (k + 1) 0]) (by simp [results, Try.results102, go_sem, markV]) rfl ⟨rfl, bel1 _ _⟩
    | false =>
      rw [if_neg (by decide)]
      cases q2 with
      | false =>
        rw [if_pos rfl]
        have N1 : Hid (∀ W, Below w.heap.size w W → Calls Try.prog 122 #[.slice ao n cap, .int .i64 ((fr : Int) + 1)] W fun e w' => e = .returned (.tuple #[.int .i64 (v : Nat), .int .i64 (k : Nat), .bool true]) ∧ w' = W) := hN1
        have H1 : Hid (∀ W, Below w.heap.size w W → Calls Try.prog 99 #[.slice ao n cap, .int .i64 (k : Nat), .int .u8 125] W fun e w' => e = .returned (.bool false) ∧ w' = W) := hH1
        have H2 : Hid (∀ W, Below w.heap.size w W → Calls Try.prog 99 #[.slice ao n cap, .int .i64 (k : Nat), .int .u8 44] W fun e w' => e = .returned (.bool false) ∧ w' = W) := hH2
        clear hN1 hH1 hH2 hH3 hlt hN2 hL2 hH4 hM
        go_enter Try.func102, Try.ntmps102
        go_wp2_with fail
        refine wp_scope_once 0 rfl ?_
        go_wp2_with fail
        refine (N1.out _ (bel1 _ _)).mono ?_
        rintro e w1 ⟨rfl, rfl⟩
        go_wp2_with fail
        refine (H1.out _ (bel1 _ _)).mono ?_
        rintro e w1 ⟨rfl, rfl⟩
        go_wp2_with fail
        refine (H2.out _ (bel1 _ _)).mono ?_
        rintro e w1 ⟨rfl, rfl⟩
        go_wp2_with fail
        go_step3
        refine And.intro rfl ?_
        go_wp2
        rw [Exit.noGoto_ret]
        exact bodyPost_ret (v := .tuple #[.int .i64 0, .int .i64 0, markV fr 43]) (by simp [results, Try.results102, go_sem, markV]) rfl ⟨rfl, bel1 _ _⟩
      | true =>
        rw [if_neg (by decide)]
        have hkn := hlt rfl
        obtain ⟨hy1, hy2, hy3⟩ := hL2 hkn
        cases q3 with
        | true =>
          rw [if_pos rfl]
          have N1 : Hid (∀ W, Below w.heap.size w W → Calls Try.prog 122 #[.slice ao n cap, .int .i64 ((fr : Int) + 1)] W fun e w' => e = .returned (.tuple #[.int .i64 (v : Nat), .int .i64 (k : Nat), .bool true]) ∧ w' = W) := hN1
          have H1 : Hid (∀ W, Below w.heap.size w W → Calls Try.prog 99 #[.slice ao n cap, .int .i64 (k : Nat), .int .u8 125] W fun e w' => e = .returned (.bool false) ∧ w' = W) := hH1
          have H2 : Hid (∀ W, Below w.heap.size w W → Calls Try.prog 99 #[.slice ao n cap, .int .i64 (k : Nat), .int .u8 44] W fun e w' => e = .returned (.bool true) ∧ w' = W) := hH2
          have H3 : Hid (∀ W, Below w.heap.size w W → Calls Try.prog 99 #[.slice ao n cap, .int .i64 ((k : Int) + 1), .int .u8 125] W fun e w' => e = .returned (.bool true) ∧ w' = W) := hH3
          clear hN1 hH1 hH2 hH3 hlt hN2 hL2 hH4 hM
          go_enter Try.func102, Try.ntmps102
          go_wp2_with fail
          refine wp_scope_once 1 rfl ?_
          go_wp2_with fail
          refine (N1.out _ (bel1 _ _)).mono ?_
          rintro e w1 ⟨rfl, rfl⟩
          go_wp2_with fail
          refine (H1.out _ (bel1 _ _)).mono ?_
          rintro e w1 ⟨rfl, rfl⟩
          go_wp2_with fail
          refine (H2.out _ (bel1 _ _)).mono ?_
          rintro e w1 ⟨rfl, rfl⟩
          go_wp2_with fail
          refine (H3.out _ (bel1 _ _)).mono ?_
          rintro e w1 ⟨rfl, rfl⟩
          go_wp2_with fail
          go_step3
          refine And.intro rfl ?_
          go_wp2
          rw [Exit.noGoto_ret]
          exact bodyPost_ret (v := .tuple #[.int .i64 (v : Nat), .int .i64 (-1), markV (k + 2) 0]) (by simp [results, Try.results102, go_sem, markV]; omega) rfl ⟨rfl, bel1 _ _⟩
        | false =>
          rw [if_neg (by decide)]
          cases o2 with
          | false =>
            rw [if_pos rfl]
            have N1 : Hid (∀ W, Below w.heap.size w W → Calls Try.prog 122 #[.slice ao n cap, .int .i64 ((fr : Int) + 1)] W fun e w' => e = .returned (.tuple #[.int .i64 (v : Nat), .int .i64 (k : Nat), .bool true]) ∧ w' = W) := hN1
            have H1 : Hid (∀ W, Below w.heap.size w W → Calls Try.prog 99 #[.slice ao n cap, .int .i64 (k : Nat), .int .u8 125] W fun e w' => e = .returned (.bool false) ∧ w' = W) := hH1
            have H2 : Hid (∀ W, Below w.heap.size w W → Calls Try.prog 99 #[.slice ao n cap, .int .i64 (k : Nat), .int .u8 44] W fun e w' => e = .returned (.bool true) ∧ w' = W) := hH2
            have H3 : Hid (∀ W, Below w.heap.size w W → Calls Try.prog 99 #[.slice ao n cap, .int .i64 ((k : Int) + 1), .int .u8 125] W fun e w' => e = .returned (.bool false) ∧ w' = W) := hH3
            have N2 : Hid (∀ W, Below w.heap.size w W → Calls Try.prog 122 #[.slice ao n cap, .int .i64 ((k : Int) + 1)] W fun e w' => e = .returned (.tuple #[.int .i64 (x : Nat), .int .i64 (y : Nat), .bool false]) ∧ w' = W) := hN2 hkn
            clear hN1 hH1 hH2 hH3 hlt hN2 hL2 hH4 hM
            go_enter Try.func102, Try.ntmps102
            go_wp2_with fail
            refine wp_scope_once 0 rfl ?_
            go_wp2_with fail
            refine (N1.out _ (bel1 _ _)).mono ?_
            rintro e w1 ⟨rfl, rfl⟩
            go_wp2_with fail
            refine (H1.out _ (bel1 _ _)).mono ?_
            rintro e w1 ⟨rfl, rfl⟩
            go_wp2_with fail
            refine (H2.out _ (bel1 _ _)).mono ?_
            rintro e w1 ⟨rfl, rfl⟩
            go_wp2_with fail
            refine (H3.out _ (bel1 _ _)).mono ?_
            rintro e w1 ⟨rfl, rfl⟩
            go_wp2_with fail
            refine (N2.out _ (bel1 _ _)).mono ?_
            rintro e w1 ⟨rfl, rfl⟩
            go_wp2_with fail
            go_step3
            refine And.intro rfl ?_
            go_wp2
            rw [Exit.noGoto_ret]
            exact bodyPost_ret (v := .tuple #[.int .i64 0, .int .i64 0, markV fr 43]) (by simp [results, Try.results102, go_sem, markV]) rfl ⟨rfl, bel1 _ _⟩
          | true =>
            rw [if_neg (by decide)]
            cases q5 with
            | false =>
              rw [if_pos rfl]
              have N1 : Hid (∀ W, Below w.heap.size w W → Calls Try.prog 122 #[.slice ao n cap, .int .i64 ((fr : Int) + 1)] W fun e w' => e = .returned (.tuple #[.int .i64 (v : Nat), .int .i64 (k : Nat), .bool true]) ∧ w' = W) := hN1
              have H1 : Hid (∀ W, Below w.heap.size w W → Calls Try.prog 99 #[.slice ao n cap, .int .i64 (k : Nat), .int .u8 125] W fun e w' => e = .returned (.bool false) ∧ w' = W) := hH1
              have H2 : Hid (∀ W, Below w.heap.size w W → Calls Try.prog 99 #[.slice ao n cap, .int .i64 (k : Nat), .int .u8 44] W fun e w' => e = .returned (.bool true) ∧ w' = W) := hH2
              have H3 : Hid (∀ W, Below w.heap.size w W → Calls Try.prog 99 #[.slice ao n cap, .int .i64 ((k : Int) + 1), .int .u8 125] W fun e w' => e = .returned (.bool false) ∧ w' = W) := hH3
              have N2 : Hid (∀ W, Below w.heap.size w W → Calls Try.prog 122 #[.slice ao n cap, .int .i64 ((k : Int) + 1)] W fun e w' => e = .returned (.tuple #[.int .i64 (x : Nat), .int .i64 (y : Nat), .bool true]) ∧ w' = W) := hN2 hkn
              have M : Hid (∀ W, Calls Try.prog 64 #[.int .i64 (v : Nat), .int .i64 (x : Nat)] W fun e w' => e = .returned (.bool false) ∧ w' = W) := hM
              clear hN1 hH1 hH2 hH3 hlt hN2 hL2 hH4 hM
              go_enter Try.func102, Try.ntmps102
              go_wp2_with fail
              refine wp_scope_once 0 rfl ?_
              go_wp2_with fail
              refine (N1.out _ (bel1 _ _)).mono ?_
              rintro e w1 ⟨rfl, rfl⟩
              go_wp2_with fail
              refine (H1.out _ (bel1 _ _)).mono ?_
              rintro e w1 ⟨rfl, rfl⟩
              go_wp2_with fail
              refine (H2.out _ (bel1 _ _)).mono ?_
              rintro e w1 ⟨rfl, rfl⟩
              go_wp2_with fail
              refine (H3.out _ (bel1 _ _)).mono ?_
              rintro e w1 ⟨rfl, rfl⟩
              go_wp2_with fail
              refine (N2.out _ (bel1 _ _)).mono ?_
              rintro e w1 ⟨rfl, rfl⟩
              go_wp2_with fail
              refine (M.out _).mono ?_
              rintro e w1 ⟨rfl, rfl⟩
              go_wp2_with fail
              go_step3
              refine And.intro rfl ?_
              go_wp2
              rw [Exit.noGoto_ret]
              exact bodyPost_ret (v := .tuple #[.int .i64 0, .int .i64 0, markV fr 43]) (by simp [results, Try.results102, go_sem, markV]) rfl ⟨rfl, bel1 _ _⟩
            | true =>
              rw [if_neg (by decide)]
              cases q4 with
              | false =>
                rw [if_pos rfl]
                have N1 : Hid (∀ W, Below w.heap.size w W → Calls Try.prog 122 #[.slice ao n cap, .int .i64 ((fr : Int) + 1)] W fun e w' => e = .returned (.tuple #[.int .i64 (v : Nat), .int .i64 (k : Nat), .bool true]) ∧ w' = W) := hN1
                have H1 : Hid (∀ W, Below w.heap.size w W → Calls Try.prog 99 #[.slice ao n cap, .int .i64 (k : Nat), .int .u8 125] W fun e w' => e = .returned (.bool false) ∧ w' = W) := hH1
                have H2 : Hid (∀ W, Below w.heap.size w W → Calls Try.prog 99 #[.slice ao n cap, .int .i64 (k : Nat), .int .u8 44] W fun e w' => e = .returned (.bool true) ∧ w' = W) := hH2
                have H3 : Hid (∀ W, Below w.heap.size w W → Calls Try.prog 99 #[.slice ao n cap, .int .i64 ((k : Int) + 1), .int .u8 125] W fun e w' => e = .returned (.bool false) ∧ w' = W) := hH3
                have N2 : Hid (∀ W, Below w.heap.size w W → Calls Try.prog 122 #[.slice ao n cap, .int .i64 ((k : Int) + 1)] W fun e w' => e = .returned (.tuple #[.int .i64 (x : Nat), .int .i64 (y : Nat), .bool true]) ∧ w' = W) := hN2 hkn
                have M : Hid (∀ W, Calls Try.prog 64 #[.int .i64 (v : Nat), .int .i64 (x : Nat)] W fun e w' => e = .returned (.bool true) ∧ w' = W) := hM
                have H4 : Hid (∀ W, Below w.heap.size w W → Calls Try.prog 99 #[.slice ao n cap, .int .i64 (y : Nat), .int .u8 125] W fun e w' => e = .returned (.bool false) ∧ w' = W) := hH4
                clear hN1 hH1 hH2 hH3 hlt hN2 hL2 hH4 hM
                go_enter Try.func102, Try.ntmps102
                go_wp2_with fail
                refine wp_scope_once 0 rfl ?_
                go_wp2_with fail
                refine (N1.out _ (bel1 _ _)).mono ?_
                rintro e w1 ⟨rfl, rfl⟩
                go_wp2_with fail
                refine (H1.out _ (bel1 _ _)).mono ?_
                rintro e w1 ⟨rfl, rfl⟩
                go_wp2_with fail
                refine (H2.out _ (bel1 _ _)).mono ?_
                rintro e w1 ⟨rfl, rfl⟩
                go_wp2_with fail
                refine (H3.out _ (bel1 _ _)).mono ?_
                rintro e w1 ⟨rfl, rfl⟩
                go_wp2_with fail
                refine (N2.out _ (bel1 _ _)).mono ?_
                rintro e w1 ⟨rfl, rfl⟩
                go_wp2_with fail
                refine (M.out _).mono ?_
                rintro e w1 ⟨rfl, rfl⟩
                go_wp2_with fail
                refine (H4.out _ (bel1 _ _)).mono ?_
                rintro e w1 ⟨rfl, rfl⟩
                go_wp2_with fail
                go_step3
                refine And.intro rfl ?_
                go_wp2
                rw [Exit.noGoto_ret]
                exact bodyPost_ret (v := .tuple #[.int .i64 0, .int .i64 0, markV fr 43]) (by simp [results, Try.results102, go_sem, markV]) rfl ⟨rfl, bel1 _ _⟩
              | true =>
                rw [if_neg (by decide)]
                have N1 : Hid (∀ W, Below w.heap.size w W → Calls Try.prog 122 #[.slice ao n cap, .int .i64 ((fr : Int) + 1)] W fun e w' => e = .returned (.tuple #[.int .i64 (v : Nat), .int .i64 (k : Nat), .bool true]) ∧ w' = W) := hN1
                have H1 : Hid (∀ W, Below w.heap.size w W → Calls Try.prog 99 #[.slice ao n cap, .int .i64 (k : Nat), .int .u8 125] W fun e w' => e = .returned (.bool false) ∧ w' = W) := hH1
                have H2 : Hid (∀ W, Below w.heap.size w W → Calls Try.prog 99 #[.slice ao n cap, .int .i64 (k : Nat), .int .u8 44] W fun e w' => e = .returned (.bool true) ∧ w' = W) := hH2
                have H3 : Hid (∀ W, Below w.heap.size w W → Calls Try.prog 99 #[.slice ao n cap, .int .i64 ((k : Int) + 1), .int .u8 125] W fun e w' => e = .returned (.bool false) ∧ w' = W) := hH3
                have N2 : Hid (∀ W, Below w.heap.size w W → Calls Try.prog 122 #[.slice ao n cap, .int .i64 ((k : Int) + 1)] W fun e w' => e = .returned (.tuple #[.int .i64 (x : Nat), .int .i64 (y : Nat), .bool true]) ∧ w' = W) := hN2 hkn
                have M : Hid (∀ W, Calls Try.prog 64 #[.int .i64 (v : Nat), .int .i64 (x : Nat)] W fun e w' => e = .returned (.bool true) ∧ w' = W) := hM
                have H4 : Hid (∀ W, Below w.heap.size w W → Calls Try.prog 99 #[.slice ao n cap, .int .i64 (y : Nat), .int .u8 125] W fun e w' => e = .returned (.bool true) ∧ w' = W) := hH4
                clear hN1 hH1 hH2 hH3 hlt hN2 hL2 hH4 hM
                go_enter Try.func102, Try.ntmps102
                go_wp2_with fail
                refine wp_scope_once 0 rfl ?_
                go_wp2_with fail
                refine (N1.out _ (bel1 _ _)).mono ?_
                rintro e w1 ⟨rfl, rfl⟩
                go_wp2_with fail
                refine (H1.out _ (bel1 _ _)).mono ?_
                rintro e w1 ⟨rfl, rfl⟩
                go_wp2_with fail
                refine (H2.out _ (bel1 _ _)).mono ?_
                rintro e w1 ⟨rfl, rfl⟩
                go_wp2_with fail
                refine (H3.out _ (bel1 _ _)).mono ?_
                rintro e w1 ⟨rfl, rfl⟩
                go_wp2_with fail
                refine (N2.out _ (bel1 _ _)).mono ?_
                rintro e w1 ⟨rfl, rfl⟩
                go_wp2_with fail
                refine (M.out _).mono ?_
                rintro e w1 ⟨rfl, rfl⟩
                go_wp2_with fail
                refine (H4.out _ (bel1 _ _)).mono ?_
                rintro e w1 ⟨rfl, rfl⟩
                go_wp2_with fail
                go_step3
                go_wp2
                exact bodyPost_ret (v := .tuple #[.int .i64 (v : Nat), .int .i64 (x : Nat), markV (y + 1) 0]) (by simp [results, Try.results102, go_sem, markV]) rfl ⟨rfl, bel1 _ _⟩
end Go.Proofs.Ytlmmiicibjfcdaa
