/- The reader's Num: the walk. -/
import Derived.Test.YtnjnaihogbnmaaaRa
import Derived.ScopeJumps
import Derived.WalkMore
namespace Go.Proofs.Ytnjnaihogbnmaaa
open Go.RowKit
/-- A scope in which the run jumps at most once, ahead. -/
theorem wp_scope_once {P : Program} {c rest : Code} {Q : Exit → Act → World → Prop} {a : Act} {w : World} (l : Nat) (hf : findLabel c l = some rest)
    (h : c.wp P (Exit.jump l (fun a w => rest.wp P (Exit.noGoto Q) a w) Q) a w) : (Code.scope c).wp P Q a w := by
  refine wp_scope_jumps l (fun a w => rest.wp P (Exit.noGoto Q) a w) (fun _ _ => 0) hf h fun a w hJ => ?_
  refine Code.wp_mono ?_ hJ
  intro e a' w' hq
  cases e <;> first | exact hq | exact hq.elim
set_option maxHeartbeats 800000 in
theorem num_un {w : World} {v : Value} (h : Un w v) (z : Int) (most : Nat) (h1 : -9223372036854775808 ≤ z) (h2 : z ≤ 9223372036854775807) :
    Calls Try.prog 31 #[v, .int .i64 z, .int .u64 (most : Nat)] w fun en w' => en = .returned (.int .u64 0) ∧ w' = w := by
  have hs := szB_le z
  have hd : (0 : Int) < (szB z : Int) := by omega
  go_enter Try.func31, Try.ntmps31
  go_wp2_with fail
  refine wp_scope_once 0 rfl ?_
  go_wp2_with (first
    | (go_at_call 40; refine (sizeOf_any z _ h1 h2).mono ?_; rintro en w' ⟨rfl, rfl⟩)
    | (go_at_call 27; refine (left_un h).mono ?_; rintro en w' ⟨rfl, rfl⟩))
  go_step3
  refine And.intro rfl ?_
  go_wp2_with (go_at_call 36; refine (fail_un h _).mono ?_; rintro en w' ⟨rfl, rfl⟩)
  rw [Exit.noGoto_ret]
  go_ret
  exact ⟨rfl, rfl⟩
/-- What Num of a reader does: the number x, and what is left. -/
def NumStep (s most n : Nat) (f : Nat → Nat) (e : Int) (x n' : Nat) (f' : Nat → Nat) (e' : Int) : Prop :=
  (e ≠ 0 ∧ x = 0 ∧ n' = n ∧ f' = f ∧ e' = e) ∨ (e = 0 ∧ n < s ∧ x = 0 ∧ n' = 0 ∧ e' = 30) ∨ (e = 0 ∧ s ≤ n ∧ most < numB f s ∧ x = 0 ∧ n' = 0 ∧ e' = 31) ∨
  (e = 0 ∧ s ≤ n ∧ numB f s ≤ most ∧ x = numB f s ∧ n' = n - s ∧ f' = (fun i => f (s + i)) ∧ e' = 0)
/-- The reader in block b behind a call. -/
def RetR (w : World) (b n : Nat) (f : Nat → Nat) (e : Int) (w' : World) : Prop := (∃ ao cap, Rdr w' b ao n cap f e) ∧ But (some ⟨b, 0, none⟩) w w'
def RetN (w : World) (b s most n : Nat) (f : Nat → Nat) (e : Int) (en : Ending) (w' : World) : Prop :=
  ∃ x n' f' e', en = .returned (.int .u64 (x : Nat)) ∧ NumStep s most n f e x n' f' e' ∧ RetR w b n' f' e' w'
set_option maxHeartbeats 800000 in
theorem num_e {w : World} {b : Nat} {ao : Option Addr} {n cap : Nat} {f : Nat → Nat} {e : Int} (h : Rdr w b ao n cap f e) (he : e ≠ 0) (z : Int) (most : Nat) (h1 : -9223372036854775808 ≤ z) (h2 : z ≤ 9223372036854775807) :
    Calls Try.prog 31 #[.pointer (some ⟨b, 0, none⟩), .int .i64 z, .int .u64 (most : Nat)] w (RetN w b (szB z) most n f e) := by
  have hs := szB_le z
  have hd : (0 : Int) < (szB z : Int) := by omega
  have hl := left_any h
  rw [if_neg he] at hl
  go_enter Try.func31, Try.ntmps31
  go_wp2_with fail
  refine wp_scope_once 0 rfl ?_
  go_wp2_with (first
    | (go_at_call 40; refine (sizeOf_any z _ h1 h2).mono ?_; rintro en w' ⟨rfl, rfl⟩)
    | (go_at_call 27; refine hl.mono ?_; rintro en w' ⟨rfl, rfl⟩))
  go_step3
  refine And.intro rfl ?_
  go_wp2_with (go_at_call 36; refine (fail_same h _ (.inr he)).mono ?_; rintro en w' ⟨rfl, rfl⟩)
  rw [Exit.noGoto_ret]
  go_ret
  exact ⟨0, n, f, e, rfl, .inl ⟨he, rfl, rfl, rfl, rfl⟩, ⟨_, _, h⟩, But.refl _ _⟩
set_option maxHeartbeats 800000 in
theorem num_short {w : World} {b : Nat} {ao : Option Addr} {n cap : Nat} {f : Nat → Nat} (h : Rdr w b ao n cap f 0) (z : Int) (most : Nat) (h1 : -9223372036854775808 ≤ z) (h2 : z ≤ 9223372036854775807) (hn : n < szB z) :
    Calls Try.prog 31 #[.pointer (some ⟨b, 0, none⟩), .int .i64 z, .int .u64 (most : Nat)] w (RetN w b (szB z) most n f 0) := by
  have hd : (n : Int) < (szB z : Int) := by omega
  have hl := left_any h
  rw [if_pos rfl] at hl
  go_enter Try.func31, Try.ntmps31
  go_wp2_with fail
  refine wp_scope_once 0 rfl ?_
  go_wp2_with (first
    | (go_at_call 40; refine (sizeOf_any z _ h1 h2).mono ?_; rintro en w' ⟨rfl, rfl⟩)
    | (go_at_call 27; refine hl.mono ?_; rintro en w' ⟨rfl, rfl⟩))
  go_step3
  refine And.intro rfl ?_
  go_wp2_with (go_at_call 36; refine (fail_new h 30 (by decide)).mono ?_; rintro en w' ⟨rfl, hR, hB⟩)
  rw [Exit.noGoto_ret]
  go_ret
  exact ⟨0, 0, f, 30, rfl, .inr (.inl ⟨rfl, hn, rfl, rfl, rfl⟩), ⟨_, _, hR⟩, hB⟩
set_option maxHeartbeats 800000 in
theorem num_great {w : World} {b : Nat} {ao : Option Addr} {n cap : Nat} {f : Nat → Nat} (h : Rdr w b ao n cap f 0) (z : Int) (most : Nat) (h1 : -9223372036854775808 ≤ z) (h2 : z ≤ 9223372036854775807) (hn : szB z ≤ n) (hg : most < numB f (szB z)) :
    Calls Try.prog 31 #[.pointer (some ⟨b, 0, none⟩), .int .i64 z, .int .u64 (most : Nat)] w (RetN w b (szB z) most n f 0) := by
  have hs := szB_le z
  obtain ⟨bb, off, rfl, _⟩ := h.rd.at_ (by omega)
  obtain ⟨c0, c1, c2, f0, f1, f2⟩ := h.cells
  have hroom := h.room
  have hl := left_any h
  rw [if_pos rfl] at hl
  have hnum := number_any _ (szB z) cap f w (h.rd.cut (szB z) hn) hs.2
  have hsz := sizeOf_any z w h1 h2
  clear h1 h2
  generalize szB z = s at *
  have HG : Hid (most < numB f s) := hg
  have hgd : (most : Int) < ((numB f s : Nat) : Int) := by omega
  clear hg
  have hX : ∃ X, X = numB f s := ⟨_, rfl⟩
  obtain ⟨X, eX⟩ := hX
  rw [← eX] at hgd hnum
  have EX : Hid (X = numB f s) := eX
  clear eX
  have hd : ¬ (n : Int) < (s : Int) := by omega
  have hsc : (s : Int) ≤ (cap : Int) := by omega
  go_enter Try.func31, Try.ntmps31
  go_wp2_with fail
  refine wp_scope_once 0 rfl ?_
  go_wp2_with (first
    | (go_at_call 40; refine hsz.mono ?_; rintro en w' ⟨rfl, rfl⟩)
    | (go_at_call 27; refine hl.mono ?_; rintro en w' ⟨rfl, rfl⟩)
    | (go_at_call 38; refine hnum.mono ?_; rintro en w' ⟨rfl, rfl⟩))
  go_step3
  refine And.intro rfl ?_
  go_wp2_with (go_at_call 36; refine (fail_new h 31 (by decide)).mono ?_; rintro en w' ⟨rfl, hR, hB⟩)
  rw [Exit.noGoto_ret]
  go_ret
  exact ⟨0, 0, f, 31, rfl, .inr (.inr (.inl ⟨rfl, hn, HG.out, rfl, rfl, rfl⟩)), ⟨_, _, hR⟩, hB⟩
theorem slice_cut (b off n cap s : Nat) (hs : s ≤ n) (w : World) : (Instr.slice 22 (.slice (some ⟨b, off, none⟩) n cap) (some (.int .i64 (s : Nat))) none none).run Try.prog w = .ok (.slice (some (if cap = s then ⟨b, off, none⟩ else ⟨b, off + s, none⟩)) (n - s) (cap - s)) w := by
  have hsn : (s : Int) ≤ (n : Int) := by omega
  by_cases h : cap = s <;> simp [go_sem, Try.underlying22, hsn, h]
set_option maxHeartbeats 800000 in
theorem num_good {w : World} {b : Nat} {ao : Option Addr} {n cap : Nat} {f : Nat → Nat} (h : Rdr w b ao n cap f 0) (z : Int) (most : Nat) (h1 : -9223372036854775808 ≤ z) (h2 : z ≤ 9223372036854775807) (hn : szB z ≤ n) (hg : numB f (szB z) ≤ most) :
    Calls Try.prog 31 #[.pointer (some ⟨b, 0, none⟩), .int .i64 z, .int .u64 (most : Nat)] w (RetN w b (szB z) most n f 0) := by
  have hs := szB_le z
  obtain ⟨bb, off, rfl, hbb⟩ := h.rd.at_ (by omega)
  clear hbb
  obtain ⟨c0, c1, c2, f0, f1, f2⟩ := h.cells
  have hroom := h.room
  have hl := left_any h
  rw [if_pos rfl] at hl
  have hnum := number_any _ (szB z) cap f w (h.rd.cut (szB z) hn) hs.2
  have hsz := sizeOf_any z w h1 h2
  clear h1 h2
  generalize szB z = s at *
  have HG : Hid (numB f s ≤ most) := hg
  have hgd : ¬ (most : Int) < ((numB f s : Nat) : Int) := by omega
  clear hg
  have hX : ∃ X, X = numB f s := ⟨_, rfl⟩
  obtain ⟨X, eX⟩ := hX
  rw [← eX] at hgd hnum
  have EX : Hid (X = numB f s) := eX
  clear eX
  have hd : ¬ (n : Int) < (s : Int) := by omega
  have hsc : (s : Int) ≤ (cap : Int) := by omega
  have hlt := h.lt
  have hcut := slice_cut bb off n cap s hn
  have hap := h.apart (by omega) _ rfl
  have hrd : Rd w (some (if cap = s then ⟨bb, off, none⟩ else ⟨bb, off + s, none⟩)) (n - s) (fun i => f (s + i)) := by
    by_cases hcs : cap = s
    · have : n - s = 0 := by omega
      rw [this]; exact rd_none _ _ _
    · rw [if_neg hcs]; exact h.rd.from s (n - s) (by omega)
  have hR := h.set0 hrd (show n - s ≤ cap - s by omega) (fun _ a ea => by
    obtain rfl := Option.some.inj ea
    by_cases hcs : cap = s <;> simpa [hcs] using hap) (fun h => by simp at h)
  have hB : But (some ⟨b, 0, none⟩) w (w.setCell ⟨b, 0, none⟩ (.slice (some (if cap = s then ⟨bb, off, none⟩ else ⟨bb, off + s, none⟩)) (n - s) (cap - s))) := (But.refl _ _).setCell (.inl ⟨_, rfl, rfl⟩) _
  generalize (if cap = s then (⟨bb, off, none⟩ : Addr) else ⟨bb, off + s, none⟩) = A at *
  go_enter Try.func31, Try.ntmps31
  go_wp2_with fail
  refine wp_scope_once 0 rfl ?_
  go_wp2_with (first
    | (go_at_call 40; refine hsz.mono ?_; rintro en w' ⟨rfl, rfl⟩)
    | (go_at_call 27; refine hl.mono ?_; rintro en w' ⟨rfl, rfl⟩)
    | (go_at_call 38; refine hnum.mono ?_; rintro en w' ⟨rfl, rfl⟩))
  go_ret
  exact ⟨X, n - s, _, 0, rfl, .inr (.inr (.inr ⟨rfl, hn, HG.out, EX.out, rfl, rfl, rfl⟩)), ⟨_, _, hR⟩, hB⟩
/-- Num. -/
theorem num_r {w : World} {b : Nat} {ao : Option Addr} {n cap : Nat} {f : Nat → Nat} {e : Int} (h : Rdr w b ao n cap f e) (z : Int) (most : Nat) (h1 : -9223372036854775808 ≤ z) (h2 : z ≤ 9223372036854775807) :
    Calls Try.prog 31 #[.pointer (some ⟨b, 0, none⟩), .int .i64 z, .int .u64 (most : Nat)] w (RetN w b (szB z) most n f e) := by
  by_cases he : e = 0
  · subst he
    by_cases hn : n < szB z
    · exact num_short h z most h1 h2 hn
    · by_cases hg : most < numB f (szB z)
      · exact num_great h z most h1 h2 (by omega) hg
      · exact num_good h z most h1 h2 (by omega) (by omega)
  · exact num_e h he z most h1 h2
end Go.Proofs.Ytnjnaihogbnmaaa
