/- Str; Str of a reader that no call made: the walks. -/
import Derived.Test.YtnjnaihogbnmaaaRc
import Derived.Laws.AppendOwnNone
namespace Go.Proofs.Ytnjnaihogbnmaaa
open Go.RowKit
set_option maxHeartbeats 800000 in
theorem str_un {w : World} {v : Value} (h : Un w v) (most : Int) :
    Calls Try.prog 32 #[v, .int .i64 most] w fun en w' => en = .returned (.slice none 0 0) ∧ w' = w := by
  have hmax := strM_max most
  have hmin := strM_min most
  have hM := strM_le most
  have hMi : ((strM most : Nat) : Int) ≤ 16777216 := by omega
  have hnum := num_un h 4 (strM most) (by decide) (by decide)
  generalize most.toNat = T at *
  generalize strM most = M at *
  go_enter Try.func32, Try.ntmps32
  go_wp2_with fail
  refine wp_scope_once 0 rfl ?_
  go_wp2_with (first
    | (go_at_call 31; refine hnum.mono ?_; rintro en w1 ⟨rfl, rfl⟩)
    | (go_at_call 26; refine (err_un h).mono ?_; rintro en w' ⟨rfl, rfl⟩))
  go_step3
  refine And.intro rfl ?_
  go_wp2_with (go_at_call 36; refine (fail_un h _).mono ?_; rintro en w' ⟨rfl, rfl⟩)
  rw [Exit.noGoto_ret]
  go_ret
  exact ⟨rfl, rfl⟩
/-- n bytes f, the number of the bytes g in four bytes, and they. -/
def strB (n lx : Nat) (f g : Nat → Nat) (i : Nat) : Nat := if i < n + 4 then putB n 4 f (fun _ => lx) i else g (i - (n + 4))
theorem row_app (n m : Nat) (f g : Nat → Nat) : row f n ++ row g m = row (fun i => if i < n then f i else g (i - n)) (n + m) := by
  apply List.ext_getElem?
  intro i
  by_cases h : i < n
  · rw [List.getElem?_append_left (by rw [row_length]; omega), row_get _ h, row_get _ (by omega)]
    simp [h]
  · rw [List.getElem?_append_right (by rw [row_length]; omega), row_length]
    by_cases h2 : i - n < m
    · rw [row_get _ h2, row_get _ (by omega)]
      simp [h]
    · rw [List.getElem?_eq_none (by rw [row_length]; omega), List.getElem?_eq_none (by rw [row_length]; omega)]
set_option maxHeartbeats 1600000 in
/-- Str. -/
theorem str_any (ao : Option Addr) (n cap : Nat) (f : Nat → Nat) (ax : Option Addr) (lx cx : Nat) (g : Nat → Nat) (w : World) (hr : Rd w ao n f) (hx : Rd w ax lx g) (hm : n + 4 + lx ≤ 140737488355328) (hn : (ax = none ∧ lx = 0 ∧ cx = 0) ∨ ∃ a, ax = some a) :
    Calls Try.prog 15 #[.slice ao n cap, .slice ax lx cx] w (RetB w (n + 4 + lx) (strB n lx f g)) := by
  obtain ⟨i0, hi, hz0, hz1, hz2⟩ := info_parts Try.info5
  have hS : lx < 18446744073709551616 := by omega
  have hnum := num_any ao n cap f 4 (some ⟨w.heap.size, 0, none⟩) 1 1 (fun _ => lx) _ (hr.below ((Below.refl _ w).alloc (Nat.le_refl _) (.cells #[.int .u64 (lx : Nat)] 37))) (rdu_one _ lx hS) (by decide) (by decide) (by rw [show szB 4 = 4 from rfl]; omega) (by decide)
  rw [show szB 4 = 4 from rfl, Nat.mul_one] at hnum
  go_enter Try.func15, Try.ntmps15
  go_wp2_with fail
  refine hnum.mono ?_
  rintro en w2 ⟨ao2, cap2, rfl, hown, hb⟩
  have hb2 : Below w.heap.size w w2 := ((Below.refl _ _).alloc (Nat.le_refl _) _).trans (hb.mono (by simp))
  have hown2 := hown.mono (B' := w.heap.size) (by simp)
  clear hown hb hnum
  have hpos := hown2.head (by omega)
  obtain ⟨gg, rfl, hg1, hg2, hg3⟩ := hpos
  have hsm : ∀ i, i < n + 4 + lx → strB n lx f g i < 256 := by
    intro i hi
    unfold strB; split
    · exact putB_lt hr.small i
    · exact hx.small _ (by omega)
  have hrow : row (putB n 4 f fun _ => lx) (n + 4) ++ row g lx = row (strB n lx f g) (n + 4 + lx) := row_app _ _ _ _
  rcases hn with ⟨rfl, rfl, rfl⟩ | ⟨a, rfl⟩
  · go_wp2_with (at_builtin; refine wpList_append_own_none rfl _ _ 22 rfl w.heap.size 5 i0 1 Try.underlying22 hi _ _ _ rfl hown2.own rfl ?_)
    go_ret
    exact ⟨_, _, rfl, hown2.congr fun i hi => by simp [strB, hi], hb2⟩
  · have hnews : ∀ j u, (row g lx)[j]? = some u → w2.cell? (a.add j) = some u := by
      intro j u hj
      obtain ⟨hjl, rfl⟩ := row_some hj
      obtain ⟨b, off, e, hb, hc⟩ := hx.at_ (by omega)
      obtain rfl := Option.some.inj e
      have hcj := hc j hjl
      rw [hb2.cell (by by_cases h0 : j = 0 <;> simpa [Addr.add, h0] using hb)]
      by_cases h0 : j = 0
      · subst h0; simpa [Addr.add] using hcj
      · simpa [Addr.add, h0] using hcj
    go_wp2_with (at_builtin; refine wpList_append_own _ rfl _ _ 22 rfl w.heap.size 5 i0 (.int .u8 0) 1 1 Try.underlying22 hi hz0 hz1 hz2 rfl (by decide) _ _ _ rfl hown2.own a lx cx (row g lx) rfl (by simp [row_length]) hnews (row_one g lx) (by unfold maxLen; omega) (by omega) (by omega) ?_)
    intro v' w3 hown3 hgr hnn
    have hb3 : Below w.heap.size w w3 := hb2.grown hgr (by have := hb2.size; omega) (by intro k hk; simp [Value.ownBlock] at hk; omega)
    obtain ⟨g3, cap3, rfl, ho3⟩ : ∃ g3 cap3, v' = .slice (some ⟨g3, 0, none⟩) (n + 4 + lx) cap3 ∧ Own w.heap.size w3 (some ⟨g3, 0, none⟩) (n + 4 + lx) cap3 (strB n lx f g) := by
      rcases hown3.2 with ⟨h', _⟩ | ⟨g3, cap3, cur, h', _⟩
      · exact (hnn h').elim
      · exact ⟨g3, cap3, h', hsm, by rw [← h']; exact hown3⟩
    clear hown3 hgr hnn hnews hown2 hrow
    go_wp2
    go_ret
    exact ⟨_, _, rfl, ho3, hb3⟩
end Go.Proofs.Ytnjnaihogbnmaaa
