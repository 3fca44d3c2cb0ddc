/- slices.Clone of bytes; All; what is told; slices.Equal of windows: the walks. -/
import Derived.Test.YtgololmgdakigaaTa
import Derived.Laws.AppendOwn
import Derived.Lib.SliceRun
namespace Go.Proofs.Ytgololmgdakigaa
open Go.RowKit Go.Shelf
attribute [local go_sem] Oper.semAt_some
attribute [local go_sem] wide_fn
attribute [local go_sem] run_store_complex
def OwB (w : World) (lo : Nat) (ao : Option Addr) (n cap : Nat) (f : Nat → Nat) : Prop := w.ownsRow lo 5 1 (.slice ao n cap) n (bts f n)
def RetOb (w : World) (n : Nat) (z : Nat → Nat) (e : Ending) (w' : World) : Prop := ∃ ao cap, e = .returned (.slice ao n cap) ∧ OwB w' w.heap.size ao n cap z ∧ Below w.heap.size w w'
set_option maxHeartbeats 400000 in
theorem cloneb_nil (w : World) : Calls Try.prog 27 #[.slice none 0 0] w fun e w' => e = .returned (.slice none 0 0) ∧ w' = w := by
  have hnil := fun w => Lib.run_eql_slice_nil (P := Try.prog) w 22 5 none 0 0 0 0 Try.underlying22
  go_enter Try.func27, Try.ntmps27
  go_wp2
  go_ret
  exact ⟨rfl, rfl⟩
set_option maxHeartbeats 400000 in
theorem cloneb_some (a : Addr) (l c : Nat) (f : Nat → Nat) (w : World) (hr : Rd w (some a) l f) (hm : (l : Int) ≤ 1099511627776) : Calls Try.prog 27 #[.slice (some a) l c] w (RetOb w l f) := by
  have hnil := fun w => Lib.run_eql_slice_nil (P := Try.prog) w 22 5 (some a) l c 0 0 Try.underlying22
  obtain ⟨i0, hi, hz0, hz1, hz2⟩ := info_parts b_byte
  go_enter Try.func27, Try.ntmps27
  have hnews : ∀ j u, (bts f l)[j]? = some u → (w.alloc (.cells #[] 5)).cell? (a.add j) = some u := by
    intro j u hj
    obtain ⟨hjl, rfl⟩ := bts_some hj
    obtain ⟨b, off, e, hb, hc⟩ := hr.at_ (by omega)
    obtain rfl := Option.some.inj e
    have hcj := hc j hjl
    rw [((Below.refl _ w).alloc (Nat.le_refl _) _).cell (by by_cases h0 : j = 0 <;> simpa [Addr.add, h0] using hb)]
    by_cases h0 : j = 0
    · subst h0; simpa [Addr.add] using hcj
    · simpa [Addr.add, h0] using hcj
  go_wp2_with (at_builtin; refine wpList_append_own _ rfl _ _ 22 rfl w.heap.size 5 i0 (.int .u8 0) 1 1 Try.underlying22 hi hz0 hz1 hz2 rfl (by decide) _ _ _ rfl (World.ownsRow_made (e := 5) (size := 1) (base := w.heap.size) w #[] 0 (Nat.le_refl _) (Nat.zero_le _) rfl) a l c (bts f l) rfl (by simp [bts_length]) hnews (bts_one f l) (by unfold maxLen; omega) (by omega) (by simp) ?_)
  intro v' w2 hown hgr hnil'
  have hb2 : Below w.heap.size w w2 := ((Below.refl _ _).alloc (Nat.le_refl _) _).grown hgr (by simp) (by intro k hk; simp [Value.ownBlock] at hk; omega)
  obtain ⟨g, cap, rfl, hrd⟩ : ∃ g cap, v' = .slice (some ⟨g, 0, none⟩) l cap ∧ OwB w2 w.heap.size (some ⟨g, 0, none⟩) l cap f := by
    replace hown : w2.ownsRow w.heap.size 5 1 v' l (bts f l) := by simpa using hown
    rcases hown.2 with ⟨h', _⟩ | ⟨g, cap, cur, h', _⟩
    · exact (hnil' h').elim
    · exact ⟨g, cap, h', by unfold OwB; rw [← h']; exact hown⟩
  have HR : Hid (OwB w2 w.heap.size (some ⟨g, 0, none⟩) l cap f) := hrd
  clear hown hgr hnil' hnews hr hrd
  go_wp2
  go_ret
  exact ⟨_, cap, rfl, HR.out, hb2⟩
theorem cloneb_any (ao : Option Addr) (l c : Nat) (f : Nat → Nat) (w : World) (hr : Rd w ao l f) (hm : (l : Int) ≤ 1099511627776) (hn : (ao = none ∧ l = 0 ∧ c = 0) ∨ ∃ a, ao = some a) : Calls Try.prog 27 #[.slice ao l c] w (RetOb w l f) := by
  rcases hn with ⟨rfl, rfl, rfl⟩ | ⟨a, rfl⟩
  · exact (cloneb_nil w).mono fun e w' ⟨he, hw⟩ => ⟨none, 0, he, World.ownsRow_nil _ _ _ _, by rw [hw]; exact Below.refl _ _⟩
  · exact cloneb_some a l c f w hr hm
end Go.Proofs.Ytgololmgdakigaa
