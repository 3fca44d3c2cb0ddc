/- The reference's reader: Num, Str: the walks. -/
import Derived.Test.YtnjnaihogbnmaaaFd
namespace Go.Proofs.Ytnjnaihogbnmaaa
open Go.RowKit
def RetFN (w : World) (b s most n : Nat) (f : Nat → Nat) (e : Int) (en : Ending) (w' : World) : Prop :=
  ∃ x n' f' e', en = .returned (.int .u64 (x : Nat)) ∧ NumStep s most n f e x n' f' e' ∧ RetF w b n' f' e' w'
set_option maxHeartbeats 1600000 in
/-- Num of the reference's reader. -/
theorem fnum_r {w : World} {b : Nat} {ao : Option Addr} {n cap : Nat} {f : Nat → Nat} {e : Int} (h : FRdr w b ao n cap f e) (z : Int) (most : Nat) (h1 : -9223372036854775808 ≤ z) (h2 : z ≤ 9223372036854775807) :
    Calls Try.prog 43 #[.pointer (some ⟨b, 0, none⟩), .int .i64 z, .int .u64 (most : Nat)] w (RetFN w b (szB z) most n f e) := by
  obtain ⟨c0, c1, f0, f1⟩ := h.cells
  have hs := szB_le z
  have hsz := sized_any z w h1 h2
  clear h1 h2
  by_cases he : e = 0
  · subst he
    by_cases hn : n < szB z
    · generalize szB z = s at *
      have hni : (n : Int) < (s : Int) := by omega
      have HN : Hid (n < s) := hn
      go_enter Try.func43, Try.ntmps43
      go_wp2_with (first
        | (go_at_call 41; refine hsz.mono ?_; rintro en w' ⟨rfl, rfl⟩)
        | (go_at_call 46; refine (ffail_any h 30).mono ?_; rintro en w1 ⟨rfl, hret⟩))
      go_ret
      exact ⟨0, 0, f, 30, rfl, .inr (.inl ⟨rfl, HN.out, rfl, rfl, rfl⟩), by simpa [failN, failE] using hret⟩
    · obtain ⟨bb, off, rfl, hbb⟩ := h.rd.at_ (by omega)
      clear hbb
      have hroom := h.room
      have hnum := fnumber_any _ (szB z) cap f w (h.rd.cut (szB z) (by omega)) hs.2
      have hlow := slice_low (some ⟨bb, off, none⟩) n cap (szB z) (by omega)
      have hhigh := slice_high (some ⟨bb, off, none⟩) n cap (szB z) (by omega)
      have hR := h.set0 (h.rd.after hroom (szB z) (by omega)) (show n - szB z ≤ cap - szB z by omega) (fun h => by split at h <;> simp at h) (fun h => absurd rfl h)
      generalize szB z = s at *
      have hni : ¬ (n : Int) < (s : Int) := by omega
      have HN : Hid (s ≤ n) := by unfold Hid; omega
      have hB : But (some ⟨b, 0, none⟩) w (w.setCell ⟨b, 0, none⟩ (.slice (if cap = s then some ⟨bb, off, none⟩ else (some ⟨bb, off, none⟩ : Option Addr).map (·.add s)) (n - s) (cap - s))) := (But.refl _ _).setCell (p := ⟨b, 0, none⟩) (.inl ⟨_, rfl, rfl⟩) _
      have hlt := h.lt
      generalize (if cap = s then some (⟨bb, off, none⟩ : Addr) else (some ⟨bb, off, none⟩ : Option Addr).map (·.add s)) = ao3 at *
      by_cases hg : most < numB f s
      · have HG : Hid (most < numB f s) := hg
        have hgi : (most : Int) < ((numB f s : Nat) : Int) := by omega
        clear hg
        generalize hX : numB f s = X at *
        have HX : Hid (numB f s = X) := hX
        clear hX hR hB
        go_enter Try.func43, Try.ntmps43
        go_wp2_with (first
          | (go_at_call 41; refine hsz.mono ?_; rintro en w' ⟨rfl, rfl⟩)
          | (go_at_call 39; refine hnum.mono ?_; rintro en w' ⟨rfl, rfl⟩)
          | (go_at_call 46; refine (ffail_any h 31).mono ?_; rintro en w1 ⟨rfl, hret⟩))
        go_ret
        exact ⟨0, 0, f, 31, rfl, .inr (.inr (.inl ⟨rfl, HN.out, by rw [HX.out]; exact HG.out, rfl, rfl, rfl⟩)), by simpa [failN, failE] using hret⟩
      · have HG : Hid (numB f s ≤ most) := by unfold Hid; omega
        have hgi : ¬ (most : Int) < ((numB f s : Nat) : Int) := by omega
        clear hg
        generalize hX : numB f s = X at *
        have HX : Hid (numB f s = X) := hX
        clear hX
        go_enter Try.func43, Try.ntmps43
        go_wp2_with (first
          | (go_at_call 41; refine hsz.mono ?_; rintro en w' ⟨rfl, rfl⟩)
          | (go_at_call 39; refine hnum.mono ?_; rintro en w' ⟨rfl, rfl⟩))
        go_ret
        exact ⟨X, n - s, _, 0, rfl, .inr (.inr (.inr ⟨rfl, HN.out, by rw [HX.out]; exact HG.out, HX.out.symm, rfl, rfl, rfl⟩)), ⟨_, _, hR⟩, hB⟩
  · have hd : (e != 0) = true := by rw [bne_iff_ne]; exact he
    generalize szB z = s at *
    go_enter Try.func43, Try.ntmps43
    go_wp2_with (go_at_call 41; refine hsz.mono ?_; rintro en w' ⟨rfl, rfl⟩)
    go_ret
    exact ⟨0, n, f, e, rfl, .inl ⟨he, rfl, rfl, rfl, rfl⟩, ⟨_, _, h⟩, But.refl _ _⟩
theorem fstr_min (most : Int) (w : World) : (Builtin.min_ #[3, 3] 3 #[.int .i64 most, .int .i64 16777216]).run Try.prog w = .ok (.int .i64 (if 16777216 < most then 16777216 else most)) w := by
  rw [run_min_int2]
theorem fstr_max (most : Int) (w : World) : (Builtin.max_ #[3, 3] 3 #[.int .i64 0, .int .i64 (if 16777216 < most then 16777216 else most)]).run Try.prog w = .ok (.int .i64 (strM most : Nat)) w := by
  rw [run_max_int2]
  congr 2
  unfold strM
  split <;> split <;> omega
def RetStrF (w : World) (b M n : Nat) (f : Nat → Nat) (e : Int) (en : Ending) (w' : World) : Prop :=
  ∃ ao k cap g n' f' e', en = .returned (.slice ao k cap) ∧ StrStep M n f e k g n' f' e' ∧ Rd w' ao k g ∧ RetF w b n' f' e' w'
set_option maxHeartbeats 1600000 in
/-- Str of the reference's reader. -/
theorem fstr_r {w : World} {b : Nat} {ao : Option Addr} {n cap : Nat} {f : Nat → Nat} {e : Int} (h : FRdr w b ao n cap f e) (most : Int) (hn : n ≤ 140737488355328) :
    Calls Try.prog 44 #[.pointer (some ⟨b, 0, none⟩), .int .i64 most] w (RetStrF w b (strM most) n f e) := by
  have hmin := fstr_min most
  have hmax := fstr_max most
  have hM := strM_le most
  have hMi : ((strM most : Nat) : Int) ≤ 16777216 := by omega
  have hnum := fnum_r h 4 (strM most) (by decide) (by decide)
  rw [show szB 4 = 4 from rfl] at hnum
  generalize (if 16777216 < most then 16777216 else most) = T at *
  generalize strM most = M at *
  go_enter Try.func44, Try.ntmps44
  go_wp2_with fail
  refine hnum.mono ?_
  rintro en w1 ⟨x, n1, f1, e1, rfl, hst, ⟨ao1, cap1, hR1⟩, hB1⟩
  have hx : (x : Int) ≤ 16777216 := by
    rcases hst with ⟨_, rfl, _⟩ | ⟨_, _, rfl, _⟩ | ⟨_, _, _, rfl, _⟩ | ⟨_, _, hx, rfl, _⟩ <;> omega
  have HST : Hid (NumStep 4 M n f e x n1 f1 e1) := hst
  clear hst hnum hmin hmax
  obtain ⟨c0, c1, q0, q1⟩ := hR1.cells
  by_cases he1 : e1 = 0
  · subst he1
    obtain ⟨a1, a2, a3, a4, a5, a6⟩ : e = 0 ∧ 4 ≤ n ∧ numB f 4 ≤ M ∧ x = numB f 4 ∧ n1 = n - 4 ∧ f1 = (fun i => f (4 + i)) := by
      rcases HST.out with ⟨a1, _, _, _, a4⟩ | ⟨_, _, _, _, a4⟩ | ⟨_, _, _, _, _, a5⟩ | ⟨a1, a2, a3, a4, a5, a6, _⟩
      · exact absurd a4.symm a1
      · simp at a4
      · simp at a5
      · exact ⟨a1, a2, a3, a4, a5, a6⟩
    have HS : Hid (e = 0 ∧ 4 ≤ n ∧ numB f 4 ≤ M ∧ x = numB f 4 ∧ n1 = n - 4 ∧ f1 = (fun i => f (4 + i))) := ⟨a1, a2, a3, a4, a5, a6⟩
    have hn1 : n1 ≤ 140737488355328 := by omega
    clear a1 a2 a3 a4 a5 a6 HST hn
    by_cases hlt : n1 < x
    · have hlti : (n1 : Int) < (x : Int) := by omega
      go_wp2_with fail
      refine (ffail_any hR1 30).mono ?_
      rintro en w2 ⟨rfl, hret⟩
      have hret' : RetF w1 b 0 f1 30 w2 := by simpa [failN, failE] using hret
      obtain ⟨⟨ao2, cap2, hR2⟩, hB2⟩ := hret'
      clear hret c0 c1 q0 q1
      obtain ⟨c0, c1, q0, q1⟩ := hR2.cells
      go_wp2
      go_ret
      obtain ⟨a1, a2, a3, a4, a5, a6⟩ := HS.out
      exact ⟨none, 0, 0, fun _ => 0, 0, f1, 30, rfl, .inr (.inr (.inr (.inl ⟨a1, a2, a3, by omega, rfl, rfl, rfl⟩))), rd_none _ _ _, ⟨_, _, hR2⟩, hB1.trans hB2⟩
    · have hlti : ¬ (n1 : Int) < (x : Int) := by omega
      have hroom := hR1.room
      have hlow := slice_low ao1 n1 cap1 x (by omega)
      obtain ⟨ao3, hhigh, hA, hnil3⟩ : ∃ ao3, (∀ w, (Instr.slice 22 (.slice ao1 n1 cap1) (some (.int .i64 (x : Nat))) none none).run Try.prog w = .ok (.slice ao3 (n1 - x) (cap1 - x)) w) ∧ (∀ W, Rd W ao1 n1 f1 → Rd W ao3 (n1 - x) (fun i => f1 (x + i))) ∧ (ao3 = none → n1 - x = 0 ∧ cap1 - x = 0) :=
        ⟨_, slice_high ao1 n1 cap1 x (by omega), fun W h => h.after hroom x (by omega), fun en => by
          cases ao1 with
          | none => have := hR1.nil rfl; omega
          | some a => split at en <;> simp at en⟩
      have HA : Hid (∀ W, Rd W ao1 n1 f1 → Rd W ao3 (n1 - x) (fun i => f1 (x + i))) := hA
      have HN3 : Hid (ao3 = none → n1 - x = 0 ∧ cap1 - x = 0) := hnil3
      clear hA hnil3
      have hx1 : x ≤ 140737488355328 := by omega
      have hshort := hR1.rd.short x (by omega)
      have hnil1 : (ao1 = none ∧ x = 0 ∧ cap1 = 0) ∨ ∃ a, ao1 = some a := by
        cases ao1 with
        | none => have := hR1.nil rfl; exact .inl ⟨rfl, by omega, this.2⟩
        | some a => exact .inr ⟨a, rfl⟩
      go_wp2_with (refine append_first rfl (.tmp 35) (.tmp 41) rfl (ao := ao1) (n := x) (cap := cap1) (f := f1) rfl rfl hshort hx1 hnil1 ?_; intro ao2 cap2 w2 hown hb2; clear c0 c1 q0 q1; obtain ⟨c0, c1, q0, q1⟩ := (hR1.below hb2).cells; have hlt2 := (hR1.below hb2).lt)
      have hR2 := hR1.below hb2
      have hset := hR2.set0 (HA.out _ hR2.rd) (show n1 - x ≤ cap1 - x by omega) HN3.out (fun h => absurd rfl h)
      have hlt1 := hR1.lt
      go_ret
      obtain ⟨a1, a2, a3, a4, a5, a6⟩ := HS.out
      subst a4 a5 a6
      have hbs : But (some ⟨b, 0, none⟩) w2 (w2.setCell ⟨b, 0, none⟩ (.slice ao3 (n - 4 - numB f 4) (cap1 - numB f 4))) := (But.refl _ _).setCell (.inl ⟨_, rfl, rfl⟩) _
      refine ⟨ao2, _, cap2, _, _, _, 0, rfl, .inr (.inr (.inr (.inr ⟨a1, a2, a3, by omega, rfl, rfl, rfl, rfl, rfl⟩))), ?_, ⟨_, _, hset⟩, (hB1.after hb2).trans hbs⟩
      refine hown.rd.but hbs fun hl a c ea ec => ?_
      obtain rfl := Option.some.inj ec
      exact hR2.apart hown.rd hl a ea
  · have hd : (e1 == 0) = false := by simpa using he1
    have hd2 : (e1 != 0) = true := by rw [bne_iff_ne]; exact he1
    go_wp2
    go_ret
    refine ⟨none, 0, 0, fun _ => 0, n1, f1, e1, rfl, ?_, rd_none _ _ _, ⟨_, _, hR1⟩, hB1⟩
    rcases HST.out with ⟨a1, _, a2, a3, a4⟩ | ⟨a1, a2, _, a3, a4⟩ | ⟨a1, a2, a3, _, a4, a5⟩ | ⟨_, _, _, _, _, _, a⟩
    · exact .inl ⟨a1, rfl, a2, a3, a4⟩
    · exact .inr (.inl ⟨a1, a2, rfl, a3, a4⟩)
    · exact .inr (.inr (.inl ⟨a1, a2, a3, rfl, a4, a5⟩))
    · exact absurd a he1
end Go.Proofs.Ytnjnaihogbnmaaa
