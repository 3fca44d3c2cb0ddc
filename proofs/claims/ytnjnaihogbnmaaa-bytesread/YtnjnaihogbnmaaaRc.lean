/- Read, the reader's Str, Str: the walks. -/
import Derived.Test.YtnjnaihogbnmaaaRb
namespace Go.Proofs.Ytnjnaihogbnmaaa
open Go.RowKit
theorem slice_low (ao : Option Addr) (n cap x : Nat) (hx : x ≤ cap) (w : World) : (Instr.slice 22 (.slice ao n cap) none (some (.int .i64 (x : Nat))) none).run Try.prog w = .ok (.slice ao x cap) w := by
  have hxc : (x : Int) ≤ (cap : Int) := by omega
  by_cases h : cap = 0
  · subst h
    obtain rfl : x = 0 := by omega
    simp [go_sem, Try.underlying22]
  · simp [go_sem, Try.underlying22, hxc, h]
theorem slice_high (ao : Option Addr) (n cap x : Nat) (hx : x ≤ n) (w : World) : (Instr.slice 22 (.slice ao n cap) (some (.int .i64 (x : Nat))) none none).run Try.prog w = .ok (.slice (if cap = x then ao else ao.map (·.add x)) (n - x) (cap - x)) w := by
  have hxn : (x : Int) ≤ (n : Int) := by omega
  by_cases h : cap = x <;> simp [go_sem, Try.underlying22, hxn, h]
theorem Rd.after {w : World} {ao : Option Addr} {n cap : Nat} {f : Nat → Nat} (h : Rd w ao n f) (hc : n ≤ cap) (x : Nat) (hx : x ≤ n) : Rd w (if cap = x then ao else ao.map (·.add x)) (n - x) (fun i => f (x + i)) := by
  by_cases h0 : n - x = 0
  · rw [h0]; exact rd_none _ _ _
  · obtain ⟨b, off, rfl, _⟩ := h.at_ (by omega)
    rw [if_neg (by omega)]
    have := h.from x (n - x) (by omega)
    by_cases hx0 : x = 0
    · subst hx0; simpa [Addr.add] using this
    · simpa [Addr.add, hx0] using this
theorem Rd.short {w : World} {ao : Option Addr} {n : Nat} {f : Nat → Nat} (h : Rd w ao n f) (k : Nat) (hk : k ≤ n) : Rd w ao k f := by
  refine ⟨fun i hi => h.small i (by omega), fun hl => ?_⟩
  obtain ⟨b', off', e, hlt, hc⟩ := h.at_ (by omega)
  exact ⟨b', off', e, hlt, fun i hi => hc i (by omega)⟩
set_option maxHeartbeats 800000 in
/-- Read. -/
theorem read_any (ao : Option Addr) (n cap : Nat) (f : Nat → Nat) (w : World) (hr : Rd w ao n f) (hm : n ≤ 140737488355328) (hn : (ao = none ∧ n = 0 ∧ cap = 0) ∨ ∃ a, ao = some a) :
    Calls Try.prog 23 #[.slice ao n cap] w fun en w' => ∃ b ao' cap', en = .returned (.pointer (some ⟨b, 0, none⟩)) ∧ Rdr w' b ao' n cap' f 0 ∧ w.heap.size ≤ b ∧ Below w.heap.size w w' := by
  go_enter Try.func23, Try.ntmps23
  go_wp2_with (go_at_call 35; refine (clone_any ao n cap f _ hr hm hn).mono ?_; rintro en w' ⟨ao', cap', rfl, hown, hb⟩)
  go_ret
  have hr' := hown.rd
  have ha : Below w'.heap.size w' (w'.alloc (.cells #[.slice ao' n cap', .int .i64 0, .bool true] 63)) := (Below.refl _ _).alloc (Nat.le_refl _) _
  refine ⟨w'.heap.size, ao', cap', rfl, ⟨heap_alloc_new w' _, hr'.below ha, ?_, ?_⟩, hb.size, hb.trans (ha.mono hb.size)⟩
  · rcases hown.own.2 with ⟨h', h0⟩ | ⟨g, c, cur, h', _, _, hc, _⟩
    · omega
    · simp only [Value.slice.injEq] at h'
      obtain ⟨_, _, rfl⟩ := h'
      exact hc
  · intro e
    subst e
    rcases hown.own.2 with ⟨h', h0⟩ | ⟨g, c, cur, h', _⟩
    · simp only [Value.slice.injEq] at h'
      exact ⟨h0, h'.2.2⟩
    · simp at h'
/-- How many bytes a string has at most. -/
def strM (most : Int) : Nat := if 16777216 < most then 16777216 else most.toNat
theorem strM_le (most : Int) : strM most ≤ 16777216 := by unfold strM; split <;> omega
theorem strM_max (most : Int) (w : World) : (Builtin.max_ #[3, 3] 3 #[.int .i64 most, .int .i64 0]).run Try.prog w = .ok (.int .i64 (most.toNat : Nat)) w := by
  rw [run_max_int2]
  congr 2
  split <;> omega
theorem strM_min (most : Int) (w : World) : (Builtin.min_ #[3, 3] 3 #[.int .i64 (most.toNat : Nat), .int .i64 16777216]).run Try.prog w = .ok (.int .i64 (strM most : Nat)) w := by
  rw [run_min_int2]
  congr 2
  unfold strM
  split <;> split <;> omega
/-- What Str of a reader does: k bytes g, and what is left. -/
def StrStep (M n : Nat) (f : Nat → Nat) (e : Int) (k : Nat) (g : Nat → Nat) (n' : Nat) (f' : Nat → Nat) (e' : Int) : Prop :=
  (e ≠ 0 ∧ k = 0 ∧ n' = n ∧ f' = f ∧ e' = e) ∨ (e = 0 ∧ n < 4 ∧ k = 0 ∧ n' = 0 ∧ e' = 30) ∨ (e = 0 ∧ 4 ≤ n ∧ M < numB f 4 ∧ k = 0 ∧ n' = 0 ∧ e' = 31) ∨
  (e = 0 ∧ 4 ≤ n ∧ numB f 4 ≤ M ∧ n - 4 < numB f 4 ∧ k = 0 ∧ n' = 0 ∧ e' = 30) ∨
  (e = 0 ∧ 4 ≤ n ∧ numB f 4 ≤ M ∧ numB f 4 ≤ n - 4 ∧ k = numB f 4 ∧ g = (fun i => f (4 + i)) ∧ n' = n - 4 - numB f 4 ∧ f' = (fun i => f (4 + (numB f 4 + i))) ∧ e' = 0)
def RetStr (w : World) (b M n : Nat) (f : Nat → Nat) (e : Int) (en : Ending) (w' : World) : Prop :=
  ∃ ao k cap g n' f' e', en = .returned (.slice ao k cap) ∧ StrStep M n f e k g n' f' e' ∧ Own w.heap.size w' ao k cap g ∧ RetR w b n' f' e' w'
theorem own_nil (B : Nat) (w : World) (g : Nat → Nat) : Own B w none 0 0 g := ⟨fun i hi => by omega, by simp [row], .inl ⟨rfl, rfl⟩⟩
theorem Own.but {B : Nat} {w w' : World} {ao ax : Option Addr} {n cap : Nat} {f : Nat → Nat} (h : Own B w ao n cap f) (hb : But ax w w') (hne : ∀ a c, ao = some a → ax = some c → c.block ≠ a.block) : Own B w' ao n cap f := by
  refine ⟨h.small, h.own.1, ?_⟩
  rcases h.own.2 with h0 | ⟨g, c, cur, h', hbg, hg, hr⟩
  · exact .inl h0
  · refine .inr ⟨g, c, cur, h', hbg, ?_, hr⟩
    simp only [Value.slice.injEq] at h'
    rw [hb.block g (Array.getElem?_eq_some_iff.1 hg).1 (fun c ec => hne _ c h'.1 ec)]
    exact hg
theorem But.after {ao : Option Addr} {a b c : World} (h : But ao a b) (k : Below b.heap.size b c) : But ao a c := h.trans (But.of_below k)
set_option maxHeartbeats 1600000 in
/-- Str of a reader. -/
theorem str_r {w : World} {b : Nat} {ao : Option Addr} {n cap : Nat} {f : Nat → Nat} {e : Int} (h : Rdr w b ao n cap f e) (most : Int) (hn : n ≤ 140737488355328) :
    Calls Try.prog 32 #[.pointer (some ⟨b, 0, none⟩), .int .i64 most] w (RetStr w b (strM most) n f e) := by
  have hmax := strM_max most
  have hmin := strM_min most
  have hM := strM_le most
  have hMi : ((strM most : Nat) : Int) ≤ 16777216 := by omega
  have hnum := num_r h 4 (strM most) (by decide) (by decide)
  rw [show szB 4 = 4 from rfl] at hnum
  generalize most.toNat = T at *
  generalize strM most = M at *
  go_enter Try.func32, Try.ntmps32
  go_wp2_with fail
  refine wp_scope_once 0 rfl ?_
  go_wp2_with fail
  refine hnum.mono ?_
  rintro en w1 ⟨x, n1, f1, e1, rfl, hst, ⟨ao1, cap1, hR1⟩, hB1⟩
  have hx : (x : Int) ≤ 16777216 := by
    rcases hst with ⟨_, rfl, _⟩ | ⟨_, _, rfl, _⟩ | ⟨_, _, _, rfl, _⟩ | ⟨_, _, hx, rfl, _⟩ <;> omega
  have HST : Hid (NumStep 4 M n f e x n1 f1 e1) := hst
  clear hst
  go_wp2_with fail
  refine (err_any hR1).mono ?_
  rintro en w' ⟨rfl, rfl⟩
  by_cases he1 : e1 = 0
  · subst he1
    obtain ⟨a1, a2, a3, a4, a5, a6⟩ : e = 0 ∧ 4 ≤ n ∧ numB f 4 ≤ M ∧ x = numB f 4 ∧ n1 = n - 4 ∧ f1 = (fun i => f (4 + i)) := by
      rcases HST.out with ⟨a1, _, _, _, a4⟩ | ⟨_, _, _, _, a4⟩ | ⟨_, _, _, _, _, a5⟩ | ⟨a1, a2, a3, a4, a5, a6, _⟩
      · exact absurd a4.symm a1
      · simp at a4
      · simp at a5
      · exact ⟨a1, a2, a3, a4, a5, a6⟩
    have HS : Hid (e = 0 ∧ 4 ≤ n ∧ numB f 4 ≤ M ∧ x = numB f 4 ∧ n1 = n - 4 ∧ f1 = (fun i => f (4 + i))) := ⟨a1, a2, a3, a4, a5, a6⟩
    have hn1 : n1 ≤ 140737488355328 := by omega
    clear a1 a2 a3 a4 a5 a6 HST hn
    obtain ⟨c0, c1, c2, q0, q1, q2⟩ := hR1.cells
    by_cases hlt : n1 < x
    · have hlti : (n1 : Int) < (x : Int) := by omega
      go_wp2_with fail
      go_step3
      refine And.intro rfl ?_
      go_wp2_with (go_at_call 36; refine (fail_new hR1 30 (by decide)).mono ?_; rintro en w' ⟨rfl, hR2, hB2⟩)
      rw [Exit.noGoto_ret]
      go_ret
      obtain ⟨a1, a2, a3, a4, a5, a6⟩ := HS.out
      exact ⟨none, 0, 0, fun _ => 0, 0, f1, 30, rfl, .inr (.inr (.inr (.inl ⟨a1, a2, a3, by omega, rfl, rfl, rfl⟩))), own_nil _ _ _, ⟨_, _, hR2⟩, hB1.trans hB2⟩
    · have hlti : ¬ (n1 : Int) < (x : Int) := by omega
      have hroom := hR1.room
      have hlow := slice_low ao1 n1 cap1 x (by omega)
      have hhigh := slice_high ao1 n1 cap1 x (by omega)
      have hcl := clone_any ao1 x cap1 f1 w' (hR1.rd.short x (by omega)) (by omega) (by
        cases ao1 with
        | none => have := hR1.nil rfl; exact .inl ⟨rfl, by omega, this.2⟩
        | some a => exact .inr ⟨a, rfl⟩)
      go_wp2_with fail
      refine hcl.mono ?_
      rintro en w2 ⟨ao2, cap2, rfl, hown, hb2⟩
      have hR2 := hR1.below hb2
      have hlt2 := hR2.lt
      have hlt1 := hR1.lt
      obtain ⟨d0, d1, d2, p0, p1, p2⟩ := hR2.cells
      have hset := hR2.set0 (hR2.rd.after hroom x (by omega)) (show n1 - x ≤ cap1 - x by omega) (fun hp a ea => by
        have hpos : 0 < n1 := by omega
        obtain ⟨bb, off, e', _⟩ := hR2.rd.at_ hpos
        subst e'
        have := hR2.apart hpos _ rfl
        rw [if_neg (by omega)] at ea
        obtain rfl := Option.some.inj ea
        by_cases hx0 : x = 0 <;> simpa [Addr.add, hx0] using this) (fun en => by
        cases ao1 with
        | none => have := hR1.nil rfl; omega
        | some a => split at en <;> simp at en)
      generalize (if cap1 = x then ao1 else ao1.map (·.add x)) = ao3 at *
      clear c0 c1 c2 q0 q1 q2
      go_wp2
      go_ret
      obtain ⟨a1, a2, a3, a4, a5, a6⟩ := HS.out
      subst a4 a5 a6
      have hbs : But (some ⟨b, 0, none⟩) w2 (w2.setCell ⟨b, 0, none⟩ (.slice ao3 (n - 4 - numB f 4) (cap1 - numB f 4))) := (But.refl _ _).setCell (.inl ⟨_, rfl, rfl⟩) _
      refine ⟨ao2, _, cap2, _, _, _, 0, rfl, .inr (.inr (.inr (.inr ⟨a1, a2, a3, by omega, rfl, rfl, rfl, rfl, rfl⟩))), ?_, ⟨_, _, hset⟩, (hB1.after hb2).trans hbs⟩
      refine (hown.mono hB1.size).but hbs fun a c ea ec => ?_
      obtain rfl := Option.some.inj ec
      show b ≠ a.block
      rcases hown.own.2 with ⟨h', _⟩ | ⟨g, c, cur, h', hg, _⟩
      · simp [ea] at h'
      · simp only [Value.slice.injEq] at h'
        rw [ea] at h'
        obtain rfl := Option.some.inj h'.1
        show b ≠ g
        omega
  · have hd : (e1 != 0) = true := by rw [bne_iff_ne]; exact he1
    go_wp2_with fail
    go_step3
    refine And.intro rfl ?_
    go_wp2_with (go_at_call 36; refine (fail_same hR1 _ (.inr he1)).mono ?_; rintro en w' ⟨rfl, rfl⟩)
    rw [Exit.noGoto_ret]
    go_ret
    refine ⟨none, 0, 0, fun _ => 0, n1, f1, e1, rfl, ?_, own_nil _ _ _, ⟨_, _, hR1⟩, hB1⟩
    rcases HST.out with ⟨a1, _, a2, a3, a4⟩ | ⟨a1, a2, _, a3, a4⟩ | ⟨a1, a2, a3, _, a4, a5⟩ | ⟨_, _, _, _, _, _, a⟩
    · exact .inl ⟨a1, rfl, a2, a3, a4⟩
    · exact .inr (.inl ⟨a1, a2, rfl, a3, a4⟩)
    · exact .inr (.inr (.inl ⟨a1, a2, a3, rfl, a4, a5⟩))
    · exact absurd a he1
end Go.Proofs.Ytnjnaihogbnmaaa
