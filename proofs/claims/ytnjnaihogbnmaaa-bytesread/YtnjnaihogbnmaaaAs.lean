/- Both readers, side by side: what one call leaves of them. -/
import Derived.Test.YtnjnaihogbnmaaaFf
namespace Go.Proofs.Ytnjnaihogbnmaaa
open Go.RowKit
theorem Rdr.apart2 {w : World} {b : Nat} {ao : Option Addr} {n cap : Nat} {f : Nat → Nat} {e : Int} (h : Rdr w b ao n cap f e) {ar : Option Addr} {m : Nat} {g : Nat → Nat} (hr : Rd w ar m g) (hn : 0 < m) (a : Addr) (ea : ar = some a) : b ≠ a.block := by
  obtain ⟨b', off, e', _, hc⟩ := hr.at_ hn
  rw [e'] at ea
  obtain rfl := Option.some.inj ea
  rintro rfl
  have h0 := hc 0 hn
  rw [cell_of_row w b (off + 0) _ 63 (0, 0) h.blk] at h0
  have : off = 0 ∨ off = 1 ∨ off = 2 ∨ 3 ≤ off := by omega
  rcases this with rfl | rfl | rfl | h3
  · simp at h0
  · simp at h0
  · simp at h0
  · rw [Array.getElem?_eq_none (by simp; omega)] at h0
    simp at h0
theorem Rdr.but {w w' : World} {b q : Nat} {ao : Option Addr} {n cap : Nat} {f : Nat → Nat} {e : Int} (h : Rdr w b ao n cap f e) (hb : But (some ⟨q, 0, none⟩) w w') (hne : q ≠ b) (hq : 0 < n → ∀ a, ao = some a → q ≠ a.block) : Rdr w' b ao n cap f e :=
  ⟨by rw [hb.block b h.lt (fun a ea => by obtain rfl := Option.some.inj ea; exact hne)]; exact h.blk, h.rd.but hb (fun hl a c ea ec => by obtain rfl := Option.some.inj ec; exact hq hl a ea), h.room, h.nil⟩
/-- Both readers, with the same bytes left and the same error. -/
structure Both (w0 : World) (rb fb n : Nat) (f : Nat → Nat) (e : Int) (W : World) : Prop where
  r : ∃ ao cap, Rdr W rb ao n cap f e
  s : ∃ ao cap, FRdr W fb ao n cap f e
  bel : Below w0.heap.size w0 W
theorem Both.below {w0 : World} {rb fb n : Nat} {f : Nat → Nat} {e : Int} {W W' : World} (h : Both w0 rb fb n f e W) (hb : Below W.heap.size W W') : Both w0 rb fb n f e W' :=
  ⟨h.r.elim fun ao h => h.elim fun cap h => ⟨ao, cap, h.below hb⟩, h.s.elim fun ao h => h.elim fun cap h => ⟨ao, cap, h.below hb⟩, h.bel.trans (hb.mono h.bel.size)⟩
/-- The first one on its way. -/
structure Half (w0 : World) (rb fb n n1 : Nat) (f f1 : Nat → Nat) (e e1 : Int) (W : World) : Prop where
  r : ∃ ao cap, Rdr W rb ao n1 cap f1 e1
  s : ∃ ao cap, FRdr W fb ao n cap f e
  bel : Below w0.heap.size w0 W
theorem Half.below {w0 : World} {rb fb n n1 : Nat} {f f1 : Nat → Nat} {e e1 : Int} {W W' : World} (h : Half w0 rb fb n n1 f f1 e e1 W) (hb : Below W.heap.size W W') : Half w0 rb fb n n1 f f1 e e1 W' :=
  ⟨h.r.elim fun ao h => h.elim fun cap h => ⟨ao, cap, h.below hb⟩, h.s.elim fun ao h => h.elim fun cap h => ⟨ao, cap, h.below hb⟩, h.bel.trans (hb.mono h.bel.size)⟩
theorem Both.one {w0 : World} {rb fb n : Nat} {f : Nat → Nat} {e : Int} {W : World} (h : Both w0 rb fb n f e W) {n1 : Nat} {f1 : Nat → Nat} {e1 : Int} {W' : World} (hr : RetR W rb n1 f1 e1 W') (hne : rb ≠ fb) (hb : w0.heap.size ≤ rb) : Half w0 rb fb n n1 f f1 e e1 W' := by
  obtain ⟨ao, cap, hR⟩ := h.r
  obtain ⟨ao2, cap2, hF⟩ := h.s
  exact ⟨hr.1, ⟨ao2, cap2, hF.but hr.2 hne (fun hn a ea => hR.apart2 hF.rd hn a ea)⟩, hr.below h.bel hb⟩
theorem Half.two {w0 : World} {rb fb n n1 : Nat} {f f1 : Nat → Nat} {e e1 : Int} {W : World} (h : Half w0 rb fb n n1 f f1 e e1 W) {n2 : Nat} {f2 : Nat → Nat} {e2 : Int} {W' : World} (hr : RetF W fb n2 f2 e2 W') (hne : rb ≠ fb) (hb : w0.heap.size ≤ fb) (en : n1 = n2) (ee : e1 = e2) (ef : ∀ i, i < n1 → f2 i = f1 i) : Both w0 rb fb n1 f1 e1 W' := by
  subst en ee
  obtain ⟨ao, cap, hR⟩ := h.r
  obtain ⟨ao2, cap2, hF⟩ := h.s
  obtain ⟨⟨ao3, cap3, hF3⟩, hB⟩ := hr
  exact ⟨⟨ao, cap, hR.but hB hne.symm (fun hn a ea => hF.apart hR.rd hn a ea)⟩, ⟨ao3, cap3, hF3.congr ef⟩, h.bel.trans (hB.below h.bel.size fun a ea => by obtain rfl := Option.some.inj ea; exact hb)⟩
theorem NumStep.same {s most n : Nat} {f : Nat → Nat} {e : Int} {x1 n1 : Nat} {f1 : Nat → Nat} {e1 : Int} {x2 n2 : Nat} {f2 : Nat → Nat} {e2 : Int} (h1 : NumStep s most n f e x1 n1 f1 e1) (h2 : NumStep s most n f e x2 n2 f2 e2) :
    x1 = x2 ∧ n1 = n2 ∧ e1 = e2 ∧ (∀ i, i < n1 → f2 i = f1 i) ∧ n1 ≤ n := by
  rcases h1 with ⟨a1, rfl, rfl, rfl, rfl⟩ | ⟨a1, a2, rfl, rfl, rfl⟩ | ⟨a1, a2, a3, rfl, rfl, rfl⟩ | ⟨a1, a2, a3, rfl, rfl, rfl, rfl⟩ <;>
    rcases h2 with ⟨b1, rfl, rfl, rfl, rfl⟩ | ⟨b1, b2, rfl, rfl, rfl⟩ | ⟨b1, b2, b3, rfl, rfl, rfl⟩ | ⟨b1, b2, b3, rfl, rfl, rfl, rfl⟩ <;>
    first
      | exact ⟨rfl, rfl, rfl, fun _ _ => rfl, by omega⟩
      | exact ⟨rfl, rfl, rfl, fun i hi => by omega, by omega⟩
      | (exfalso; first | exact a1 b1 | exact b1 a1 | omega)
theorem StrStep.same {M n : Nat} {f : Nat → Nat} {e : Int} {k1 : Nat} {g1 : Nat → Nat} {n1 : Nat} {f1 : Nat → Nat} {e1 : Int} {k2 : Nat} {g2 : Nat → Nat} {n2 : Nat} {f2 : Nat → Nat} {e2 : Int} (h1 : StrStep M n f e k1 g1 n1 f1 e1) (h2 : StrStep M n f e k2 g2 n2 f2 e2) :
    k1 = k2 ∧ (∀ i, i < k2 → g1 i = g2 i) ∧ n1 = n2 ∧ e1 = e2 ∧ (∀ i, i < n1 → f2 i = f1 i) ∧ n1 ≤ n := by
  rcases h1 with ⟨a1, rfl, rfl, rfl, rfl⟩ | ⟨a1, a2, rfl, rfl, rfl⟩ | ⟨a1, a2, a3, rfl, rfl, rfl⟩ | ⟨a1, a2, a3, a4, rfl, rfl, rfl⟩ | ⟨a1, a2, a3, a4, rfl, rfl, rfl, rfl, rfl⟩ <;>
    rcases h2 with ⟨b1, rfl, rfl, rfl, rfl⟩ | ⟨b1, b2, rfl, rfl, rfl⟩ | ⟨b1, b2, b3, rfl, rfl, rfl⟩ | ⟨b1, b2, b3, b4, rfl, rfl, rfl⟩ | ⟨b1, b2, b3, b4, rfl, rfl, rfl, rfl, rfl⟩ <;>
    first
      | exact ⟨rfl, fun i hi => by omega, rfl, rfl, fun _ _ => rfl, by omega⟩
      | exact ⟨rfl, fun i hi => by omega, rfl, rfl, fun i hi => by omega, by omega⟩
      | exact ⟨rfl, fun _ _ => rfl, rfl, rfl, fun _ _ => rfl, by omega⟩
      | (exfalso; first | exact a1 b1 | exact b1 a1 | omega)
theorem SetNo.same {m L n : Nat} {f : Nat → Nat} {e : Int} {n1 : Nat} {f1 : Nat → Nat} {e1 : Int} {n2 : Nat} {f2 : Nat → Nat} {e2 : Int} (h1 : SetNo m L n f e n1 f1 e1) (h2 : SetNo m L n f e n2 f2 e2) :
    n1 = n2 ∧ e1 = e2 ∧ (∀ i, i < n1 → f2 i = f1 i) ∧ n1 ≤ n := by
  rcases h1 with ⟨a1, rfl, rfl, rfl⟩ | ⟨a1, a2, rfl, rfl⟩ | ⟨a1, a2, a3, rfl, rfl⟩ <;>
    rcases h2 with ⟨b1, rfl, rfl, rfl⟩ | ⟨b1, b2, rfl, rfl⟩ | ⟨b1, b2, b3, rfl, rfl⟩ <;>
    first
      | exact ⟨rfl, rfl, fun _ _ => rfl, by omega⟩
      | exact ⟨rfl, rfl, fun i hi => by omega, by omega⟩
      | (exfalso; first | exact a1 b1 | exact b1 a1 | omega)
theorem SetNo.not {m L n : Nat} {f : Nat → Nat} {e : Int} {n1 : Nat} {f1 : Nat → Nat} {e1 : Int} {n2 : Nat} {f2 : Nat → Nat} {e2 : Int} (h1 : SetNo m L n f e n1 f1 e1) (h2 : SetYes m L n f e n2 f2 e2) : False := by
  obtain ⟨b1, b2, b3, _⟩ := h2
  rcases h1 with ⟨a1, _⟩ | ⟨_, a2, _⟩ | ⟨_, _, a3, _⟩
  · exact a1 b1
  · omega
  · exact a3 b3
/-- Fail, whatever there is. -/
theorem fail_any {w : World} {b : Nat} {ao : Option Addr} {n cap : Nat} {f : Nat → Nat} {e : Int} (h : Rdr w b ao n cap f e) (e' : Int) :
    Calls Try.prog 36 #[.pointer (some ⟨b, 0, none⟩), .int .i64 e'] w fun en w' => en = .returned (.tuple #[]) ∧ RetR w b (failN n e e') f (failE e e') w' := by
  by_cases he : e = 0
  · subst he
    by_cases he' : e' = 0
    · subst he'
      refine (fail_same h 0 (.inl rfl)).mono ?_
      rintro en w' ⟨rfl, rfl⟩
      exact ⟨rfl, ⟨ao, cap, by simpa [failN, failE] using h⟩, But.refl _ _⟩
    · refine (fail_new h e' he').mono ?_
      rintro en w' ⟨rfl, hR, hB⟩
      exact ⟨rfl, ⟨none, 0, by simpa [failN, failE, he'] using hR⟩, hB⟩
  · refine (fail_same h e' (.inr he)).mono ?_
    rintro en w' ⟨rfl, rfl⟩
    exact ⟨rfl, ⟨ao, cap, by simpa [failN, failE, he] using h⟩, But.refl _ _⟩
theorem failN_le (n : Nat) (e e' : Int) : failN n e e' ≤ n := by unfold failN; split <;> omega
set_option maxHeartbeats 1600000 in
/-- Set of a number that is no size. -/
theorem set_badn {w : World} {b : Nat} {ao : Option Addr} {n cap : Nat} {f : Nat → Nat} {e : Int} (h : Rdr w b ao n cap f e) (z : Int) (hz : z < 0 ∨ 8192 < z) :
    Calls Try.prog 34 #[.pointer (some ⟨b, 0, none⟩), .int .i64 z] w fun en w' => en = .returned (.agg #[.int .i64 0, .slice none 0 0]) ∧ RetR w b (failN n e 31) f (failE e 31) w' := by
  have hnew := new_bad z none 0 0 (w.alloc (.cells #[.int .i64 0, .slice none 0 0] 25)) hz
  have hlt := h.lt
  go_enter Try.func34, Try.ntmps34
  go_wp2_with fail
  refine wp_scope_once 0 rfl ?_
  go_wp2_with fail
  refine hnew.mono ?_
  rintro en w1 ⟨rfl, hb1⟩
  have res1 := (Box.new w (.int .i64 0) (.slice none 0 0)).below hb1
  have hb : Below w.heap.size w w1 := ((Below.refl _ _).alloc (Nat.le_refl _) _).trans (hb1.mono (by simp))
  have hb2 := hb.alloc hb.size (.cells #[.int .i64 0, .slice none 0 0] 25)
  have h1 := h.below hb2
  have res2 := res1.alloc (.cells #[.int .i64 0, .slice none 0 0] 25)
  have hne : w.heap.size ≠ w1.heap.size := by have := res1.lt; omega
  clear hb hb1 hnew
  go_wp2_with fail
  go_step3
  refine And.intro rfl ?_
  go_wp2_with fail
  refine (fail_any h1 31).mono ?_
  rintro en w2 ⟨rfl, hret⟩
  have hres := res2.but hret.2 (fun a ea => by obtain rfl := Option.some.inj ea; show b ≠ _; omega)
  have hret2 : RetR w b (failN n e 31) f (failE e 31) w2 := ⟨hret.1, (But.of_below hb2).trans hret.2⟩
  clear hret
  obtain ⟨q0, q1, q2, q3⟩ := hres.cells
  have hrlt := hres.lt
  obtain ⟨r0, r1, r2, r3⟩ := (hres.set (.int .i64 0) (.slice none 0 0)).cells
  go_wp2_with fail
  rw [Exit.noGoto_ret]
  exact bodyPost_ret (v := .agg #[.int .i64 0, .slice none 0 0]) (by simp [results, Try.results34, go_sem, r0, r1]) rfl ⟨rfl, hret2.box hres hlt _ _⟩
set_option maxHeartbeats 1600000 in
theorem fset_badn {w : World} {b : Nat} {ao : Option Addr} {n cap : Nat} {f : Nat → Nat} {e : Int} (h : FRdr w b ao n cap f e) (z : Int) (hz : z < 0 ∨ 8192 < z) :
    Calls Try.prog 45 #[.pointer (some ⟨b, 0, none⟩), .int .i64 z] w fun en w' => en = .returned (.agg #[.int .i64 0, .slice none 0 0]) ∧ RetF w b (failN n e 31) f (failE e 31) w' := by
  have hlt := h.lt
  have ha : Below w.heap.size w (w.alloc (.cells #[.int .i64 0, .slice none 0 0] 25)) := (Below.refl _ _).alloc (Nat.le_refl _) _
  have res := Box.new w (.int .i64 0) (.slice none 0 0)
  have h1 := h.below ha
  have key : ∀ w2, RetF (w.alloc (.cells #[.int .i64 0, .slice none 0 0] 25)) b (failN n e 31) f (failE e 31) w2 → Box w2 w.heap.size (.int .i64 0) (.slice none 0 0) ∧ RetF w b (failN n e 31) f (failE e 31) w2 := fun w2 hret =>
    ⟨res.but hret.2 (fun a ea => by obtain rfl := Option.some.inj ea; show b ≠ _; omega), hret.1, (But.of_below ha).trans hret.2⟩
  rcases hz with hz | hz
  · have hd : decide (z < 0) = true := by simpa using hz
    go_enter Try.func45, Try.ntmps45
    go_wp2_with fail
    refine (ffail_any h1 31).mono ?_
    rintro en w2 ⟨rfl, hret⟩
    obtain ⟨hres, hret2⟩ := key w2 hret
    clear hret key
    obtain ⟨q0, q1, q2, q3⟩ := hres.cells
    have hrlt := hres.lt
    obtain ⟨r0, r1, r2, r3⟩ := (hres.set (.int .i64 0) (.slice none 0 0)).cells
    go_wp2
    exact bodyPost_ret (v := .agg #[.int .i64 0, .slice none 0 0]) (by simp [results, Try.results45, go_sem, r0, r1]) rfl ⟨rfl, hret2.box hres hlt _ _⟩
  · have hd : decide (z < 0) = false := by simp; omega
    have hd2 : decide (8192 < z) = true := by simpa using hz
    go_enter Try.func45, Try.ntmps45
    go_wp2_with fail
    refine (ffail_any h1 31).mono ?_
    rintro en w2 ⟨rfl, hret⟩
    obtain ⟨hres, hret2⟩ := key w2 hret
    clear hret key
    obtain ⟨q0, q1, q2, q3⟩ := hres.cells
    have hrlt := hres.lt
    obtain ⟨r0, r1, r2, r3⟩ := (hres.set (.int .i64 0) (.slice none 0 0)).cells
    go_wp2
    exact bodyPost_ret (v := .agg #[.int .i64 0, .slice none 0 0]) (by simp [results, Try.results45, go_sem, r0, r1]) rfl ⟨rfl, hret2.box hres hlt _ _⟩
end Go.Proofs.Ytnjnaihogbnmaaa
