/- BytesOne: the walk of the law. -/
import Derived.Test.YtnjnaihogbnmaaaOn
namespace Go.Proofs.Ytnjnaihogbnmaaa
open Go.RowKit
theorem RetSR.shape {w : World} {b n L N : Nat} {f : Nat → Nat} {e : Int} {en : Ending} {w' : World} (h : RetSR w b n L N f e en w') :
    ∃ y ao l cap N' f' e', en = .returned (.agg #[.int .i64 y, .slice ao l cap]) ∧ RetR w b N' f' e' w' ∧ (e' = 0 → y = n ∧ l = L ∧ RdU w' ao L (wdB f) ∧ SetYes n L N f e N' f' e') := by
  obtain ⟨N', f', e', hr, (⟨he, hs⟩ | ⟨ao, cap, he, hd, hs⟩)⟩ := h
  · refine ⟨0, none, 0, 0, N', f', e', he, hr, fun h0 => ?_⟩
    subst h0
    rcases hs with ⟨h1, _, _, h2⟩ | ⟨_, _, _, h2⟩ | ⟨_, _, _, _, h2⟩
    · exact absurd h2.symm h1
    · simp at h2
    · simp at h2
  · exact ⟨n, ao, L, cap, N', f', e', he, hr, fun _ => ⟨rfl, rfl, hd, hs⟩⟩
theorem StrStep.good {M n : Nat} {f : Nat → Nat} {e : Int} {k : Nat} {g : Nat → Nat} {n' : Nat} {f' : Nat → Nat} (h : StrStep M n f e k g n' f' 0) :
    e = 0 ∧ 4 ≤ n ∧ numB f 4 ≤ n - 4 ∧ k = numB f 4 ∧ g = (fun i => f (4 + i)) ∧ n' = n - 4 - numB f 4 ∧ f' = (fun i => f (4 + (numB f 4 + i))) := by
  rcases h with ⟨h1, _, _, _, h2⟩ | ⟨_, _, _, _, h2⟩ | ⟨_, _, _, _, _, h2⟩ | ⟨_, _, _, _, _, _, h2⟩ | ⟨h1, h2, h3, h4, h5, h6, h7, h8, _⟩
  · exact absurd h2.symm h1
  · simp at h2
  · simp at h2
  · simp at h2
  · exact ⟨h1, h2, h4, h5, h6, h7, h8⟩
theorem NumStep.good {s most n : Nat} {f : Nat → Nat} {e : Int} {x n' : Nat} {f' : Nat → Nat} (h : NumStep s most n f e x n' f' 0) :
    e = 0 ∧ s ≤ n ∧ x = numB f s ∧ n' = n - s ∧ f' = (fun i => f (s + i)) := by
  rcases h with ⟨h1, _, _, _, h2⟩ | ⟨_, _, _, _, h2⟩ | ⟨_, _, _, _, _, h2⟩ | ⟨h1, h2, _, h3, h4, h5, _⟩
  · exact absurd h2.symm h1
  · simp at h2
  · simp at h2
  · exact ⟨h1, h2, h3, h4, h5⟩
theorem RetR.below {w : World} {b N : Nat} {f : Nat → Nat} {e : Int} {w' : World} (h : RetR w b N f e w') {w0 : World} (h0 : Below w0.heap.size w0 w) (hb : w0.heap.size ≤ b) : Below w0.heap.size w0 w' :=
  h0.trans (h.2.below h0.size fun a ea => by obtain rfl := Option.some.inj ea; exact hb)
theorem equal_len9 {w : World} {ao ax : Option Addr} {n N cap cx : Nat} {f g : Nat → Nat} (h : Rd w ao n f) (e : n = N) (he : ∀ i, i < N → f i = g i) (hx : Rd w ax N g) (hn : (N : Int) ≤ 9223372036854775807) :
    Calls Try.prog 12 #[.slice ao n cap, .slice ax N cx] w fun e w' => e = .returned (.bool true) ∧ Below w.heap.size w w' := by
  subst e
  have hq := equal_same ao ax n cap cx f g w h hx hn
  have : eqW n f g = true := by unfold eqW; rw [decide_eq_true_iff]; exact he
  rw [this] at hq
  refine hq.mono ?_
  rintro e w' ⟨rfl, q, rfl⟩
  exact ⟨rfl, below_drewN (Below.refl _ _) q⟩
/-- Num of one number into nothing. -/
theorem num_two (x : Nat) (hx : x < 18446744073709551616) (w : World) : Calls Try.prog 13 #[.slice none 0 0, .int .i64 2, .slice (some ⟨w.heap.size, 0, none⟩) 1 1] (w.alloc (.cells #[.int .u64 (x : Nat)] 37)) (RetB w 2 (putB 0 2 (fun _ => 0) fun _ => x)) := by
  have hnum := num_any none 0 0 (fun _ => 0) 2 (some ⟨w.heap.size, 0, none⟩) 1 1 (fun _ => x) _ (rd_none _ _ _) (rdu_one w x hx) (by decide) (by decide) (by rw [show szB 2 = 2 from rfl]; omega) (by decide)
  rw [show szB 2 = 2 from rfl] at hnum
  refine hnum.mono ?_
  rintro e w2 ⟨ao2, cap2, rfl, hown, hb⟩
  exact ⟨ao2, cap2, rfl, hown.mono (by simp), ((Below.refl _ _).alloc (Nat.le_refl _) _).trans (hb.mono (by simp))⟩
set_option maxHeartbeats 3000000 in
theorem bytesOne_walk (ao : Option Addr) (n cap : Nat) (f : Nat → Nat) (m : Nat) (w : World) (hr : Rd w ao n f) (hn : n ≤ 140737488351232) (hm : m < 256) (hnil : (ao = none ∧ n = 0 ∧ cap = 0) ∨ ∃ a, ao = some a) :
    Calls Try.prog 6 #[.slice ao n cap, .int .u8 (m : Nat)] w fun e w' => e = .returned (.bool true) ∧ Below w.heap.size w w' := by
  go_enter Try.func6, Try.ntmps6
  go_wp2_with fail
  refine (live_any w).mono ?_
  rintro e w1 ⟨rfl, hb1⟩
  go_wp2_with fail
  refine (read_any ao n cap f _ (hr.below hb1) (by omega) hnil).mono ?_
  rintro e w2 ⟨b, ao2, cap2, rfl, hR2, hbb, hb2⟩
  have hB2 := hb1.trans (hb2.mono hb1.size)
  have hwb : w.heap.size ≤ b := Nat.le_trans hb1.size hbb
  clear hb2
  have hnum := num_r hR2 2 65536 (by decide) (by decide)
  rw [show szB 2 = 2 from rfl] at hnum
  go_wp2_with fail
  refine hnum.mono ?_
  rintro e w3 ⟨x, n3, f3, e3, rfl, hs3, hret3⟩
  have hB3 := hret3.below hB2 hwb
  obtain ⟨⟨ao3, cap3, hR3⟩, _⟩ := hret3
  have hx3 : x < 18446744073709551616 := by
    rcases hs3 with ⟨_, rfl, _⟩ | ⟨_, _, rfl, _⟩ | ⟨_, _, _, rfl, _⟩ | ⟨_, _, h, rfl, _⟩ <;> omega
  have hn3 : n3 ≤ n := by
    rcases hs3 with ⟨_, _, rfl, _⟩ | ⟨_, _, _, rfl, _⟩ | ⟨_, _, _, _, rfl, _⟩ | ⟨_, _, _, _, rfl, _⟩ <;> omega
  have HS3 : Hid (NumStep 2 65536 n f 0 x n3 f3 e3) := hs3
  clear hs3 hnum
  go_wp2_with fail
  refine (str_r hR3 65536 (by omega)).mono ?_
  rintro e w4 ⟨aos, k, caps, gs, n4, f4, e4, rfl, hs4, hown4, hret4⟩
  have hB4 := hret4.below hB3 hwb
  obtain ⟨⟨ao4, cap4, hR4⟩, hBut4⟩ := hret4
  have HS4 : Hid (StrStep (strM 65536) n3 f3 e3 k gs n4 f4 e4) := hs4
  clear hs4
  have hset := set_loop hR4 m ((m + 63) / 64) (by omega) rfl
  go_wp2_with fail
  refine hset.mono ?_
  rintro e w5 hsr
  obtain ⟨y, ao5, l5, cap5, n5, f5, e5, rfl, hret5, hgood⟩ := hsr.shape
  clear hset hsr
  have hLm : (m + 63) / 64 ≤ 4 := by omega
  generalize (m + 63) / 64 = L at *
  have hB5 := hret5.below hB4 hwb
  have hown5 : Own w3.heap.size w5 aos k caps gs := hown4.but hret5.2 (fun a c ea ec => by
    obtain rfl := Option.some.inj ec
    have hl3 := hR3.lt
    rcases hown4.own.2 with ⟨h', _⟩ | ⟨g, c, cur, h', hg, _⟩
    · simp [ea] at h'
    · simp only [Value.slice.injEq] at h'
      rw [ea] at h'
      obtain rfl := Option.some.inj h'.1
      show b ≠ g
      omega)
  obtain ⟨⟨ao6, cap6, hR5⟩, _⟩ := hret5
  have hsnil : (aos = none ∧ k = 0 ∧ caps = 0) ∨ ∃ a, aos = some a := by
    rcases hown4.own.2 with ⟨h', h0⟩ | ⟨g, c, cur, h', _⟩
    · simp only [Value.slice.injEq] at h'
      exact .inl h'
    · simp only [Value.slice.injEq] at h'
      exact .inr ⟨_, h'.1⟩
  have hal : Below w5.heap.size w5 (w5.alloc (.cells #[.int .i64 y, .slice ao5 l5 cap5] 25)) := (Below.refl _ _).alloc (Nat.le_refl _) _
  have hbox := Box.new w5 (.int .i64 y) (.slice ao5 l5 cap5)
  have hR6 := hR5.below hal
  have hs6 := (hown5.below hal).rd
  have hB6 := hB5.alloc hB5.size (.cells #[.int .i64 y, .slice ao5 l5 cap5] 25)
  have hg6 : e5 = 0 → y = m ∧ l5 = L ∧ RdU (w5.alloc (.cells #[.int .i64 y, .slice ao5 l5 cap5] 25)) ao5 L (wdB f4) ∧ SetYes m L n4 f4 e4 n5 f5 e5 := fun h0 => by
    obtain ⟨a1, a2, a3, a4⟩ := hgood h0
    exact ⟨a1, a2, a3.below hal, a4⟩
  have HG6 : Hid (e5 = 0 → y = m ∧ l5 = L ∧ RdU (w5.alloc (.cells #[.int .i64 y, .slice ao5 l5 cap5] 25)) ao5 L (wdB f4) ∧ SetYes m L n4 f4 e4 n5 f5 e5) := hg6
  clear hgood hg6 hown5 hown4 hBut4
  have hdone := done_any hR6
  go_wp2_with fail
  refine hdone.mono ?_
  rintro e w6 ⟨rfl, e6⟩
  rw [← e6] at hbox hs6 hB6 HG6
  clear hdone hR6 hal e6
  by_cases hd : doneE n5 e5 = 0
  · rw [hd]
    obtain ⟨he5, hn5⟩ : e5 = 0 ∧ n5 = 0 := by
      unfold doneE at hd
      split at hd
      · simp at hd
      · rename_i hno
        refine ⟨hd, ?_⟩
        by_cases h0 : 0 < n5
        · exact absurd ⟨hd, h0⟩ hno
        · omega
    obtain ⟨rfl, rfl, hru, h4, a2, a3, a4, a5, _⟩ := HG6.out he5
    subst h4
    obtain ⟨h3, b2, b3, b4, b5, b6, b7⟩ := HS4.out.good
    subst h3
    obtain ⟨_, c2, c3, c4, c5⟩ := HS3.out.good
    have HE : Hid (2 + 4 + k + 8 * l5 = n ∧ ∀ i, i < n → putB (2 + 4 + k) 8 (strB 2 k (putB 0 2 (fun _ => 0) fun _ => x) gs) (wdB f4) i = f i) := by
      subst c5 b5 b7 c3
      refine ⟨by omega, fun i hi => ?_⟩
      have := one_same (f := f) (N := n) hr.small (k := k) (L := l5) (by omega) b4 i hi
      rw [b4] at this ⊢
      exact this
    have hok : Ok m l5 (wdB f4) := a3
    have hlen : 2 + 4 + k + 8 * l5 = n := HE.out.1
    clear a2 a3 a4 a5 b2 b3 b4 b5 b6 b7 c2 c3 c4 c5 HS3 HS4 HG6 hd he5 hn5
    have t : Below w6.heap.size w6 w6.drew := (Below.refl _ _).drew
    have hrw := hr.below hB6
    have HOK : Hid (Ok m l5 (wdB f4)) := hok
    have HLEN : Hid (2 + 4 + k + 8 * l5 = n) := hlen
    have HRW : Hid (Rd w6 ao n f) := hrw
    have HS6 : Hid (Rd w6 aos k gs) := hs6
    have HRU : Hid (RdU w6 ao5 l5 (wdB f4)) := hru
    have hk6 : 2 + 4 + k ≤ 140737488355328 := by omega
    have hl6 : 2 + 4 + k + 8 * l5 ≤ 281474976710656 := by omega
    have hn6 : (n : Int) ≤ 9223372036854775807 := by omega
    clear hok hlen hrw hs6 hru
    have hc : w6.drew.cell? ⟨w5.heap.size, 0, none⟩ = some (.int .i64 (m : Nat)) ∧ w6.drew.cell? ⟨w5.heap.size, 1, none⟩ = some (.slice ao5 l5 cap5) := ⟨hbox.cells.1, hbox.cells.2.1⟩
    have hbl : w5.heap.size < w6.heap.size := hbox.lt
    have HBX : Hid (∀ W, Below w6.heap.size w6 W → W.cell? ⟨w5.heap.size, 0, none⟩ = some (.int .i64 (m : Nat)) ∧ W.cell? ⟨w5.heap.size, 1, none⟩ = some (.slice ao5 l5 cap5)) := fun W hW => ⟨by rw [hW.cell (p := ⟨w5.heap.size, 0, none⟩) hbl]; exact hbox.cells.1, by rw [hW.cell (p := ⟨w5.heap.size, 1, none⟩) hbl]; exact hbox.cells.2.1⟩
    clear hbox
    go_wp2_with fail
    go_region_held3 (fun w' => w'.cell? ⟨w5.heap.size, 0, none⟩ = some (.int .i64 (m : Nat)) ∧ w'.cell? ⟨w5.heap.size, 1, none⟩ = some (.slice ao5 l5 cap5)) (first | exact hc | exact HBX.out _ (t.alloc t.size _))
      (first
        | (go_at_call 13; refine (num_two x hx3 w6.drew).mono ?_; rintro e w7 ⟨ao7, cap7, rfl, ho7, hb7⟩; replace t := t.trans (hb7.mono t.size); clear hc; have hc := HBX.out _ t; replace ho7 := ho7.rd; clear hb7)
        | (go_at_call 15; refine (str_any ao7 2 cap7 _ aos k caps gs _ ho7 (HS6.out.below t) hk6 hsnil).mono ?_; rintro e w8 ⟨ao8, cap8, rfl, ho8, hb8⟩; replace t := t.trans (hb8.mono t.size); clear hc; have hc := HBX.out _ t; replace ho8 := ho8.rd; clear hb8)
        | (go_at_call 17; refine (set_ok ao8 (2 + 4 + k) cap8 _ m ao5 l5 cap5 _ _ ho8 (HRU.out.below t) HOK.out hl6).mono ?_; rintro e w9 ⟨ao9, cap9, rfl, ho9, hb9⟩; replace t := t.trans (hb9.mono t.size); clear hc; have hc := HBX.out _ t; replace ho9 := ho9.rd; clear hb9)
        | (go_at_call 12; refine (equal_len9 ho9 HLEN.out HE.out.2 (HRW.out.below t) hn6).mono ?_; rintro e w10 ⟨rfl, hb10⟩; replace t := t.trans (hb10.mono t.size); clear hc; have hc := HBX.out _ t; clear hb10))
    go_wp2
    go_ret
    exact ⟨rfl, hB6.trans (t.mono hB6.size)⟩
  · have hd2 : (doneE n5 e5 != 0) = true := by rw [bne_iff_ne]; exact hd
    generalize doneE n5 e5 = D at *
    go_wp2
    go_ret
    exact ⟨rfl, hB6⟩
end Go.Proofs.Ytnjnaihogbnmaaa
