/- BytesRead: the walk of the law. -/
import Derived.Test.YtnjnaihogbnmaaaAk
import Derived.Deep.RegionWith
namespace Go.Proofs.Ytnjnaihogbnmaaa
open Go.RowKit
/-- A list of calls that can be read. -/
structure RdA (w : World) (ao : Option Addr) (len : Nat) (fd fz : Nat → Int) (fm : Nat → Nat) (fN fE : Nat → Int) : Prop where
  zr : ∀ k, k < len → -9223372036854775808 ≤ fz k ∧ fz k ≤ 9223372036854775807
  Nr : ∀ k, k < len → -9223372036854775808 ≤ fN k ∧ fN k ≤ 9223372036854775807
  at_ : 0 < len → ∃ b off, ao = some ⟨b, off, none⟩ ∧ b < w.heap.size ∧ ∀ k, k < len → w.cell? ⟨b, off + k * 5, none⟩ = some (.int .i64 (fd k)) ∧ w.cell? ⟨b, off + k * 5 + 1, none⟩ = some (.int .i64 (fz k)) ∧ w.cell? ⟨b, off + k * 5 + 2, none⟩ = some (.int .u64 (fm k : Nat)) ∧ w.cell? ⟨b, off + k * 5 + 3, none⟩ = some (.int .i64 (fN k)) ∧ w.cell? ⟨b, off + k * 5 + 4, none⟩ = some (.int .i64 (fE k))
theorem AB.fr {w w' : World} {b rb fb : Nat} {x0 x1 x2 x3 x4 : Value} (h : AB w b x0 x1 x2 x3 x4) (hf : Fr2 rb fb w w') (h1 : b ≠ rb) (h2 : b ≠ fb) : AB w' b x0 x1 x2 x3 x4 := by
  unfold AB; rw [hf.blk b h.lt h1 h2]; exact h
theorem left_n {w : World} {b : Nat} {ao : Option Addr} {n cap : Nat} {f : Nat → Nat} {e : Int} (h : Rdr w b ao n cap f e) (hi : e ≠ 0 → n = 0) :
    Calls Try.prog 27 #[.pointer (some ⟨b, 0, none⟩)] w fun en w' => en = .returned (.int .i64 (n : Nat)) ∧ w' = w := by
  have := left_any h
  by_cases he : e = 0
  · rwa [if_pos he] at this
  · rw [if_neg he] at this
    rw [hi he]
    exact this
set_option maxHeartbeats 4000000 in
theorem bytesRead_walk (ao : Option Addr) (n cap : Nat) (f : Nat → Nat) (al : Option Addr) (ll lc : Nat) (fd fz : Nat → Int) (fm : Nat → Nat) (fN fE : Nat → Int) (w : World) (hr : Rd w ao n f) (hn : n ≤ 140737488351232) (hc : n ≤ cap) (hnil : (ao = none ∧ n = 0 ∧ cap = 0) ∨ ∃ a, ao = some a)
    (hl : RdA w al ll fd fz fm fN fE) (hll : (ll : Int) ≤ 1844674407370955161) :
    Calls Try.prog 4 #[.slice ao n cap, .slice al ll lc] w fun e w' => e = .returned (.bool true) ∧ Below w.heap.size w w' := by
  have hnone : ao = none → n = 0 ∧ cap = 0 := by
    intro e
    rcases hnil with ⟨_, h2, h3⟩ | ⟨a, h⟩
    · exact ⟨h2, h3⟩
    · rw [e] at h; simp at h
  go_enter Try.func4, Try.ntmps4
  go_wp2_with fail
  refine (live_any w).mono ?_
  rintro e w1 ⟨rfl, hb1⟩
  go_wp2_with fail
  refine (read_any ao n cap f _ (hr.below hb1) (by omega) hnil).mono ?_
  rintro e w2 ⟨rb, ao2, cap2, rfl, hR2, hrb, hb2⟩
  have hB2 := hb1.trans (hb2.mono hb1.size)
  go_wp2_with fail
  refine (fread_any ao n cap f _ (hr.below hB2) hc hnone).mono ?_
  rintro e w3 ⟨fb, rfl, hF3, hfb, hb3⟩
  have hB3 := hB2.trans (hb3.mono hB2.size)
  have hne : rb ≠ fb := by have := hR2.lt; omega
  have hr0 : w.heap.size ≤ rb := Nat.le_trans hb1.size hrb
  have hf0 : w.heap.size ≤ fb := Nat.le_trans hB2.size hfb
  have t : Both w rb fb n f 0 w3 := ⟨⟨_, _, hR2.below hb3⟩, ⟨_, _, hF3⟩, hB3⟩
  clear hR2 hF3 hB3 hb3 hB2 hb2 hb1 hrb hfb hc
  go_wp2_with fail
  go_loopw [17] (fun i wr => ∃ (k n' : Nat) (f' : Nat → Nat) (e' : Int), k ≤ ll ∧ i = .int .i64 k ∧ n' ≤ n ∧ Both w rb fb n' f' e' wr) (fun i _ => ll - (intOf i).toNat)
  case atStart => exact ⟨0, n, f, 0, Nat.zero_le _, rfl, Nat.le_refl _, t⟩
  case round =>
    obtain ⟨k, n1, f1, e1, hk, rfl, hn1, t1⟩ := hrel
    clear t
    by_cases hlt : k < ll
    · obtain ⟨bb, off, rfl, hbb, hcc⟩ := hl.at_ (by omega)
      obtain ⟨d0, d1, d2, d3, d4⟩ := hcc k hlt
      have hzr := hl.zr k hlt
      have hNr := hl.Nr k hlt
      have hbw := t1.bel
      rw [← hbw.cell (p := ⟨bb, off + k * 5, none⟩) hbb] at d0
      rw [← hbw.cell (p := ⟨bb, off + k * 5 + 1, none⟩) hbb] at d1
      rw [← hbw.cell (p := ⟨bb, off + k * 5 + 2, none⟩) hbb] at d2
      rw [← hbw.cell (p := ⟨bb, off + k * 5 + 3, none⟩) hbb] at d3
      rw [← hbw.cell (p := ⟨bb, off + k * 5 + 4, none⟩) hbb] at d4
      have hki : (k : Int) < (ll : Int) := by omega
      have hk0 : (0 : Int) ≤ (k : Int) := by omega
      clear hcc hbw
      generalize fd k = d at *
      generalize fz k = z at *
      generalize fm k = most at *
      generalize fN k = N at *
      generalize fE k = E at *
      go_wp2_with fail
      clear d0 d1 d2 d3 d4
      have bx := (AB.new wr (.int .i64 d) (.int .i64 z) (.int .u64 (most : Nat)) (.int .i64 N) (.int .i64 E)).below (below_drew5 _)
      obtain ⟨c0, c1, c2, c3, c4⟩ := bx.cells
      have RLT : rb < wr.heap.size := t1.r.elim fun _ h => h.elim fun _ h => h.lt
      have FLT : fb < wr.heap.size := t1.s.elim fun _ h => h.elim fun _ h => h.lt
      replace t1 := (t1.below ((Below.refl _ wr).alloc (Nat.le_refl _) (.cells #[.int .i64 d, .int .i64 z, .int .u64 (most : Nat), .int .i64 N, .int .i64 E] 47))).below (below_drew5 _)
      have hask := asks_any d z N E most t1 (by omega) hne hr0 hf0 hzr hNr
      have rlt : rb < wr.heap.size := RLT
      have flt : fb < wr.heap.size := FLT
      have hrn : wr.heap.size ≠ rb := by omega
      have hfn : wr.heap.size ≠ fb := by omega
      have hc := bx.cells
      clear t1 c0 c1 c2 c3 c4 rlt flt RLT FLT
      obtain ⟨c0, c1, c2, c3, c4⟩ := hc
      go_region_with
        (first
          | (go_at_call 25; refine hask.mono ?_; rintro en w4 ⟨rfl, hfr, n2, f2, e2, hn2, t2⟩; clear c0 c1 c2 c3 c4 hask; obtain ⟨aor, capr, hR⟩ := t2.r; obtain ⟨aof, capf, hF⟩ := t2.s; obtain ⟨m0, m1, m2, m3⟩ := hF.cells; have herr := err_any hR; have hleft := left_n hR hF.inv; have hd1 := done_any hR; have hd2 := fdone_any hF; generalize doneE n2 e2 = D at hd1 hd2)
          | (go_at_call 26; refine herr.mono ?_; rintro en w' ⟨rfl, rfl⟩)
          | (go_at_call 27; refine hleft.mono ?_; rintro en w' ⟨rfl, rfl⟩)
          | (go_at_call 28; refine hd1.mono ?_; rintro en w' ⟨rfl, rfl⟩)
          | (go_at_call 29; refine hd2.mono ?_; rintro en w' ⟨rfl, rfl⟩))
      all_goals go_wp2
      all_goals exact ⟨⟨k + 1, n2, f2, e2, by omega, by go_num, by omega, t2⟩, by simp [intOf]; omega⟩
    · obtain ⟨aor, capr, hR⟩ := t1.r
      obtain ⟨aof, capf, hF⟩ := t1.s
      have hbel := t1.bel
      have hd1 := done_any hR
      have hd2 := fdone_any hF
      generalize doneE n1 e1 = D at *
      go_wp2_with (first
        | (go_at_call 28; refine hd1.mono ?_; rintro en w' ⟨rfl, rfl⟩)
        | (go_at_call 29; refine hd2.mono ?_; rintro en w' ⟨rfl, rfl⟩))
      go_ret
      exact ⟨rfl, hbel⟩
end Go.Proofs.Ytnjnaihogbnmaaa
