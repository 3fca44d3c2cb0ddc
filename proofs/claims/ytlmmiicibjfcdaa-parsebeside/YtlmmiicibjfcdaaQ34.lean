/- The reference of class, as far as token leans on it: by program. -/
import Derived.Test.YtlmmiicibjfcdaaQ01
namespace Go.Proofs.Ytlmmiicibjfcdaa.X
open Go.RowKit
theorem Way2.drew {w wr : World} {p q r s : Nat} (h : Way2 w p q r s wr) : Way2 w p q r s wr.drew := by
  obtain ⟨hx, ⟨a, b, c, d, hy⟩, hb⟩ := h
  exact ⟨hx.drew, ⟨a, b, c, d, hy.drew⟩, hb.drew⟩
set_option maxHeartbeats 1000000 in
theorem rwith_at0 (a b c d v x : Nat) (w : World) (hq : (x : Int) / 64 = 0) (hv : bits .or .u64 (a : Int) (IntKind.u64.wrap (2 ^ (x % 64))) = (v : Nat)) :
    Calls Try.prog 58 #[.agg #[.int .u64 (a : Nat), .int .u64 (b : Nat), .int .u64 (c : Nat), .int .u64 (d : Nat)], .int .u8 (x : Nat)] w fun e w' => e = .returned (.agg #[.int .u64 (v : Nat), .int .u64 (b : Nat), .int .u64 (c : Nat), .int .u64 (d : Nat)]) ∧ Below w.heap.size w w' := by
  go_enter Try.func58, Try.ntmps58
  go_wp2
  exact bodyPost_ret (by simp [results, Try.results58, go_sem]) rfl ⟨rfl, below2 _ _ _⟩
set_option maxHeartbeats 1000000 in
theorem rwith_at1 (a b c d v x : Nat) (w : World) (hq : (x : Int) / 64 = 1) (hv : bits .or .u64 (b : Int) (IntKind.u64.wrap (2 ^ (x % 64))) = (v : Nat)) :
    Calls Try.prog 58 #[.agg #[.int .u64 (a : Nat), .int .u64 (b : Nat), .int .u64 (c : Nat), .int .u64 (d : Nat)], .int .u8 (x : Nat)] w fun e w' => e = .returned (.agg #[.int .u64 (a : Nat), .int .u64 (v : Nat), .int .u64 (c : Nat), .int .u64 (d : Nat)]) ∧ Below w.heap.size w w' := by
  go_enter Try.func58, Try.ntmps58
  go_wp2
  exact bodyPost_ret (by simp [results, Try.results58, go_sem]) rfl ⟨rfl, below2 _ _ _⟩
set_option maxHeartbeats 1000000 in
theorem rwith_at2 (a b c d v x : Nat) (w : World) (hq : (x : Int) / 64 = 2) (hv : bits .or .u64 (c : Int) (IntKind.u64.wrap (2 ^ (x % 64))) = (v : Nat)) :
    Calls Try.prog 58 #[.agg #[.int .u64 (a : Nat), .int .u64 (b : Nat), .int .u64 (c : Nat), .int .u64 (d : Nat)], .int .u8 (x : Nat)] w fun e w' => e = .returned (.agg #[.int .u64 (a : Nat), .int .u64 (b : Nat), .int .u64 (v : Nat), .int .u64 (d : Nat)]) ∧ Below w.heap.size w w' := by
  go_enter Try.func58, Try.ntmps58
  go_wp2
  exact bodyPost_ret (by simp [results, Try.results58, go_sem]) rfl ⟨rfl, below2 _ _ _⟩
set_option maxHeartbeats 1000000 in
theorem rwith_at3 (a b c d v x : Nat) (w : World) (hq : (x : Int) / 64 = 3) (hv : bits .or .u64 (d : Int) (IntKind.u64.wrap (2 ^ (x % 64))) = (v : Nat)) :
    Calls Try.prog 58 #[.agg #[.int .u64 (a : Nat), .int .u64 (b : Nat), .int .u64 (c : Nat), .int .u64 (d : Nat)], .int .u8 (x : Nat)] w fun e w' => e = .returned (.agg #[.int .u64 (a : Nat), .int .u64 (b : Nat), .int .u64 (c : Nat), .int .u64 (v : Nat)]) ∧ Below w.heap.size w w' := by
  go_enter Try.func58, Try.ntmps58
  go_wp2
  exact bodyPost_ret (by simp [results, Try.results58, go_sem]) rfl ⟨rfl, below2 _ _ _⟩
/-- rwith: one byte more. -/
theorem rwith_c {P : Nat → Bool} {a b c d : Nat} (h : C4 P a b c d) (x : Nat) (w : World) (hx : x < 256) : Calls Try.prog 58 #[.agg #[.int .u64 (a : Nat), .int .u64 (b : Nat), .int .u64 (c : Nat), .int .u64 (d : Nat)], .int .u8 (x : Nat)] w (RetC w (ins P x)) := by
  have hq : x / 64 = 0 ∨ x / 64 = 1 ∨ x / 64 = 2 ∨ x / 64 = 3 := by omega
  rcases hq with hq | hq | hq | hq
  · exact (rwith_at0 a b c d _ x w (by omega) (or_one _ _ h.la)).mono fun e w' ⟨he, hb⟩ => ⟨⟨_, _, _, _, he, h.ins0 hq⟩, hb⟩
  · exact (rwith_at1 a b c d _ x w (by omega) (or_one _ _ h.lb)).mono fun e w' ⟨he, hb⟩ => ⟨⟨_, _, _, _, he, h.ins1 hq⟩, hb⟩
  · exact (rwith_at2 a b c d _ x w (by omega) (or_one _ _ h.lc)).mono fun e w' ⟨he, hb⟩ => ⟨⟨_, _, _, _, he, h.ins2 hq⟩, hb⟩
  · exact (rwith_at3 a b c d _ x w (by omega) (or_one _ _ h.ld)).mono fun e w' ⟨he, hb⟩ => ⟨⟨_, _, _, _, he, h.ins3 hq⟩, hb⟩
set_option maxHeartbeats 2000000 in
theorem rnot_walk (a b c d a' b' c' d' : Nat) (w : World) (ha : bits BinOp.xor IntKind.u64 (if IntKind.u64.signed = true then -1 else IntKind.u64.max) (a : Int) = (a' : Nat)) (hb : bits BinOp.xor IntKind.u64 (if IntKind.u64.signed = true then -1 else IntKind.u64.max) (b : Int) = (b' : Nat)) (hc : bits BinOp.xor IntKind.u64 (if IntKind.u64.signed = true then -1 else IntKind.u64.max) (c : Int) = (c' : Nat)) (hd : bits BinOp.xor IntKind.u64 (if IntKind.u64.signed = true then -1 else IntKind.u64.max) (d : Int) = (d' : Nat)) :
    Calls Try.prog 33 #[.agg #[.int .u64 (a : Nat), .int .u64 (b : Nat), .int .u64 (c : Nat), .int .u64 (d : Nat)]] w fun e w' => e = .returned (.agg #[.int .u64 (a' : Nat), .int .u64 (b' : Nat), .int .u64 (c' : Nat), .int .u64 (d' : Nat)]) ∧ Below w.heap.size w w' := by
  go_enter Try.func33, Try.ntmps33
  go_wp2
  go_loopw [3] (fun i wr => ∃ p q r s : Nat, wr = (w.alloc (.cells #[.int .u64 (p : Nat), .int .u64 (q : Nat), .int .u64 (r : Nat), .int .u64 (s : Nat)] 40)).alloc (.cells #[.int .u64 0, .int .u64 0, .int .u64 0, .int .u64 0] 40) ∧ ((i = .int .i64 0 ∧ p = a ∧ q = b ∧ r = c ∧ s = d) ∨ (i = .int .i64 1 ∧ p = a' ∧ q = b ∧ r = c ∧ s = d) ∨ (i = .int .i64 2 ∧ p = a' ∧ q = b' ∧ r = c ∧ s = d) ∨ (i = .int .i64 3 ∧ p = a' ∧ q = b' ∧ r = c' ∧ s = d) ∨ (i = .int .i64 4 ∧ p = a' ∧ q = b' ∧ r = c' ∧ s = d'))) (fun i _ => 4 - (intOf i).toNat)
  case atStart => exact ⟨a, b, c, d, rfl, .inl ⟨rfl, rfl, rfl, rfl, rfl⟩⟩
  case round =>
    obtain ⟨p, q, r, s, rfl, h⟩ := hrel
    rcases h with ⟨rfl, rfl, rfl, rfl, rfl⟩ | ⟨rfl, rfl, rfl, rfl, rfl⟩ | ⟨rfl, rfl, rfl, rfl, rfl⟩ | ⟨rfl, rfl, rfl, rfl, rfl⟩ | ⟨rfl, rfl, rfl, rfl, rfl⟩
    · go_wp2
      go_roundw
      case rel => exact ⟨_, _, _, _, rfl, .inr (.inl ⟨rfl, rfl, rfl, rfl, rfl⟩)⟩
      case measure => decide
    · go_wp2
      go_roundw
      case rel => exact ⟨_, _, _, _, rfl, .inr (.inr (.inl ⟨rfl, rfl, rfl, rfl, rfl⟩))⟩
      case measure => decide
    · go_wp2
      go_roundw
      case rel => exact ⟨_, _, _, _, rfl, .inr (.inr (.inr (.inl ⟨rfl, rfl, rfl, rfl, rfl⟩)))⟩
      case measure => decide
    · go_wp2
      go_roundw
      case rel => exact ⟨_, _, _, _, rfl, .inr (.inr (.inr (.inr ⟨rfl, rfl, rfl, rfl, rfl⟩)))⟩
      case measure => decide
    · go_wp2
      exact bodyPost_ret (v := .agg #[.int .u64 (p : Nat), .int .u64 (q : Nat), .int .u64 (r : Nat), .int .u64 (s : Nat)]) (by simp [results, Try.results33, go_sem]) rfl ⟨rfl, below2 _ _ _⟩
/-- rnot. -/
theorem rnot_c {P : Nat → Bool} {a b c d : Nat} (h : C4 P a b c d) (w : World) : Calls Try.prog 33 #[.agg #[.int .u64 (a : Nat), .int .u64 (b : Nat), .int .u64 (c : Nat), .int .u64 (d : Nat)]] w (RetC w fun x => !P x) := by
  exact (rnot_walk a b c d _ _ _ _ w (not_val h.la) (not_val h.lb) (not_val h.lc) (not_val h.ld)).mono fun e w' ⟨he, hb⟩ => ⟨⟨_, _, _, _, he, h.not⟩, hb⟩
set_option maxRecDepth 10000 in
set_option maxHeartbeats 1000000 in
theorem rrange_any (lo hi : Nat) (w : World) (hl : lo < 256) (hh : hi < 256) :
    Calls Try.prog 59 #[.int .u8 (lo : Nat), .int .u8 (hi : Nat)] w (RetC w (rg lo (hi + 1 - lo))) := by
  have hW0 := Way.start w
  rw [← rg_zero lo] at hW0
  go_enter Try.func59, Try.ntmps59
  go_wp2
  go_loopw [6] (fun i wr => ∃ k : Nat, k ≤ hi + 1 - lo ∧ i = .int .i64 ((lo + k : Nat) : Int) ∧ Way w (rg lo k) wr) (fun i _ => hi + 1 - (intOf i).toNat)
  case atStart => exact ⟨0, by omega, rfl, hW0⟩
  case round =>
    obtain ⟨k, hk, rfl, hW⟩ := hrel
    obtain ⟨a, b, c, d, h4, hx⟩ := hW.ex
    obtain ⟨c0, c1, c2, c3, f0, f1, f2, f3⟩ := hx.cells
    by_cases hlt : k < hi + 1 - lo
    · have hw := rwith_c h4 (lo + k) wr (by omega)
      rw [← rg_succ] at hw
      obtain ⟨q, hq⟩ : ∃ q, q = lo + k := ⟨_, rfl⟩
      rw [← hq] at hw ⊢
      have hki : (q : Int) ≤ (hi : Int) := by omega
      have hq8 : (q : Int) < 256 := by omega
      have HQ : Hid (q = lo + k) := hq
      clear hq
      go_wp2_with (go_at_call 58; refine hw.mono ?_; rintro e w' ⟨⟨a', b', c', d', rfl, h4'⟩, hb'⟩; have hW' := hW.next hb' h4'; obtain ⟨g0, g1, g2, g3, e0, e1, e2, e3⟩ := (hx.below hb').cells)
      have hq := HQ.out
      exact ⟨⟨k + 1, by omega, by rw [hq]; go_num, hW'⟩, by simp [intOf]; omega⟩
    · obtain rfl : k = hi + 1 - lo := by omega
      have hki : ¬ (((lo + (hi + 1 - lo) : Nat) : Int) ≤ (hi : Int)) := by omega
      obtain ⟨p', q', r', s', hy⟩ := hW.res
      obtain ⟨y0, y1, y2, y3, v0, v1, v2, v3⟩ := hy.cells
      obtain ⟨z0, z1, z2, z3, _⟩ := (hy.set (.int .u64 (a : Nat)) (.int .u64 (b : Nat)) (.int .u64 (c : Nat)) (.int .u64 (d : Nat))).cells
      have HW : Hid (Way w (rg lo (hi + 1 - lo)) wr) := hW
      generalize lo + (hi + 1 - lo) = Q at *
      go_wp2
      exact bodyPost_ret (v := .agg #[.int .u64 (a : Nat), .int .u64 (b : Nat), .int .u64 (c : Nat), .int .u64 (d : Nat)]) (by simp [results, Try.results59, go_sem, z0, z1, z2, z3]) rfl ⟨⟨a, b, c, d, rfl, h4⟩, below_put4 HW.out.bel (Nat.le_refl _) _ _ _ _⟩
set_option maxHeartbeats 1000000 in
theorem rfull_any (w : World) : Calls Try.prog 34 #[] w (RetC w (rg 0 256)) := by
  go_enter Try.func34, Try.ntmps34
  go_wp2_with (go_at_call 59; refine (rrange_any 0 255 _ (by decide) (by decide)).mono ?_; rintro e w' ⟨⟨a, b, c, d, rfl, h4⟩, hb⟩; have hb' : Below (w.heap.size + 1) _ w' := (by simpa using hb); have hy := res_cells hb'; obtain ⟨y0, y1, y2, y3, v0, v1, v2, v3⟩ := hy.cells)
  obtain ⟨z0, z1, z2, z3, _⟩ := (hy.set (.int .u64 (a : Nat)) (.int .u64 (b : Nat)) (.int .u64 (c : Nat)) (.int .u64 (d : Nat))).cells
  exact bodyPost_ret (v := .agg #[.int .u64 (a : Nat), .int .u64 (b : Nat), .int .u64 (c : Nat), .int .u64 (d : Nat)]) (by simp [results, Try.results34, go_sem, z0, z1, z2, z3]) rfl (res_put h4 hb')
set_option maxHeartbeats 1000000 in
theorem rdigit_any (w : World) : Calls Try.prog 104 #[] w (RetC w (rg 48 10)) := by
  go_enter Try.func104, Try.ntmps104
  go_wp2_with (go_at_call 59; refine (rrange_any 48 57 _ (by decide) (by decide)).mono ?_; rintro e w' ⟨⟨a, b, c, d, rfl, h4⟩, hb⟩; have hb' : Below (w.heap.size + 1) _ w' := (by simpa using hb); have hy := res_cells hb'; obtain ⟨y0, y1, y2, y3, v0, v1, v2, v3⟩ := hy.cells)
  obtain ⟨z0, z1, z2, z3, _⟩ := (hy.set (.int .u64 (a : Nat)) (.int .u64 (b : Nat)) (.int .u64 (c : Nat)) (.int .u64 (d : Nat))).cells
  exact bodyPost_ret (v := .agg #[.int .u64 (a : Nat), .int .u64 (b : Nat), .int .u64 (c : Nat), .int .u64 (d : Nat)]) (by simp [results, Try.results104, go_sem, z0, z1, z2, z3]) rfl (res_put h4 hb')
set_option maxRecDepth 10000 in
set_option maxHeartbeats 1000000 in
theorem rof_any (ao : Option Addr) (len cap : Nat) (z : Nat → Nat) (w : World) (hr : Rd w ao len z) (hl : (len : Int) ≤ 9223372036854775807) :
    Calls Try.prog 32 #[.slice ao len cap] w (RetC w (ofN z len)) := by
  have hW0 := Way.start w
  go_enter Try.func32, Try.ntmps32
  go_wp2
  go_loopw [4] (fun i wr => ∃ k : Nat, k ≤ len ∧ i = .int .i64 (k : Nat) ∧ Way w (ofN z k) wr) (fun i _ => len - (intOf i).toNat)
  case atStart => exact ⟨0, by omega, rfl, hW0⟩
  case round =>
    obtain ⟨k, hk, rfl, hW⟩ := hrel
    by_cases hlt : k < len
    · obtain ⟨bb, off, rfl, hbb, hc⟩ := hr.at_ (by omega)
      have hki : (k : Int) < (len : Int) := by omega
      have hk0 : (0 : Int) ≤ (k : Int) := by omega
      have hzk := hr.small k hlt
      go_wp2_with fail
      replace hW := hW.drew
      obtain ⟨a, b, c, d, h4, hx⟩ := hW.ex
      obtain ⟨c0, c1, c2, c3, f0, f1, f2, f3⟩ := hx.cells
      have t1 : wr.drew.cell? ⟨bb, off + k, none⟩ = some (.int .u8 (z k : Nat)) := by rw [hW.bel.cell (p := ⟨bb, off + k, none⟩) hbb]; exact hc k hlt
      have hw := rwith_c h4 (z k) wr.drew hzk
      have HI : Hid (ins (ofN z k) (z k) = ofN z (k + 1)) := rfl
      clear hc
      generalize hv : z k = v at *
      go_region_with (first | (go_at_call 58; refine hw.mono ?_; rintro e w' ⟨⟨a', b', c', d', rfl, h4'⟩, hb'⟩; have hW' := hW.next hb' h4'; obtain ⟨g0, g1, g2, g3, e0, e1, e2, e3⟩ := (hx.below hb').cells))
      all_goals go_wp2
      all_goals exact ⟨⟨k + 1, by omega, by go_num, by rw [← HI.out]; exact hW'⟩, by simp [intOf]; omega⟩
    · obtain rfl : k = len := by omega
      obtain ⟨a, b, c, d, h4, hx⟩ := hW.ex
      obtain ⟨c0, c1, c2, c3, f0, f1, f2, f3⟩ := hx.cells
      obtain ⟨p', q', r', s', hy⟩ := hW.res
      obtain ⟨y0, y1, y2, y3, v0, v1, v2, v3⟩ := hy.cells
      obtain ⟨z0, z1, z2, z3, _⟩ := (hy.set (.int .u64 (a : Nat)) (.int .u64 (b : Nat)) (.int .u64 (c : Nat)) (.int .u64 (d : Nat))).cells
      go_wp2
      exact bodyPost_ret (v := .agg #[.int .u64 (a : Nat), .int .u64 (b : Nat), .int .u64 (c : Nat), .int .u64 (d : Nat)]) (by simp [results, Try.results32, go_sem, z0, z1, z2, z3]) rfl ⟨⟨a, b, c, d, rfl, h4⟩, below_put4 hW.bel (Nat.le_refl _) _ _ _ _⟩
set_option maxRecDepth 10000 in
set_option maxHeartbeats 2000000 in
theorem runion_any (ao : Option Addr) (len cap : Nat) (F : Nat → Nat → Nat) (Ps : Nat → Nat → Bool) (w : World) (hr : RdC w ao len F) (hC : ∀ i, i < len → C4 (Ps i) (F i 0) (F i 1) (F i 2) (F i 3)) (hl : (len : Int) ≤ 9223372036854775807) :
    Calls Try.prog 111 #[.slice ao len cap] w (RetC w (unN Ps len)) := by
  have hW0 := Way.start w
  go_enter Try.func111, Try.ntmps111
  go_wp2
  go_loopw [4] (fun i wr => ∃ k : Nat, k ≤ len ∧ i = .int .i64 (k : Nat) ∧ Way w (unN Ps k) wr) (fun i _ => len - (intOf i).toNat)
  case atStart => exact ⟨0, by omega, rfl, hW0⟩
  case round =>
    obtain ⟨k, hk, rfl, hW⟩ := hrel
    obtain ⟨a, b, c, d, h4, hW2⟩ := Way2.of hW
    by_cases hlt : k < len
    · obtain ⟨bb, off, rfl, hbb, hc⟩ := hr.at_ (by omega)
      have hk4 := hC k hlt
      have t0 : w.cell? ⟨bb, off + k * 4, none⟩ = some (.int .u64 (F k 0 : Nat)) := hc k hlt 0 (by decide)
      have t1 : w.cell? ⟨bb, off + k * 4 + 1, none⟩ = some (.int .u64 (F k 1 : Nat)) := hc k hlt 1 (by decide)
      have t2 : w.cell? ⟨bb, off + k * 4 + 2, none⟩ = some (.int .u64 (F k 2 : Nat)) := hc k hlt 2 (by decide)
      have t3 : w.cell? ⟨bb, off + k * 4 + 3, none⟩ = some (.int .u64 (F k 3 : Nat)) := hc k hlt 3 (by decide)
      have hki : (k : Int) < (len : Int) := by omega
      have hk0 : (0 : Int) ≤ (k : Int) := by omega
      clear hc hr hC
      generalize F k 0 = e at *
      generalize F k 1 = f at *
      generalize F k 2 = g at *
      generalize F k 3 = h at *
      have va := u64_or_nat a e h4.la hk4.la
      have vb := u64_or_nat b f h4.lb hk4.lb
      have vc := u64_or_nat c g h4.lc hk4.lc
      have vd := u64_or_nat d h h4.ld hk4.ld
      have HO : Hid (C4 (unN Ps (k + 1)) (a ||| e) (b ||| f) (c ||| g) (d ||| h)) := h4.or hk4
      have HT : Hid (∀ W, Below w.heap.size w W → W.cell? ⟨bb, off + k * 4, none⟩ = some (.int .u64 (e : Nat)) ∧ W.cell? ⟨bb, off + k * 4 + 1, none⟩ = some (.int .u64 (f : Nat)) ∧ W.cell? ⟨bb, off + k * 4 + 2, none⟩ = some (.int .u64 (g : Nat)) ∧ W.cell? ⟨bb, off + k * 4 + 3, none⟩ = some (.int .u64 (h : Nat))) := fun W hb =>
        ⟨by rw [hb.cell (p := ⟨bb, off + k * 4, none⟩) hbb]; exact t0, by rw [hb.cell (p := ⟨bb, off + k * 4 + 1, none⟩) hbb]; exact t1, by rw [hb.cell (p := ⟨bb, off + k * 4 + 2, none⟩) hbb]; exact t2, by rw [hb.cell (p := ⟨bb, off + k * 4 + 3, none⟩) hbb]; exact t3⟩
      clear hW h4 hk4 t0 t1 t2 t3
      go_wp2
      go_loopw [5] (fun i wv => ∃ p q r s : Nat, Way2 w p q r s wv ∧ ((i = .int .i64 0 ∧ p = a ∧ q = b ∧ r = c ∧ s = d) ∨ (i = .int .i64 1 ∧ p = a ||| e ∧ q = b ∧ r = c ∧ s = d) ∨ (i = .int .i64 2 ∧ p = a ||| e ∧ q = b ||| f ∧ r = c ∧ s = d) ∨
        (i = .int .i64 3 ∧ p = a ||| e ∧ q = b ||| f ∧ r = c ||| g ∧ s = d) ∨ (i = .int .i64 4 ∧ p = a ||| e ∧ q = b ||| f ∧ r = c ||| g ∧ s = d ||| h))) (fun i _ => 4 - (intOf i).toNat)
      case atStart => exact ⟨a, b, c, d, hW2, .inl ⟨rfl, rfl, rfl, rfl, rfl⟩⟩
      case round =>
        obtain ⟨p, q, r, s, hV0, hh⟩ := hrel
        have hV := hV0.drew
        obtain ⟨c0, c1, c2, c3, f0, f1, f2, f3⟩ := hV.ex.cells
        obtain ⟨t0, t1, t2, t3⟩ := HT.out _ hV.bel
        rcases hh with ⟨rfl, rfl, rfl, rfl, rfl⟩ | ⟨rfl, rfl, rfl, rfl, rfl⟩ | ⟨rfl, rfl, rfl, rfl, rfl⟩ | ⟨rfl, rfl, rfl, rfl, rfl⟩ | ⟨rfl, rfl, rfl, rfl, rfl⟩
        · have hV' := (hV0.set0 (p ||| e)).drew
          go_wp2_with fail
          go_region
          go_wp2
          exact ⟨⟨_, _, _, _, hV', .inr (.inl ⟨rfl, rfl, rfl, rfl, rfl⟩)⟩, by decide⟩
        · have hV' := (hV0.set1 (q ||| f)).drew
          go_wp2_with fail
          go_region
          go_wp2
          exact ⟨⟨_, _, _, _, hV', .inr (.inr (.inl ⟨rfl, rfl, rfl, rfl, rfl⟩))⟩, by decide⟩
        · have hV' := (hV0.set2 (r ||| g)).drew
          go_wp2_with fail
          go_region
          go_wp2
          exact ⟨⟨_, _, _, _, hV', .inr (.inr (.inr (.inl ⟨rfl, rfl, rfl, rfl, rfl⟩)))⟩, by decide⟩
        · have hV' := (hV0.set3 (s ||| h)).drew
          go_wp2_with fail
          go_region
          go_wp2
          exact ⟨⟨_, _, _, _, hV', .inr (.inr (.inr (.inr ⟨rfl, rfl, rfl, rfl, rfl⟩)))⟩, by decide⟩
        · have hV' : Way w (unN Ps (k + 1)) wr := hV0.way HO.out
          go_wp2
          exact ⟨⟨k + 1, by omega, by go_num, hV'⟩, by simp [intOf]; omega⟩
    · obtain rfl : k = len := by omega
      obtain ⟨p', q', r', s', hy⟩ := hW.res
      obtain ⟨c0, c1, c2, c3, f0, f1, f2, f3⟩ := hW2.ex.cells
      obtain ⟨y0, y1, y2, y3, v0, v1, v2, v3⟩ := hy.cells
      obtain ⟨z0, z1, z2, z3, _⟩ := (hy.set (.int .u64 (a : Nat)) (.int .u64 (b : Nat)) (.int .u64 (c : Nat)) (.int .u64 (d : Nat))).cells
      go_wp2
      exact bodyPost_ret (v := .agg #[.int .u64 (a : Nat), .int .u64 (b : Nat), .int .u64 (c : Nat), .int .u64 (d : Nat)]) (by simp [results, Try.results111, go_sem, z0, z1, z2, z3]) rfl ⟨⟨a, b, c, d, rfl, h4⟩, below_put4 hW.bel (Nat.le_refl _) _ _ _ _⟩
set_option maxHeartbeats 2000000 in
theorem rword_any (w : World) : Calls Try.prog 105 #[] w (RetC w wordP) := by
  have t : Below (w.heap.size + 1) (w.alloc (.cells #[.int .u64 0, .int .u64 0, .int .u64 0, .int .u64 0] 40)) (w.alloc (.cells #[.int .u64 0, .int .u64 0, .int .u64 0, .int .u64 0] 40)) := Below.refl _ _
  go_enter Try.func105, Try.ntmps105
  go_wp2_with fail
  refine (rrange_any 97 122 _ (by decide) (by decide)).mono ?_
  rintro e w0 ⟨⟨a0, b0, c0, d0, rfl, h0⟩, q⟩
  replace t := t.trans (q.mono (by simp))
  clear q
  go_wp2_with fail
  refine (rrange_any 65 90 _ (by decide) (by decide)).mono ?_
  rintro e w1 ⟨⟨a1, b1, c1, d1, rfl, h1⟩, q⟩
  replace t := t.trans (q.mono (by have := t.size; simpa using this))
  clear q
  go_wp2_with fail
  refine (rdigit_any _).mono ?_
  rintro e w2 ⟨⟨a2, b2, c2, d2, rfl, h2⟩, q⟩
  replace t := t.trans (q.mono (by have := t.size; simpa using this))
  clear q
  go_wp2_with fail
  refine (rof_any _ 1 1 (fun _ => 95) _ (rd_one w2 95 (by decide)) (by decide)).mono ?_
  rintro e w3 ⟨⟨a3, b3, c3, d3, rfl, h3⟩, q⟩
  replace t := (t.alloc (by have := t.size; simpa using this) _).trans (q.mono (by have := t.size; simp at this; simp; omega))
  clear q
  go_wp2_with fail
  refine (runion_any _ 4 4 _ (fun i => if i = 0 then rg 97 26 else if i = 1 then rg 65 26 else if i = 2 then rg 48 10 else ofN (fun _ => 95) 1) _ (rdc_four w3 a0 b0 c0 d0 a1 b1 c1 d1 a2 b2 c2 d2 a3 b3 c3 d3) (fun i hi => ?_) (by decide)).mono ?_
  · have hi4 : i = 0 ∨ i = 1 ∨ i = 2 ∨ i = 3 := by omega
    rcases hi4 with rfl | rfl | rfl | rfl
    · exact h0
    · exact h1
    · exact h2
    · exact h3
  rintro e w4 ⟨⟨a, b, c, d, rfl, h4⟩, q⟩
  replace t := (t.alloc (by have := t.size; simpa using this) _).trans (q.mono (by have := t.size; simp at this; simp; omega))
  clear q h0 h1 h2 h3
  have hy := res_cells t
  obtain ⟨y0, y1, y2, y3, v0, v1, v2, v3⟩ := hy.cells
  obtain ⟨z0, z1, z2, z3, _⟩ := (hy.set (.int .u64 (a : Nat)) (.int .u64 (b : Nat)) (.int .u64 (c : Nat)) (.int .u64 (d : Nat))).cells
  go_wp2
  exact bodyPost_ret (v := .agg #[.int .u64 (a : Nat), .int .u64 (b : Nat), .int .u64 (c : Nat), .int .u64 (d : Nat)]) (by simp [results, Try.results105, go_sem, z0, z1, z2, z3]) rfl (res_put h4 t)
set_option maxHeartbeats 2000000 in
theorem rspace_any (w : World) : Calls Try.prog 106 #[] w (RetC w spaceP) := by
  have t : Below (w.heap.size + 1) (w.alloc (.cells #[.int .u64 0, .int .u64 0, .int .u64 0, .int .u64 0] 40)) (w.alloc (.cells #[.int .u64 0, .int .u64 0, .int .u64 0, .int .u64 0] 40)) := Below.refl _ _
  go_enter Try.func106, Try.ntmps106
  go_wp2_with fail
  refine (rrange_any 9 13 _ (by decide) (by decide)).mono ?_
  rintro e w0 ⟨⟨a0, b0, c0, d0, rfl, h0⟩, q⟩
  replace t := t.trans (q.mono (by simp))
  clear q
  go_wp2_with fail
  refine (rwith_c h0 32 _ (by decide)).mono ?_
  rintro e w1 ⟨⟨a, b, c, d, rfl, h4⟩, q⟩
  replace t := t.trans (q.mono (by have := t.size; simpa using this))
  clear q
  rw [show ins (rg 9 (13 + 1 - 9)) 32 = spaceP from space_ins] at h4
  have hy := res_cells t
  obtain ⟨y0, y1, y2, y3, v0, v1, v2, v3⟩ := hy.cells
  obtain ⟨z0, z1, z2, z3, _⟩ := (hy.set (.int .u64 (a : Nat)) (.int .u64 (b : Nat)) (.int .u64 (c : Nat)) (.int .u64 (d : Nat))).cells
  go_wp2
  exact bodyPost_ret (v := .agg #[.int .u64 (a : Nat), .int .u64 (b : Nat), .int .u64 (c : Nat), .int .u64 (d : Nat)]) (by simp [results, Try.results106, go_sem, z0, z1, z2, z3]) rfl (res_put h4 t)
end Go.Proofs.Ytlmmiicibjfcdaa.X
