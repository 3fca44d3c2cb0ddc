/- Letters: small, folds, great, Class, Is and the reference's: the walks. The reference's Class, Is: the walks. Letter: the walk. -/
import Derived.Test.YthbmfnibgjlkhaaDoorKb
import Derived.Test.YthbmfnibgjlkhaaDoorTail
import Derived.Deep.RegionWith
import Derived.Deep.DeepCutAuto
import Derived.Deep.RegionHeld3
namespace Go.Proofs.YthbmfnibgjlkhaaDoor
open Go.RowKit K
/-- A small letter. -/
def smB (b : Nat) : Bool := decide (97 ≤ b) && decide (b ≤ 122)
/-- The bytes of a letter. -/
def clP (b : Nat) (f : Bool) : Nat → Bool := fun x => x == b || (f && smB b && x == b - 32)
theorem ofN_iff' (z : Nat → Nat) (n b : Nat) : ofN z n b = true ↔ ∃ i, i < n ∧ z i = b := by
  induction n with
  | zero => simp [ofN]
  | succ k ih =>
    simp only [ofN, ins, Bool.or_eq_true, beq_iff_eq, ih]
    constructor
    · rintro (⟨i, hi, h⟩ | h)
      · exact ⟨i, by omega, h⟩
      · exact ⟨k, by omega, h.symm⟩
    · rintro ⟨i, hi, h⟩
      by_cases hk : i = k
      · subst hk; exact .inr h.symm
      · exact .inl ⟨i, by omega, h⟩
theorem clP_ofN1 (b : Nat) (f : Bool) (z : Nat → Nat) (hz : z 0 = b) (h : (f && smB b) = false) : ofN z 1 = clP b f := by
  funext x
  rw [Bool.eq_iff_iff, ofN_iff']
  unfold clP
  rw [h]
  simp only [Bool.false_and, Bool.or_false, beq_iff_eq]
  constructor
  · rintro ⟨i, hi, rfl⟩
    obtain rfl : i = 0 := by omega
    exact hz
  · rintro rfl
    exact ⟨0, by omega, hz⟩
theorem clP_ofN2 (b : Nat) (f : Bool) (z : Nat → Nat) (hz : z 0 = b) (h1 : z 1 = b - 32) (h : (f && smB b) = true) : ofN z 2 = clP b f := by
  funext x
  rw [Bool.eq_iff_iff, ofN_iff']
  unfold clP
  rw [h]
  simp only [Bool.true_and, Bool.or_eq_true, beq_iff_eq]
  constructor
  · rintro ⟨i, hi, rfl⟩
    have : i = 0 ∨ i = 1 := by omega
    rcases this with rfl | rfl
    · exact .inl hz
    · exact .inr h1
  · rintro (rfl | rfl)
    · exact ⟨0, by omega, hz⟩
    · exact ⟨1, by omega, h1⟩
theorem ins_clP (b : Nat) (f : Bool) : ins (fun _ => false) b = clP b f ∨ (f && smB b) = true := by
  by_cases h : (f && smB b) = true
  · exact .inr h
  · left
    funext x
    unfold ins clP
    simp [Bool.not_eq_true _ ▸ h]
set_option maxHeartbeats 400000 in
theorem small_any (b : Nat) (w : World) (hb : b < 256) : Calls Tryd.prog 36 #[.int .u8 (b : Nat)] w fun e w' => e = .returned (.bool (smB b)) ∧ w' = w := by
  by_cases h1 : 97 ≤ b
  · have i1 : (97 : Int) ≤ (b : Int) := by omega
    by_cases h2 : b ≤ 122
    · have i2 : (b : Int) ≤ 122 := by omega
      have e : smB b = true := by simp [smB, h1, h2]
      rw [e]
      clear e
      go_enter Tryd.func36, Tryd.ntmps36
      go_wp2
      go_ret
      exact ⟨rfl, rfl⟩
    · have i2 : ¬ (b : Int) ≤ 122 := by omega
      have e : smB b = false := by simp [smB, h2]
      rw [e]
      clear e
      go_enter Tryd.func36, Tryd.ntmps36
      go_wp2
      go_ret
      exact ⟨rfl, rfl⟩
  · have i1 : ¬ (97 : Int) ≤ (b : Int) := by omega
    have e : smB b = false := by simp [smB, h1]
    rw [e]
    clear e
    go_enter Tryd.func36, Tryd.ntmps36
    go_wp2
    go_ret
    exact ⟨rfl, rfl⟩
set_option maxHeartbeats 400000 in
theorem folds_any (b : Nat) (f : Bool) (w : World) (hb : b < 256) : Calls Tryd.prog 37 #[.agg #[.int .u8 (b : Nat), .bool f]] w fun e w' => e = .returned (.bool (f && smB b)) ∧ Below w.heap.size w w' := by
  have hB := below1 w (.cells #[.int .u8 (b : Nat), .bool f] 26)
  cases f
  · go_enter Tryd.func37, Tryd.ntmps37
    go_wp2
    go_ret
    exact ⟨rfl, hB⟩
  by_cases h1 : 97 ≤ b
  · have i1 : (97 : Int) ≤ (b : Int) := by omega
    by_cases h2 : b ≤ 122
    · have i2 : (b : Int) ≤ 122 := by omega
      have e : smB b = true := by simp [smB, h1, h2]
      rw [e]
      clear e
      go_enter Tryd.func37, Tryd.ntmps37
      go_wp2
      go_ret
      exact ⟨rfl, hB⟩
    · have i2 : ¬ (b : Int) ≤ 122 := by omega
      have e : smB b = false := by simp [smB, h2]
      rw [e]
      clear e
      go_enter Tryd.func37, Tryd.ntmps37
      go_wp2
      go_ret
      exact ⟨rfl, hB⟩
  · have i1 : ¬ (97 : Int) ≤ (b : Int) := by omega
    have e : smB b = false := by simp [smB, h1]
    rw [e]
    clear e
    go_enter Tryd.func37, Tryd.ntmps37
    go_wp2
    go_ret
    exact ⟨rfl, hB⟩
theorem smB_le {b : Nat} (h : smB b = true) : 97 ≤ b ∧ b ≤ 122 := by
  unfold smB at h
  simpa using h
set_option maxHeartbeats 400000 in
theorem great_any (b : Nat) (f : Bool) (w : World) (hb : smB b = true) : Calls Tryd.prog 39 #[.agg #[.int .u8 (b : Nat), .bool f]] w fun e w' => e = .returned (.int .u8 ((b - 32 : Nat) : Int)) ∧ Below w.heap.size w w' := by
  have hB := below1 w (.cells #[.int .u8 (b : Nat), .bool f] 26)
  obtain ⟨h1, h2⟩ := smB_le hb
  have e : IntKind.u8.wrap ((b : Int) - 32) = ((b - 32 : Nat) : Int) := by
    simp only [IntKind.wrap, IntKind.signed, IntKind.bits, Bool.false_and, Bool.false_eq_true, if_false]
    omega
  go_enter Tryd.func39, Tryd.ntmps39
  go_wp2
  go_ret
  exact ⟨by simp, hB⟩
theorem rd1 (w : World) (b : Nat) (hb : b < 256) : Rd (w.alloc (.cells #[.int .u8 (b : Nat)] 5)) (some ⟨w.heap.size, 0, none⟩) 1 (fun _ => b) := by
  refine ⟨fun _ _ => hb, fun _ => ⟨w.heap.size, 0, rfl, by simp, fun i hi => ?_⟩⟩
  obtain rfl : i = 0 := by omega
  simp
theorem rd2 (w : World) (b c : Nat) (hb : b < 256) (hc : c < 256) : Rd (w.alloc (.cells #[.int .u8 (b : Nat), .int .u8 (c : Nat)] 5)) (some ⟨w.heap.size, 0, none⟩) 2 (fun i => if i = 0 then b else c) := by
  refine ⟨fun i _ => by split <;> assumption, fun _ => ⟨w.heap.size, 0, rfl, by simp, fun i hi => ?_⟩⟩
  have : i = 0 ∨ i = 1 := by omega
  rcases this with rfl | rfl
  · simp
  · simp
/-- The two boxes of a call with a letter that answers a class. -/
structure LB (w : World) (b : Nat) (f : Bool) (W : World) : Prop where
  kl : Cl W w.heap.size 26 [.int .u8 (b : Nat), .bool f]
  kr : ∃ x y z t, Bx W (w.heap.size + 1) x y z t
  bel : Below w.heap.size w W
theorem LB.start (w : World) (b : Nat) (f : Bool) : LB w b f ((w.alloc (.cells #[.int .u8 (b : Nat), .bool f] 26)).alloc (.cells #[.int .u64 0, .int .u64 0, .int .u64 0, .int .u64 0] 24)) :=
  ⟨(Cl.new w 26 [.int .u8 (b : Nat), .bool f]).alloc _, ⟨_, _, _, _, by simpa using Bx.new (w.alloc (.cells #[.int .u8 (b : Nat), .bool f] 26)) (.int .u64 0) (.int .u64 0) (.int .u64 0) (.int .u64 0)⟩, (below1 w _).alloc (by simp) _⟩
theorem LB.below {w : World} {b : Nat} {f : Bool} {W V : World} (h : LB w b f W) (hb : Below W.heap.size W V) : LB w b f V := by
  obtain ⟨x, y, z, t, hy⟩ := h.kr
  exact ⟨h.kl.below hb, ⟨x, y, z, t, hy.below hb⟩, h.bel.trans (hb.mono h.bel.size)⟩
theorem LB.alloc {w : World} {b : Nat} {f : Bool} {W : World} (h : LB w b f W) (o : Obj) : LB w b f (W.alloc o) := h.below ((Below.refl _ _).alloc (Nat.le_refl _) _)
theorem LB.drew {w : World} {b : Nat} {f : Bool} {W : World} (h : LB w b f W) : LB w b f W.drew := by
  obtain ⟨x, y, z, t, hy⟩ := h.kr
  exact ⟨h.kl, ⟨x, y, z, t, hy.drew⟩, h.bel.drew⟩
theorem LB.cells {w : World} {b : Nat} {f : Bool} {W : World} (h : LB w b f W) : W.cell? ⟨w.heap.size, 0, none⟩ = some (.int .u8 (b : Nat)) ∧ W.cell? ⟨w.heap.size, 1, none⟩ = some (.bool f) := ⟨h.kl.cell 0 rfl, h.kl.cell 1 rfl⟩
theorem LB.last {w : World} {b : Nat} {f : Bool} {W : World} (h : LB w b f W) {P : Nat → Bool} {p q r s : Nat} (h4 : C4 P p q r s) : RetC w P (.returned (.agg #[.int .u64 (p : Nat), .int .u64 (q : Nat), .int .u64 (r : Nat), .int .u64 (s : Nat)])) (put4 W (w.heap.size + 1) (.int .u64 (p : Nat)) (.int .u64 (q : Nat)) (.int .u64 (r : Nat)) (.int .u64 (s : Nat))) :=
  ⟨⟨p, q, r, s, rfl, h4⟩, below_put4 h.bel (by omega) _ _ _ _⟩
set_option maxHeartbeats 2000000 in
theorem class_any (b : Nat) (f : Bool) (w : World) (hb : b < 256) : Calls Tryd.prog 10 #[.agg #[.int .u8 (b : Nat), .bool f]] w (RetC w (clP b f)) := by
  have L0 := LB.start w b f
  have HF : Hid (∀ W : World, Calls Tryd.prog 37 #[.agg #[.int .u8 (b : Nat), .bool f]] W fun e w' => e = .returned (.bool (f && smB b)) ∧ Below W.heap.size W w') := fun W => folds_any b f W hb
  cases hs : (f && smB b) with
  | false =>
    rw [hs] at HF
    have HC : Hid (∀ W : World, Calls Tryd.prog 38 #[.slice (some ⟨W.heap.size, 0, none⟩) 1 1] (W.alloc (.cells #[.int .u8 (b : Nat)] 5)) (RetC (W.alloc (.cells #[.int .u8 (b : Nat)] 5)) (clP b f))) := fun W => by
      have := of_any (some ⟨W.heap.size, 0, none⟩) 1 1 (fun _ => b) _ (rd1 W b hb) (by decide)
      rwa [clP_ofN1 b f _ rfl hs] at this
    go_enter Tryd.func10, Tryd.ntmps10
    go_wp2_with (first | (go_at_call 37; refine (HF.out _).mono ?_; rintro e w1 ⟨rfl, hb1⟩; have L1 := L0.below hb1; obtain ⟨c0, c1⟩ := L1.cells) | (go_at_call 38; refine (HC.out _).mono ?_; rintro e w2 ⟨⟨p, q, r, s, rfl, h4⟩, hb2⟩; have L2 := (L1.alloc _).below hb2; obtain ⟨y0, y1, y2, y3, hy⟩ := L2.kr; obtain ⟨_, _, _, _, v0, v1, v2, v3⟩ := hy.cells))
    obtain ⟨z0, z1, z2, z3, _⟩ := (hy.set (.int .u64 (p : Nat)) (.int .u64 (q : Nat)) (.int .u64 (r : Nat)) (.int .u64 (s : Nat))).cells
    exact bodyPost_ret (v := .agg #[.int .u64 (p : Nat), .int .u64 (q : Nat), .int .u64 (r : Nat), .int .u64 (s : Nat)]) (by simp [results, Tryd.results10, go_sem, z0, z1, z2, z3]) rfl (L2.last h4)
  | true =>
    rw [hs] at HF
    have hsm : smB b = true := by simp at hs; exact hs.2
    obtain ⟨hb97, hb122⟩ := smB_le hsm
    have HC : Hid (∀ W : World, Calls Tryd.prog 38 #[.slice (some ⟨W.heap.size, 0, none⟩) 2 2] (W.alloc (.cells #[.int .u8 (b : Nat), .int .u8 ((b - 32 : Nat) : Int)] 5)) (RetC (W.alloc (.cells #[.int .u8 (b : Nat), .int .u8 ((b - 32 : Nat) : Int)] 5)) (clP b f))) := fun W => by
      have := of_any (some ⟨W.heap.size, 0, none⟩) 2 2 _ _ (rd2 W b (b - 32) hb (by omega)) (by decide)
      rwa [clP_ofN2 b f _ rfl rfl hs] at this
    have HG : Hid (∀ W : World, Calls Tryd.prog 39 #[.agg #[.int .u8 (b : Nat), .bool f]] W fun e w' => e = .returned (.int .u8 ((b - 32 : Nat) : Int)) ∧ Below W.heap.size W w') := fun W => great_any b f W hsm
    generalize b - 32 = b2 at *
    go_enter Tryd.func10, Tryd.ntmps10
    go_wp2_with (first | (go_at_call 37; refine (HF.out _).mono ?_; rintro e w1 ⟨rfl, hb1⟩; have L1 := (L0.below hb1); obtain ⟨c0, c1⟩ := L1.cells))
    have LD := L1.drew
    obtain ⟨d0, d1⟩ := LD.cells
    clear c0 c1
    go_region_with (first | (go_at_call 39; refine (HG.out _).mono ?_; rintro e w2 ⟨rfl, hb2⟩; have L2 := LD.below hb2; obtain ⟨e0, e1⟩ := L2.cells) | (go_at_call 38; refine (HC.out _).mono ?_; rintro e w3 ⟨⟨p, q, r, s, rfl, h4⟩, hb3⟩; have L3 := (L2.alloc _).below hb3; obtain ⟨y0, y1, y2, y3, hy⟩ := L3.kr; obtain ⟨_, _, _, _, v0, v1, v2, v3⟩ := hy.cells))
    all_goals go_wp2
    all_goals obtain ⟨z0, z1, z2, z3, _⟩ := (hy.set (.int .u64 (p : Nat)) (.int .u64 (q : Nat)) (.int .u64 (r : Nat)) (.int .u64 (s : Nat))).cells
    all_goals exact bodyPost_ret (v := .agg #[.int .u64 (p : Nat), .int .u64 (q : Nat), .int .u64 (r : Nat), .int .u64 (s : Nat)]) (by simp [results, Tryd.results10, go_sem, z0, z1, z2, z3]) rfl (L3.last h4)
theorem ins_one (b : Nat) (f : Bool) (h : (f && smB b) = false) : ins (fun _ => false) b = clP b f := by
  funext x
  unfold ins clP
  rw [h]
  simp
theorem ins_two (b : Nat) (f : Bool) (h : (f && smB b) = true) : ins (ins (fun _ => false) b) (b - 32) = clP b f := by
  funext x
  unfold ins clP
  rw [h]
  simp
end Go.Proofs.YthbmfnibgjlkhaaDoor
namespace Go.Proofs.YthbmfnibgjlkhaaDoor
open Go.RowKit K
set_option maxHeartbeats 2000000 in
theorem rclass_any (b : Nat) (f : Bool) (w : World) (hb : b < 256) : Calls Tryd.prog 11 #[.agg #[.int .u8 (b : Nat), .bool f]] w (RetC w (clP b f)) := by
  have L0 := LB.start w b f
  have HW : Hid (∀ W : World, Calls Tryd.prog 40 #[.agg #[.int .u64 0, .int .u64 0, .int .u64 0, .int .u64 0], .int .u8 (b : Nat)] W (RetC W (ins (fun _ => false) b))) := fun W => rwith_c c4_none b W hb
  have HS : Hid (∀ W : World, Calls Tryd.prog 36 #[.int .u8 (b : Nat)] W fun e w' => e = .returned (.bool (smB b)) ∧ w' = W) := fun W => small_any b W hb
  obtain ⟨c0, c1⟩ := L0.cells
  go_enter Tryd.func11, Tryd.ntmps11
  go_upto_region 2 with (go_at_call 40; refine (HW.out _).mono ?_; rintro e w1 ⟨⟨p, q, r, s, rfl, h4⟩, hb1⟩; have L1 := L0.below hb1)
  have L2 := L1.alloc (.cells #[.int .u64 (p : Nat), .int .u64 (q : Nat), .int .u64 (r : Nat), .int .u64 (s : Nat)] 24)
  have X2 := Bx.new w1 (.int .u64 (p : Nat)) (.int .u64 (q : Nat)) (.int .u64 (r : Nat)) (.int .u64 (s : Nat))
  have hne : w1.heap.size ≠ w.heap.size + 1 := by
    obtain ⟨_, _, _, _, hy⟩ := L1.kr
    have := hy.lt
    omega
  have hlt1 : w.heap.size + 1 < w1.heap.size := by
    obtain ⟨_, _, _, _, hy⟩ := L1.kr
    exact hy.lt
  clear L0 L1 HW c0 c1
  generalize w1.alloc (.cells #[.int .u64 (p : Nat), .int .u64 (q : Nat), .int .u64 (r : Nat), .int .u64 (s : Nat)] 24) = w2 at *
  generalize w1.heap.size = B at *
  obtain ⟨d0, d1⟩ := L2.cells
  obtain ⟨y0, y1, y2, y3, hy⟩ := L2.kr
  obtain ⟨_, _, _, _, v0, v1, v2, v3⟩ := hy.cells
  obtain ⟨x0, x1, x2, x3, u0, u1, u2, u3⟩ := X2.cells
  cases hs : (f && smB b) with
  | false =>
    rw [ins_one b f hs] at h4
    have HZ := L2.last h4
    obtain ⟨z0, z1, z2, z3, _⟩ := (hy.set (.int .u64 (p : Nat)) (.int .u64 (q : Nat)) (.int .u64 (r : Nat)) (.int .u64 (s : Nat))).cells
    cases f
    · go_wp2
      exact bodyPost_ret (v := .agg #[.int .u64 (p : Nat), .int .u64 (q : Nat), .int .u64 (r : Nat), .int .u64 (s : Nat)]) (by simp [results, Tryd.results11, go_sem, z0, z1, z2, z3]) rfl HZ
    · have hsm : smB b = false := by simpa using hs
      rw [hsm] at HS
      go_wp2_with (go_at_call 36; refine (HS.out _).mono ?_; rintro e w' ⟨rfl, rfl⟩)
      exact bodyPost_ret (v := .agg #[.int .u64 (p : Nat), .int .u64 (q : Nat), .int .u64 (r : Nat), .int .u64 (s : Nat)]) (by simp [results, Tryd.results11, go_sem, z0, z1, z2, z3]) rfl HZ
  | true =>
    obtain ⟨rfl, hsm⟩ : f = true ∧ smB b = true := by simpa using hs
    rw [hsm] at HS
    obtain ⟨hb97, hb122⟩ := smB_le hsm
    have HW2 : Hid (∀ W : World, Calls Tryd.prog 40 #[.agg #[.int .u64 (p : Nat), .int .u64 (q : Nat), .int .u64 (r : Nat), .int .u64 (s : Nat)], .int .u8 ((b - 32 : Nat) : Int)] W (RetC W (clP b true))) := fun W => by
      have := rwith_c h4 (b - 32) W (by omega)
      rwa [ins_two b true hs] at this
    have e : IntKind.u8.wrap ((b : Int) - 32) = ((b - 32 : Nat) : Int) := by
      simp only [IntKind.wrap, IntKind.signed, IntKind.bits, Bool.false_and, Bool.false_eq_true, if_false]
      omega
    generalize b - 32 = b2 at *
    go_wp2_with (first | (go_at_call 36; refine (HS.out _).mono ?_; rintro e w' ⟨rfl, rfl⟩) | (go_at_call 40; refine (HW2.out _).mono ?_; rintro e w3 ⟨⟨p', q', r', s', rfl, h4'⟩, hb3⟩; have L3 := L2.below hb3; have X3 := X2.below hb3; obtain ⟨xx0, xx1, xx2, xx3, uu0, uu1, uu2, uu3⟩ := X3.cells; obtain ⟨ny0, ny1, ny2, ny3, hny⟩ := L3.kr; have X4 := X3.set (.int .u64 (p' : Nat)) (.int .u64 (q' : Nat)) (.int .u64 (r' : Nat)) (.int .u64 (s' : Nat)); have Y4 := hny.others hne (.int .u64 (p' : Nat)) (.int .u64 (q' : Nat)) (.int .u64 (r' : Nat)) (.int .u64 (s' : Nat)); obtain ⟨xa0, xa1, xa2, xa3, _⟩ := X4.cells; obtain ⟨_, _, _, _, ya0, ya1, ya2, ya3⟩ := Y4.cells))
    obtain ⟨z0, z1, z2, z3, _⟩ := (Y4.set (.int .u64 (p' : Nat)) (.int .u64 (q' : Nat)) (.int .u64 (r' : Nat)) (.int .u64 (s' : Nat))).cells
    exact bodyPost_ret (v := .agg #[.int .u64 (p' : Nat), .int .u64 (q' : Nat), .int .u64 (r' : Nat), .int .u64 (s' : Nat)]) (by simp [results, Tryd.results11, go_sem, z0, z1, z2, z3]) rfl ⟨⟨p', q', r', s', rfl, h4'⟩, below_put4 (below_put4 L3.bel (by omega) _ _ _ _) (by omega) _ _ _ _⟩
set_option maxHeartbeats 1000000 in
theorem ris_any (b x : Nat) (f : Bool) (w : World) (hb : b < 256) (hx : x < 256) : Calls Tryd.prog 13 #[.agg #[.int .u8 (b : Nat), .bool f], .int .u8 (x : Nat)] w fun e w' => e = .returned (.bool (clP b f x)) ∧ Below w.heap.size w w' := by
  have hB := below1 w (.cells #[.int .u8 (b : Nat), .bool f] 26)
  have HC : Hid (∀ W : World, Calls Tryd.prog 11 #[.agg #[.int .u8 (b : Nat), .bool f]] W (RetC W (clP b f))) := fun W => rclass_any b f W hb
  have HH : Hid (∀ (p q r s : Nat) (W : World), C4 (clP b f) p q r s → Calls Tryd.prog 41 #[.agg #[.int .u64 (p : Nat), .int .u64 (q : Nat), .int .u64 (r : Nat), .int .u64 (s : Nat)], .int .u8 (x : Nat)] W fun e w' => e = .returned (.bool (clP b f x)) ∧ Below W.heap.size W w') := fun p q r s W h => rhas_c h x W hx
  go_enter Tryd.func13, Tryd.ntmps13
  go_wp2_with (first | (go_at_call 41; refine (HH.out p q r s _ h4).mono ?_; rintro e w2 ⟨rfl, hb2⟩) | (go_at_call 11; refine (HC.out _).mono ?_; rintro e w1 ⟨⟨p, q, r, s, rfl, h4⟩, hb1⟩))
  go_ret
  exact ⟨rfl, (hB.trans (hb1.mono (by simp))).trans (hb2.mono (Nat.le_trans hB.size hb1.size))⟩
set_option maxHeartbeats 1000000 in
theorem is_any (b x : Nat) (f : Bool) (w : World) (hb : b < 256) : Calls Tryd.prog 12 #[.agg #[.int .u8 (b : Nat), .bool f], .int .u8 (x : Nat)] w fun e w' => e = .returned (.bool (clP b f x)) ∧ Below w.heap.size w w' := by
  have hB := below1 w (.cells #[.int .u8 (b : Nat), .bool f] 26)
  have kL := Cl.new w 26 [.int .u8 (b : Nat), .bool f]
  have hd := hB
  by_cases hxb : x = b
  · subst hxb
    have e : clP x f x = true := by simp [clP]
    rw [e]
    clear e
    go_enter Tryd.func12, Tryd.ntmps12
    go_wp2
    go_ret
    exact ⟨rfl, hB⟩
  have hbe : ((x : Int) == (b : Int)) = false := by simp; omega
  have HF : Hid (∀ W : World, Calls Tryd.prog 37 #[.agg #[.int .u8 (b : Nat), .bool f]] W fun e w' => e = .returned (.bool (f && smB b)) ∧ Below W.heap.size W w') := fun W => folds_any b f W hb
  cases hs : (f && smB b) with
  | false =>
    rw [hs] at HF
    have e : clP b f x = false := by simp [clP, hs, hxb]
    rw [e]
    clear e
    go_enter Tryd.func12, Tryd.ntmps12
    go_wp2_with (go_at_call 37; refine (HF.out _).mono ?_; rintro e w1 ⟨rfl, hb1⟩)
    go_ret
    exact ⟨rfl, hB.trans (hb1.mono (by simp))⟩
  | true =>
    rw [hs] at HF
    have hsm : smB b = true := by simp at hs; exact hs.2
    have HG : Hid (∀ W : World, Calls Tryd.prog 39 #[.agg #[.int .u8 (b : Nat), .bool f]] W fun e w' => e = .returned (.int .u8 ((b - 32 : Nat) : Int)) ∧ Below W.heap.size W w') := fun W => great_any b f W hsm
    have e : clP b f x = ((x : Int) == ((b - 32 : Nat) : Int)) := by
      simp only [clP, hs, Bool.true_and]
      rw [show (x == b) = false from by simpa using hxb, Bool.false_or, Bool.eq_iff_iff]
      simp only [beq_iff_eq]
      omega
    rw [e]
    clear e
    generalize b - 32 = b2 at *
    go_enter Tryd.func12, Tryd.ntmps12
    go_wp2_with (first | (go_at_call 39; refine (HG.out _).mono ?_; rintro e w2 ⟨rfl, hb2⟩) | (go_at_call 37; refine (HF.out _).mono ?_; rintro e w1 ⟨rfl, hb1⟩; have k1 := kL.below hb1; have c0 := k1.cell 0 rfl; have c1 := k1.cell 1 rfl))
    go_ret
    exact ⟨rfl, (hB.trans (hb1.mono (by simp))).trans (hb2.mono (Nat.le_trans hB.size hb1.size))⟩
end Go.Proofs.YthbmfnibgjlkhaaDoor
namespace Go.Proofs.YthbmfnibgjlkhaaDoor
open Go.RowKit K
/-- A letter as the document makes one. -/
def Cn (b : Nat) (f : Bool) : Prop := b < 256 ∧ (f = true → smB b = true)
/-- What Letter answers of the bytes P. -/
def LetQ (P : Nat → Bool) (b : Nat) (f ok : Bool) : Prop := (ok = true ∧ Cn b f ∧ eqC (clP b f) P = true) ∨ (ok = false ∧ b = 0 ∧ f = false ∧ ∀ b' f', Cn b' f' → eqC (clP b' f') P = false)
theorem clP_uniq {b b' : Nat} {f f' : Bool} (h : Cn b f) (h' : Cn b' f') (e : ∀ x, x < 256 → clP b f x = clP b' f' x) : b = b' ∧ f = f' := by
  have e1 := e b h.1
  have e2 := e b' h'.1
  have hs : ∀ c g, Cn c g → ∀ x, clP c g x = true ↔ x = c ∨ (g = true ∧ x = c - 32) := by
    intro c g hc x
    unfold clP
    cases g
    · simp
    · simp [hc.2 rfl]
  have k1 := (hs b f h b).2 (.inl rfl)
  rw [e1, hs b' f' h'] at k1
  have k2 := (hs b' f' h' b').2 (.inl rfl)
  rw [← e2, hs b f h] at k2
  have hbb : b = b' := by
    rcases k1 with k1 | ⟨g1, k1⟩
    · exact k1
    rcases k2 with k2 | ⟨g2, k2⟩
    · exact k2.symm
    have := smB_le (h.2 g2)
    have := smB_le (h'.2 g1)
    omega
  subst hbb
  refine ⟨rfl, ?_⟩
  cases f <;> cases f'
  · rfl
  · have hb := smB_le (h'.2 rfl)
    have e3 := e (b - 32) (by have := h.1; omega)
    have k3 := (hs b true h' (b - 32)).2 (.inr ⟨rfl, rfl⟩)
    rw [← e3, hs b false h] at k3
    rcases k3 with k3 | ⟨k3, _⟩
    · omega
    · cases k3
  · have hb := smB_le (h.2 rfl)
    have e3 := e (b - 32) (by have := h.1; omega)
    have k3 := (hs b true h (b - 32)).2 (.inr ⟨rfl, rfl⟩)
    rw [e3, hs b false h'] at k3
    rcases k3 with k3 | ⟨k3, _⟩
    · omega
    · cases k3
  · rfl
theorem LetQ.uniq {P : Nat → Bool} {b b' : Nat} {f f' ok ok' : Bool} (h : LetQ P b f ok) (k : LetQ P b' f' ok') : b = b' ∧ f = f' ∧ ok = ok' := by
  rcases h with ⟨rfl, hc, he⟩ | ⟨rfl, rfl, rfl, hn⟩ <;> rcases k with ⟨rfl, kc, ke⟩ | ⟨rfl, rfl, rfl, kn⟩
  · obtain ⟨e1, e2⟩ := clP_uniq hc kc fun x hx => by rw [(eqC_iff _ _).1 he x hx, (eqC_iff _ _).1 ke x hx]
    exact ⟨e1, e2, rfl⟩
  · rw [kn _ _ hc] at he; cases he
  · rw [hn _ _ kc] at ke; cases ke
  · exact ⟨rfl, rfl, rfl⟩
theorem or32 : ∀ k, k < 26 → (65 + k) ||| 32 = 97 + k := by decide
/-- What the two tries come to. -/
theorem letQ_of {P : Nat → Bool} {k : Nat} (hk : k < 256) (hm : (P k = true ∧ ∀ j, j < k → P j = false) ∨ (k = 0 ∧ ∀ j, j < 256 → P j = false)) :
    (eqC (clP k false) P = true → LetQ P k false true) ∧ (eqC (clP k false) P = false → eqC (clP (k ||| 32) true) P = true → LetQ P (k ||| 32) true true) ∧ (eqC (clP k false) P = false → eqC (clP (k ||| 32) true) P = false → LetQ P 0 false false) := by
  have h32 : k ||| 32 < 256 := Nat.or_lt_two_pow (n := 8) hk (by decide)
  have hle : k ≤ k ||| 32 := Nat.left_le_or
  refine ⟨fun h => .inl ⟨rfl, ⟨hk, fun h => (by cases h)⟩, h⟩, fun h0 h1 => .inl ⟨rfl, ⟨h32, fun _ => ?_⟩, h1⟩, fun h0 h1 => .inr ⟨rfl, rfl, rfl, fun b' f' hc => ?_⟩⟩
  · cases hs : smB (k ||| 32) with
    | true => rfl
    | false =>
      have e : clP (k ||| 32) true = clP (k ||| 32) false := by funext x; simp [clP, hs]
      rw [e] at h1
      have h1' := (eqC_iff _ _).1 h1
      have hP : P (k ||| 32) = true := by rw [← h1' _ h32]; simp [clP]
      rcases hm with ⟨hm1, hm2⟩ | ⟨_, hm2⟩
      · have hk' := h1' k hk
        rw [hm1] at hk'
        have : k = k ||| 32 := by simpa [clP] using hk'
        rw [← this] at h1
        rw [h1] at h0
        cases h0
      · rw [hm2 _ h32] at hP; cases hP
  · cases he : eqC (clP b' f') P with
    | false => rfl
    | true =>
      exfalso
      have he' := (eqC_iff _ _).1 he
      have hP : P b' = true := by rw [← he' _ hc.1]; simp [clP]
      rcases hm with ⟨hm1, hm2⟩ | ⟨_, hm2⟩
      · have hk' := he' k hk
        rw [hm1] at hk'
        cases f' with
        | false =>
          have : k = b' := by simpa [clP] using hk'
          rw [this, he] at h0
          cases h0
        | true =>
          have hs := hc.2 rfl
          obtain ⟨l1, l2⟩ := smB_le hs
          have h3 : k = b' ∨ k = b' - 32 := by simpa [clP, hs] using hk'
          have hPg : P (b' - 32) = true := by rw [← he' _ (by have := hc.1; omega)]; simp [clP, hs]
          have hkb : k = b' - 32 := by
            rcases h3 with h3 | h3
            · have := hm2 (b' - 32) (by omega)
              rw [hPg] at this
              cases this
            · exact h3
          have : k ||| 32 = b' := by
            have := or32 (b' - 97) (by omega)
            rw [hkb, show b' - 32 = 65 + (b' - 97) by omega, this]
            omega
          rw [this, he] at h1
          cases h1
      · rw [hm2 _ hc.1] at hP; cases hP
theorem eqlC {P Q : Nat → Bool} {a b c d a' b' c' d' : Nat} (h : C4 P a b c d) (k : C4 Q a' b' c' d') (w : World) : (Go.binOp .eql 24 (.agg #[.int .u64 (a : Nat), .int .u64 (b : Nat), .int .u64 (c : Nat), .int .u64 (d : Nat)]) (.agg #[.int .u64 (a' : Nat), .int .u64 (b' : Nat), .int .u64 (c' : Nat), .int .u64 (d' : Nat)])).run Tryd.prog w = .ok (.bool (eqC P Q)) w := by
  rw [eql4, eq4_iff h k]
/-- What Letter returns. -/
def RetLt (w : World) (P : Nat → Bool) (e : Ending) (w' : World) : Prop := (∃ (b : Nat) (f ok : Bool), e = .returned (.tuple #[.agg #[.int .u8 (b : Nat), .bool f], .bool ok]) ∧ LetQ P b f ok) ∧ Below w.heap.size w w'
end Go.Proofs.YthbmfnibgjlkhaaDoor
