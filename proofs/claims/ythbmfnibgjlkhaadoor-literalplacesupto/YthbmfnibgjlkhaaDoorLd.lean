/- Letter: the walk. -/
import Derived.Test.YthbmfnibgjlkhaaDoorGLaLbLc
import Derived.Laws.BitsAllLaws
import Derived.Deep.DeepCutAuto
import Derived.Deep.RegionHeld3
namespace Go.Proofs.YthbmfnibgjlkhaaDoor
open Go.RowKit K
theorem u8_or32 (k : Nat) (hk : k < 256) : bits .or .u8 (k : Int) 32 = ((k ||| 32 : Nat) : Int) := by
  rw [u8_or _ _ (by omega) (by omega) (by decide) (by decide)]
  rfl
set_option maxRecDepth 10000 in
set_option maxHeartbeats 2000000 in
theorem letter_any {P : Nat → Bool} {a b c d : Nat} (h4 : C4 P a b c d) (w : World) (hT : Tab w) : Calls Tryd.prog 8 #[.agg #[.int .u64 (a : Nat), .int .u64 (b : Nat), .int .u64 (c : Nat), .int .u64 (d : Nat)]] w (RetLt w P) := by
  have hB := (below1 w (.cells #[.int .u64 (a : Nat), .int .u64 (b : Nat), .int .u64 (c : Nat), .int .u64 (d : Nat)] 24)).alloc (by simp) (.cells #[.int .u8 0, .bool false] 26)
  have X0 := (Bx.new w (.int .u64 (a : Nat)) (.int .u64 (b : Nat)) (.int .u64 (c : Nat)) (.int .u64 (d : Nat))).alloc (.cells #[.int .u8 0, .bool false] 26)
  have R0 : Cl ((w.alloc (.cells #[.int .u64 (a : Nat), .int .u64 (b : Nat), .int .u64 (c : Nat), .int .u64 (d : Nat)] 24)).alloc (.cells #[.int .u8 0, .bool false] 26)) (w.heap.size + 1) 26 [.int .u8 0, .bool false] := by
    have := Cl.new (w.alloc (.cells #[.int .u64 (a : Nat), .int .u64 (b : Nat), .int .u64 (c : Nat), .int .u64 (d : Nat)] 24)) 26 [.int .u8 0, .bool false]
    simpa only [World.size_alloc] using this
  have hF := first_c h4 _ (hT.below hB)
  go_enter Tryd.func8, Tryd.ntmps8
  go_upto_region 2 with (go_at_call 35; refine hF.mono ?_; rintro e w1 ⟨hr, hb1⟩; obtain ⟨k, ok, hk, rfl, hm⟩ : ∃ (k : Nat) (ok : Bool), k < 256 ∧ e = .returned (.tuple #[.int .u8 (k : Nat), .bool ok]) ∧ ((P k = true ∧ ∀ j, j < k → P j = false) ∨ (k = 0 ∧ ∀ j, j < 256 → P j = false)) := (by rcases hr with ⟨k, hk, e1, e2, e3⟩ | ⟨e1, e2⟩; exact ⟨k, true, hk, e1, .inl ⟨e2, e3⟩⟩; exact ⟨0, false, by decide, e1, .inr ⟨rfl, e2⟩⟩))
  have X1 := X0.below hb1
  have R1 := R0.below hb1
  have hB1 := hB.trans (hb1.mono (by simp; omega))
  have ho := u8_or32 k hk
  obtain ⟨q1, q2, q3⟩ := letQ_of hk hm
  have h32 : k ||| 32 < 256 := Nat.or_lt_two_pow (n := 8) hk (by decide)
  clear hF hb1 hB X0 R0 hm hr hT
  have HC0 : Hid (∀ W : World, Calls Tryd.prog 10 #[.agg #[.int .u8 (k : Nat), .bool false]] W (RetC W (clP k false))) := fun W => class_any k false W hk
  have HC1 : Hid (∀ W : World, Calls Tryd.prog 10 #[.agg #[.int .u8 ((k ||| 32 : Nat) : Int), .bool true]] W (RetC W (clP (k ||| 32) true))) := fun W => class_any (k ||| 32) true W h32
  generalize k ||| 32 = k2 at *
  go_wp2_with fail
  have X2 := X1.alloc (.cells #[.int .u8 (k : Nat), .bool false, .int .u8 (k2 : Nat), .bool true] 26)
  have R2 := R1.alloc (.cells #[.int .u8 (k : Nat), .bool false, .int .u8 (k2 : Nat), .bool true] 26)
  have S2 := Cl.new w1 26 [.int .u8 (k : Nat), .bool false, .int .u8 (k2 : Nat), .bool true]
  have hB2 := hB1.alloc hB1.size (.cells #[.int .u8 (k : Nat), .bool false, .int .u8 (k2 : Nat), .bool true] 26)
  clear X1 R1 hB1
  generalize w1.alloc (.cells #[.int .u8 (k : Nat), .bool false, .int .u8 (k2 : Nat), .bool true] 26) = V at *
  generalize w1.heap.size = B at *
  have HM : Hid ((eqC (clP k false) P = true → LetQ P k false true) ∧ (eqC (clP k false) P = false → eqC (clP k2 true) P = true → LetQ P k2 true true) ∧ (eqC (clP k false) P = false → eqC (clP k2 true) P = false → LetQ P 0 false false)) := ⟨q1, q2, q3⟩
  clear q1 q2 q3 ho
  go_loopw [20] (fun i wr => ∃ j : Nat, j ≤ 2 ∧ i = .int .i64 (j : Nat) ∧ Below V.heap.size V wr ∧ Hid (1 ≤ j → eqC (clP k false) P = false) ∧ Hid (2 ≤ j → eqC (clP k2 true) P = false)) (fun i _ => 2 - (intOf i).toNat)
  case atStart => exact ⟨0, by decide, rfl, Below.refl _ _, fun h => by omega, fun h => by omega⟩
  case round =>
    obtain ⟨j, hj, rfl, hbr, n1, n2⟩ := hrel
    have X3 := X2.below hbr
    have R3 := R2.below hbr
    have S3 := S2.below hbr
    have hB3 := hB2.trans (hbr.mono hB2.size)
    have hj3 : j = 0 ∨ j = 1 ∨ j = 2 := by omega
    rcases hj3 with rfl | rfl | rfl
    · have s0 := S3.cell 0 rfl
      have s1 := S3.cell 1 rfl
      have X4 := (X3.alloc (.cells #[.int .u8 (k : Nat), .bool false] 26)).drew
      have L4 : Cl (wr.alloc (.cells #[.int .u8 (k : Nat), .bool false] 26)).drew wr.heap.size 26 [.int .u8 (k : Nat), .bool false] := Cl.new wr 26 [.int .u8 (k : Nat), .bool false]
      have R4 : Cl (wr.alloc (.cells #[.int .u8 (k : Nat), .bool false] 26)).drew (w.heap.size + 1) 26 [.int .u8 0, .bool false] := R3.alloc (.cells #[.int .u8 (k : Nat), .bool false] 26)
      have hB4 := (hB3.alloc hB3.size (.cells #[.int .u8 (k : Nat), .bool false] 26)).drew
      have hb4 := (hbr.alloc hbr.size (.cells #[.int .u8 (k : Nat), .bool false] 26)).drew
      go_wp2_with fail
      clear s0 s1 S3 X3 R3 hB3 hbr X2 R2 S2 hB2
      generalize wr.alloc (.cells #[.int .u8 (k : Nat), .bool false] 26) = w4 at *
      generalize wr.heap.size = B4 at *
      obtain ⟨x0, x1, x2, x3, _⟩ := X4.cells
      have l0 := L4.cell 0 rfl
      have l1 := L4.cell 1 rfl
      cases M : eqC (clP k false) P with
      | false =>
        go_region_with (go_at_call 10; refine (HC0.out _).mono ?_; rintro e w5 ⟨⟨p, q, r, s, rfl, h5⟩, hb'⟩; have X5 := X4.below hb'; obtain ⟨xx0, xx1, xx2, xx3, _⟩ := X5.cells; have L5 := L4.below hb'; have he := eqlC h5 h4; have hb5 := hb4.trans (hb'.mono hb4.size); simp only [M] at he)
        all_goals clear HC0 he
        all_goals go_wp2
        all_goals go_roundw
        all_goals first | exact ⟨1, by decide, rfl, hb5, fun _ => M, fun h => by omega⟩ | (simp [intOf])
      | true =>
        go_region_with (go_at_call 10; refine (HC0.out _).mono ?_; rintro e w5 ⟨⟨p, q, r, s, rfl, h5⟩, hb'⟩; have X5 := X4.below hb'; obtain ⟨xx0, xx1, xx2, xx3, _⟩ := X5.cells; have L5 := L4.below hb'; have R5 := R4.below hb'; have he := eqlC h5 h4; have hB5 := hB4.trans (hb'.mono hB4.size); simp only [M] at he; have ll0 := L5.cell 0 rfl; have ll1 := L5.cell 1 rfl; obtain ⟨r0, r1⟩ := R5.two)
        all_goals go_wp2
        all_goals have RR := (R5.set 0 (.int .u8 (k : Nat))).set 1 (.bool false)
        all_goals obtain ⟨⟨z0, z1⟩, _⟩ := RR.two
        all_goals exact bodyPost_ret (v := .tuple #[.agg #[.int .u8 (k : Nat), .bool false], .bool true]) (by simp [results, Tryd.results8, go_sem, z0, z1]) rfl ⟨⟨k, false, true, rfl, HM.out.1 M⟩, (hB5.setCell (p := ⟨w.heap.size + 1, 0, none⟩) (by simp) _).setCell (p := ⟨w.heap.size + 1, 1, none⟩) (by simp) _⟩
    · have s0 := S3.cell 2 rfl
      have s1 := S3.cell 3 rfl
      have X4 := (X3.alloc (.cells #[.int .u8 (k2 : Nat), .bool true] 26)).drew
      have L4 : Cl (wr.alloc (.cells #[.int .u8 (k2 : Nat), .bool true] 26)).drew wr.heap.size 26 [.int .u8 (k2 : Nat), .bool true] := Cl.new wr 26 [.int .u8 (k2 : Nat), .bool true]
      have R4 : Cl (wr.alloc (.cells #[.int .u8 (k2 : Nat), .bool true] 26)).drew (w.heap.size + 1) 26 [.int .u8 0, .bool false] := R3.alloc (.cells #[.int .u8 (k2 : Nat), .bool true] 26)
      have hB4 := (hB3.alloc hB3.size (.cells #[.int .u8 (k2 : Nat), .bool true] 26)).drew
      have hb4 := (hbr.alloc hbr.size (.cells #[.int .u8 (k2 : Nat), .bool true] 26)).drew
      go_wp2_with fail
      clear s0 s1 S3 X3 R3 hB3 hbr X2 R2 S2 hB2
      generalize wr.alloc (.cells #[.int .u8 (k2 : Nat), .bool true] 26) = w4 at *
      generalize wr.heap.size = B4 at *
      obtain ⟨x0, x1, x2, x3, _⟩ := X4.cells
      have l0 := L4.cell 0 rfl
      have l1 := L4.cell 1 rfl
      cases M : eqC (clP k2 true) P with
      | false =>
        go_region_with (go_at_call 10; refine (HC1.out _).mono ?_; rintro e w5 ⟨⟨p, q, r, s, rfl, h5⟩, hb'⟩; have X5 := X4.below hb'; obtain ⟨xx0, xx1, xx2, xx3, _⟩ := X5.cells; have L5 := L4.below hb'; have he := eqlC h5 h4; have hb5 := hb4.trans (hb'.mono hb4.size); simp only [M] at he)
        all_goals clear HC1 he
        all_goals go_wp2
        all_goals go_roundw
        all_goals first | exact ⟨2, by decide, rfl, hb5, fun _ => n1.out (by decide), fun _ => M⟩ | (simp [intOf])
      | true =>
        go_region_with (go_at_call 10; refine (HC1.out _).mono ?_; rintro e w5 ⟨⟨p, q, r, s, rfl, h5⟩, hb'⟩; have X5 := X4.below hb'; obtain ⟨xx0, xx1, xx2, xx3, _⟩ := X5.cells; have L5 := L4.below hb'; have R5 := R4.below hb'; have he := eqlC h5 h4; have hB5 := hB4.trans (hb'.mono hB4.size); simp only [M] at he; have ll0 := L5.cell 0 rfl; have ll1 := L5.cell 1 rfl; obtain ⟨r0, r1⟩ := R5.two)
        all_goals go_wp2
        all_goals have RR := (R5.set 0 (.int .u8 (k2 : Nat))).set 1 (.bool true)
        all_goals obtain ⟨⟨z0, z1⟩, _⟩ := RR.two
        all_goals exact bodyPost_ret (v := .tuple #[.agg #[.int .u8 (k2 : Nat), .bool true], .bool true]) (by simp [results, Tryd.results8, go_sem, z0, z1]) rfl ⟨⟨k2, true, true, rfl, HM.out.2.1 (n1.out (by decide)) M⟩, (hB5.setCell (p := ⟨w.heap.size + 1, 0, none⟩) (by simp) _).setCell (p := ⟨w.heap.size + 1, 1, none⟩) (by simp) _⟩
    · obtain ⟨⟨r0, r1⟩, r2, r3⟩ := R3.two
      have HQ : Hid (LetQ P 0 false false) := HM.out.2.2 (n1.out (by decide)) (n2.out (by decide))
      clear X2 R2 S2 hB2 HM
      go_wp2
      have RR := (R3.set 0 (.int .u8 0)).set 1 (.bool false)
      obtain ⟨⟨z0, z1⟩, _⟩ := RR.two
      exact bodyPost_ret (v := .tuple #[.agg #[.int .u8 ((0 : Nat) : Int), .bool false], .bool false]) (by simp [results, Tryd.results8, go_sem, z0, z1]) rfl ⟨⟨0, false, false, rfl, HQ.out⟩, (hB3.setCell (p := ⟨w.heap.size + 1, 0, none⟩) (by simp) _).setCell (p := ⟨w.heap.size + 1, 1, none⟩) (by simp) _⟩
end Go.Proofs.YthbmfnibgjlkhaaDoor
