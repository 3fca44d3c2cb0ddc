/- The reference's Letter: the walk. -/
import Derived.Test.YthbmfnibgjlkhaaDoorGLaLbLc
import Derived.Deep.DeepCutAuto
import Derived.Deep.RegionHeld3
namespace Go.Proofs.YthbmfnibgjlkhaaDoor
open Go.RowKit K
theorem eqC_comm (P Q : Nat → Bool) : eqC P Q = eqC Q P := by
  rw [Bool.eq_iff_iff, eqC_iff, eqC_iff]
  exact ⟨fun h x hx => (h x hx).symm, fun h x hx => (h x hx).symm⟩
theorem eqlC' {P Q : Nat → Bool} {a b c d a' b' c' d' : Nat} (h : C4 P a b c d) (k : C4 Q a' b' c' d') (w : World) : (Go.binOp .eql 24 (.agg #[.int .u64 (a : Nat), .int .u64 (b : Nat), .int .u64 (c : Nat), .int .u64 (d : Nat)]) (.agg #[.int .u64 (a' : Nat), .int .u64 (b' : Nat), .int .u64 (c' : Nat), .int .u64 (d' : Nat)])).run Tryd.prog w = .ok (.bool (eqC Q P)) w := by
  rw [eqlC h k, eqC_comm]
theorem u8_small (k : Nat) (hk : k < 256) : IntKind.u8.wrap (k : Int) = (k : Nat) := by
  simp only [IntKind.wrap, IntKind.signed, IntKind.bits, Bool.false_and, Bool.false_eq_true, if_false]
  omega
set_option maxRecDepth 10000 in
set_option maxHeartbeats 2000000 in
theorem rletter_any {P : Nat → Bool} {a b c d : Nat} (h4 : C4 P a b c d) (w : World) : Calls Tryd.prog 9 #[.agg #[.int .u64 (a : Nat), .int .u64 (b : Nat), .int .u64 (c : Nat), .int .u64 (d : Nat)]] w (RetLt w P) := by
  have hB := (below1 w (.cells #[.int .u64 (a : Nat), .int .u64 (b : Nat), .int .u64 (c : Nat), .int .u64 (d : Nat)] 24)).alloc (by simp) (.cells #[.int .u8 0, .bool false] 26)
  have X0 := (Bx.new w (.int .u64 (a : Nat)) (.int .u64 (b : Nat)) (.int .u64 (c : Nat)) (.int .u64 (d : Nat))).alloc (.cells #[.int .u8 0, .bool false] 26)
  have R0 : Cl ((w.alloc (.cells #[.int .u64 (a : Nat), .int .u64 (b : Nat), .int .u64 (c : Nat), .int .u64 (d : Nat)] 24)).alloc (.cells #[.int .u8 0, .bool false] 26)) (w.heap.size + 1) 26 [.int .u8 0, .bool false] := by
    have := Cl.new (w.alloc (.cells #[.int .u64 (a : Nat), .int .u64 (b : Nat), .int .u64 (c : Nat), .int .u64 (d : Nat)] 24)) 26 [.int .u8 0, .bool false]
    simpa only [World.size_alloc] using this
  have HC : Hid (∀ (k : Nat) (f : Bool) (W : World), k < 256 → Calls Tryd.prog 11 #[.agg #[.int .u8 (k : Nat), .bool f]] W (RetC W (clP k f))) := fun k f W h => rclass_any k f W h
  have HS : Hid (∀ (k : Nat) (W : World), k < 256 → Calls Tryd.prog 36 #[.int .u8 (k : Nat)] W fun e w' => e = .returned (.bool (smB k)) ∧ w' = W) := fun k W h => small_any k W h
  go_enter Tryd.func9, Tryd.ntmps9
  go_wp2_with fail
  generalize (w.alloc (.cells #[.int .u64 (a : Nat), .int .u64 (b : Nat), .int .u64 (c : Nat), .int .u64 (d : Nat)] 24)).alloc (.cells #[.int .u8 0, .bool false] 26) = V at *
  go_loopw [4] (fun i wr => ∃ j : Nat, j ≤ 256 ∧ i = .int .i64 (j : Nat) ∧ Below V.heap.size V wr ∧ Hid (∀ b' f', b' < j → Cn b' f' → eqC (clP b' f') P = false)) (fun i _ => 256 - (intOf i).toNat)
  case atStart => exact ⟨0, by decide, rfl, Below.refl _ _, fun _ _ h => by omega⟩
  case round =>
    obtain ⟨j, hj, rfl, hbr, hn⟩ := hrel
    have X3 := X0.below hbr
    have R3 := R0.below hbr
    have hB3 := hB.trans (hbr.mono hB.size)
    by_cases hlt : j < 256
    · have hji : (j : Int) < 256 := by omega
      have hwr := u8_small j hlt
      have X4 := (X3.alloc (.cells #[.int .u8 (j : Nat), .bool false] 26)).drew
      have L4 : Cl (wr.alloc (.cells #[.int .u8 (j : Nat), .bool false] 26)).drew wr.heap.size 26 [.int .u8 (j : Nat), .bool false] := Cl.new wr 26 [.int .u8 (j : Nat), .bool false]
      have R4 : Cl (wr.alloc (.cells #[.int .u8 (j : Nat), .bool false] 26)).drew (w.heap.size + 1) 26 [.int .u8 0, .bool false] := R3.alloc (.cells #[.int .u8 (j : Nat), .bool false] 26)
      have hB4 := (hB3.alloc hB3.size (.cells #[.int .u8 (j : Nat), .bool false] 26)).drew
      have hb4 := (hbr.alloc hbr.size (.cells #[.int .u8 (j : Nat), .bool false] 26)).drew
      have hV1 : w.heap.size + 1 < V.heap.size := R0.lt
      have hV2 : V.heap.size ≤ wr.heap.size := hbr.size
      go_wp2_with fail
      clear X3 R3 hB3 hbr X0 R0 hB
      generalize wr.alloc (.cells #[.int .u8 (j : Nat), .bool false] 26) = w4 at *
      generalize wr.heap.size = B4 at *
      obtain ⟨x0, x1, x2, x3, _⟩ := X4.cells
      have l0 := L4.cell 0 rfl
      have l1 := L4.cell 1 rfl
      cases M : eqC (clP j false) P with
      | true =>
        go_region_with (go_at_call 11; refine (HC.out j false _ hlt).mono ?_; rintro e w5 ⟨⟨p, q, r, s, rfl, h5⟩, hb'⟩; have X5 := X4.below hb'; obtain ⟨xx0, xx1, xx2, xx3, _⟩ := X5.cells; have L5 := L4.below hb'; have R5 := R4.below hb'; have he := eqlC' h4 h5; have hB5 := hB4.trans (hb'.mono hB4.size); simp only [M] at he; have ll0 := L5.cell 0 rfl; have ll1 := L5.cell 1 rfl; obtain ⟨r0, r1⟩ := R5.two)
        all_goals go_wp2
        all_goals have RR := (R5.set 0 (.int .u8 (j : Nat))).set 1 (.bool false)
        all_goals obtain ⟨⟨z0, z1⟩, _⟩ := RR.two
        all_goals exact bodyPost_ret (v := .tuple #[.agg #[.int .u8 (j : Nat), .bool false], .bool true]) (by simp [results, Tryd.results9, go_sem, z0, z1]) rfl ⟨⟨j, false, true, rfl, .inl ⟨rfl, ⟨hlt, fun h => by cases h⟩, M⟩⟩, (hB5.setCell (p := ⟨w.heap.size + 1, 0, none⟩) (by simp) _).setCell (p := ⟨w.heap.size + 1, 1, none⟩) (by simp) _⟩
      | false =>
        go_cut [16] from 13 to 16 (fun v wx => v = .bool false ∧ Bx wx w.heap.size (.int .u64 (a : Nat)) (.int .u64 (b : Nat)) (.int .u64 (c : Nat)) (.int .u64 (d : Nat)) ∧ Cl wx B4 26 [.int .u8 (j : Nat), .bool false] ∧ Cl wx (w.heap.size + 1) 26 [.int .u8 0, .bool false] ∧ Below w.heap.size w wx ∧ Below V.heap.size V wx)
        case first =>
          go_region_with (go_at_call 11; refine (HC.out j false _ hlt).mono ?_; rintro e w5 ⟨⟨p, q, r, s, rfl, h5⟩, hb'⟩; have X5 := X4.below hb'; obtain ⟨xx0, xx1, xx2, xx3, _⟩ := X5.cells; have L5 := L4.below hb'; have R5 := R4.below hb'; have he := eqlC' h4 h5; have hB5 := hB4.trans (hb'.mono hB4.size); have hb5 := hb4.trans (hb'.mono hb4.size); simp only [M] at he)
          all_goals go_wp2_with fail
          all_goals go_meet
          all_goals exact ⟨rfl, X5, L5, R5, hB5, hb5⟩
        case rest =>
          obtain ⟨rfl, X5, L5, R5, hB5, hb5⟩ := hcut
          obtain ⟨⟨ll0, ll1⟩, lf0, lf1⟩ := L5.two
          have hBne : B4 ≠ w.heap.size := by omega
          have hBne1 : B4 ≠ w.heap.size + 1 := by omega
          have L6 : Cl (wc.setCell ⟨B4, 1, none⟩ (.bool true)).drew B4 26 [.int .u8 (j : Nat), .bool true] := L5.set 1 (.bool true)
          have X6 : Bx (wc.setCell ⟨B4, 1, none⟩ (.bool true)).drew w.heap.size (.int .u64 (a : Nat)) (.int .u64 (b : Nat)) (.int .u64 (c : Nat)) (.int .u64 (d : Nat)) := X5.other hBne _
          have R6 : Cl (wc.setCell ⟨B4, 1, none⟩ (.bool true)).drew (w.heap.size + 1) 26 [.int .u8 0, .bool false] := R5.other (by simpa using hBne1) 1 _
          have hB6 := (hB5.setCell (p := ⟨B4, 1, none⟩) (by simp; omega) (.bool true)).drew
          have hb6 := (hb5.setCell (p := ⟨B4, 1, none⟩) (by simp; omega) (.bool true)).drew
          clear X4 L4 R4 hB4 hb4 x0 x1 x2 x3 l0 l1
          go_wp2_with fail
          generalize wc.setCell ⟨B4, 1, none⟩ (.bool true) = w6 at *
          clear X5 L5 R5 hB5 hb5 ll0 ll1 lf0 lf1
          obtain ⟨x0, x1, x2, x3, _⟩ := X6.cells
          have l0 := L6.cell 0 rfl
          have l1 := L6.cell 1 rfl
          have HSj : Hid (∀ W : World, Calls Tryd.prog 36 #[.int .u8 (j : Nat)] W fun e w' => e = .returned (.bool (smB j)) ∧ w' = W) := fun W => HS.out j W hlt
          have HN : Hid (∀ b' f', b' < j + 1 → Cn b' f' → (smB j = true → eqC (clP j true) P = false) → eqC (clP b' f') P = false) := by
            intro b' f' h hc h1
            rcases Nat.lt_or_ge b' j with h' | h'
            · exact hn.out b' f' h' hc
            · obtain rfl : b' = j := by omega
              cases f' with
              | false => exact M
              | true => exact h1 (hc.2 rfl)
          cases Ms : smB j with
          | false =>
            rw [Ms] at HSj
            go_region_with (go_at_call 36; refine (HSj.out _).mono ?_; rintro e w' ⟨rfl, rfl⟩)
            all_goals go_wp2
            all_goals go_roundw
            all_goals first | exact ⟨j + 1, by omega, by go_num, hb6, fun b' f' h hc => HN.out b' f' h hc (fun e => by rw [e] at Ms; cases Ms)⟩ | (simp [intOf]; omega)
          | true =>
            rw [Ms] at HSj
            cases M1 : eqC (clP j true) P with
            | true =>
              go_region_with (first | (go_at_call 36; refine (HSj.out _).mono ?_; rintro e w' ⟨rfl, rfl⟩) | (go_at_call 11; refine (HC.out j true _ hlt).mono ?_; rintro e w7 ⟨⟨p, q, r, s, rfl, h5⟩, hb'⟩; have X7 := X6.below hb'; obtain ⟨xx0, xx1, xx2, xx3, _⟩ := X7.cells; have L7 := L6.below hb'; have R7 := R6.below hb'; have he := eqlC' h4 h5; have hB7 := hB6.trans (hb'.mono hB6.size); simp only [M1] at he; have ll0 := L7.cell 0 rfl; have ll1 := L7.cell 1 rfl; obtain ⟨r0, r1⟩ := R7.two))
              all_goals go_wp2
              all_goals have RR := (R7.set 0 (.int .u8 (j : Nat))).set 1 (.bool true)
              all_goals obtain ⟨⟨z0, z1⟩, _⟩ := RR.two
              all_goals exact bodyPost_ret (v := .tuple #[.agg #[.int .u8 (j : Nat), .bool true], .bool true]) (by simp [results, Tryd.results9, go_sem, z0, z1]) rfl ⟨⟨j, true, true, rfl, .inl ⟨rfl, ⟨hlt, fun _ => Ms⟩, M1⟩⟩, (hB7.setCell (p := ⟨w.heap.size + 1, 0, none⟩) (by simp) _).setCell (p := ⟨w.heap.size + 1, 1, none⟩) (by simp) _⟩
            | false =>
              go_region_with (first | (go_at_call 36; refine (HSj.out _).mono ?_; rintro e w' ⟨rfl, rfl⟩) | (go_at_call 11; refine (HC.out j true _ hlt).mono ?_; rintro e w7 ⟨⟨p, q, r, s, rfl, h5⟩, hb'⟩; have X7 := X6.below hb'; obtain ⟨xx0, xx1, xx2, xx3, _⟩ := X7.cells; have L7 := L6.below hb'; have R7 := R6.below hb'; have he := eqlC' h4 h5; have hb7 := hb6.trans (hb'.mono hb6.size); simp only [M1] at he; have ll0 := L7.cell 0 rfl; have ll1 := L7.cell 1 rfl; obtain ⟨r0, r1⟩ := R7.two))
              all_goals go_wp2
              all_goals go_roundw
              all_goals first | exact ⟨j + 1, by omega, by go_num, hb7, fun b' f' h hc => HN.out b' f' h hc (fun _ => M1)⟩ | (simp [intOf]; omega)
    · obtain rfl : j = 256 := by omega
      have HQ : Hid (LetQ P 0 false false) := .inr ⟨rfl, rfl, rfl, fun b' f' hc => hn.out b' f' hc.1 hc⟩
      obtain ⟨⟨r0, r1⟩, r2, r3⟩ := R3.two
      clear X0 R0 hB
      go_wp2
      have RR := (R3.set 0 (.int .u8 0)).set 1 (.bool false)
      obtain ⟨⟨z0, z1⟩, _⟩ := RR.two
      exact bodyPost_ret (v := .tuple #[.agg #[.int .u8 ((0 : Nat) : Int), .bool false], .bool false]) (by simp [results, Tryd.results9, go_sem, z0, z1]) rfl ⟨⟨0, false, false, rfl, HQ.out⟩, (hB3.setCell (p := ⟨w.heap.size + 1, 0, none⟩) (by simp) _).setCell (p := ⟨w.heap.size + 1, 1, none⟩) (by simp) _⟩
end Go.Proofs.YthbmfnibgjlkhaaDoor
