/- BitsBack: the walk. -/
import Derived.Test.YtclgefpkcagbfaaDoorEi
import Derived.Test.YtclgefpkcagbfaaDoorLive
namespace Go.Proofs.YtclgefpkcagbfaaDoor
open Go.RowKit
theorem come_yes {P : Nat → Bool} {k : Nat} (h : P k = true) : come P (k + 1) = come P k ++ [k] := by
  unfold come
  rw [List.range_succ, List.filter_append]
  simp [h]
theorem come_skip {P : Nat → Bool} {a k : Nat} (hak : a ≤ k) (h : ∀ j, a ≤ j → j < k → P j = false) : come P k = come P a := by
  obtain ⟨c, rfl⟩ := Nat.exists_eq_add_of_le hak
  rw [come_add, List.filter_eq_nil_iff.2 (fun j hj => by rw [h _ (by omega) (by have := List.mem_range.1 hj; omega)]; simp)]
  simp
/-- Whether x, shifted by k, stays within n. -/
def within (n : Nat) (k : Int) (x : Nat) : Bool := decide (0 ≤ (x : Int) + k) && decide ((x : Int) + k < n)
theorem back_come {P : Nat → Bool} {n : Nat} (k : Int) :
    come (fun i : Nat => decide (0 ≤ (i : Int) - (-k)) && (fun i : Nat => decide (0 ≤ (i : Int) - k) && P ((i : Int) - k).toNat && decide (i < n)) ((i : Int) - (-k)).toNat && decide (i < n)) n = (come P n).filter (within n k) := by
  unfold come
  rw [List.filter_filter]
  apply List.filter_congr
  intro i hi
  have hi : i < n := List.mem_range.1 hi
  unfold within
  by_cases h0 : 0 ≤ (i : Int) + k
  · have e1 : ((i : Int) - (-k)).toNat = (i + k).toNat := by congr 1; omega
    have e2 : ((((i + k).toNat : Nat) : Int) - k).toNat = i := by omega
    rw [e1]
    simp only [e2]
    rw [decide_eq_true (show 0 ≤ (i : Int) - (-k) by omega), decide_eq_true h0, decide_eq_true hi, decide_eq_true (show 0 ≤ (((i + k).toNat : Nat) : Int) - k by omega)]
    have e3 : decide ((i + k).toNat < n) = decide ((i : Int) + k < n) := by rw [decide_eq_decide]; omega
    rw [e3]
    simp [Bool.and_comm]
  · rw [decide_eq_false (show ¬ 0 ≤ (i : Int) - (-k) by omega), decide_eq_false h0]
    simp
def sliceLen : Value → Nat
  | .slice _ l _ => l
  | _ => 0
theorem ownsRow_shape {w : World} {B n : Nat} {v : Value} {xs : List Value} (h : w.ownsRow B 3 1 v n xs) : ∃ ao cap, v = .slice ao n cap := by
  rcases h.2 with ⟨e, h0⟩ | ⟨g, cap, cur, e, _⟩
  · exact ⟨none, 0, by rw [e, h0]⟩
  · exact ⟨_, cap, e⟩
/-- A row of one's own that grows behind W0. -/
structure Grow (W0 : World) (v : Value) (l : List Nat) (wr : World) : Prop where
  own : wr.ownsRow W0.heap.size 3 1 v l.length (ints l)
  below : Below W0.heap.size W0 wr
/-- Where the walk through all stands: x is next, or none is left. -/
def Next (P : Nat → Bool) (n : Nat) (l : List Nat) (x : Value) (ok : Value) : Prop :=
  (∃ y : Nat, x = .int .i64 (y : Nat) ∧ ok = .bool true ∧ P y = true ∧ y < n ∧ l = come P y) ∨ (x = .int .i64 0 ∧ ok = .bool false ∧ l = come P n)
theorem RetF.out {w w' : World} {P : Nat → Bool} {n a : Nat} {e : Ending} (h : RetF w P a e w') (ha : a ≤ n) (hout : ∀ i, n ≤ i → P i = false) :
    ∃ x ok, e = .returned (.tuple #[x, ok]) ∧ Next P n (come P a) x ok ∧ Below w.heap.size w w' := by
  obtain ⟨⟨k, he, hk⟩ | ⟨he, hno⟩, hb⟩ := h
  · refine ⟨_, _, he, .inl ⟨k, rfl, rfl, hk.yes, ?_, (come_skip hk.le hk.no).symm⟩, hb⟩
    rcases Nat.lt_or_ge k n with h | h
    · exact h
    · have := hout k h; rw [hk.yes] at this; cases this
  · exact ⟨_, _, he, .inr ⟨rfl, rfl, (come_skip ha fun j h1 _ => hno j h1).symm⟩, hb⟩
set_option maxRecDepth 10000 in
set_option maxHeartbeats 2000000 in
theorem bitsBack_walk (n : Nat) (k : Int) (al : Option Addr) (ll lc : Nat) (z : Nat → Int) (w : World) (hn : (n : Int) ≤ 255) (hk1 : -128 ≤ k) (hk2 : k ≤ 127) (hr : RdI w al ll z) (hll : (ll : Int) ≤ 9223372036854775807) (hT : Tab w) :
    Calls Tryd.prog 4 #[.int .u8 (n : Nat), .slice al ll lc, .int .i8 k] w fun e w' => e = .returned (.bool true) ∧ Below w.heap.size w w' := by
  obtain ⟨i0, hi, hz0, hz1, hz2⟩ := info_parts Tryd.info3
  go_enter Tryd.func4, Tryd.ntmps4
  go_wp2_with fail
  refine (live_any _).mono ?_
  rintro e w1 ⟨rfl, hb1⟩
  go_wp2_with fail
  refine (new_any n al ll lc z _ (by omega) (hr.below hb1) hll).mono ?_
  rintro e w2 ⟨ao, len, cap, f, rfl, ho, hs, hb⟩
  have gA : Arg w2 (.agg #[.int .i64 (n : Nat), .slice ao len cap]) n (newP n z ll) := ⟨_, ao, len, cap, f, rfl, ho.rd, .inl ⟨rfl, hs⟩⟩
  have hB2 : Below w.heap.size w w2 := hb1.trans (hb.mono hb1.size)
  have hout := hs.hout
  generalize newP n z ll = P at *
  have hB3 := (Below.refl w2.heap.size w2).alloc (Nat.le_refl _) (.cells #[.int .i64 (n : Nat), .slice ao len cap] 24)
  have b0 := Box.new w2 (.int .i64 (n : Nat)) (.slice ao len cap)
  clear hb1 hb ho hs
  go_wp2_with fail
  refine (shift_any k (gA.below hB3) (by omega) (by omega)).mono ?_
  rintro e w3 ⟨ao3, len3, cap3, f3, rfl, ho3, hs3, hb3⟩
  have gS : Arg w3 (.agg #[.int .i64 (n : Nat), .slice ao3 len3 cap3]) n _ := ⟨_, ao3, len3, cap3, f3, rfl, ho3.rd, .inl ⟨rfl, hs3⟩⟩
  replace b0 := b0.below hb3
  have hB4 := hB3.trans (hb3.mono (by simp))
  clear hs3 ho3 hb3 hB3
  go_wp2_with fail
  refine (shift_any (-k) gS (by omega) (by omega)).mono ?_
  rintro e w4 ⟨ao4, len4, cap4, f4, rfl, ho4, hs4, hb4⟩
  replace b0 := b0.below hb4
  have hB5 := hB4.trans (hb4.mono hB4.size)
  have gB : Arg w4 (.agg #[.int .i64 (n : Nat), .slice ao4 len4 cap4]) n _ := ⟨_, ao4, len4, cap4, f4, rfl, ho4.rd, .inl ⟨rfl, hs4⟩⟩
  clear hb4 gS hs4 ho4 hB4
  have hlt4 : w2.heap.size < w4.heap.size := b0.lt
  have b1 := Box.new w4 (.int .i64 (n : Nat)) (.slice ao4 len4 cap4)
  replace b0 := b0.alloc (.cells #[.int .i64 (n : Nat), .slice ao4 len4 cap4] 24)
  have hB6 := hB5.alloc hB5.size (.cells #[.int .i64 (n : Nat), .slice ao4 len4 cap4] 24)
  replace gB := gB.below ((Below.refl w4.heap.size w4).alloc (Nat.le_refl _) (.cells #[.int .i64 (n : Nat), .slice ao4 len4 cap4] 24))
  have gA2 := gA.below hB6
  have hTw := hT.below (hB2.trans (hB6.mono hB2.size))
  have hBw := hB2.trans (hB6.mono hB2.size)
  obtain ⟨p0, p1, p2, p3⟩ := b0.cells
  go_wp2_with fail
  refine (all_any gA2 hTw).mono ?_
  rintro e w5 hret
  obtain ⟨ao5, cap5, rfl, hr5, hb5⟩ := hret.out
  replace b0 := b0.below hb5
  replace b1 := b1.below hb5
  replace gB := gB.below hb5
  have gA5 := gA2.below hb5
  have hT5 := hTw.below hb5
  have hB7 := hBw.trans (hb5.mono hBw.size)
  have hlen5 : (come P n).length ≤ n := come_len P n
  have hlt5 : w4.heap.size < w5.heap.size := b1.lt
  have HA : Hid (Arg w5 (.agg #[.int .i64 (n : Nat), .slice ao len cap]) n P) := gA5
  clear hret hb5 p0 p1 p2 p3 gA gA2 hTw hBw hB5 hB6 hB2 hT hr gA5
  go_wp2_with fail
  go_loopw [10, 39] (fun v i wr => ∃ j : Nat, j ≤ (come P n).length ∧ i = .int .i64 (j : Nat) ∧ Grow w5 v (((come P n).take j).filter (within n k)) wr) (fun _ i _ => (come P n).length - (intOf i).toNat)
  case atStart => exact ⟨0, Nat.zero_le _, rfl, World.ownsRow_nil _ _ _ _, Below.refl _ _⟩
  case round =>
    obtain ⟨j, hj, rfl, hG⟩ := hrel
    by_cases hlt : j < (come P n).length
    · obtain ⟨b, off, rfl, hbb, hc⟩ := hr5 (by omega)
      have t1 : wr.cell? ⟨b, off + j, none⟩ = some (.int .i64 (((come P n).getD j 0 : Nat) : Int)) := by rw [hG.below.cell (p := ⟨b, off + j, none⟩) hbb]; exact hc j hlt
      have hx : (come P n).getD j 0 < n := by
        rw [List.getD_eq_getElem?_getD, List.getElem?_eq_getElem hlt]
        exact (come_lt (List.getElem_mem hlt)).1
      have htk : (come P n).take (j + 1) = (come P n).take j ++ [(come P n).getD j 0] := by
        rw [List.take_add_one, List.getD_eq_getElem?_getD, List.getElem?_eq_getElem hlt]; rfl
      have hji : (j : Int) < ((come P n).length : Int) := by omega
      have hln : (((come P n).take j).filter (within n k)).length ≤ 255 := Nat.le_trans (List.length_filter_le _ _) (by rw [List.length_take]; omega)
      clear hc
      generalize (come P n).getD j 0 = x at *
      have hgo : within n k x = false → ∃ j' : Nat, j' ≤ (come P n).length ∧ (Value.int .i64 ((j : Int) + 1)) = .int .i64 (j' : Nat) ∧ Grow w5 u10 (((come P n).take j').filter (within n k)) wr := fun hw =>
        ⟨j + 1, by omega, by simp, by rw [htk, List.filter_append]; simpa [hw] using hG⟩
      have HGO : Hid _ := hgo
      clear hgo
      by_cases h0 : 0 ≤ (x : Int) + k
      · by_cases h1 : (x : Int) + k < n
        · have hd0 : decide (0 ≤ (x : Int) + k) = true := by simpa using h0
          have hd1 : decide ((x : Int) + k < (n : Int)) = true := by simpa using h1
          have hw : within n k x = true := by unfold within; rw [hd0, hd1]; rfl
          have HW : Hid (within n k x = true) := hw
          have hown := hG.own
          have hsz5 := hG.below.size
          clear hw
          go_wp2_with (at_builtin; refine wpList_append_own _ rfl _ _ 26 rfl w5.heap.size 3 i0 (.int .i64 0) 1 8 Tryd.underlying26 hi hz0 hz1 hz2 rfl (by decide) _ _ _ rfl (hown.alloc _) ⟨wr.heap.size, 0, none⟩ 1 1 [.int .i64 (x : Nat)] rfl rfl (cell_one_new _ _ _) (by intro u hu; simp at hu; subst hu; rfl) (by unfold maxLen; omega) (by omega) (by simp; omega) ?_)
          intro v' w6 hown' hgrow _
          have hbw : Below w5.heap.size _ w6 := (Below.refl _ _).grown hgrow (by simp; omega) (fun j e => (hown.lt j e).1)
          have R : Grow w5 v' (((come P n).take (j + 1)).filter (within n k)) w6 := by
            rw [htk, List.filter_append]
            refine ⟨?_, (hG.below.alloc hsz5 _).trans hbw⟩
            simpa [HW.out, ints] using hown'
          clear hown' hgrow hown hG hbw HGO
          go_wp2
          go_roundw
          case rel => exact ⟨j + 1, by omega, by go_num, R⟩
          case measure => simp [intOf]; omega
        · have hd0 : decide (0 ≤ (x : Int) + k) = true := by simpa using h0
          have hd1 : decide ((x : Int) + k < (n : Int)) = false := by simpa using h1
          have hr := HGO.out (by unfold within; rw [hd0, hd1]; rfl)
          go_wp2
          go_roundw
          case rel => exact hr
          case measure => simp [intOf]; omega
      · have hd0 : decide (0 ≤ (x : Int) + k) = false := by simpa using h0
        have hr := HGO.out (by unfold within; rw [hd0]; rfl)
        go_wp2
        go_roundw
        case rel => exact hr
        case measure => simp [intOf]; omega
    · obtain rfl : j = (come P n).length := by omega
      rw [List.take_length] at hG
      obtain ⟨ao6, cap6, rfl, hr6⟩ := rowAt_of hG.own
      have hbG := hG.below
      replace b0 := b0.below hbG
      replace b1 := b1.below hbG
      replace gB := gB.below hbG
      have gA6 := HA.out.below hbG
      have hT6 := hT5.below hbG
      have hB8 := hB7.trans (hbG.mono hB7.size)
      obtain ⟨p0, p1, p2, p3⟩ := b0.cells
      clear hG hbG hT5 HA hr5 hj hlt
      go_wp2_with fail
      refine (first_any 0 gA6 hT6).mono ?_
      rintro e w7 hret
      obtain ⟨x7, ok7, rfl, hN, hb7⟩ := hret.out (n := n) (Nat.zero_le _) hout
      replace b0 := b0.below hb7
      replace b1 := b1.below hb7
      replace gB := gB.below hb7
      have HA : Hid (Arg w7 (.agg #[.int .i64 (n : Nat), .slice ao len cap]) n P) := gA6.below hb7
      have HT : Hid (Tab w7) := hT6.below hb7
      have hB9 := hB8.trans (hb7.mono hB8.size)
      have hr7 := hr6.below hb7
      clear hret hb7 p0 p1 p2 p3 gA6 hT6 hr6 hB8 hB7
      go_wp2_with fail
      go_loopw [11, 15, 16] (fun v x ok wv => ∃ l : List Nat, Grow w7 v l wv ∧ Next P n l x ok) (fun v _ _ _ => n - sliceLen v)
      case atStart => exact ⟨[], ⟨World.ownsRow_nil _ _ _ _, Below.refl _ _⟩, hN⟩
      case round =>
        obtain ⟨l, hG, hN⟩ := hrel
        obtain ⟨ag, cg, rfl⟩ := ownsRow_shape hG.own
        rcases hN with ⟨y, rfl, rfl, hy, hyn, rfl⟩ | ⟨rfl, rfl, rfl⟩
        · have hly : (come P y).length ≤ y := come_len P y
          have hd : decide (((come P y).length : Int) ≤ (n : Int)) = true := by simp; omega
          have hown := hG.own
          have hszw := hG.below.size
          have hyi : (y : Int) < (n : Int) := by omega
          go_wp2_with (at_builtin; refine wpList_append_own _ rfl _ _ 26 rfl w7.heap.size 3 i0 (.int .i64 0) 1 8 Tryd.underlying26 hi hz0 hz1 hz2 rfl (by decide) _ _ _ rfl (hown.alloc _) ⟨wr.heap.size, 0, none⟩ 1 1 [.int .i64 (y : Nat)] rfl rfl (cell_one_new _ _ _) (by intro u hu; simp at hu; subst hu; rfl) (by unfold maxLen; omega) (by omega) (by simp; omega) ?_)
          intro v' w8 hown' hgrow _
          have hbw : Below w7.heap.size _ w8 := (Below.refl _ _).grown hgrow (by simp; omega) (fun j e => (hown.lt j e).1)
          have R : Grow w7 v' (come P (y + 1)) w8 := by
            rw [come_yes hy]
            refine ⟨?_, (hG.below.alloc hszw _).trans hbw⟩
            simpa [ints] using hown'
          clear hown' hgrow hown hbw
          obtain ⟨p0, p1, p2, p3⟩ := (b0.below R.below).cells
          go_wp2_with fail
          refine (first_any ((y : Int) + 1) (HA.out.below R.below) (HT.out.below R.below)).mono ?_
          rintro e w9 hret
          obtain ⟨x9, ok9, rfl, hN9, hb9⟩ := hret.out (n := n) (show ((y : Int) + 1).toNat ≤ n by omega) hout
          have e9 : ((y : Int) + 1).toNat = y + 1 := by omega
          rw [e9] at hN9
          have R9 : Grow w7 v' (come P (y + 1)) w9 := ⟨ownsRow_below R.own hb9, R.below.trans (hb9.mono R.below.size)⟩
          obtain ⟨ag9, cg9, rfl⟩ := ownsRow_shape R.own
          have HL9 : Hid ((come P (y + 1)).length = (come P y).length + 1) := by show _ = _; rw [come_yes hy]; simp
          clear hret hb9 p0 p1 p2 p3 R
          go_wp2
          go_roundw
          case rel => exact ⟨_, R9, hN9⟩
          case measure => have := HL9.out; simp [sliceLen]; omega
        · obtain ⟨ao8, cap8, e8, hr8⟩ := rowAt_of hG.own
          have hbG := hG.below
          have b1' := b1.below hbG
          have b0' := b0.below hbG
          have gB' := gB.below hbG
          have gA' := HA.out.below hbG
          have hT' := HT.out.below hbG
          have hr7' := hr7.below hbG
          have hB10 := hB9.trans (hbG.mono hB9.size)
          simp only [Value.slice.injEq, true_and] at e8
          obtain ⟨rfl, rfl⟩ := e8
          obtain ⟨p0, p1, p2, p3⟩ := b1'.cells
          have hl8 : (come P n).length ≤ n := come_len P n
          have hl7 : ((come P n).filter (within n k)).length ≤ n := Nat.le_trans (List.length_filter_le _ _) hl8
          clear hbG hr7 b0 b1 gB HA HT hG
          go_wp2_with fail
          refine (all_any gB' hT').mono ?_
          rintro e w8 hret
          rw [back_come] at hret
          obtain ⟨ao9, cap9, rfl, hr9, hb9⟩ := hret.out
          have b0'' := b0'.below hb9
          replace gA' := gA'.below hb9
          replace hT' := hT'.below hb9
          replace hr7' := hr7'.below hb9
          replace hr8 := hr8.below hb9
          have hB11 := hB10.trans (hb9.mono hB10.size)
          clear hret hb9 p0 p1 p2 p3 b0' hB10
          go_wp2_with fail
          refine (equalI_same _ _ _ _ _ _ _ hr9 hr7' (by omega)).mono ?_
          rintro e w9 ⟨rfl, hb9⟩
          have b0' := b0''.below hb9
          replace gA' := gA'.below hb9
          replace hT' := hT'.below hb9
          replace hr8 := hr8.below hb9
          have hB12 := hB11.trans (hb9.mono hB11.size)
          obtain ⟨p0, p1, p2, p3⟩ := b0'.cells
          clear hb9 hr7' hr9 hB11 b0''
          go_wp2_with fail
          refine (all_any gA' hT').mono ?_
          rintro e w10 hret
          obtain ⟨aoa, capa, rfl, hra, hba⟩ := hret.out
          replace hr8 := hr8.below hba
          have hB13 := hB12.trans (hba.mono hB12.size)
          clear hret hba p0 p1 p2 p3 b0' hB12
          go_wp2_with fail
          refine (equalI_same _ _ _ _ _ _ _ hr8 hra (by omega)).mono ?_
          rintro e w11 ⟨rfl, hbb⟩
          have hB14 := hB13.trans (hbb.mono hB13.size)
          go_wp2
          go_ret
          exact ⟨rfl, hB14⟩
end Go.Proofs.YtclgefpkcagbfaaDoor
