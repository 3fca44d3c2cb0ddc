/- The reference's Bytes: the walk. -/
import Derived.Test.YthgjklhjfpillaaDoorCn
import Derived.Test.YthgjklhjfpillaaDoorBu
namespace Go.Proofs.YthgjklhjfpillaaDoor
open Go.RowKit
/-- A row of bytes as values. -/
def byt (l : List Nat) : List Value := l.map fun x => Value.int .u8 (x : Nat)
/-- A list of bytes in memory of its own; nothing old has turned. -/
def RetBs (w : World) (l : List Nat) (e : Ending) (w' : World) : Prop := ∃ ao cap, e = .returned (.slice ao l.length cap) ∧ w'.ownsRow w.heap.size 5 1 (.slice ao l.length cap) l.length (byt l) ∧ Below w.heap.size w w'
theorem row_below {B : Nat} {w w' : World} {v : Value} {n : Nat} {xs : List Value} (h : w.ownsRow B 5 1 v n xs) (hb : Below w.heap.size w w') : w'.ownsRow B 5 1 v n xs := by
  refine ⟨h.1, ?_⟩
  rcases h.2 with h' | ⟨g, cap, cur, e, hg, hh, r⟩
  · exact .inl h'
  · exact .inr ⟨g, cap, cur, e, hg, by rw [hb.block g (Array.getElem?_eq_some_iff.1 hh).1]; exact hh, r⟩
theorem row_mono {B B' : Nat} {w : World} {v : Value} {n : Nat} {xs : List Value} (h : w.ownsRow B 5 1 v n xs) (hB : B' ≤ B) : w.ownsRow B' 5 1 v n xs :=
  ⟨h.1, h.2.imp id fun ⟨g, cap, cur, e, hg, r⟩ => ⟨g, cap, cur, e, Nat.le_trans hB hg, r⟩⟩
structure RelB (w : World) (a b c d : Nat) (P : Nat → Bool) (k : Nat) (v : Value) (wr : World) : Prop where
  box : Bx wr w.heap.size (.int .u64 (a : Nat)) (.int .u64 (b : Nat)) (.int .u64 (c : Nat)) (.int .u64 (d : Nat))
  own : wr.ownsRow (w.heap.size + 1) 5 1 v (come P k).length (byt (come P k))
  below : Below w.heap.size w wr
theorem RelB.next {w : World} {a b c d : Nat} {P : Nat → Bool} {k : Nat} {v : Value} {wr wr' : World} (h : RelB w a b c d P k v wr) (hb : Below wr.heap.size wr wr') : RelB w a b c d P k v wr' :=
  ⟨h.box.below hb, row_below h.own hb, h.below.trans (hb.mono h.below.size)⟩
set_option maxRecDepth 10000 in
set_option maxHeartbeats 2000000 in
theorem rbytes_c {P : Nat → Bool} {a b c d : Nat} (h4 : C4 P a b c d) (w : World) : Calls Tryd.prog 22 #[.agg #[.int .u64 (a : Nat), .int .u64 (b : Nat), .int .u64 (c : Nat), .int .u64 (d : Nat)]] w (RetBs w (come P 256)) := by
  obtain ⟨i0, hi, hz0, hz1, hz2⟩ := info_parts b_byte
  have hB0 : Below w.heap.size w (w.alloc (.cells #[.int .u64 (a : Nat), .int .u64 (b : Nat), .int .u64 (c : Nat), .int .u64 (d : Nat)] 26)) := (Below.refl _ _).alloc (Nat.le_refl _) _
  have q0 := Bx.new w (.int .u64 (a : Nat)) (.int .u64 (b : Nat)) (.int .u64 (c : Nat)) (.int .u64 (d : Nat))
  go_enter Tryd.func22, Tryd.ntmps22
  go_wp2_with fail
  go_loopw [3, 4] (fun v i wr => ∃ k : Nat, k ≤ 256 ∧ i = .int .i64 k ∧ RelB w a b c d P k v wr) (fun _ i _ => 256 - (intOf i).toNat)
  case atStart => exact ⟨0, Nat.zero_le _, rfl, q0, World.ownsRow_nil _ _ _ _, hB0⟩
  case round =>
    obtain ⟨k, hk, rfl, hR⟩ := hrel
    obtain ⟨p0, p1, p2, p3, _⟩ := hR.box.cells
    by_cases hlt : k < 256
    · have hki : (k : Int) < 256 := by omega
      go_wp2_with fail
      refine (rhas_c h4 k _ hlt).mono ?_
      rintro e w2 ⟨rfl, hb⟩
      replace hR := hR.next hb
      clear hb p0 p1 p2 p3
      cases hpk : P k with
      | false =>
        have HP : Hid (come P (k + 1) = come P k) := come_no hpk
        clear hpk
        go_wp2
        go_roundw
        case rel => exact ⟨k + 1, by omega, by go_num, hR.box, by rw [HP.out]; exact hR.own, hR.below⟩
        case measure => simp [intOf]; omega
      | true =>
        have HP : Hid (come P (k + 1) = come P k ++ [k]) := come_yes hpk
        clear hpk
        have hle2 := come_len P k
        have hz := hR.box.lt
        have hown := hR.own
        go_wp2_with (at_builtin; refine wpList_append_own _ rfl _ _ 22 rfl (w.heap.size + 1) 5 i0 (.int .u8 0) 1 1 Tryd.underlying22 hi hz0 hz1 hz2 rfl (by decide) _ _ _ rfl (hown.alloc _) ⟨w2.heap.size, 0, none⟩ 1 1 [.int .u8 (k : Nat)] rfl rfl (cell_one_new _ _ _) (by simp [Value.oneCell']) (by unfold maxLen; omega) (by omega) (by simp; omega) ?_)
        intro v' w3 hown' hgrow _
        have hbw : Below (w.heap.size + 1) _ w3 := (Below.refl _ _).grown hgrow (by simp; omega) (fun j e => (hown.lt j e).1)
        have R : RelB w a b c d P (k + 1) v' w3 :=
          ⟨(hR.box.alloc _).belowB hbw (by omega), by rw [HP.out]; simpa [byt] using hown', (hR.below.alloc (by omega) _).trans (hbw.mono (by omega))⟩
        clear hown' hgrow hown hR hbw
        go_wp2
        go_roundw
        case rel => exact ⟨k + 1, by omega, by go_num, R⟩
        case measure => simp [intOf]; omega
    · obtain rfl : k = 256 := by omega
      have hBf := hR.below
      obtain ⟨ao, cap, rfl⟩ : ∃ ao cap, u3 = .slice ao (come P 256).length cap := by
        rcases hR.own.2 with ⟨h, h0⟩ | ⟨g, cap, cur, h, _⟩
        · exact ⟨none, 0, by rw [h, h0]⟩
        · exact ⟨_, cap, h⟩
      have HO := row_mono hR.own (Nat.le_succ _)
      have HH : Hid _ := HO
      clear hR HO
      go_wp2
      go_ret
      exact ⟨ao, cap, rfl, HH.out, hBf⟩
end Go.Proofs.YthgjklhjfpillaaDoor
