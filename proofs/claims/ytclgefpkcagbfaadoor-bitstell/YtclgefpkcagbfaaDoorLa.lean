/- Len64 by the library; Last: the walk. -/
import Derived.Shelf.Strconv.Itoa0
import Derived.Test.YtclgefpkcagbfaaDoorCo
namespace Go.Proofs.YtclgefpkcagbfaaDoor
open Go.Shelf Go.RowKit
def Tryd.lays129_ren : Go.Shelf.Ren := ⟨fun | 129 => 23 | n => n, fun | 46 => 46 | 53 => 42 | 3 => 3 | 4 => 4 | 5 => 5 | 9 => 9 | n => n, fun | n => n⟩
theorem Tryd.lays129 : Go.Proofs.Lays.n129 Tryd.prog Tryd.lays129_ren := {
  mixed := by kernel_rfl
  f129 := Tryd.func23.trans (congrArg some (by kernel_rfl))
  t3 := Tryd.underlying3
  a3 := Tryd.isAgg3
  z3 := Tryd.sizeOf3
  v3 := Tryd.zeroValue3
  t4 := Tryd.underlying4
  a4 := Tryd.isAgg4
  z4 := Tryd.sizeOf4
  v4 := Tryd.zeroValue4
  t5 := Tryd.underlying5
  a5 := Tryd.isAgg5
  z5 := Tryd.sizeOf5
  v5 := Tryd.zeroValue5
  t9 := Tryd.underlying9
  a9 := Tryd.isAgg9
  z9 := Tryd.sizeOf9
  v9 := Tryd.zeroValue9
  t46 := Tryd.underlying46
  a46 := Tryd.isAgg46
  z46 := Tryd.sizeOf46
  v46 := Tryd.zeroValue46
  t53 := Tryd.underlying42
  a53 := Tryd.isAgg42
  z53 := Tryd.sizeOf42
  v53 := Tryd.zeroValue42 }
theorem len64_any (x : Nat) (hx : x < 18446744073709551616) (w : World) : Calls Tryd.prog 23 #[.int .u64 (x : Nat)] w fun e w' => e = .returned (.int .i64 (Lib.bitLen x : Nat)) ∧ w' = w := by
  have := Any.bits_Len64 Tryd.lays129 (x : Int) w (by omega) (by omega)
  rw [Int.toNat_natCast] at this
  exact this
/-- What Last answers. -/
def RetM (w : World) (P : Nat → Bool) (n : Nat) (e : Ending) (w' : World) : Prop :=
  ((∃ k : Nat, e = .returned (.tuple #[.int .i64 (k : Nat), .bool true]) ∧ k < n ∧ P k = true ∧ ∀ j, k < j → P j = false) ∨ (e = .returned (.tuple #[.int .i64 0, .bool false]) ∧ ∀ j, P j = false)) ∧ Below w.heap.size w w'
theorem last_word {n len : Nat} {f : Nat → Nat} {P : Nat → Bool} (h : IsSet n len f P) {i k : Nat} (hi : i < len) (hup : ∀ j, 64 * (i + 1) ≤ j → P j = false) (hk : k < 64) (hb : (f i).testBit k = true) (hn : ∀ j, k < j → (f i).testBit j = false) : 64 * i + k < n ∧ P (64 * i + k) = true ∧ ∀ j, 64 * i + k < j → P j = false := by
  have hp : P (64 * i + k) = true := by rw [← bit_set h hi hk]; exact hb
  refine ⟨?_, hp, fun j hj => ?_⟩
  · rcases Nat.lt_or_ge (64 * i + k) n with h' | h'
    · exact h'
    · have := h.hout _ h'; rw [hp] at this; cases this
  · by_cases hj2 : 64 * (i + 1) ≤ j
    · exact hup j hj2
    · have := bit_set h hi (s := j - 64 * i) (by omega)
      rw [show 64 * i + (j - 64 * i) = j by omega, hn _ (by omega)] at this
      exact this.symm
theorem zero_word {n len : Nat} {f : Nat → Nat} {P : Nat → Bool} (h : IsSet n len f P) {i : Nat} (hi : i < len) (hup : ∀ j, 64 * (i + 1) ≤ j → P j = false) (hz : f i = 0) : ∀ j, 64 * i ≤ j → P j = false := by
  intro j hj
  by_cases hj2 : 64 * (i + 1) ≤ j
  · exact hup j hj2
  · have := bit_set h hi (s := j - 64 * i) (by omega)
    rw [show 64 * i + (j - 64 * i) = j by omega, hz, Nat.zero_testBit] at this
    exact this.symm
set_option maxRecDepth 10000 in
set_option maxHeartbeats 1000000 in
theorem last_any {w : World} {x : Value} {n : Nat} {P : Nat → Bool} (h : Arg w x n P) : Calls Tryd.prog 9 #[x] w (RetM w P n) := by
  obtain ⟨m, a0, l0, c0, rfl⟩ := h.shape
  have hB0 : Below w.heap.size w (w.alloc (.cells #[.int .i64 m, .slice a0 l0 c0] 24)) := (Below.refl _ _).alloc (Nat.le_refl _) _
  go_enter Tryd.func9, Tryd.ntmps9
  go_wp2_with fail
  refine (sound_any h hB0).mono ?_
  rintro e w1 ⟨ao, len, cap, f, rfl, hr, hs, hb⟩
  clear h
  have b1 := (Box.new w (.int .i64 m) (.slice a0 l0 c0)).below hb
  have hB1 : Below w.heap.size w w1 := hB0.trans (hb.mono (by simp))
  clear hB0 hb
  obtain ⟨c10, c11, f10, f11⟩ := b1.cells
  have hBW : Hid (Below w.heap.size w ((w1.setCell ⟨w.heap.size, 0, none⟩ (.int .i64 (n : Nat))).setCell ⟨w.heap.size, 1, none⟩ (.slice ao len cap))) := (hB1.setCell (p := ⟨w.heap.size, 0, none⟩) (by simp) _).setCell (p := ⟨w.heap.size, 1, none⟩) (by simp) _
  have bW := b1.set (.int .i64 (n : Nat)) (.slice ao len cap)
  have HCW : Hid (∀ k, k < len → ∃ b off, ao = some ⟨b, off, none⟩ ∧ ((w1.setCell ⟨w.heap.size, 0, none⟩ (.int .i64 (n : Nat))).setCell ⟨w.heap.size, 1, none⟩ (.slice ao len cap)).cell? ⟨b, off + k, none⟩ = some (.int .u64 (f k : Nat)) ∧ f k < 18446744073709551616) := fun k hk => by
    obtain ⟨b, off, e, hbb, hc⟩ := hr.at_ (by omega)
    have hbne : b ≠ w.heap.size := by omega
    refine ⟨b, off, e, ?_, hr.small k hk⟩
    rw [← hc k hk, ← hB1.cell (p := ⟨b, off + k, none⟩) hbb]
    exact World.cell?_of_block (by rw [Below.heap_setCell _ _ _ _ hbne, Below.heap_setCell _ _ _ _ hbne])
  have hle := hs.hle
  have hlen := hs.hlen
  have hl8 : (len : Int) ≤ 128 := by omega
  have hup0 : ∀ j, 64 * len ≤ j → P j = false := fun j hj => hs.hout j (by omega)
  have HS : Hid (IsSet n len f P) := hs
  clear hr hB1 hs hle hlen
  go_wp2_with fail
  clear c10 c11 f10 f11
  generalize ((w1.setCell ⟨w.heap.size, 0, none⟩ (.int .i64 (n : Nat))).setCell ⟨w.heap.size, 1, none⟩ (.slice ao len cap)) = W2 at *
  obtain ⟨c10, c11, f10, f11⟩ := bW.cells
  go_loopw [4] (fun i wr => ∃ k : Nat, k ≤ len ∧ i = .int .i64 ((k : Int) - 1) ∧ (∀ j, 64 * k ≤ j → P j = false) ∧ wr = W2) (fun i _ => (intOf i + 1).toNat)
  case atStart => exact ⟨len, Nat.le_refl _, rfl, hup0, rfl⟩
  case round =>
    obtain ⟨k, hk, rfl, hno, rfl⟩ := hrel
    have HN : Hid (∀ j, 64 * k ≤ j → P j = false) := hno
    clear hno
    cases k with
    | zero =>
      go_wp2
      exact bodyPost_ret (v := .tuple #[.int .i64 0, .bool false]) (by simp [results, Tryd.results9, go_sem]) rfl ⟨.inr ⟨rfl, fun j => HN.out j (by omega)⟩, hBW.out⟩
    | succ k =>
      obtain ⟨b, off, rfl, hc, hv⟩ := HCW.out k (by omega)
      have hz := fun hz : f k = 0 => zero_word HS.out (i := k) (by omega) HN.out hz
      have hlw := fun s (h1 : s < 64) h2 h3 => last_word HS.out (i := k) (k := s) (by omega) HN.out h1 h2 h3
      have ek : ((k + 1 : Nat) : Int) - 1 = (k : Int) := by omega
      rw [ek]
      have hkl : (k : Int) < (len : Int) := by omega
      have hk0 : (0 : Int) ≤ (k : Int) := by omega
      generalize f k = y at *
      by_cases hy : y = 0
      · subst hy
        have HZ : Hid (∀ j, 64 * k ≤ j → P j = false) := hz rfl
        clear hz hlw
        go_wp2
        go_roundw
        case rel => exact ⟨k, by omega, by go_num, HZ.out, (by first | trivial | rfl)⟩
        case measure => simp [intOf]
      · obtain ⟨s, hs1, hs2, hs3, hs4⟩ := bitLen_top y hv hy
        have HL : Hid (64 * k + s < n ∧ P (64 * k + s) = true ∧ ∀ j, 64 * k + s < j → P j = false) := hlw s hs2 hs3 hs4
        have hl := fun W => len64_any y hv W
        rw [hs1] at hl
        have hnz : ((y : Int) != 0) = true := by simpa using hy
        have hcast : ((64 * k + s : Nat) : Int) = (k : Int) * 64 + ((s + 1 : Nat) : Int) - 1 := by omega
        obtain ⟨s1, es1⟩ : ∃ s1, s1 = s + 1 := ⟨_, rfl⟩
        rw [← es1] at hl hcast
        have hs65 : (s1 : Int) ≤ 64 := by omega
        clear hz hlw hs3 hs4 hs1 es1
        go_wp2_with (go_at_call 23; refine (hl _).mono ?_; rintro e w' ⟨rfl, rfl⟩)
        exact bodyPost_ret (v := .tuple #[.int .i64 ((k : Int) * 64 + s1 - 1), .bool true]) (by simp [results, Tryd.results9, go_sem]) rfl ⟨.inl ⟨64 * k + s, by rw [hcast], HL.out⟩, hBW.out⟩
end Go.Proofs.YtclgefpkcagbfaaDoor
