/- At: the walks of both sides. The reference's At: its walk. -/
import Derived.Test.YthbmfnibgjlkhaaDoorLg
import Derived.Test.YthbmfnibgjlkhaaDoorGLaLbLc
import Derived.Deep.DeepCutAuto
import Derived.Deep.RegionHeld3
namespace Go.Proofs.YthbmfnibgjlkhaaDoor
open Go.RowKit K
/-- The first j letters of l take the bytes of wz from a on. -/
def atT (l : List (Nat × Bool)) (wz : Nat → Nat) (a j : Nat) : Prop := ∀ i, i < j → ∀ x, l[i]? = some x → clP x.1 x.2 (wz (a + i)) = true
theorem atT.succ {l : List (Nat × Bool)} {wz : Nat → Nat} {a j : Nat} {x : Nat × Bool} (h : atT l wz a j) (hx : l[j]? = some x) (hc : clP x.1 x.2 (wz (a + j)) = true) : atT l wz a (j + 1) := fun i hi y hy => by
  rcases Nat.lt_or_ge i j with h' | h'
  · exact h i h' y hy
  · obtain rfl : i = j := by omega
    rw [hx] at hy
    obtain rfl := Option.some.inj hy
    exact hc
open Classical in
/-- What At answers. -/
noncomputable def atB (l : List (Nat × Bool)) (wz : Nat → Nat) (n : Nat) (a : Int) : Bool := decide (0 ≤ a ∧ a + l.length ≤ n ∧ atT l wz a.toNat l.length)
open Classical in
theorem atB_true {l : List (Nat × Bool)} {wz : Nat → Nat} {n : Nat} {a : Int} : atB l wz n a = true ↔ (0 ≤ a ∧ a + l.length ≤ n ∧ atT l wz a.toNat l.length) := decide_eq_true_iff
open Classical in
theorem atB_false {l : List (Nat × Bool)} {wz : Nat → Nat} {n : Nat} {a : Int} : atB l wz n a = false ↔ ¬ (0 ≤ a ∧ a + l.length ≤ n ∧ atT l wz a.toNat l.length) := decide_eq_false_iff_not
set_option maxRecDepth 10000 in
set_option maxHeartbeats 2000000 in
theorem at_any (lo wo : Option Addr) (lc wc : Nat) (l : List (Nat × Bool)) (n : Nat) (wz : Nat → Nat) (a : Int) (w : World) (hl : RdL w lo l) (hw : Rd w wo n wz) (hll : (l.length : Int) ≤ 4611686018427387904) (hn : (n : Int) ≤ 4611686018427387904) (hb : ∀ x ∈ l, x.1 < 256) : Calls Tryd.prog 16 #[.slice lo l.length lc, .slice wo n wc, .int .i64 a] w (fun e w' => e = .returned (.bool (atB l wz n a)) ∧ Below w.heap.size w w') := by
  have hB0 := Below.refl w.heap.size w
  obtain ⟨m, hm⟩ : ∃ m, l.length = m := ⟨_, rfl⟩
  by_cases h0 : a < 0
  · have e : atB l wz n a = false := by
      rw [atB_false]
      omega
    rw [e, hm]
    clear e hl hw
    go_enter Tryd.func16, Tryd.ntmps16
    go_wp2
    go_ret
    exact ⟨rfl, hB0⟩
  by_cases h1 : a > (n : Int) - (m : Int)
  · have e : atB l wz n a = false := by
      rw [atB_false]
      omega
    rw [e, hm]
    rw [hm] at hll
    clear e hl hw
    have hwr : IntKind.i64.wrap ((n : Int) - (m : Int)) = (n : Int) - (m : Int) := by rw [IntKind.wrap_i64]; omega
    go_enter Tryd.func16, Tryd.ntmps16
    go_wp2
    go_ret
    exact ⟨rfl, hB0⟩
  obtain ⟨p, rfl⟩ := Int.eq_ofNat_of_zero_le (Int.not_lt.1 h0)
  have HL : Hid (l.length = m) := hm
  have hpn : p + m ≤ n := by omega
  rw [hm] at hll ⊢
  clear hm
  have hwr : IntKind.i64.wrap ((n : Int) - (m : Int)) = (n : Int) - (m : Int) := by rw [IntKind.wrap_i64]; omega
  have h0' : ¬ (p : Int) < 0 := by omega
  have h1' : ¬ (p : Int) > (n : Int) - (m : Int) := h1
  go_enter Tryd.func16, Tryd.ntmps16
  go_wp2
  go_loopw [22] (fun i wr => ∃ j : Nat, j ≤ m ∧ i = .int .i64 (j : Nat) ∧ Below w.heap.size w wr ∧ Hid (atT l wz p j)) (fun i _ => m - (intOf i).toNat)
  case atStart => exact ⟨0, by omega, rfl, hB0, fun j hj => by omega⟩
  case round =>
    obtain ⟨j, hj, rfl, hbr, hs⟩ := hrel
    by_cases hlt : j < m
    · have hji : (j : Int) < (m : Int) := by omega
      obtain ⟨b1, o1, rfl, l1, hc1⟩ := hl.below hbr (by rw [HL.out]; omega)
      obtain ⟨b2, o2, rfl, l2, hc2⟩ := (hw.below hbr).at_ (by omega)
      obtain ⟨x, hx⟩ : ∃ x, l[j]? = some x := ⟨_, List.getElem?_eq_getElem (by rw [HL.out]; exact hlt)⟩
      obtain ⟨p0, p1⟩ := hc1 j x hx
      have q0 := hc2 (p + j) (by omega)
      have hx256 : x.1 < 256 := hb x (List.mem_of_getElem? hx)
      have HI : Hid (∀ W : World, Calls Tryd.prog 12 #[.agg #[.int .u8 (x.1 : Nat), .bool x.2], .int .u8 (wz (p + j) : Nat)] W fun e w' => e = .returned (.bool (clP x.1 x.2 (wz (p + j)))) ∧ Below W.heap.size W w') := fun W => is_any x.1 _ x.2 W hx256
      have HY : Hid (clP x.1 x.2 (wz (p + j)) = true → atT l wz p (j + 1)) := fun h => hs.out.succ hx h
      have HN : Hid (clP x.1 x.2 (wz (p + j)) = false → atB l wz n (p : Int) = false) := fun h => by
        rw [atB_false]
        rintro ⟨_, _, h3⟩
        have := h3 j (by rw [HL.out]; exact hlt) x hx
        rw [Int.toNat_natCast, h] at this
        cases this
      obtain ⟨x1, x2⟩ := x
      dsimp only at *
      have hw2 : IntKind.i64.wrap ((p : Int) + (j : Int)) = (p : Int) + (j : Int) := by rw [IntKind.wrap_i64]; omega
      have ht : ((p : Int) + (j : Int)).toNat = p + j := by omega
      have hpj : (p : Int) + (j : Int) < (n : Int) := by omega
      have hpj0 : (0 : Int) ≤ (p : Int) + (j : Int) := by omega
      have S0 := Cl.new wr 26 [.int .u8 (x1 : Nat), .bool x2]
      have q0' : (wr.alloc (.cells #[.int .u8 (x1 : Nat), .bool x2] 26)).cell? ⟨b2, o2 + (p + j), none⟩ = some (.int .u8 (wz (p + j) : Nat)) := by
        rw [(below1 wr _).cell (p := ⟨b2, _, none⟩) l2]; exact q0
      have hbr2 := hbr.alloc hbr.size (.cells #[.int .u8 (x1 : Nat), .bool x2] 26)
      obtain ⟨s0, s1⟩ := S0.two.1
      clear hc1 hc2 hl hw hx hs S0 hb
      generalize wz (p + j) = y at *
      go_wp2_with fail
      cases hc : clP x1 x2 y with
      | true =>
        have HO := HY.out hc
        rw [hc] at HI
        clear HY HN hc
        go_region_with (go_at_call 12; refine (HI.out _).mono ?_; rintro e w3 ⟨rfl, hb3⟩)
        all_goals
          have hb4 := hbr2.drew.trans (hb3.mono hbr2.drew.size)
          clear HI q0 q0' p0 p1 s0 s1 hb3 hbr2
          go_wp2
          go_roundw
          case rel => exact ⟨j + 1, by omega, by go_num, hb4, HO⟩
          case measure => simp [intOf]; omega
      | false =>
        have HO := HN.out hc
        rw [hc] at HI
        clear HY HN hc
        go_region_with (go_at_call 12; refine (HI.out _).mono ?_; rintro e w3 ⟨rfl, hb3⟩)
        all_goals
          have hb4 := hbr2.drew.trans (hb3.mono hbr2.drew.size)
          clear HI q0 q0' p0 p1 s0 s1 hb3 hbr2
          go_wp2
          go_ret
          exact ⟨by rw [HO]; rfl, hb4⟩
    · obtain rfl : j = m := by omega
      have e : atB l wz n (p : Int) = true := by
        rw [atB_true]
        refine ⟨by omega, by rw [HL.out]; omega, ?_⟩
        rw [HL.out, Int.toNat_natCast]
        exact hs.out
      have HO : Hid (atB l wz n (p : Int) = true) := e
      clear e hs hl hw hb
      go_wp2
      go_ret
      exact ⟨by rw [HO.out]; rfl, hbr⟩
end Go.Proofs.YthbmfnibgjlkhaaDoor
namespace Go.Proofs.YthbmfnibgjlkhaaDoor
open Go.RowKit K
set_option maxRecDepth 10000 in
set_option maxHeartbeats 2000000 in
theorem rat_any (lo wo : Option Addr) (lc wc : Nat) (l : List (Nat × Bool)) (n : Nat) (wz : Nat → Nat) (a : Int) (w : World) (hl : RdL w lo l) (hw : Rd w wo n wz) (hll : (l.length : Int) ≤ 4611686018427387904) (hn : (n : Int) ≤ 4611686018427387904) (hb : ∀ x ∈ l, x.1 < 256) (hz : ∀ i, i < n → wz i < 256) : Calls Tryd.prog 17 #[.slice lo l.length lc, .slice wo n wc, .int .i64 a] w (fun e w' => e = .returned (.bool (atB l wz n a)) ∧ Below w.heap.size w w') := by
  have hB0 := Below.refl w.heap.size w
  obtain ⟨m, hm⟩ : ∃ m, l.length = m := ⟨_, rfl⟩
  by_cases h0 : a < 0
  · have e : atB l wz n a = false := by
      rw [atB_false]
      omega
    rw [e, hm]
    clear e hl hw
    go_enter Tryd.func17, Tryd.ntmps17
    go_wp2
    go_ret
    exact ⟨rfl, hB0⟩
  by_cases h1 : a > (n : Int) - (m : Int)
  · have e : atB l wz n a = false := by
      rw [atB_false]
      omega
    rw [e, hm]
    rw [hm] at hll
    clear e hl hw
    have h0b : 0 ≤ a := by omega
    by_cases h2 : a > (n : Int)
    · go_enter Tryd.func17, Tryd.ntmps17
      go_wp2
      go_ret
      exact ⟨rfl, hB0⟩
    · have hwr : IntKind.i64.wrap ((n : Int) - a) = (n : Int) - a := by rw [IntKind.wrap_i64]; omega
      have h3 : (m : Int) > (n : Int) - a := by omega
      have h2' : a ≤ (n : Int) := by omega
      go_enter Tryd.func17, Tryd.ntmps17
      go_wp2
      go_ret
      exact ⟨rfl, hB0⟩
  obtain ⟨p, rfl⟩ := Int.eq_ofNat_of_zero_le (Int.not_lt.1 h0)
  have HL : Hid (l.length = m) := hm
  have hpn : p + m ≤ n := by omega
  rw [hm] at hll ⊢
  clear hm
  have hwr : IntKind.i64.wrap ((n : Int) - (p : Int)) = (n : Int) - (p : Int) := by rw [IntKind.wrap_i64]; omega
  have h0' : ¬ (p : Int) < 0 := by omega
  have h1' : ¬ (m : Int) > (n : Int) - (p : Int) := by omega
  have h2' : ¬ (p : Int) > (n : Int) := by omega
  go_enter Tryd.func17, Tryd.ntmps17
  go_wp2
  go_loopw [7] (fun i wr => ∃ j : Nat, j ≤ m ∧ i = .int .i64 (j : Nat) ∧ Below w.heap.size w wr ∧ Hid (atT l wz p j)) (fun i _ => m - (intOf i).toNat)
  case atStart => exact ⟨0, by omega, rfl, hB0, fun j hj => by omega⟩
  case round =>
    obtain ⟨j, hj, rfl, hbr, hs⟩ := hrel
    by_cases hlt : j < m
    · have hji : (j : Int) < (m : Int) := by omega
      obtain ⟨b1, o1, rfl, l1, hc1⟩ := hl.below hbr (by rw [HL.out]; omega)
      obtain ⟨b2, o2, rfl, l2, hc2⟩ := (hw.below hbr).at_ (by omega)
      obtain ⟨x, hx⟩ : ∃ x, l[j]? = some x := ⟨_, List.getElem?_eq_getElem (by rw [HL.out]; exact hlt)⟩
      obtain ⟨p0, p1⟩ := hc1 j x hx
      have q0 := hc2 (p + j) (by omega)
      have hx256 : x.1 < 256 := hb x (List.mem_of_getElem? hx)
      have HI : Hid (∀ W : World, Calls Tryd.prog 13 #[.agg #[.int .u8 (x.1 : Nat), .bool x.2], .int .u8 (wz (p + j) : Nat)] W fun e w' => e = .returned (.bool (clP x.1 x.2 (wz (p + j)))) ∧ Below W.heap.size W w') := fun W => ris_any x.1 _ x.2 W hx256 (hz (p + j) (by omega))
      have HY : Hid (clP x.1 x.2 (wz (p + j)) = true → atT l wz p (j + 1)) := fun h => hs.out.succ hx h
      have HN : Hid (clP x.1 x.2 (wz (p + j)) = false → atB l wz n (p : Int) = false) := fun h => by
        rw [atB_false]
        rintro ⟨_, _, h3⟩
        have := h3 j (by rw [HL.out]; exact hlt) x hx
        rw [Int.toNat_natCast, h] at this
        cases this
      obtain ⟨x1, x2⟩ := x
      dsimp only at *
      have hw2 : IntKind.i64.wrap ((p : Int) + (j : Int)) = (p : Int) + (j : Int) := by rw [IntKind.wrap_i64]; omega
      have ht : ((p : Int) + (j : Int)).toNat = p + j := by omega
      have hpj : (p : Int) + (j : Int) < (n : Int) := by omega
      have hpj0 : (0 : Int) ≤ (p : Int) + (j : Int) := by omega
      clear hc1 hc2 hl hw hx hs hb
      generalize wz (p + j) = y at *
      go_wp2_with fail
      cases hc : clP x1 x2 y with
      | true =>
        have HO := HY.out hc
        rw [hc] at HI
        clear HY HN hc
        go_region_with (go_at_call 13; refine (HI.out _).mono ?_; rintro e w3 ⟨rfl, hb3⟩)
        all_goals
          have hb4 := hbr.drew.trans (hb3.mono hbr.drew.size)
          clear HI q0 p0 p1 hb3 hbr
          go_wp2
          go_roundw
          case rel => exact ⟨j + 1, by omega, by go_num, hb4, HO⟩
          case measure => simp [intOf]; omega
      | false =>
        have HO := HN.out hc
        rw [hc] at HI
        clear HY HN hc
        go_region_with (go_at_call 13; refine (HI.out _).mono ?_; rintro e w3 ⟨rfl, hb3⟩)
        all_goals
          have hb4 := hbr.drew.trans (hb3.mono hbr.drew.size)
          clear HI q0 p0 p1 hb3 hbr
          go_wp2
          go_ret
          exact ⟨by rw [HO]; rfl, hb4⟩
    · obtain rfl : j = m := by omega
      have e : atB l wz n (p : Int) = true := by
        rw [atB_true]
        refine ⟨by omega, by rw [HL.out]; omega, ?_⟩
        rw [HL.out, Int.toNat_natCast]
        exact hs.out
      have HO : Hid (atB l wz n (p : Int) = true) := e
      clear e hs hl hw hb
      go_wp2
      go_ret
      exact ⟨by rw [HO.out]; rfl, hbr⟩
end Go.Proofs.YthbmfnibgjlkhaaDoor
