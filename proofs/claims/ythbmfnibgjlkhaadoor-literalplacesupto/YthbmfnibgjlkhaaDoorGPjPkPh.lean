/- Whether one of the letters is so: ContainsFunc. The reference's Places: the walk. Check: the walks of both sides. -/
import Derived.Test.YthbmfnibgjlkhaaDoorPi
import Derived.Deep.DeepCutAuto
import Derived.Deep.RegionWith
import Derived.Test.YthbmfnibgjlkhaaDoorGPaPb
import Derived.Test.YthbmfnibgjlkhaaDoorGPcPdPe
namespace Go.Proofs.YthbmfnibgjlkhaaDoor
open Go.RowKit Go.Shelf K
/-- Whether one of the first k letters is so. -/
def anyL (Q : Nat × Bool → Bool) (l : List (Nat × Bool)) (k : Nat) : Bool := (l.take k).any Q
theorem anyL_succ {Q : Nat × Bool → Bool} {l : List (Nat × Bool)} {k : Nat} {x : Nat × Bool} (h : l[k]? = some x) : anyL Q l (k + 1) = (anyL Q l k || Q x) := by
  unfold anyL
  rw [List.take_add_one, h]
  simp
theorem anyL_mono {Q : Nat × Bool → Bool} {l : List (Nat × Bool)} {k n : Nat} (hk : k ≤ n) (h : anyL Q l k = true) : anyL Q l n = true := by
  unfold anyL at h ⊢
  rw [List.any_eq_true] at h ⊢
  obtain ⟨x, hx, hq⟩ := h
  refine ⟨x, ?_, hq⟩
  have : l.take k = (l.take n).take k := by rw [List.take_take, Nat.min_eq_left hk]
  rw [this] at hx
  exact List.mem_of_mem_take hx
/-- A letter that takes one byte alone, and another letter of l takes that one and its other. -/
def twoW (P : Nat → Bool) (x : Nat × Bool) : Bool := !fol x && P x.1
set_option maxRecDepth 10000 in
set_option maxHeartbeats 2000000 in
theorem ask71 {P : Nat → Bool} {a b c d : Nat} (h4 : C4 P a b c d) (bc : Nat) (x : Nat × Bool) (w : World) (hx : x.1 < 256) (hc : Bx w bc (.int .u64 (a : Nat)) (.int .u64 (b : Nat)) (.int .u64 (c : Nat)) (.int .u64 (d : Nat))) : Calls Tryd.prog 71 #[.agg #[.int .u8 (x.1 : Nat), .bool x.2], .pointer (some ⟨bc, 0, none⟩)] w fun e w' => e = .returned (.bool (twoW P x)) ∧ Below w.heap.size w w' := by
  have hB := below1 w (.cells #[.int .u8 (x.1 : Nat), .bool x.2] 26)
  have kL := Cl.new w 26 [.int .u8 (x.1 : Nat), .bool x.2]
  have kc := hc.alloc (.cells #[.int .u8 (x.1 : Nat), .bool x.2] 26)
  have HF : Hid (∀ W : World, Calls Tryd.prog 37 #[.agg #[.int .u8 (x.1 : Nat), .bool x.2]] W fun e w' => e = .returned (.bool (fol x)) ∧ Below W.heap.size W w') := fun W => folds_any x.1 x.2 W hx
  have HH : Hid (∀ W : World, Calls Tryd.prog 72 #[.agg #[.int .u64 (a : Nat), .int .u64 (b : Nat), .int .u64 (c : Nat), .int .u64 (d : Nat)], .int .u8 (x.1 : Nat)] W fun e w' => e = .returned (.bool (P x.1)) ∧ Below W.heap.size W w') := fun W => has_c h4 x.1 W hx
  obtain ⟨R, hR⟩ : ∃ R, twoW P x = R := ⟨_, rfl⟩
  rw [hR]
  have HR : Hid ((!fol x && P x.1) = R) := hR
  clear hR hc h4
  obtain ⟨x1, x2⟩ := x
  dsimp only at *
  obtain ⟨s0, s1⟩ := kL.two.1
  cases hf : fol (x1, x2) with
  | true =>
    rw [hf] at HF HR
    obtain rfl : false = R := HR.out
    clear HH HR hf hx
    go_enter Tryd.func71, Tryd.ntmps71
    go_wp2_with (go_at_call 37; refine (HF.out _).mono ?_; rintro e w3 ⟨rfl, hb3⟩)
    go_ret
    exact ⟨rfl, hB.trans (hb3.mono hB.size)⟩
  | false =>
    rw [hf] at HF HR
    have e : P x1 = R := by have := HR.out; simpa using this
    rw [e] at HH
    clear HR hf hx e
    go_enter Tryd.func71, Tryd.ntmps71
    go_wp2_with (first | (go_at_call 72; refine (HH.out _).mono ?_; rintro e w4 ⟨rfl, hb4⟩) | (go_at_call 37; refine (HF.out _).mono ?_; rintro e w3 ⟨rfl, hb3⟩; have kL3 := kL.below hb3; have kc3 := kc.below hb3; obtain ⟨t0, t1⟩ := kL3.two.1; obtain ⟨c0, c1, c2, c3, _⟩ := kc3.cells))
    go_ret
    exact ⟨rfl, (hB.trans (hb3.mono hB.size)).trans (hb4.mono (Nat.le_trans hB.size hb3.size))⟩
set_option maxHeartbeats 2000000 in
theorem indexf71 (ao : Option Addr) (n cap : Nat) (l : List (Nat × Bool)) (p1 : Value) (Q : Nat × Bool → Bool) (w : World) (hr : RdL w ao l) (hL : l.length = n) (hm : (n : Int) ≤ 9223372036854775807) (HQ : ∀ W x, x ∈ l → Below w.heap.size w W → Calls Tryd.prog 71 #[.agg #[.int .u8 (x.1 : Nat), .bool x.2], p1] W fun e w' => e = .returned (.bool (Q x)) ∧ Below W.heap.size W w') :
    Calls Tryd.prog 66 #[.slice ao n cap, .func (.func 71) #[] #[p1]] w fun e w' => ∃ r : Int, e = .returned (.int .i64 r) ∧ decide (0 ≤ r) = anyL Q l n ∧ Below w.heap.size w w' := by
  have HL : Hid (l.length = n) := hL
  clear hL
  go_enter Tryd.func66, Tryd.ntmps66
  go_wp2_with fail
  go_loopw [8] (fun u wr => ∃ k : Nat, k ≤ n ∧ u = .int .i64 k ∧ anyL Q l k = false ∧ Below w.heap.size w wr) (fun u _ => n - (intOf u).toNat)
  case atStart => exact ⟨0, Nat.zero_le _, rfl, rfl, Below.refl _ _⟩
  case round =>
    obtain ⟨k, hk, rfl, hno, hbl⟩ := hrel
    by_cases hlt : k < n
    · obtain ⟨b, off, rfl, hb, hc⟩ := hr.below hbl (by rw [HL.out]; omega)
      obtain ⟨x, hx⟩ : ∃ x, l[k]? = some x := ⟨_, List.getElem?_eq_getElem (by rw [HL.out]; exact hlt)⟩
      obtain ⟨p0, p1'⟩ := hc k x hx
      have hki : (k : Int) < (n : Int) := by omega
      have HC : Hid (∀ W, Below w.heap.size w W → Calls Tryd.prog 71 #[.agg #[.int .u8 (x.1 : Nat), .bool x.2], p1] W fun e w' => e = .returned (.bool (Q x)) ∧ Below W.heap.size W w') := fun W h => HQ W x (List.mem_of_getElem? hx) h
      have hs := anyL_succ (Q := Q) hx
      clear hc HQ
      cases hq : Q x with
      | true =>
        have hyes : Hid (anyL Q l n = true) := anyL_mono (k := k + 1) hlt (by rw [hs, hq]; simp)
        rw [hq] at HC
        obtain ⟨x1, x2⟩ := x
        dsimp only at *
        clear hs hx hq
        go_wp2_with (go_at_call 71; refine (HC.out _ hbl).mono ?_; rintro e w1 ⟨rfl, hb1⟩)
        go_ret
        exact ⟨k, rfl, by rw [hyes.out]; simp, hbl.trans (hb1.mono hbl.size)⟩
      | false =>
        have hno' : anyL Q l (k + 1) = false := by rw [hs, hno, hq]; rfl
        rw [hq] at HC
        obtain ⟨x1, x2⟩ := x
        dsimp only at *
        clear hs hx hq
        go_wp2_with (go_at_call 71; refine (HC.out _ hbl).mono ?_; rintro e w1 ⟨rfl, hb1⟩)
        go_roundw
        case rel => exact ⟨k + 1, by omega, by go_num, hno', hbl.trans (hb1.mono hbl.size)⟩
        case measure => simp [intOf]; omega
    · obtain rfl : k = n := by omega
      go_wp2
      go_ret
      exact ⟨-1, rfl, by rw [hno]; rfl, hbl⟩
set_option maxHeartbeats 2000000 in
theorem containsf71 (ao : Option Addr) (n cap : Nat) (l : List (Nat × Bool)) (p1 : Value) (Q : Nat × Bool → Bool) (w : World) (hr : RdL w ao l) (hL : l.length = n) (hm : (n : Int) ≤ 9223372036854775807) (HQ : ∀ W x, x ∈ l → Below w.heap.size w W → Calls Tryd.prog 71 #[.agg #[.int .u8 (x.1 : Nat), .bool x.2], p1] W fun e w' => e = .returned (.bool (Q x)) ∧ Below W.heap.size W w') :
    Calls Tryd.prog 42 #[.slice ao n cap, .func (.func 71) #[] #[p1]] w fun e w' => e = .returned (.bool (anyL Q l n)) ∧ Below w.heap.size w w' := by
  have HI := indexf71 ao n cap l p1 Q w hr hL hm HQ
  clear HQ hL
  generalize anyL Q l n = R at *
  go_enter Tryd.func42, Tryd.ntmps42
  go_wp2_with (go_at_call 66; refine HI.mono ?_; rintro e w1 ⟨r, rfl, hr, hb1⟩)
  go_ret
  exact ⟨rfl, hb1⟩
end Go.Proofs.YthbmfnibgjlkhaaDoor
namespace Go.Proofs.YthbmfnibgjlkhaaDoor
open Go.RowKit Go.Shelf K
/-- The places of the first k at which l is. -/
noncomputable def plL (l : List (Nat × Bool)) (wz : Nat → Nat) (n k : Nat) : List Nat := (List.range k).filter fun a => atB l wz n (a : Int)
def rowN (L : List Nat) : List Value := L.map fun a => Value.int .i64 (a : Nat)
theorem plL_yes {l : List (Nat × Bool)} {wz : Nat → Nat} {n k : Nat} (h : atB l wz n (k : Int) = true) : plL l wz n (k + 1) = plL l wz n k ++ [k] := by
  simp [plL, List.range_succ, List.filter_append, h]
theorem plL_no {l : List (Nat × Bool)} {wz : Nat → Nat} {n k : Nat} (h : atB l wz n (k : Int) = false) : plL l wz n (k + 1) = plL l wz n k := by
  simp [plL, List.range_succ, List.filter_append, h]
theorem plL_len (l : List (Nat × Bool)) (wz : Nat → Nat) (n k : Nat) : (plL l wz n k).length ≤ k := by
  have := List.length_filter_le (fun a : Nat => atB l wz n (a : Int)) (List.range k)
  simpa [plL] using this
theorem rowN_snoc (L : List Nat) (k : Nat) : rowN (L ++ [k]) = rowN L ++ [.int .i64 (k : Nat)] := by simp [rowN]
/-- What Places answers. -/
def RetPl (w : World) (L : List Nat) (e : Ending) (w' : World) : Prop := ∃ v, e = .returned v ∧ w'.ownsRow w.heap.size 3 1 v L.length (rowN L) ∧ Below w.heap.size w w'
set_option maxRecDepth 10000 in
set_option maxHeartbeats 2000000 in
theorem rplaces_any (lo wo : Option Addr) (lc wc : Nat) (l : List (Nat × Bool)) (m n : Nat) (wz : Nat → Nat) (w : World) (hl : RdL w lo l) (hm : l.length = m) (hw : Rd w wo n wz) (hll : (m : Int) ≤ 1099511627776) (hn : (n : Int) ≤ 1099511627776) (hb : ∀ x ∈ l, x.1 < 256) : Calls Tryd.prog 20 #[.slice lo m lc, .slice wo n wc] w (RetPl w (plL l wz n (n + 1))) := by
  obtain ⟨i0, hi, hz0, hz1, hz2⟩ := info_parts b_int
  have k0 : w.ownsRow w.heap.size 3 1 (.slice none 0 0) (plL l wz n 0).length (rowN (plL l wz n 0)) := World.ownsRow_nil _ _ _ _
  have HA : Hid (∀ (k : Nat) (W : World), Below w.heap.size w W → Calls Tryd.prog 17 #[.slice lo m lc, .slice wo n wc, .int .i64 (k : Nat)] W (fun e w' => e = .returned (.bool (atB l wz n (k : Int))) ∧ Below W.heap.size W w')) := fun k W hW => by
    subst hm
    exact rat_any lo wo lc wc l n wz (k : Int) W (hl.below hW) (hw.below hW) (by omega) (by omega) hb hw.small
  clear hl hw hb
  have hB0 := Below.refl w.heap.size w
  go_enter Tryd.func20, Tryd.ntmps20
  go_wp2
  go_loopw [5, 6] (fun v i wr => ∃ k : Nat, k ≤ n + 1 ∧ i = .int .i64 (k : Nat) ∧ (∃ a c, v = .slice a (plL l wz n k).length c) ∧ wr.ownsRow w.heap.size 3 1 v (plL l wz n k).length (rowN (plL l wz n k)) ∧ Below w.heap.size w wr) (fun _ i _ => n + 1 - (intOf i).toNat)
  case atStart => exact ⟨0, Nat.zero_le _, rfl, ⟨none, 0, rfl⟩, k0, hB0⟩
  case round =>
    obtain ⟨k, hk, rfl, ⟨a1, c1, rfl⟩, ho1, hb1⟩ := hrel
    clear k0 hB0
    by_cases hlt : k ≤ n
    · have hki : (k : Int) ≤ (n : Int) := by omega
      have hlen := plL_len l wz n k
      have HC := HA.out k wr hb1
      cases hat : atB l wz n (k : Int) with
      | true =>
        rw [hat] at HC
        have HR : Hid (∀ W, Below wr.heap.size wr W → ∀ o : Obj, (W.alloc o).ownsRow w.heap.size 3 1 (.slice a1 (plL l wz n k).length c1) (plL l wz n k).length (rowN (plL l wz n k)) ∧ w.heap.size ≤ (W.alloc o).heap.size) := fun W h o => ⟨ownsRow_below (ownsRow_below ho1 h) (below1 W o), by have := hb1.size; have := h.size; simp; omega⟩
        have HN : Hid (∀ (W : World) j u, [Value.int .i64 (k : Nat)][j]? = some u → (W.alloc (.cells #[.int .i64 (k : Nat)] 3)).cell? (Addr.add ⟨W.heap.size, 0, none⟩ j) = some u) := fun W j u hj => by
          have k9 := Cl.new W 3 [.int .i64 (k : Nat)]
          have := k9.cell j hj
          have e : Addr.add ⟨W.heap.size, 0, none⟩ j = ⟨W.heap.size, j, none⟩ := by
            by_cases h0 : j = 0
            · subst h0; simp [Addr.add]
            · simp [Addr.add, h0]
          rw [e]; exact this
        have HG : Hid (∀ (W : World), Below wr.heap.size wr W → ∀ (o : Obj) v' w2, w2.ownsRow w.heap.size 3 1 v' ((plL l wz n k).length + 1) (rowN (plL l wz n k) ++ [.int .i64 (k : Nat)]) → (W.alloc o).grownBy w2 (Value.slice a1 (plL l wz n k).length c1).ownBlock → ∃ k' : Nat, k' ≤ n + 1 ∧ (Value.int .i64 ((k : Int) + 1)) = .int .i64 (k' : Nat) ∧ (∃ a c, v' = .slice a (plL l wz n k').length c) ∧ w2.ownsRow w.heap.size 3 1 v' (plL l wz n k').length (rowN (plL l wz n k')) ∧ Below w.heap.size w w2) := fun W hW o v' w2 h1 h2 => by
          obtain ⟨a9, c9, rfl⟩ := ownsRow_slice h1
          have e := plL_yes hat
          refine ⟨k + 1, by omega, by simp, ⟨a9, c9, by rw [e]; simp⟩, ?_, ?_⟩
          · rw [e, rowN_snoc]
            simpa using h1
          · have hbW := hb1.trans (hW.mono hb1.size)
            refine (hbW.trans ((below1 W o).mono hbW.size)).grown h2 (by have := hbW.size; simp; omega) ?_
            intro g hg
            exact ownsRow_own ho1 g hg
        clear ho1 hb1 hat HA
        generalize hq : (plL l wz n k).length = q at *
        clear hq
        go_wp2_with (first | (at_builtin; refine wpList_append_own _ rfl _ _ 42 rfl w.heap.size 3 i0 _ 1 8 Tryd.underlying42 hi hz0 hz1 hz2 rfl (by decide) _ _ _ rfl (HR.out _ hb3 _).1 ⟨w3.heap.size, 0, none⟩ 1 1 [.int .i64 (k : Nat)] rfl rfl (HN.out _) (by simp [Value.oneCell']) (by unfold maxLen; omega) (by omega) (HR.out _ hb3 _).2 ?_; intro v' w2 hown hgr hnil'; have HY : Hid _ := HG.out _ hb3 _ v' w2 hown hgr; clear hown hgr hnil') | (go_at_call 17; refine HC.mono ?_; rintro e w3 ⟨rfl, hb3⟩))
        go_roundw
        case rel => exact HY.out
        case measure => simp [intOf]; omega
      | false =>
        rw [hat] at HC
        have HG : Hid (∀ (W : World), Below wr.heap.size wr W → ∃ k' : Nat, k' ≤ n + 1 ∧ (Value.int .i64 ((k : Int) + 1)) = .int .i64 (k' : Nat) ∧ (∃ a c, (Value.slice a1 (plL l wz n k).length c1) = .slice a (plL l wz n k').length c) ∧ W.ownsRow w.heap.size 3 1 (.slice a1 (plL l wz n k).length c1) (plL l wz n k').length (rowN (plL l wz n k')) ∧ Below w.heap.size w W) := fun W hW => by
          have e := plL_no hat
          refine ⟨k + 1, by omega, by simp, ⟨a1, c1, by rw [e]⟩, ?_, hb1.trans (hW.mono hb1.size)⟩
          rw [e]
          exact ownsRow_below ho1 hW
        clear ho1 hb1 hat HA
        generalize hq : (plL l wz n k).length = q at *
        clear hq
        go_wp2_with (go_at_call 17; refine HC.mono ?_; rintro e w3 ⟨rfl, hb3⟩)
        go_roundw
        case rel => exact HG.out _ hb3
        case measure => simp [intOf]; omega
    · obtain rfl : k = n + 1 := by omega
      have hki : ¬ ((n + 1 : Nat) : Int) ≤ (n : Int) := by omega
      have HO : Hid (RetPl w (plL l wz n (n + 1)) (.returned (.slice a1 (plL l wz n (n + 1)).length c1)) wr) := ⟨_, rfl, ho1, hb1⟩
      clear ho1 HA
      go_wp2
      go_ret
      exact HO.out
end Go.Proofs.YthbmfnibgjlkhaaDoor
namespace Go.Proofs.YthbmfnibgjlkhaaDoor
open Go.RowKit Go.Shelf K
/-- A letter that says that it takes a great one, too, and has none. -/
def foN (x : Nat × Bool) : Bool := x.2 && !fol x
theorem foN_eq (x : Nat × Bool) : foN x = (x.2 && !smB x.1) := by
  unfold foN fol
  cases x.2 <;> simp
/-- What Check says. -/
def chL (l : List (Nat × Bool)) (n : Nat) : Bool := decide (2 ≤ n) && decide (n ≤ 16) && !anyL foN l n
def chV (l : List (Nat × Bool)) (n : Nat) : Value := .int .i64 (if chL l n then 0 else 150)
set_option maxRecDepth 10000 in
set_option maxHeartbeats 2000000 in
theorem ask43 (x : Nat × Bool) (w : World) (hx : x.1 < 256) : Calls Tryd.prog 43 #[.agg #[.int .u8 (x.1 : Nat), .bool x.2]] w fun e w' => e = .returned (.bool (foN x)) ∧ Below w.heap.size w w' := by
  have hB := below1 w (.cells #[.int .u8 (x.1 : Nat), .bool x.2] 26)
  have kL := Cl.new w 26 [.int .u8 (x.1 : Nat), .bool x.2]
  have HF : Hid (∀ W : World, Calls Tryd.prog 37 #[.agg #[.int .u8 (x.1 : Nat), .bool x.2]] W fun e w' => e = .returned (.bool (fol x)) ∧ Below W.heap.size W w') := fun W => folds_any x.1 x.2 W hx
  obtain ⟨R, hR⟩ : ∃ R, foN x = R := ⟨_, rfl⟩
  rw [hR]
  have HR : Hid ((x.2 && !fol x) = R) := hR
  clear hR
  generalize fol x = q at *
  obtain ⟨x1, x2⟩ := x
  dsimp only at *
  obtain ⟨s0, s1⟩ := kL.two.1
  cases x2 with
  | false =>
    obtain rfl : false = R := HR.out
    clear HF HR hx
    go_enter Tryd.func43, Tryd.ntmps43
    go_wp2
    go_ret
    exact ⟨rfl, hB⟩
  | true =>
    have e : (!q) = R := by have := HR.out; simpa using this
    clear HR hx
    go_enter Tryd.func43, Tryd.ntmps43
    go_wp2_with (go_at_call 37; refine (HF.out _).mono ?_; rintro e w3 ⟨rfl, hb3⟩)
    go_ret
    exact ⟨by rw [← e]; rfl, hB.trans (hb3.mono hB.size)⟩
set_option maxHeartbeats 2000000 in
theorem indexf43 (ao : Option Addr) (n cap : Nat) (l : List (Nat × Bool)) (Q : Nat × Bool → Bool) (w : World) (hr : RdL w ao l) (hL : l.length = n) (hm : (n : Int) ≤ 9223372036854775807) (HQ : ∀ W x, x ∈ l → Below w.heap.size w W → Calls Tryd.prog 43 #[.agg #[.int .u8 (x.1 : Nat), .bool x.2]] W fun e w' => e = .returned (.bool (Q x)) ∧ Below W.heap.size W w') :
    Calls Tryd.prog 66 #[.slice ao n cap, .func (.func 43) #[] #[]] w fun e w' => ∃ r : Int, e = .returned (.int .i64 r) ∧ decide (0 ≤ r) = anyL Q l n ∧ Below w.heap.size w w' := by
  have HL : Hid (l.length = n) := hL
  clear hL
  go_enter Tryd.func66, Tryd.ntmps66
  go_wp2_with fail
  go_loopw [8] (fun u wr => ∃ k : Nat, k ≤ n ∧ u = .int .i64 k ∧ anyL Q l k = false ∧ Below w.heap.size w wr) (fun u _ => n - (intOf u).toNat)
  case atStart => exact ⟨0, Nat.zero_le _, rfl, rfl, Below.refl _ _⟩
  case round =>
    obtain ⟨k, hk, rfl, hno, hbl⟩ := hrel
    by_cases hlt : k < n
    · obtain ⟨b, off, rfl, hb, hc⟩ := hr.below hbl (by rw [HL.out]; omega)
      obtain ⟨x, hx⟩ : ∃ x, l[k]? = some x := ⟨_, List.getElem?_eq_getElem (by rw [HL.out]; exact hlt)⟩
      obtain ⟨p0, p1'⟩ := hc k x hx
      have hki : (k : Int) < (n : Int) := by omega
      have HC : Hid (∀ W, Below w.heap.size w W → Calls Tryd.prog 43 #[.agg #[.int .u8 (x.1 : Nat), .bool x.2]] W fun e w' => e = .returned (.bool (Q x)) ∧ Below W.heap.size W w') := fun W h => HQ W x (List.mem_of_getElem? hx) h
      have hs := anyL_succ (Q := Q) hx
      clear hc HQ
      cases hq : Q x with
      | true =>
        have hyes : Hid (anyL Q l n = true) := anyL_mono (k := k + 1) hlt (by rw [hs, hq]; simp)
        rw [hq] at HC
        obtain ⟨x1, x2⟩ := x
        dsimp only at *
        clear hs hx hq
        go_wp2_with (go_at_call 43; refine (HC.out _ hbl).mono ?_; rintro e w1 ⟨rfl, hb1⟩)
        go_ret
        exact ⟨k, rfl, by rw [hyes.out]; simp, hbl.trans (hb1.mono hbl.size)⟩
      | false =>
        have hno' : anyL Q l (k + 1) = false := by rw [hs, hno, hq]; rfl
        rw [hq] at HC
        obtain ⟨x1, x2⟩ := x
        dsimp only at *
        clear hs hx hq
        go_wp2_with (go_at_call 43; refine (HC.out _ hbl).mono ?_; rintro e w1 ⟨rfl, hb1⟩)
        go_roundw
        case rel => exact ⟨k + 1, by omega, by go_num, hno', hbl.trans (hb1.mono hbl.size)⟩
        case measure => simp [intOf]; omega
    · obtain rfl : k = n := by omega
      go_wp2
      go_ret
      exact ⟨-1, rfl, by rw [hno]; rfl, hbl⟩
set_option maxHeartbeats 2000000 in
theorem containsf43 (ao : Option Addr) (n cap : Nat) (l : List (Nat × Bool)) (Q : Nat × Bool → Bool) (w : World) (hr : RdL w ao l) (hL : l.length = n) (hm : (n : Int) ≤ 9223372036854775807) (HQ : ∀ W x, x ∈ l → Below w.heap.size w W → Calls Tryd.prog 43 #[.agg #[.int .u8 (x.1 : Nat), .bool x.2]] W fun e w' => e = .returned (.bool (Q x)) ∧ Below W.heap.size W w') :
    Calls Tryd.prog 42 #[.slice ao n cap, .func (.func 43) #[] #[]] w fun e w' => e = .returned (.bool (anyL Q l n)) ∧ Below w.heap.size w w' := by
  have HI := indexf43 ao n cap l Q w hr hL hm HQ
  clear HQ hL
  generalize anyL Q l n = R at *
  go_enter Tryd.func42, Tryd.ntmps42
  go_wp2_with (go_at_call 66; refine HI.mono ?_; rintro e w1 ⟨r, rfl, hr, hb1⟩)
  go_ret
  exact ⟨rfl, hb1⟩
set_option maxRecDepth 10000 in
set_option maxHeartbeats 2000000 in
theorem litcheck_any (ao : Option Addr) (n cap : Nat) (l : List (Nat × Bool)) (w : World) (hr : RdL w ao l) (hL : l.length = n) (hm : (n : Int) ≤ 9223372036854775807) (hb : ∀ x ∈ l, x.1 < 256) : Calls Tryd.prog 14 #[.slice ao n cap] w fun e w' => e = .returned (chV l n) ∧ Below w.heap.size w w' := by
  have HC : Hid (Calls Tryd.prog 42 #[.slice ao n cap, .func (.func 43) #[] #[]] w fun e w' => e = .returned (.bool (anyL foN l n)) ∧ Below w.heap.size w w') := containsf43 ao n cap l foN w hr hL hm (fun W x hx _ => ask43 x W (hb x hx))
  clear hr hL hb
  by_cases h2 : n < 2
  · have e : chV l n = .int .i64 150 := by
      have : decide (2 ≤ n) = false := by simp; omega
      simp [chV, chL, this]
    rw [e]
    have hi : (n : Int) < 2 := by omega
    clear e HC
    go_enter Tryd.func14, Tryd.ntmps14
    go_wp2
    go_ret
    exact ⟨rfl, Below.refl _ _⟩
  by_cases h16 : n > 16
  · have e : chV l n = .int .i64 150 := by
      have : decide (n ≤ 16) = false := by simp; omega
      simp [chV, chL, this]
    rw [e]
    have hi : ¬ (n : Int) < 2 := by omega
    have hj : (n : Int) > 16 := by omega
    clear e HC
    go_enter Tryd.func14, Tryd.ntmps14
    go_wp2
    go_ret
    exact ⟨rfl, Below.refl _ _⟩
  have hi : ¬ (n : Int) < 2 := by omega
  have hj : ¬ (n : Int) > 16 := by omega
  have e : chV l n = .int .i64 (if anyL foN l n then 150 else 0) := by
    have e1 : decide (2 ≤ n) = true := by simp; omega
    have e2 : decide (n ≤ 16) = true := by simp; omega
    simp only [chV, chL, e1, e2, Bool.true_and]
    cases anyL foN l n <;> rfl
  rw [e]
  clear e
  cases ha : anyL foN l n with
  | true =>
    rw [ha] at HC
    go_enter Tryd.func14, Tryd.ntmps14
    go_wp2_with (go_at_call 42; refine HC.out.mono ?_; rintro e w3 ⟨rfl, hb3⟩)
    go_ret
    exact ⟨rfl, hb3⟩
  | false =>
    rw [ha] at HC
    go_enter Tryd.func14, Tryd.ntmps14
    go_wp2_with (go_at_call 42; refine HC.out.mono ?_; rintro e w3 ⟨rfl, hb3⟩)
    go_ret
    exact ⟨rfl, hb3⟩
set_option maxRecDepth 10000 in
set_option maxHeartbeats 2000000 in
theorem rlitcheck_any (ao : Option Addr) (n cap : Nat) (l : List (Nat × Bool)) (w : World) (hr : RdL w ao l) (hL : l.length = n) (hm : (n : Int) ≤ 9223372036854775807) (hb : ∀ x ∈ l, x.1 < 256) : Calls Tryd.prog 15 #[.slice ao n cap] w fun e w' => e = .returned (chV l n) ∧ Below w.heap.size w w' := by
  have HL : Hid (l.length = n) := hL
  clear hL
  by_cases h2 : n < 2
  · have e : chV l n = .int .i64 150 := by
      have : decide (2 ≤ n) = false := by simp; omega
      simp [chV, chL, this]
    rw [e]
    have hi : (n : Int) < 2 := by omega
    clear e hr hb
    go_enter Tryd.func15, Tryd.ntmps15
    go_wp2
    go_ret
    exact ⟨rfl, Below.refl _ _⟩
  by_cases h16 : n > 16
  · have e : chV l n = .int .i64 150 := by
      have : decide (n ≤ 16) = false := by simp; omega
      simp [chV, chL, this]
    rw [e]
    have hi : ¬ (n : Int) < 2 := by omega
    have hj : (n : Int) > 16 := by omega
    clear e hr hb
    go_enter Tryd.func15, Tryd.ntmps15
    go_wp2
    go_ret
    exact ⟨rfl, Below.refl _ _⟩
  have hi : ¬ (n : Int) < 2 := by omega
  have hj : ¬ (n : Int) > 16 := by omega
  have he : chV l n = .int .i64 (if anyL foN l n then 150 else 0) := by
    have e1 : decide (2 ≤ n) = true := by simp; omega
    have e2 : decide (n ≤ 16) = true := by simp; omega
    simp only [chV, chL, e1, e2, Bool.true_and]
    cases anyL foN l n <;> rfl
  obtain ⟨V, hV⟩ : ∃ V : Int, (if anyL foN l n then (150 : Int) else 0) = V := ⟨_, rfl⟩
  rw [he, hV]
  have HV : Hid ((if anyL foN l n then (150 : Int) else 0) = V) := hV
  clear he hV
  go_enter Tryd.func15, Tryd.ntmps15
  go_wp2
  go_loopw [3] (fun u wr => ∃ k : Nat, k ≤ n ∧ u = .int .i64 k ∧ anyL foN l k = false ∧ Below w.heap.size w wr) (fun u _ => n - (intOf u).toNat)
  case atStart => exact ⟨0, Nat.zero_le _, rfl, rfl, Below.refl _ _⟩
  case round =>
    obtain ⟨k, hk, rfl, hno, hbl⟩ := hrel
    by_cases hlt : k < n
    · obtain ⟨b, off, rfl, _, hc⟩ := hr.below hbl (by rw [HL.out]; omega)
      obtain ⟨x, hx⟩ : ∃ x, l[k]? = some x := ⟨_, List.getElem?_eq_getElem (by rw [HL.out]; exact hlt)⟩
      obtain ⟨p0, p1⟩ := hc k x hx
      have hki : (k : Int) < (n : Int) := by omega
      have hx256 := hb x (List.mem_of_getElem? hx)
      have HS : Hid (∀ W : World, Calls Tryd.prog 36 #[.int .u8 (x.1 : Nat)] W fun e w' => e = .returned (.bool (smB x.1)) ∧ w' = W) := fun W => small_any x.1 W hx256
      have hs := anyL_succ (Q := foN) hx
      rw [foN_eq, hno] at hs
      have hyes : anyL foN l (k + 1) = true → anyL foN l n = true := anyL_mono hlt
      obtain ⟨x1, x2⟩ := x
      dsimp only at *
      clear hc hx hb hx256
      cases x2 with
      | false =>
        have hno' : anyL foN l (k + 1) = false := by rw [hs]; rfl
        clear hs hyes hno HS
        go_wp2
        go_roundw
        case rel => exact ⟨k + 1, by omega, by go_num, hno', hbl⟩
        case measure => simp [intOf]; omega
      | true =>
        cases hsm : smB x1 with
        | true =>
          have hno' : anyL foN l (k + 1) = false := by rw [hs, hsm]; rfl
          rw [hsm] at HS
          clear hs hyes hno hsm
          go_wp2_with (go_at_call 36; refine (HS.out _).mono ?_; rintro e w3 ⟨rfl, rfl⟩)
          go_roundw
          case rel => exact ⟨k + 1, by omega, by go_num, hno', hbl⟩
          case measure => simp [intOf]; omega
        | false =>
          have hY : anyL foN l n = true := hyes (by rw [hs, hsm]; rfl)
          obtain rfl : (150 : Int) = V := by have := HV.out; rw [hY] at this; exact this
          clear HV hY
          rw [hsm] at HS
          clear hs hyes hno hsm
          go_wp2_with (go_at_call 36; refine (HS.out _).mono ?_; rintro e w3 ⟨rfl, rfl⟩)
          go_ret
          exact ⟨rfl, hbl⟩
    · obtain rfl : k = n := by omega
      obtain rfl : (0 : Int) = V := by have := HV.out; rw [hno] at this; exact this
      clear HV hno hr
      go_wp2
      go_ret
      exact ⟨rfl, hbl⟩
end Go.Proofs.YthbmfnibgjlkhaaDoor
