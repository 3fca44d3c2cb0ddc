/- Match, few, the law's leaf: the walks. The law's leaf, slices.Equal of ints: the walks. slices.Repeat of one int: the walk. -/
import Derived.Test.YtiiecppkabdkgabDoorMt
import Derived.Test.YtiiecppkabdkgabDoorGApCeLi
import Derived.Test.YtiiecppkabdkgabDoorGRlPlRj
import Derived.Test.YtiiecppkabdkgabDoorGNbStSoSpSaNl
import Derived.Laws.CopyOwn
import Derived.Deep.RegionLaw
import Derived.Shelf.Bits.Mul64
namespace Go.Proofs.YtiiecppkabdkgabDoor
open Go.RowKit
set_option maxRecDepth 10000 in
set_option maxHeartbeats 2000000 in
theorem match_in (to_ : Option Addr) (m c : Nat) (F : Nat → Nd) (ao : Option Addr) (n cap : Nat) (mu : Bool) (fr tt : Nat) (f : Nat → Nat) (w : World) (ht : RdN w to_ m F) (hm : (m : Int) ≤ 9223372036854775807) (hF : ∀ i, i < m → wfN (F i)) (hr : RdB w ao n f) (hn : n ≤ 24) (htn : tt ≤ n) (hft : fr ≤ tt) (hT : TabZ w) :
    Calls Tryd.prog 17 #[.agg #[.slice to_ m c], .bool mu, .slice ao n cap, .int .i64 (fr : Nat), .int .i64 (tt : Nat)] w fun e w' => e = .returned (.bool (mTab f n mu F m fr (tt - fr))) ∧ Below w.heap.size w w' := by
  have hb0 := below1 w (.cells #[.slice to_ m c] 24)
  have k0 := Cl.new w 24 [.slice to_ m c]
  have HM := meant_any to_ m c F ao n cap mu fr tt f (tt - fr + 1) _ (ht.below hb0) hm hF (hr.below hb0) hn htn hft rfl (hT.below hb0)
  have hbit : (wrd (tt - fr + 1) (tSh fr (mTab f n mu F m)) 0).testBit (tt - fr) = mTab f n mu F m fr (tt - fr) := by
    unfold wrd
    rw [bitsOf_bit]
    simp [tSh]
    intro _; omega
  have h1 : (0 : Int) ≤ (fr : Int) := by omega
  have h2 : (fr : Int) ≤ (tt : Int) := by omega
  have h3 : (tt : Int) ≤ (n : Int) := by omega
  have h4 : (tt : Int) - (fr : Int) = ((tt - fr : Nat) : Int) := by omega
  have h5 : (tt : Int) ≤ 24 := by omega
  have h6 : (0 : Int) < ((tt - fr + 1 : Nat) : Int) := by omega
  have h7 : tt - fr ≤ 24 := by omega
  have c0 := k0.cell 0 rfl
  clear ht hF hr hT k0
  unfold pgV at HM
  unfold RetTab at HM
  generalize tSh fr (mTab f n mu F m) = TT at *
  generalize mTab f n mu F m fr (tt - fr) = BB at *
  generalize tt - fr = dd at *
  go_enter Tryd.func17, Tryd.ntmps17
  go_wp2_with fail
  refine HM.mono ?_
  rintro e w2 ⟨tb, rfl, hrow, hb2⟩
  obtain ⟨ro, l, rc, hce, hRV, _⟩ := hrow.get (i := 0) (by omega)
  have HH := rhas_any hRV dd (by omega)
  rw [hbit] at HH
  have hbw := hb0.trans (hb2.mono hb0.size)
  clear HM hrow hRV hbit
  go_wp2_with fail
  refine HH.mono ?_
  rintro e w3 ⟨rfl, hw⟩
  replace hw := hw.symm
  subst hw
  go_wp2_with fail
  go_ret
  exact ⟨rfl, hbw⟩
set_option maxRecDepth 10000 in
theorem few_any (to_ : Option Addr) (m c : Nat) (ao : Option Addr) (n cap : Nat) (w : World) : Calls Tryd.prog 4 #[.agg #[.slice to_ m c], .slice ao n cap] w fun e w' => e = .returned (.bool (decide (m ≤ 60) && decide (n ≤ 24))) ∧ Below w.heap.size w w' := by
  have hb0 := below1 w (.cells #[.slice to_ m c] 24)
  have k0 := Cl.new w 24 [.slice to_ m c]
  have c0 := k0.cell 0 rfl
  by_cases h1 : m ≤ 60
  · have h1i : (m : Int) ≤ 60 := by omega
    by_cases h2 : n ≤ 24
    · have h2i : (n : Int) ≤ 24 := by omega
      rw [decide_eq_true h1, decide_eq_true h2]
      go_enter Tryd.func4, Tryd.ntmps4
      go_wp2_with fail
      go_ret
      exact ⟨rfl, hb0⟩
    · have h2i : ¬ (n : Int) ≤ 24 := by omega
      rw [decide_eq_true h1, decide_eq_false h2]
      go_enter Tryd.func4, Tryd.ntmps4
      go_wp2_with fail
      go_ret
      exact ⟨rfl, hb0⟩
  · have h1i : ¬ (m : Int) ≤ 60 := by omega
    rw [decide_eq_false h1]
    go_enter Tryd.func4, Tryd.ntmps4
    go_wp2_with fail
    go_ret
    exact ⟨rfl, hb0⟩
end Go.Proofs.YtiiecppkabdkgabDoor
namespace Go.Proofs.YtiiecppkabdkgabDoor
open Go.RowKit
/-- The node of the byte a. -/
def ndA : Nd := ⟨2, 0, 8589934592, 0, 0, 0, 0, 0, 0, false⟩
theorem or_a : bits BinOp.or IntKind.u64 0 8589934592 = 8589934592 := by kernel_rfl
set_option maxRecDepth 10000 in
theorem lf_any (w : World) : Calls Tryd.prog 19 #[.int .u8 97] w (RetT w 1 (fun _ => leafN ndA)) := by
  have hor := or_a
  have hB := below2 w (.cells #[.slice none 0 0] 24) (.cells #[.int .u64 0, .int .u64 8589934592, .int .u64 0, .int .u64 0] 41)
  have HL := rleaf_any ndA ((w.alloc (.cells #[.slice none 0 0] 24)).alloc (.cells #[.int .u64 0, .int .u64 8589934592, .int .u64 0, .int .u64 0] 41))
  have d2 : Cl ((w.alloc (.cells #[.slice none 0 0] 24)).alloc (.cells #[.int .u64 0, .int .u64 8589934592, .int .u64 0, .int .u64 0] 41)) w.heap.size 24 [.slice none 0 0] := (Cl.new w 24 [.slice none 0 0]).alloc _
  generalize leafN ndA = q at *
  unfold ndV ndA at HL
  dsimp only at HL
  go_enter Tryd.func19, Tryd.ntmps19
  go_wp2_with fail
  refine HL.mono ?_
  rintro e w2 ⟨ao2, c2, rfl, ho2, hb2⟩
  have d3 := d2.below hb2
  obtain ⟨d31, d32⟩ := d3.one
  have dd := (d3.set 0 (.slice ao2 1 c2)).cell 0 rfl
  have hsz2 := hb2.size
  simp only [World.size_alloc] at hsz2
  have ho3 : OwN (w2.setCell ⟨w.heap.size, 0, none⟩ (.slice ao2 1 c2)) w.heap.size ao2 1 c2 (fun _ => q) := by
    refine ownsRow_base (ownsRow_at ho2 fun g' h1 h2 => ?_) (by simp; omega)
    simp only [World.size_alloc] at h1
    rw [Below.heap_setCell _ _ _ _ (by simp; omega)]
  have HQ : Hid (RetT w 1 (fun _ => q) (.returned (.agg #[.slice ao2 1 c2])) (w2.setCell ⟨w.heap.size, 0, none⟩ (.slice ao2 1 c2))) := ⟨ao2, c2, rfl, ho3, (hB.trans (hb2.mono (by simp; omega))).setCell (p := ⟨w.heap.size, 0, none⟩) (by simp) _⟩
  clear HL ho2 ho3
  go_wp2_with fail
  exact bodyPost_ret (by simp [results, Tryd.results19, go_sem, dd]) rfl HQ.out
def eqI (n m : Nat) (f g : Nat → Int) : Bool := decide (n = m) && (List.range n).all fun i => f i == g i
set_option maxRecDepth 10000 in
set_option maxHeartbeats 1000000 in
theorem equalI_any (a b : Option Addr) (n m ca cb : Nat) (f g : Nat → Int) (w : World) (hn : (n : Int) ≤ 9223372036854775806) (ha : RdI w a n f) (hb : RdI w b m g) : Calls Tryd.prog 20 #[.slice a n ca, .slice b m cb] w fun e w' => e = .returned (.bool (eqI n m f g)) ∧ Below w.heap.size w w' := by
  by_cases hnm : n = m
  · subst hnm
    have HT : Hid (∀ W, (∀ j, j < n → f j = g j) → Below w.heap.size w W → Ending.returned (.bool true) = Ending.returned (.bool (eqI n n f g)) ∧ Below w.heap.size w W) := fun W h hW => by
      have : eqI n n f g = true := by
        simp only [eqI, decide_true, Bool.true_and]
        rw [List.all_eq_true]; intro i hi; simpa using h i (List.mem_range.1 hi)
      exact ⟨by rw [this], hW⟩
    have HF : Hid (∀ W k, k < n → f k ≠ g k → Below w.heap.size w W → Ending.returned (.bool false) = Ending.returned (.bool (eqI n n f g)) ∧ Below w.heap.size w W) := fun W k hk h hW => by
      have : eqI n n f g = false := by
        simp only [eqI, decide_true, Bool.true_and]
        rw [List.all_eq_false]; exact ⟨k, List.mem_range.2 hk, by simpa using h⟩
      exact ⟨by rw [this], hW⟩
    generalize eqI n n f g = res at *
    have hni : ((n : Int) == (n : Int)) = true := by simp
    go_enter Tryd.func20, Tryd.ntmps20
    go_wp2_with fail
    go_loopw [13] (fun i wr => ∃ (k : Nat), k ≤ n ∧ i = .int .i64 (k : Nat) ∧ (∀ j, j < k → f j = g j) ∧ Below w.heap.size w wr) (fun i _ => n - (intOf i).toNat)
    case atStart => exact ⟨0, Nat.zero_le _, rfl, fun j hj => by omega, Below.refl _ _⟩
    case round =>
      obtain ⟨k, hk, rfl, hj, hbw⟩ := hrel
      by_cases hlt : k < n
      · have hki : (k : Int) < (n : Int) := by omega
        obtain ⟨ba, oa, rfl, hba, hca⟩ := ha (by omega)
        obtain ⟨bb, ob, rfl, hbb, hcb⟩ := hb (by omega)
        have c1 : wr.cell? ⟨ba, oa + k, none⟩ = some (.int .i64 (f k)) := by rw [hbw.cell hba]; exact hca k hlt
        have c2 : wr.cell? ⟨bb, ob + k, none⟩ = some (.int .i64 (g k)) := by rw [hbw.cell hbb]; exact hcb k hlt
        by_cases hfg : f k = g k
        · have HY : Hid (∀ q, ∃ (k' : Nat), k' ≤ n ∧ Value.int .i64 ((k : Int) + 1) = .int .i64 (k' : Nat) ∧ (∀ j, j < k' → f j = g j) ∧ Below w.heap.size w (wr.drewN q)) := fun q => ⟨k + 1, hlt, by simp, fun j hj' => by
            by_cases h : j = k
            · rw [h]; exact hfg
            · exact hj j (by omega), below_drewN hbw q⟩
          have e1 : (f k == g k) = true := by simpa using hfg
          clear HT HF hj hca hcb ha hb
          generalize f k = x at *
          generalize g k = y at *
          clear hfg
          go_wp2_with fail
          go_quiet (fail)
          go_wp2_with fail
          go_roundw
          case rel => exact HY.out _
          case measure => simp [intOf]; omega
        · have HY : Hid (∀ q, Ending.returned (.bool false) = Ending.returned (.bool res) ∧ Below w.heap.size w (wr.drewN q)) := fun q => HF.out _ k hlt hfg (below_drewN hbw q)
          have e1 : (f k == g k) = false := by simpa using hfg
          clear HT HF hj hca hcb ha hb
          generalize f k = x at *
          generalize g k = y at *
          clear hfg
          go_wp2_with fail
          go_quiet (fail)
          go_wp2_with fail
          go_ret
          exact HY.out _
      · obtain rfl : k = n := by omega
        have hki : ¬ (k : Int) < (k : Int) := by omega
        have HY : Hid _ := HT.out wr hj hbw
        clear HT HF hj ha hb
        go_wp2_with fail
        go_ret
        exact HY.out
  · have hq : eqI n m f g = false := by simp [eqI, hnm]
    rw [hq]
    have hni : ((n : Int) == (m : Int)) = false := by simp; omega
    go_enter Tryd.func20, Tryd.ntmps20
    go_wp2_with fail
    go_ret
    exact ⟨rfl, Below.refl _ _⟩
end Go.Proofs.YtiiecppkabdkgabDoor
namespace Go.Proofs.YtiiecppkabdkgabDoor
open Go.RowKit
theorem and_one : bits BinOp.and IntKind.u64 1 4294967295 = 1 := by kernel_rfl
theorem and_k (k : Nat) (hk : k ≤ 25) : bits BinOp.and IntKind.u64 (k : Int) 4294967295 = (k : Int) := by
  have := Go.Proofs.Mul64.maskN k (by omega)
  rw [this]; congr 1; omega
set_option maxRecDepth 10000 in
theorem mul64_one (k : Nat) (hk : k ≤ 25) (w : World) : Calls Tryd.prog 56 #[.int .u64 1, .int .u64 (k : Nat)] w fun e w' => e = .returned (.tuple #[.int .u64 0, .int .u64 (k : Nat)]) ∧ w = w' := by
  have h1 := and_one
  have h2 := and_k k hk
  have h3 : (k : Int) / 4294967296 = 0 := by omega
  have h4 : (k : Int) ≤ 25 := by omega
  have h5 : IntKind.u64.wrap (k : Int) = (k : Int) := by rw [IntKind.wrap_u64]; omega
  have h6 : bits BinOp.and IntKind.u64 0 4294967295 = 0 := by kernel_rfl
  go_enter Tryd.func56, Tryd.ntmps56
  go_wp2_with fail
  go_ret2
  exact ⟨rfl, rfl⟩
set_option maxRecDepth 10000 in
theorem mul_one' (k : Nat) (hk : k ≤ 25) (w : World) : Calls Tryd.prog 41 #[.int .u64 1, .int .u64 (k : Nat)] w fun e w' => e = .returned (.tuple #[.int .u64 0, .int .u64 (k : Nat)]) ∧ w = w' := by
  have HM := mul64_one k hk w
  go_enter Tryd.func41, Tryd.ntmps41
  go_wp2_with fail
  refine HM.mono ?_
  rintro e w2 ⟨rfl, rfl⟩
  go_wp2_with fail
  go_ret2
  exact ⟨rfl, rfl⟩
/-- Ones below a place, noughts behind it. -/
def negs (p : Nat) : Nat → Int := fun i => if i < p then -1 else 0
theorem splice_negs (k p q : Nat) (h : p + q ≤ k) : splice (ints (negs p) k) p (List.replicate q (Value.int .i64 (-1))) = ints (negs (p + q)) k := by
  apply List.ext_getElem?
  intro j
  have hl : (ints (negs p) k).length = k := by simp [ints]
  unfold splice
  rw [List.getElem?_append, List.getElem?_append, List.length_take, List.length_replicate, hl, Nat.min_eq_left (by omega)]
  by_cases h1 : j < p
  · rw [if_pos h1, List.getElem?_take, if_pos h1, ints_get _ (by omega), ints_get _ (by omega)]
    simp [negs, h1, show j < p + q by omega]
  · rw [if_neg h1]
    by_cases h2 : j - p < q
    · rw [if_pos h2, List.getElem?_replicate, if_pos h2, ints_get _ (by omega)]
      simp [negs, show j < p + q by omega]
    · rw [if_neg h2, List.getElem?_drop, show p + q + (j - p - q) = j by omega]
      by_cases h3 : j < k
      · rw [ints_get _ h3, ints_get _ h3]
        simp [negs, h1, show ¬ j < p + q by omega]
      · rw [List.getElem?_eq_none (by rw [hl]; omega), List.getElem?_eq_none (by simp [ints]; omega)]
theorem slice_from50 (b n x : Nat) (hx : x < n) (w : World) : (Instr.slice 38 (.slice (some ⟨b, 0, none⟩) n n) (some (.int .i64 (x : Nat))) none none).run Tryd.prog w = .ok (.slice (some ⟨b, x, none⟩) (n - x) (n - x)) w := by
  have hxc : (x : Int) ≤ (n : Int) := by omega
  have hs : ∀ w, (Go.sizeOf 3).run Tryd.prog w = .ok 1 w := fun w => by kernel_rfl
  have hne : ¬ n = x := by omega
  simp [go_sem, Tryd.underlying38, hxc, hs, hne, Addr.add]
  omega
set_option maxRecDepth 10000 in
set_option maxHeartbeats 2000000 in
theorem repI_any (b k : Nat) (w : World) (hk : k ≤ 25) (hk1 : 1 ≤ k) (hbl : b < w.heap.size) (hc : w.cell? ⟨b, 0, none⟩ = some (.int .i64 (-1))) : Calls Tryd.prog 33 #[.slice (some ⟨b, 0, none⟩) 1 1, .int .i64 (k : Nat)] w fun e w' => ∃ tb, e = .returned (.slice (some ⟨tb, 0, none⟩) k k) ∧ Cl w' tb 3 (ints (fun _ => -1) k) ∧ Below w.heap.size w w' ∧ w.heap.size ≤ tb := by
  have HM := mul_one' k hk w
  have hmk := make_ints k (by omega)
  have h4 : (k : Int) ≤ 25 := by omega
  have h0 : (0 : Int) ≤ (k : Int) := by omega
  have h5 : IntKind.u64.wrap (k : Int) = (k : Int) := by rw [IntKind.wrap_u64]; omega
  have h6 : IntKind.i64.wrap (k : Int) = (k : Int) := by rw [IntKind.wrap_i64]; omega
  have kX := Cl.new w 3 (ints (fun _ => 0) k)
  have hsz3 : (Tryd.prog.info? 3).map (·.size) = some 1 := by
    obtain ⟨i, hi, _, hs, _⟩ := info_parts b_int
    rw [hi]; simp [hs]
  have hlen : (ints (negs 0) k).length = k := by simp [ints]
  have e0 : ints (fun _ => 0) k = ints (negs 0) k := by apply List.map_congr_left; intro i _; simp [negs]
  have hcW : (w.alloc (.cells (ints (fun _ => 0) k).toArray 3)).cell? ⟨b, 0, none⟩ = some (.int .i64 (-1)) := by
    rw [(below1 w _).cell (p := ⟨b, 0, none⟩) hbl]; exact hc
  have hB := below1 w (.cells (ints (fun _ => 0) k).toArray 3)
  simp only [e0] at hmk kX hB hcW
  have HS1 : Hid (∀ W, W.heap[w.heap.size]? = some (.cells (splice (ints (negs 0) k) 0 [Value.int .i64 (-1)]).toArray 3 (0, 0)) → Cl W w.heap.size 3 (ints (negs 1) k)) := fun W h => by
    have := splice_negs k 0 1 (by omega)
    simp only [Nat.zero_add, List.replicate_one] at this
    rw [this] at h
    exact h
  have hsrc : ∀ j v, [Value.int .i64 (-1)][j]? = some v → (w.alloc (.cells (ints (negs 0) k).toArray 3)).cell? ((⟨b, 0, none⟩ : Addr).add j) = some v := fun j v hj => by
    have hj0 : j = 0 := by
      have := (List.getElem?_eq_some_iff.1 hj).1
      simpa using this
    subst hj0
    simp at hj
    subst hj
    exact hcW
  have hg3 := setRow_heap (w.alloc (.cells (ints (negs 0) k).toArray 3)) w.heap.size _ (splice (ints (negs 0) k) 0 [Value.int .i64 (-1)]).toArray _ _ kX
  have hb3 := below_setRow hB (Nat.le_refl _) (splice (ints (negs 0) k) 0 [Value.int .i64 (-1)]).toArray
  have hcp : (Builtin.copy_ #[38, 38] 3 #[.slice (some ⟨w.heap.size, 0, none⟩) k k, .slice (some ⟨b, 0, none⟩) 1 1]).run Tryd.prog (w.alloc (.cells (ints (negs 0) k).toArray 3)) = .ok (.int .i64 1) ((w.alloc (.cells (ints (negs 0) k).toArray 3)).setRow w.heap.size (splice (ints (negs 0) k) 0 [Value.int .i64 (-1)]).toArray) :=
    run_copy_row (P := Tryd.prog) (w.alloc (.cells (ints (negs 0) k).toArray 3)) 38 38 3 3 w.heap.size 0 k k ⟨b, 0, none⟩ 1 1 (ints (negs 0) k).toArray 3 [.int .i64 (-1)] Tryd.underlying38 hsz3 kX (show 1 = min 1 k by omega) hsrc (by simp [hlen]; omega) (by simp [Value.oneCell'])
  clear hc hcW e0
  go_enter Tryd.func33, Tryd.ntmps33
  go_wp2_with fail
  refine HM.mono ?_
  rintro e w2 ⟨rfl, rfl⟩
  clear HM
  go_wp2_with fail
  have k3 := HS1.out _ hg3
  clear HS1 hg3 hsrc kX hB hmk hcp
  generalize hw3 : (w.alloc (.cells (ints (negs 0) k).toArray 3)).setRow w.heap.size (splice (ints (negs 0) k) 0 [Value.int .i64 (-1)]).toArray = w3 at *
  clear hw3
  go_loopw [8] (fun i wr => ∃ p : Nat, 1 ≤ p ∧ p ≤ k ∧ i = .int .i64 (p : Nat) ∧ Cl wr w.heap.size 3 (ints (negs p) k) ∧ Below w.heap.size w wr) (fun i _ => k - (intOf i).toNat)
  case atStart => exact ⟨1, Nat.le_refl _, hk1, rfl, k3, hb3⟩
  case round =>
    obtain ⟨p, hp1, hpk, rfl, kp, hb⟩ := hrel
    clear k3 hb3
    by_cases hlt : p < k
    · have hli : (p : Int) < (k : Int) := by omega
      have hs1 := slice_from50 w.heap.size k p hlt
      have hs2 := slice_to50 (some ⟨w.heap.size, 0, none⟩) k k p (by omega)
      have HG : Hid (∀ W, W.heap[w.heap.size]? = some (.cells (splice (ints (negs p) k) p (List.replicate (min p (k - p)) (Value.int .i64 (-1)))).toArray 3 (0, 0)) → Below w.heap.size w W → ∃ p' : Nat, 1 ≤ p' ∧ p' ≤ k ∧ Value.int .i64 ((p : Int) + (min p (k - p) : Nat)) = .int .i64 (p' : Nat) ∧ Cl W w.heap.size 3 (ints (negs p') k) ∧ Below w.heap.size w W) := fun W h hW => by
        rw [splice_negs k p _ (by omega)] at h
        exact ⟨p + min p (k - p), by omega, by omega, by simp, h, hW⟩
      have hsr : ∀ j v, (List.replicate (min p (k - p)) (Value.int .i64 (-1)))[j]? = some v → wr.drew.cell? ((⟨w.heap.size, 0, none⟩ : Addr).add j) = some v := fun j v hj => by
        have hj1 : j < min p (k - p) := by
          have := (List.getElem?_eq_some_iff.1 hj).1
          simpa using this
        rw [List.getElem?_replicate, if_pos hj1] at hj
        injection hj with hj
        subst hj
        have := kp.cell j (ints_get (negs p) (by omega))
        simp only [negs, show j < p by omega, if_true] at this
        show wr.cell? _ = _
        have e : ((⟨w.heap.size, 0, none⟩ : Addr).add j) = ⟨w.heap.size, j, none⟩ := by unfold Addr.add; split <;> simp_all
        rw [e]; exact this
      have hq1 : ((p : Int) + (min p (k - p) : Nat)) ≤ 50 := by omega
      have hq2 : IntKind.i64.wrap ((p : Int) + (min p (k - p) : Nat)) = (p : Int) + (min p (k - p) : Nat) := by rw [IntKind.wrap_i64]; omega
      have hkd : wr.drew.heap[w.heap.size]? = some (.cells (ints (negs p) k).toArray 3 (0, 0)) := kp
      have hbd : Below w.heap.size w wr.drew := hb.drew
      have hlp : (ints (negs p) k).length = k := by simp [ints]
      generalize hcs : List.replicate (min p (k - p)) (Value.int .i64 (-1)) = cs at *
      have hcl : cs.length = min p (k - p) := by rw [← hcs]; simp
      have hc1 : ∀ v ∈ cs, v.oneCell' = true := by rw [← hcs]; intro v hv; rw [List.eq_of_mem_replicate hv]; rfl
      clear hcs kp hb
      generalize hmq : min p (k - p) = mq at *
      have hfit : p + cs.length ≤ (ints (negs p) k).length := by rw [hlp, hcl]; omega
      clear hlp hk hk1 hbl
      have hcp : (Builtin.copy_ #[38, 38] 3 #[.slice (some ⟨w.heap.size, p, none⟩) (k - p) (k - p), .slice (some ⟨w.heap.size, 0, none⟩) p k]).run Tryd.prog wr.drew = .ok (.int .i64 (mq : Nat)) (wr.drew.setRow w.heap.size (splice (ints (negs p) k) p cs).toArray) := by
        have := run_copy_row (P := Tryd.prog) wr.drew 38 38 3 3 w.heap.size p (k - p) (k - p) ⟨w.heap.size, 0, none⟩ p k (ints (negs p) k).toArray 3 cs Tryd.underlying38 hsz3 hkd (hcl.trans hmq.symm) hsr (by simpa using hfit) hc1
        rw [this, List.append_assoc, hcl]
        unfold splice
        rw [hcl]
        rfl
      have HY := HG.out (wr.drew.setRow w.heap.size (splice (ints (negs p) k) p cs).toArray) (setRow_heap wr.drew w.heap.size _ _ _ _ hkd) (below_setRow hbd (Nat.le_refl _) _)
      have HY : Hid _ := HY
      have hm1 : 1 ≤ mq := by omega
      clear HG hkd hbd hcl hmq hsr hc1 hfit
      generalize hw4 : wr.drew.setRow w.heap.size (splice (ints (negs p) k) p cs).toArray = w4 at *
      clear hw4
      go_wp2_with fail
      go_region_law (fail)
      all_goals
        go_wp2_with fail
        go_simp
        go_roundw
        case rel =>
          obtain ⟨p9, a1, a2, a3, a4⟩ := HY.out
          exact ⟨p9, a1, a2, by injection a3, a4⟩
        case measure => simp [intOf]; omega
    · obtain rfl : p = k := by omega
      have hli : ¬ (p : Int) < (p : Int) := by omega
      have e9 : ints (negs p) p = ints (fun _ => -1) p := by apply List.map_congr_left; intro i hi; have := List.mem_range.1 hi; simp [negs, this]
      rw [e9] at kp
      go_wp2_with fail
      go_ret
      exact ⟨w.heap.size, rfl, kp, hb, Nat.le_refl _⟩
end Go.Proofs.YtiiecppkabdkgabDoor
