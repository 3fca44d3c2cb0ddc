/- meant: the walk. -/
import Derived.Test.YtiiecppkabdkgabDoorTk
import Derived.Test.YtiiecppkabdkgabDoorGApCeLi
namespace Go.Proofs.YtiiecppkabdkgabDoor
open Go.RowKit
def tNo : Tab := fun _ _ => false
/-- What the nodes of a tree mean in a text: nothing, if they may not be. -/
def mTab (f : Nat → Nat) (n : Nat) (mu : Bool) (F : Nat → Nd) (k : Nat) : Tab := match treeOf F k with
  | some t => if anc t (true, true) = true then mean f n mu t else tNo
  | none => tNo
theorem wrd_no (N : Nat) : wrd N tNo = fun _ => 0 := by
  funext i
  unfold wrd
  apply Nat.eq_of_testBit_eq
  intro q
  rw [bitsOf_bit]
  simp [tNo]
theorem LeftV.slice {W : World} {B : Nat} {v : Value} {N : Nat} {Ts : List Tab} (h : LeftV W B v N Ts) : ∃ ao n cap, v = .slice ao n cap := by
  obtain ⟨M, h1, _⟩ := h
  obtain ⟨a, b, c⟩ := ownsRow_slice h1
  exact ⟨_, _, _, c⟩
/-- The tables of a stack of trees. -/
def stk (fr : Nat) (f : Nat → Nat) (n : Nat) (mu : Bool) (ts : List Tre) : List Tab := (ts.map fun t => tSh fr (mean f n mu t)).reverse
theorem stk_cons (fr : Nat) (f : Nat → Nat) (n : Nat) (mu : Bool) (t : Tre) (r : List Tre) : stk fr f n mu (t :: r) = stk fr f n mu r ++ [tSh fr (mean f n mu t)] := by simp [stk]
theorem stk_len (fr : Nat) (f : Nat → Nat) (n : Nat) (mu : Bool) (ts : List Tre) : (stk fr f n mu ts).length = ts.length := by simp [stk]
theorem len_sizeF : ∀ ts : List Tre, ts.length ≤ sizeF ts
  | [] => by simp [sizeF, ofF]
  | t :: r => by
    have := len_sizeF r
    have h1 : 1 ≤ t.size := by cases t <;> simp [Tre.size]
    rw [sizeF_cons, List.length_cons]; omega
theorem take_any (ao : Option Addr) (n cap : Nat) (mu : Bool) (fr tt : Nat) (f : Nat → Nat) (q : Nd) (ts ts' : List Tre) (k N B : Nat) (v : Value) (w : World) (hst : stepT ts k q = some ts') (hts : sizeF ts = k) (hk : k ≤ 2048) (hr : RdB w ao n f) (hn : n ≤ 24) (htn : tt ≤ n) (hft : fr ≤ tt) (hN : N = tt - fr + 1) (hq : wfN q) (hBw : B ≤ w.heap.size) (hL : LeftV w B v N (stk fr f n mu ts)) (hT : TabZ w) :
    Calls Tryd.prog 27 #[pgV ao n cap mu fr tt, ndV q, v] w fun e w' => ∃ v', e = .returned v' ∧ LeftV w' B v' N (stk fr f n mu ts') ∧ Below B w w' := by
  have hl := len_sizeF ts
  by_cases h34 : q.k = 3 ∨ q.k = 4
  · unfold stepT at hst
    rw [if_pos h34] at hst
    match ts, hst, hl, hts, hL with
    | y :: x :: r, hst, hl, hts, hL =>
      dsimp only at hst
      split at hst
      · injection hst with hst
        subst hst
        rw [stk_cons, stk_cons, List.append_assoc] at hL
        rw [stk_cons]
        simp only [List.length_cons] at hl
        rcases h34 with h | h
        · have := take3 ao n cap mu fr tt q h N (stk fr f n mu r) _ _ B v w (by omega) (by rw [stk_len]; omega) hBw hL hT
          have e : tSh fr (mean f n mu (.two q.k x y)) = tCat (tSh fr (mean f n mu x)) (tSh fr (mean f n mu y)) := by rw [mean, if_pos h, sh_cat]
          rw [e]; exact this
        · have := take4 ao n cap mu fr tt q h N (stk fr f n mu r) _ _ B v w (by omega) (by rw [stk_len]; omega) hBw hL
          have e : tSh fr (mean f n mu (.two q.k x y)) = tAlt (tSh fr (mean f n mu x)) (tSh fr (mean f n mu y)) := by rw [mean, if_neg (by omega), sh_alt]
          rw [e]; exact this
      · cases hst
  · by_cases h5 : q.k = 5
    · unfold stepT at hst
      rw [if_neg h34, if_pos h5] at hst
      match ts, hst, hl, hts, hL with
      | x :: r, hst, hl, hts, hL =>
        dsimp only at hst
        split at hst
        · rename_i hc
          simp only [Bool.and_eq_true] at hc
          injection hst with hst
          subst hst
          rw [stk_cons] at hL
          rw [stk_cons]
          simp only [List.length_cons] at hl
          have := takeR ao n cap mu fr tt q h5 hc.1 N (stk fr f n mu r) _ B v w (by omega) (by omega) (by rw [stk_len]; omega) hBw hL hT
          have e : tSh fr (mean f n mu (.rep x q.l q.m q.z)) = tRep (tSh fr (mean f n mu x)) q.l q.m := by rw [mean, sh_rep]
          rw [e]; exact this
        · cases hst
    · rw [stepT_lf ts k q (by omega)] at hst
      split at hst
      · injection hst with hst
        subst hst
        rw [stk_cons]
        exact takeL ao n cap mu fr tt f q (by omega) (by omega) (by omega) N (stk fr f n mu ts) B v w hr hn htn hft hN hq (by rw [stk_len]; omega) hBw hL
      · cases hst
set_option maxRecDepth 10000 in
set_option maxHeartbeats 4000000 in
theorem meant_any (to_ : Option Addr) (m c : Nat) (F : Nat → Nd) (ao : Option Addr) (n cap : Nat) (mu : Bool) (fr tt : Nat) (f : Nat → Nat) (N : Nat) (w : World) (ht : RdN w to_ m F) (hm : (m : Int) ≤ 9223372036854775807) (hF : ∀ i, i < m → wfN (F i)) (hr : RdB w ao n f) (hn : n ≤ 24) (htn : tt ≤ n) (hft : fr ≤ tt) (hN : N = tt - fr + 1) (hT : TabZ w) :
    Calls Tryd.prog 15 #[.agg #[.slice to_ m c], pgV ao n cap mu fr tt] w (RetTab w N (tSh fr (mTab f n mu F m))) := by
  have hb0 := below2 w (.cells #[.slice to_ m c] 24) (.cells (pgL ao n cap mu fr tt).toArray 50)
  have kt : Cl ((w.alloc (.cells #[.slice to_ m c] 24)).alloc (.cells (pgL ao n cap mu fr tt).toArray 50)) w.heap.size 24 [.slice to_ m c] := (Cl.new w 24 [.slice to_ m c]).alloc _
  have kp : Cl ((w.alloc (.cells #[.slice to_ m c] 24)).alloc (.cells (pgL ao n cap mu fr tt).toArray 50)) (w.heap.size + 1) 50 (pgL ao n cap mu fr tt) := by
    have := Cl.new (w.alloc (.cells #[.slice to_ m c] 24)) 50 (pgL ao n cap mu fr tt)
    simpa only [World.size_alloc] using this
  have HK := check_any to_ m c F _ (ht.below hb0) hm
  have HP : Hid (∀ W, Calls Tryd.prog 26 #[pgV ao n cap mu fr tt] W fun e w' => e = .returned (.int .i64 (N : Nat)) ∧ Below W.heap.size W w') := fun W => by
    rw [hN]; exact places_any ao n cap mu fr tt W hft (by omega)
  have hN25 : N ≤ 25 := by omega
  have d0 := kt.cell 0 rfl
  by_cases hz : chkE F m = 0
  · rw [hz] at HK
    obtain ⟨t, htr, han⟩ : ∃ t, treeOf F m = some t ∧ anc t (true, true) = true := by
      unfold chkE at hz
      split at hz
      · omega
      · rename_i t h
        refine ⟨t, h, ?_⟩
        cases hc : anc t (true, true) with
        | true => rfl
        | false => rw [hc] at hz; simp at hz
    have hmT : mTab f n mu F m = mean f n mu t := by unfold mTab; rw [htr]; dsimp only; rw [if_pos han]
    obtain ⟨hm20, hsc⟩ : m ≤ 2048 ∧ scanT F m = some [t] := by
      unfold treeOf at htr
      split at htr
      · cases htr
      · refine ⟨by omega, ?_⟩
        split at htr
        · rename_i t' h; injection htr with h'; rw [h, h']
        · cases htr
    rw [hmT]
    clear hz hmT htr HP
    have hs0 : ((w.alloc (.cells #[.slice to_ m c] 24)).alloc (.cells (pgL ao n cap mu fr tt).toArray 50)).heap.size = w.heap.size + 2 := by simp
    have hgo : ∀ k, k < m → ∀ ts, scanT F k = some ts → ∃ ts', stepT ts k (F k) = some ts' ∧ scanT F (k + 1) = some ts' := by
      intro k hk ts hts
      cases hst : stepT ts k (F k) with
      | none =>
        have : scanT F (k + 1) = none := by simp only [scanT, hts]; exact hst
        rw [scan_none this m (by omega)] at hsc
        cases hsc
      | some ts' => exact ⟨ts', rfl, by simp only [scanT, hts]; exact hst⟩
    have ht1 := ht.below hb0
    have hr1 := hr.below hb0
    have hT1 := hT.below hb0
    clear ht hr hT
    go_enter Tryd.func15, Tryd.ntmps15
    go_wp2_with fail
    refine HK.mono ?_
    rintro e w2 ⟨rfl, hb2⟩
    replace kt := kt.below hb2
    replace kp := kp.below hb2
    have ht2 := ht1.below hb2
    have hr2 := hr1.below hb2
    have hT2 := hT1.below hb2
    have hbw := hb0.trans (hb2.mono hb0.size)
    have hs2 := hb2.size
    have d2 := kt.cell 0 rfl
    clear HK ht1 hr1 hT1 hb0 hb2 d0
    go_wp2_with fail
    go_loopw [5, 17] (fun v i wr => ∃ (k : Nat) (ts : List Tre), k ≤ m ∧ i = .int .i64 (k : Nat) ∧ scanT F k = some ts ∧ LeftV wr w2.heap.size v N (stk fr f n mu ts) ∧ Below w2.heap.size w2 wr) (fun _ i _ => m - (intOf i).toNat)
    case atStart => exact ⟨0, [], Nat.zero_le _, rfl, rfl, ⟨fun _ => .slice none 0 0, World.ownsRow_nil _ _ _ _, fun j T h => by simp [stk] at h⟩, Below.refl _ _⟩
    case round =>
      obtain ⟨k, ts, hk, rfl, hsk, hL, hb⟩ := hrel
      obtain ⟨av, nv, cv, rfl⟩ := hL.slice
      replace kp := kp.below hb
      have hsz := hb.size
      by_cases hlt : k < m
      · have hki : (k : Int) < (m : Int) := by omega
        obtain ⟨ts', hst, hs'⟩ := hgo k hlt ts hsk
        obtain ⟨bb, off, rfl, hbb, hcs⟩ := ht2 (by omega)
        obtain ⟨c0, c1, c2, c3, c4, c5, c6, c7, c8, c9⟩ := hcs k hlt
        rw [← hb.cell (p := ⟨bb, _, none⟩) hbb] at c0 c1 c2 c3 c4 c5 c6 c7 c8 c9
        have hbl := below1 wr (.cells (ndL (F k)).toArray 43)
        have HC := take_any ao n cap mu fr tt f (F k) ts ts' k N w2.heap.size (.slice av nv cv) (wr.alloc (.cells (ndL (F k)).toArray 43)) hst (scanT_inv hsk).1 (by omega) ((hr2.below hb).below hbl) hn htn hft hN (hF k hlt) (by simp; omega) (hL.below hbl) ((hT2.below hb).below hbl)
        have kX := Cl.new wr 43 (ndL (F k))
        have kq := kp.alloc (.cells (ndL (F k)).toArray 43)
        have q0 := kq.cell 0 rfl
        have q1 := kq.cell 1 rfl
        have q2 := kq.cell 2 rfl
        have q3 := kq.cell 3 rfl
        clear kq
        have HX : Hid (∀ v' w3, LeftV w3 w2.heap.size v' N (stk fr f n mu ts') → Below w2.heap.size (wr.alloc (.cells (ndL (F k)).toArray 43)) w3 → ∃ (k' : Nat) (ts : List Tre), k' ≤ m ∧ (Value.int .i64 ((k : Int) + 1)) = .int .i64 (k' : Nat) ∧ scanT F k' = some ts ∧ LeftV w3 w2.heap.size v' N (stk fr f n mu ts) ∧ Below w2.heap.size w2 w3) := fun v' w3 h1 h2 =>
          ⟨k + 1, ts', hlt, by simp, hs', h1, (hb.trans (hbl.mono hsz)).trans h2⟩
        unfold ndL at *
        unfold ndV pgV at HC
        unfold pgL at *
        obtain ⟨⟨f0, f1, f2, f3, f4, f5, f6, f7, f8, f9⟩, _⟩ := kX.ten
        clear hL hF hcs hgo hst hs' hsk hsc hr2 hT2 hN kp kt kX hbl ht2
        generalize F k = q at *
        go_wp2_with fail
        refine HC.mono ?_
        rintro e w3 ⟨v', rfl, hL3, hb3⟩
        have HY : Hid _ := HX.out v' w3 hL3 hb3
        obtain ⟨bv, mv, dv, rfl⟩ := hL3.slice
        clear HC HX hL3 hb3
        go_wp2_with fail
        go_roundw
        case rel => exact HY.out
        case measure => simp [intOf]; omega
      · obtain rfl : k = m := by omega
        have hki : ¬ (k : Int) < (k : Int) := by omega
        rw [hsc] at hsk
        injection hsk with hsk
        subst hsk
        obtain ⟨M, hrow, hM⟩ := hL
        rw [stk_len] at hrow
        obtain ⟨ta, ea, hA⟩ := hM 0 (tSh fr (mean f n mu t)) (by simp [stk])
        obtain ⟨lo, lc, e9⟩ := ownsRow_slice hrow
        injection e9 with e7 e8 e9
        subst e7 e8 e9
        obtain ⟨g, rfl, hgl, hgB, hc, _⟩ := row_cell hrow (by simp)
        have d1 := hc 0 _ (vals_get M (by simp))
        rw [ea] at d1
        have HR : Hid (RetTab w N (tSh fr (mean f n mu t)) (.returned (.slice (some ⟨ta, 0, none⟩) N N)) wr) := ⟨ta, rfl, hA, hbw.trans (hb.mono hbw.size)⟩
        have h01 : (0 : Int) < (([t] : List Tre).length : Int) := by simp
        clear hrow hM hA hc hF hgo hsc hr2 hT2 hN kp kt ht2
        go_wp2_with fail
        go_ret
        exact HR.out
  · have hmT : mTab f n mu F m = tNo := by
      unfold mTab
      unfold chkE at hz
      split <;> rename_i h
      · rw [h] at hz; dsimp only at hz
        rw [if_neg]
        intro hc; rw [if_pos hc] at hz; exact hz rfl
      · rfl
    have hsh : tSh fr tNo = tNo := rfl
    rw [hmT, hsh]
    have hzi : (chkE F m == 0) = false := by simpa using hz
    have hmk := make_rows N hN25
    have HE : Hid (∀ W, Below w.heap.size w W → RetTab w N tNo (.returned (.slice (some ⟨W.heap.size, 0, none⟩) N N)) (W.alloc (.cells (vals (fun _ => .slice none 0 0) N).toArray 52))) := fun W hW =>
      ⟨W.heap.size, rfl, ⟨fun _ => .slice none 0 0, Cl.new W 52 _, fun j _ _ => by rw [wrd_no]; exact RowV.nil _ _ _⟩, hW.alloc hW.size _⟩
    have p0 := kp.cell 0 rfl
    have p1 := kp.cell 1 rfl
    have p2 := kp.cell 2 rfl
    have p3 := kp.cell 3 rfl
    have hp9 := kp.lt
    clear kp kt ht hF hr hT hN hmT hsh hz
    generalize chkE F m = ce at *
    unfold pgL at *
    unfold pgV
    go_enter Tryd.func15, Tryd.ntmps15
    go_wp2_with fail
    refine HK.mono ?_
    rintro e w2 ⟨rfl, hb2⟩
    rw [← hb2.cell (p := ⟨w.heap.size + 1, _, none⟩) hp9] at p0 p1 p2 p3
    have HP2 := HP.out w2
    unfold pgV at HP2
    have hb3 := hb0.trans (hb2.mono hb0.size)
    clear HK HP
    go_wp2_with fail
    refine HP2.mono ?_
    rintro e w3 ⟨rfl, hb4⟩
    have HE3 : Hid _ := HE.out w3 (hb3.trans (hb4.mono hb3.size))
    clear HP2 HE
    go_wp2_with fail
    go_ret
    exact HE3.out
end Go.Proofs.YtiiecppkabdkgabDoor
