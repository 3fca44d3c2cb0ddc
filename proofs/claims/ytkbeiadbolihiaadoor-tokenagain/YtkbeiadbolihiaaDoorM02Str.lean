/- A region that draws its order, all of whose operations but a forced last row are quiet in a class of worlds: one walk in the text's order serves every order. The reference's Of, Range, Full, Digit; Word, Space: the walks. The reference's Union; Word, Space: the walks. The library's contracts at this program, laid by its numbers: strings.Builder's String, strings.IndexByte, bytes.Equal. isVisible, isLetter, number: the walks. -/
import Derived.StillTail
import Derived.Test.YtkbeiadbolihiaaDoorM01Bu
import Derived.Deep.QuietTactic
import Derived.BigQuiet
import Derived.Deep.RegionWith
import Derived.Shelf.Strings.BuilderK
import Derived.Shelf.Small.Strs
import Derived.Shelf.Bytes.Small
import Derived.Test.YtkbeiadbolihiaaDoorChecked
namespace Go.Proofs.YtkbeiadbolihiaaDoor
open Go

section
variable {P : Program} {ops : Array Oper} {md : Region.Mode} {C : World → Prop}

/-- The operations below n come up in whatever order, each quiet in the class; behind f of them L holds. -/
def headQ (P : Program) (md : Region.Mode) (ops : Array Oper) (C : World → Prop) (n : Nat) (L : Array Bool → Act → Prop) : Nat → Array Bool → Act → Prop
  | 0, done, a => L done a
  | f + 1, done, a => Region.ready md ops done ≠ [] ∧ ∀ i ∈ Region.ready md ops done, i < n ∧ qOp P ops C i (headQ P md ops C n L f (done.setIfInBounds i true)) a

theorem any_of_headQ {n g : Nat} {L : Array Bool → Act → Prop} {Q : Exit → Act → World → Prop} (hL : ∀ done a w, C w → L done a → wpAny P md ops Q g done a w) :
    ∀ (f : Nat) (done : Array Bool) (a : Act) (w : World), C w → headQ P md ops C n L f done a → wpAny P md ops Q (f + g) done a w := by
  intro f
  induction f with
  | zero => intro done a w hw h; rw [Nat.zero_add]; exact hL done a w hw h
  | succ f ih =>
    intro done a w hw h
    rw [show f + 1 + g = (f + g) + 1 by omega]
    exact ⟨fun h0 => absurd h0 h.1, fun i hi => wpOp_of_qOp hw (fun a' w' hw' h' => ih _ a' w' hw' h') (h.2 i hi).2⟩

/-- One that may come up now and is quiet may be taken first. -/
theorem headQ_first {n i : Nat} {oi : Oper} {v : Value} {L : Array Bool → Act → Prop} (hi : ops[i]? = some oi) (hsel : ∀ (j : Nat) (o : Oper) cs b, ops[j]? = some o → o.op ≠ .select cs b)
    (hs : Region.sinkB md ops n = true) (hc : Region.chainB md ops n = true) (hn : n < ops.size) (hin : i < n)
    (hend : ∀ done a, L done a → ∀ j ∈ Region.ready md ops done, n ≤ j) :
    ∀ (f : Nat) (done : Array Bool) (a : Act), HeadInv md ops n done →
      (∀ j oj, ops[j]? = some oj → j ≠ i → done.getD j true = false → (∀ e ∈ oj.after, Region.binds md e = true → e.on ≠ i) → oi.apart ops oj = true) →
      i ∈ Region.ready md ops done → YieldsIn P ops C oi v a → headQ P md ops C n L f (done.setIfInBounds i true) (a.put oi.dst v) → headQ P md ops C n L (f + 1) done a := by
  intro f
  induction f with
  | zero =>
    intro done a inv _ hr hy H
    refine ⟨fun h => (by rw [h] at hr; cases hr), fun j hj => ?_⟩
    have hjn : j < n := Nat.lt_of_not_le fun h => tail_waits hs hc hn inv _ i rfl hin (mem_ready.1 hr).1 j h hj
    refine ⟨hjn, ?_⟩
    by_cases hji : j = i
    · subst hji; exact hy.qOp hi H
    · exact absurd (hend _ _ H j (ready_mono hj hji)) (by omega)
  | succ f ih =>
    intro done a inv hfree hr hy H
    have hun := (mem_ready.1 hr).1
    refine ⟨fun h => (by rw [h] at hr; cases hr), fun j hj => ?_⟩
    have hjn : j < n := Nat.lt_of_not_le fun h => tail_waits hs hc hn inv _ i rfl hin hun j h hj
    refine ⟨hjn, ?_⟩
    by_cases hji : j = i
    · subst hji; exact hy.qOp hi H
    · obtain ⟨hjun, oj, hoj, hall⟩ := mem_ready.1 hj
      have hnot : ∀ e ∈ oj.after, Region.binds md e = true → e.on ≠ i := fun e he hb heq => by
        have := hall e he hb
        rw [heq, getD_both hun] at this
        cases this
      have h2 := qOp_put hoj (hfree j oj hoj hji hjun hnot) (fun cs b => hsel i oi cs b hi) (fun cs b => hsel j oj cs b hoj) hy (H.2 j (ready_mono hj hji)).2
      refine qOp_mono (fun a' h3 => ih (done.setIfInBounds j true) a' (inv.set hj hjn) (fun k ok hk hki hu hno => hfree k ok hk hki ?_ hno) (ready_mono hr (Ne.symm hji)) h3.1 ?_) h2
      · by_cases hjk : j = k
        · subst hjk; exact hjun
        · rw [getD_set_ne true hjk] at hu; exact hu
      · rw [Array.setIfInBounds_comm _ _ hji]; exact h3.2

theorem headQ_lex {n g : Nat} {Lq : Act → Prop} (hsel : Region.noSelect ops = true) (hs : Region.sinkB md ops n = true) (hc : Region.chainB md ops n = true) (hn : n < ops.size) :
    ∀ (l : List Oper) (k : Nat) (done : Array Bool) (a : Act), (∀ j, j < l.length → l[j]? = ops[k + j]?) → k + l.length = n → HeadInv md ops n done →
      Region.lexHead md ops g l.length k done = true → wpQuiet P ops C Lq l a → headQ P md ops C n (fun d a' => Region.seqB md ops g n d = true ∧ Lq a') l.length done a := by
  intro l
  induction l with
  | nil =>
    intro k done a _ hk _ hB h
    obtain rfl : k = n := by simpa using hk
    exact ⟨by simpa [Region.lexHead] using hB, h⟩
  | cons o l ih =>
    intro k done a hl hk inv hB h
    have h0 : ops[k]? = some o := by simpa using (hl 0 (by simp)).symm
    simp only [List.length_cons, Region.lexHead, Bool.and_eq_true] at hB
    simp only [List.length_cons] at hk
    have hr : k ∈ Region.ready md ops done := by simpa using hB.1.1
    obtain ⟨v, hy, hK⟩ := yieldsIn_of_qOp (i := k) (K := wpQuiet P ops C Lq l) h0 (by unfold qOp; simp only [h0]; exact h)
    refine headQ_first h0 (Region.noSelect_spec hsel) hs hc hn (by omega) (fun d a' hL => seqB_ready hL.1) l.length done a inv (Region.free_spec h0 hB.1.2) hr hy ?_
    exact ih (k + 1) _ _ (fun j hj => by have := hl (j + 1) (by simp; omega); simpa [Nat.add_assoc, Nat.add_comm 1 j] using this) (by omega) (inv.set hr (by omega)) hB.2 hK

/-- THE LAW: the first n operations quiet in C, in the text's order; then the last ones one after another, from whatever world of C. -/
theorem wp_region_quiet_tail {id : Nat} {Q : Exit → Act → World → Prop} {a : Act} {w : World} {l : List Oper} (n : Nat) (C : World → Prop) (hm : P.follows .mixedOrders = true) (hB : Region.lexTailB .any l.toArray n = true)
    (hC : C { w with drawn := w.drawn + 1 })
    (h : wpQuiet P l.toArray C (fun a' => ∀ w', C w' → wpList P l.toArray Q (l.drop n) a' w') (l.take n) a) : (Code.region id l.toArray true).wp P Q a w := by
  simp only [Region.lexTailB, Bool.and_eq_true, decide_eq_true_eq] at hB
  obtain ⟨⟨⟨⟨hsel, hn⟩, hs⟩, hc⟩, hlex⟩ := hB
  have hn' : n < l.length := by simpa using hn
  have htl : (l.take n).length = n := by simp; omega
  have hdl : (l.drop n).length = l.toArray.size - n := by simp
  have inv0 : HeadInv .any l.toArray n (Array.replicate l.toArray.size false) :=
    ⟨by simp, fun j oj _ hl => (by rw [getD_replicate_false] at hl; cases hl), fun t _ ht => getD_in (by simpa using ht) (getD_replicate_false _ _)⟩
  have H := headQ_lex (md := .any) (g := l.toArray.size - n) hsel hs hc hn (l.take n) 0 _ a
    (fun j hj => by have hj' : j < n := by rw [htl] at hj; exact hj
                    simp [hj']) (by simpa using htl) inv0 (by rw [htl]; exact hlex) h
  have := any_of_headQ (Q := Q) (g := l.toArray.size - n) (fun d a' w' hw' hL => by
    have := wpAny_of_seq (md := .any) (Q' := Q) (l.drop n) n d a' w' (fun j => by simp [List.getElem?_drop]) (by rw [hdl]; exact hL.1) (hL.2 w' hw')
    rwa [hdl] at this) _ _ _ _ hC H
  rw [htl, show n + (l.toArray.size - n) = l.toArray.size by omega] at this
  exact wp_region_any hm this
end
open Go.RowKit
/-- u, but all that was there in W is as it was. -/
def near (W u : World) : World := { u with os := W.os, tape := W.tape, output := W.output, heap := W.heap ++ u.heap.extract W.heap.size }
theorem near_below (W u : World) : Below W.heap.size W (near W u) := by
  refine ⟨rfl, rfl, rfl, ?_, fun k hk => ?_⟩
  · show W.heap.size ≤ (W.heap ++ u.heap.extract W.heap.size).size
    rw [Array.size_append]; omega
  · show (W.heap ++ u.heap.extract W.heap.size)[k]? = _
    rw [Array.getElem?_append_left hk]
theorem near_self {W w : World} (h : Below W.heap.size W w) : near W w = w := by
  have e : W.heap ++ w.heap.extract W.heap.size = w.heap := by
    apply Array.ext_getElem?
    intro i
    by_cases hi : i < W.heap.size
    · rw [Array.getElem?_append_left hi, h.block i hi]
    · rw [Array.getElem?_append_right (by omega), Array.getElem?_extract]
      have := h.size
      by_cases h2 : i < w.heap.size
      · rw [if_pos (by omega), show W.heap.size + (i - W.heap.size) = i by omega]
      · rw [if_neg (by omega), Array.getElem?_eq_none (by omega)]
  unfold near
  rw [e, ← h.os, ← h.tape, ← h.output]
theorem Near.cell {W : World} {b o : Nat} {v : Value} (hc : W.cell? ⟨b, o, none⟩ = some v) (hb : b < W.heap.size) : ∀ u : World, (near W u).cell? ⟨b, o, none⟩ = some v := fun u => by
  rw [(near_below W u).cell (p := ⟨b, o, none⟩) hb]; exact hc
theorem Near.frozen {W : World} {b o : Nat} {v : Bool} (hc : W.frozen? ⟨b, o, none⟩ = v) (hb : b < W.heap.size) : ∀ u : World, (near W u).frozen? ⟨b, o, none⟩ = v := fun u => by
  rw [(near_below W u).frozen (p := ⟨b, o, none⟩) hb]; exact hc
theorem Near.start (W : World) : ∃ u : World, { W with drawn := W.drawn + 1 } = near W u := ⟨W.drew, (near_self (Below.refl _ _).drew).symm⟩
theorem Near.call {P : Program} {f : FuncId} {args : Array Value} {W : World} {u : World} {v : Value} (h : Calls P f args (near W u) fun e w' => e = .returned v ∧ Below (near W u).heap.size (near W u) w') :
    Calls P f args (near W u) fun e w' => e = .returned v ∧ ∃ u' : World, w' = near W u' :=
  h.mono fun _ w' h => ⟨h.1, w', (near_self ((near_below W u).trans (h.2.mono (near_below W u).size))).symm⟩
theorem Near.same {P : Program} {f : FuncId} {args : Array Value} {W : World} {u : World} {v : Value} (h : Calls P f args (near W u) fun e w' => e = .returned v ∧ w' = near W u) :
    Calls P f args (near W u) fun e w' => e = .returned v ∧ ∃ u' : World, w' = near W u' :=
  h.mono fun _ _ h => ⟨h.1, u, h.2⟩
end Go.Proofs.YtkbeiadbolihiaaDoor
namespace Go.Proofs.YtkbeiadbolihiaaDoor
open Go.RowKit
set_option maxRecDepth 10000 in
set_option maxHeartbeats 1000000 in
theorem rrange_any (lo hi : Nat) (w : World) (hl : lo < 256) (hh : hi < 256) :
    Calls Tryd.prog 32 #[.int .u8 (lo : Nat), .int .u8 (hi : Nat)] w (RetC w (rg lo (hi + 1 - lo))) := by
  have hW0 := Way.start w
  rw [← rg_zero lo] at hW0
  go_enter Tryd.func32, Tryd.ntmps32
  go_wp2
  go_loopw [6] (fun i wr => ∃ k : Nat, k ≤ hi + 1 - lo ∧ i = .int .i64 ((lo + k : Nat) : Int) ∧ Way w (rg lo k) wr) (fun i _ => hi + 1 - (intOf i).toNat)
  case atStart => exact ⟨0, by omega, rfl, hW0⟩
  case round =>
    obtain ⟨k, hk, rfl, hW⟩ := hrel
    obtain ⟨a, b, c, d, h4, hx⟩ := hW.ex
    obtain ⟨c0, c1, c2, c3, f0, f1, f2, f3⟩ := hx.cells
    by_cases hlt : k < hi + 1 - lo
    · have hw := rwith_c h4 (lo + k) wr (by omega)
      rw [← rg_succ] at hw
      obtain ⟨q, hq⟩ : ∃ q, q = lo + k := ⟨_, rfl⟩
      rw [← hq] at hw ⊢
      have hki : (q : Int) ≤ (hi : Int) := by omega
      have hq8 : (q : Int) < 256 := by omega
      have HQ : Hid (q = lo + k) := hq
      clear hq
      go_wp2_with (go_at_call 49; refine hw.mono ?_; rintro e w' ⟨⟨a', b', c', d', rfl, h4'⟩, hb'⟩; have hW' := hW.next hb' h4'; obtain ⟨g0, g1, g2, g3, e0, e1, e2, e3⟩ := (hx.below hb').cells)
      have hq := HQ.out
      exact ⟨⟨k + 1, by omega, by rw [hq]; go_num, hW'⟩, by simp [intOf]; omega⟩
    · obtain rfl : k = hi + 1 - lo := by omega
      have hki : ¬ (((lo + (hi + 1 - lo) : Nat) : Int) ≤ (hi : Int)) := by omega
      obtain ⟨p', q', r', s', hy⟩ := hW.res
      obtain ⟨y0, y1, y2, y3, v0, v1, v2, v3⟩ := hy.cells
      obtain ⟨z0, z1, z2, z3, _⟩ := (hy.set (.int .u64 (a : Nat)) (.int .u64 (b : Nat)) (.int .u64 (c : Nat)) (.int .u64 (d : Nat))).cells
      have HW : Hid (Way w (rg lo (hi + 1 - lo)) wr) := hW
      generalize lo + (hi + 1 - lo) = Q at *
      go_wp2
      exact bodyPost_ret (v := .agg #[.int .u64 (a : Nat), .int .u64 (b : Nat), .int .u64 (c : Nat), .int .u64 (d : Nat)]) (by simp [results, Tryd.results32, go_sem, z0, z1, z2, z3]) rfl ⟨⟨a, b, c, d, rfl, h4⟩, below_put4 HW.out.bel (Nat.le_refl _) _ _ _ _⟩
set_option maxHeartbeats 1000000 in
theorem rfull_any (w : World) : Calls Tryd.prog 21 #[] w (RetC w (rg 0 256)) := by
  go_enter Tryd.func21, Tryd.ntmps21
  go_wp2_with (go_at_call 32; refine (rrange_any 0 255 _ (by decide) (by decide)).mono ?_; rintro e w' ⟨⟨a, b, c, d, rfl, h4⟩, hb⟩; have hb' : Below (w.heap.size + 1) _ w' := (by simpa using hb); have hy := res_cells hb'; obtain ⟨y0, y1, y2, y3, v0, v1, v2, v3⟩ := hy.cells)
  obtain ⟨z0, z1, z2, z3, _⟩ := (hy.set (.int .u64 (a : Nat)) (.int .u64 (b : Nat)) (.int .u64 (c : Nat)) (.int .u64 (d : Nat))).cells
  exact bodyPost_ret (v := .agg #[.int .u64 (a : Nat), .int .u64 (b : Nat), .int .u64 (c : Nat), .int .u64 (d : Nat)]) (by simp [results, Tryd.results21, go_sem, z0, z1, z2, z3]) rfl (res_put h4 hb')
theorem Way.drew {w wr : World} {P : Nat → Bool} (h : Way w P wr) : Way w P wr.drew := by
  obtain ⟨⟨a, b, c, d, h4, hx⟩, ⟨p, q, r, s, hy⟩, hb⟩ := h
  exact ⟨⟨a, b, c, d, h4, hx.drew⟩, ⟨p, q, r, s, hy.drew⟩, hb.drew⟩
end Go.Proofs.YtkbeiadbolihiaaDoor
namespace Go.Proofs.YtkbeiadbolihiaaDoor
open Go.RowKit
theorem Way2.drew {w wr : World} {p q r s : Nat} (h : Way2 w p q r s wr) : Way2 w p q r s wr.drew := by
  obtain ⟨hx, ⟨a, b, c, d, hy⟩, hb⟩ := h
  exact ⟨hx.drew, ⟨a, b, c, d, hy.drew⟩, hb.drew⟩
end Go.Proofs.YtkbeiadbolihiaaDoor
namespace Go.Proofs.YtkbeiadbolihiaaDoor
open Go.Shelf Go.RowKit
def Tryd.lays169_ren : Go.Shelf.Ren := ⟨fun | 169 => 55 | n => n, fun | 70 => 74 | 9 => 9 | 0 => 0 | 72 => 76 | 37 => 34 | 127 => 89 | 3 => 3 | 5 => 5 | n => n, fun | n => n⟩
theorem Tryd.lays169 : Go.Proofs.Lays.n169 Tryd.prog Tryd.lays169_ren := {
  mixed := by kernel_rfl
  f169 := Tryd.func55.trans (congrArg some (by kernel_rfl))
  t0 := Tryd.underlying0
  a0 := Tryd.isAgg0
  z0 := Tryd.sizeOf0
  v0 := Tryd.zeroValue0
  t3 := Tryd.underlying3
  a3 := Tryd.isAgg3
  z3 := Tryd.sizeOf3
  v3 := Tryd.zeroValue3
  t9 := Tryd.underlying9
  a9 := Tryd.isAgg9
  z9 := Tryd.sizeOf9
  v9 := Tryd.zeroValue9
  t37 := Tryd.underlying34
  a37 := Tryd.isAgg34
  z37 := Tryd.sizeOf34
  v37 := Tryd.zeroValue34
  t70 := Tryd.underlying74
  a70 := Tryd.isAgg74
  z70 := Tryd.sizeOf74
  v70 := Tryd.zeroValue74
  t72 := Tryd.underlying76
  a72 := Tryd.isAgg76
  z72 := Tryd.sizeOf76
  v72 := Tryd.zeroValue76
  t127 := Tryd.underlying89
  a127 := Tryd.isAgg89
  z127 := Tryd.sizeOf89
  v127 := Tryd.zeroValue89 }
theorem Tryd.Builder_Extra_169 : Builder.Extra Tryd.prog Tryd.lays169_ren := {
  sizeBuilder := by kernel_rfl
  liesBuilder := by kernel_rfl
  t5 := Tryd.underlying5
  a5 := Tryd.isAgg5
  z5 := Tryd.sizeOf5
  v5 := Tryd.zeroValue5
  infoByte := by kernel_rfl
  cellsByte := by kernel_rfl
  sizeByte := by kernel_rfl
  neB5 := by decide }
theorem Tryd.Builder_String_any_k (B b : Nat) (l : List UInt8) (w : World) (h : Lib.IsBuilderF 76 5 B b (Lib.byteCells l) w) (hBw : B ≤ w.heap.size) :
    Calls Tryd.prog 55 #[.pointer (some ⟨b, 0, none⟩)] w fun e w' => e = .returned (.string ⟨l.toArray⟩) ∧ (Lib.IsBuilderF 76 5 B b (Lib.byteCells l) w' ∧ Below B w w' ∧ Lib.OthersKept 5 (some b) w w') := Any.Builder_String_any_k Tryd.lays169 Tryd.Builder_Extra_169 B b l w h hBw
def Tryd.lays137_ren : Go.Shelf.Ren := ⟨fun | 137 => 35 | 217 => 50 | 266 => 64 | n => n, fun | 9 => 9 | 5 => 5 | 3 => 3 | n => n, fun | n => n⟩
theorem Tryd.lays137 : Go.Proofs.Lays.n137 Tryd.prog Tryd.lays137_ren := {
  mixed := by kernel_rfl
  f137 := Tryd.func35.trans (congrArg some (by kernel_rfl))
  f217 := Tryd.func50.trans (congrArg some (by kernel_rfl))
  f266 := Tryd.func64.trans (congrArg some (by kernel_rfl))
  t3 := Tryd.underlying3
  a3 := Tryd.isAgg3
  z3 := Tryd.sizeOf3
  v3 := Tryd.zeroValue3
  t5 := Tryd.underlying5
  a5 := Tryd.isAgg5
  z5 := Tryd.sizeOf5
  v5 := Tryd.zeroValue5
  t9 := Tryd.underlying9
  a9 := Tryd.isAgg9
  z9 := Tryd.sizeOf9
  v9 := Tryd.zeroValue9 }
theorem Tryd.strings_IndexByte (s : ByteArray) (c : Int) (w : World) :
    Calls Tryd.prog 35 #[.string s, .int .u8 c] w fun e w' => e = .returned (.int .i64 (Lib.indexByte s.data.toList c.toNat.toUInt8)) ∧ w' = w := Any.strings_IndexByte Tryd.lays137 s c w
def Tryd.lays115_ren : Go.Shelf.Ren := ⟨fun | 115 => 14 | n => n, fun | 37 => 34 | 4 => 4 | 9 => 9 | 5 => 5 | n => n, fun | n => n⟩
theorem Tryd.lays115 : Go.Proofs.Lays.n115 Tryd.prog Tryd.lays115_ren := {
  mixed := by kernel_rfl
  f115 := Tryd.func14.trans (congrArg some (by kernel_rfl))
  t4 := Tryd.underlying4
  a4 := Tryd.isAgg4
  z4 := Tryd.sizeOf4
  v4 := Tryd.zeroValue4
  t9 := Tryd.underlying9
  a9 := Tryd.isAgg9
  z9 := Tryd.sizeOf9
  v9 := Tryd.zeroValue9
  t37 := Tryd.underlying34
  a37 := Tryd.isAgg34
  z37 := Tryd.sizeOf34
  v37 := Tryd.zeroValue34 }
theorem Tryd.bytes_Equal (v1 v2 : Value) (xs ys : List Int) (w : World) (h1 : (convert 34 9 v1).run Tryd.prog w = .ok (.string (strOfNums xs)) w) (h2 : (convert 34 9 v2).run Tryd.prog w = .ok (.string (strOfNums ys)) w) :
    Calls Tryd.prog 14 #[v1, v2] w fun e w' => e = .returned (.bool (Lib.bytesOf xs == Lib.bytesOf ys)) ∧ w' = w := Any.bytes_Equal Tryd.lays115 v1 v2 xs ys w h1 h2
end Go.Proofs.YtkbeiadbolihiaaDoor
namespace Go.Proofs.YtkbeiadbolihiaaDoor
open Go.RowKit
/-- A byte that can be seen. -/
def vis (b : Nat) : Bool := decide (33 ≤ b) && decide (b ≤ 126)
/-- The digits of sixteen. -/
def hexd (n : Nat) : Nat := if n < 10 then 48 + n else 87 + n
set_option maxRecDepth 100000 in
theorem idxS (n : Nat) (h : n < 16) (w : World) : (Instr.index 9 (.string ⟨#[48, 49, 50, 51, 52, 53, 54, 55, 56, 57, 97, 98, 99, 100, 101, 102]⟩) (.int .u8 (n : Nat))).run Tryd.prog w = .ok (.int .u8 (hexd n : Nat)) w := by
  have hn : n = 0 ∨ n = 1 ∨ n = 2 ∨ n = 3 ∨ n = 4 ∨ n = 5 ∨ n = 6 ∨ n = 7 ∨ n = 8 ∨ n = 9 ∨ n = 10 ∨ n = 11 ∨ n = 12 ∨ n = 13 ∨ n = 14 ∨ n = 15 := by omega
  rcases hn with rfl | rfl | rfl | rfl | rfl | rfl | rfl | rfl | rfl | rfl | rfl | rfl | rfl | rfl | rfl | rfl
  all_goals rfl
set_option maxHeartbeats 400000 in
theorem isVisible_any (b : Nat) (w : World) : Calls Tryd.prog 33 #[.int .u8 (b : Nat)] w fun e w' => e = .returned (.bool (vis b)) ∧ w' = w := by
  by_cases h1 : 33 ≤ b
  · have g1 : (33 : Int) ≤ (b : Int) := by omega
    have e : decide ((b : Int) ≤ 126) = vis b := by unfold vis; rw [decide_eq_true h1, Bool.true_and, decide_eq_decide]; omega
    go_enter Tryd.func33, Tryd.ntmps33
    go_wp2
    go_ret
    exact ⟨rfl, rfl⟩
  · have g1 : ¬ (33 : Int) ≤ (b : Int) := by omega
    have e : vis b = false := by unfold vis; rw [decide_eq_false h1, Bool.false_and]
    go_enter Tryd.func33, Tryd.ntmps33
    go_wp2
    go_ret
    exact ⟨rfl, rfl⟩
/-- The text of a byte as a number. -/
def numB (b : Nat) : List UInt8 := [92, 120, (hexd (b / 16)).toUInt8, (hexd (b % 16)).toUInt8]
set_option maxRecDepth 100000 in
set_option maxHeartbeats 1000000 in
theorem number_any (b : Nat) (w : World) (hb : b < 256) : Calls Tryd.prog 34 #[.int .u8 (b : Nat)] w fun e w' => e = .returned (.string ⟨(numB b).toArray⟩) ∧ Below w.heap.size w w' := by
  have i1 := idxS (b / 16) (by omega)
  have i2 := idxS (b % 16) (by omega)
  rw [show ((b / 16 : Nat) : Int) = (b : Int) / 16 by omega] at i1
  rw [show ((b % 16 : Nat) : Int) = (b : Int) % 16 by omega] at i2
  have a1 : bits BinOp.and IntKind.u8 (b : Int) 15 = (b : Int) % 16 := by rw [show (15 : Int) = ((15 : Nat) : Int) from rfl, u8_and_nat _ _ hb (by decide), nat_mask4, Int.natCast_emod]; rfl
  obtain ⟨p, hp⟩ : ∃ p, hexd (b / 16) = p := ⟨_, rfl⟩
  obtain ⟨q, hq⟩ : ∃ q, hexd (b % 16) = q := ⟨_, rfl⟩
  rw [hp] at i1
  rw [hq] at i2
  go_enter Tryd.func34, Tryd.ntmps34
  go_wp2
  refine wp_region_quiet_tail 6 (fun w' => ∃ u : World, w' = near w u) (by kernel_rfl) (by kernel_rfl) (Near.start _) ?_
  simp only [List.take_succ_cons, List.take_zero, List.drop_succ_cons, List.drop_zero]
  generalize (Value.string ⟨#[48, 49, 50, 51, 52, 53, 54, 55, 56, 57, 97, 98, 99, 100, 101, 102]⟩) = S at *
  repeat (go_big_quiet_step (fail))
  refine wpQuiet_nil ?_
  rintro _ ⟨u, rfl⟩
  clear i1 i2 a1
  have hB : Below w.heap.size w ((near w u).alloc (.cells #[.int .u8 92, .int .u8 120, .int .u8 (p : Nat), .int .u8 (q : Nat)] 5)) := (near_below w u).alloc (near_below w u).size _
  generalize near w u = W at *
  have hcv : (convert 34 9 (.slice (some ⟨W.heap.size, 0, none⟩) 4 4)).run Tryd.prog (W.alloc (.cells #[.int .u8 92, .int .u8 120, .int .u8 (p : Nat), .int .u8 (q : Nat)] 5)) = .ok (.string (strOfNums [92, 120, (p : Nat), (q : Nat)])) (W.alloc (.cells #[.int .u8 92, .int .u8 120, .int .u8 (p : Nat), .int .u8 (q : Nat)] 5)) := by
    refine run_convert_bytes_arg _ 34 5 Tryd.underlying34 Tryd.underlying5 _ 0 4 4 [92, 120, (p : Nat), (q : Nat)] rfl (fun i hi => ?_) 9 Tryd.underlying9
    rw [cell_of_row _ W.heap.size (0 + i) _ 5 (0, 0) (heap_alloc_new W _)]
    have : i = 0 ∨ i = 1 ∨ i = 2 ∨ i = 3 := by omega
    rcases this with rfl | rfl | rfl | rfl <;> rfl
  have hst : strOfNums [92, 120, (p : Nat), (q : Nat)] = ⟨(numB b).toArray⟩ := by unfold strOfNums numB; rw [hp, hq]; rfl
  rw [hst] at hcv
  go_wp2
  go_ret
  exact ⟨rfl, hB⟩
theorem enc_one (b : Nat) (hb : b < 128) : Utf8.encode (b : Int) = ⟨#[b.toUInt8]⟩ := by
  have hv : Utf8.valid (b : Int) = true := by unfold Utf8.valid; simp; omega
  unfold Utf8.encode
  simp only [hv, if_true, Int.toNat_natCast]
  rw [if_pos hb]
theorem str_app (a b : List UInt8) : (⟨a.toArray⟩ : ByteArray) ++ ⟨b.toArray⟩ = ⟨(a ++ b).toArray⟩ := by
  apply ByteArray.ext
  simp [ByteArray.data_append]
/-- More than itself in a pattern; so within brackets. -/
def spec (b : Nat) : Bool := decide (0 ≤ Lib.indexByte [46, 91, 93, 40, 41, 123, 125, 124, 42, 43, 63, 94, 36, 92] b.toUInt8)
def specI (b : Nat) : Bool := decide (0 ≤ Lib.indexByte [93, 91, 92, 94, 45] b.toUInt8)
/-- Literal, Inner, a run: as texts. -/
def litB (b : Nat) : List UInt8 := if vis b then (if spec b then [92, b.toUInt8] else [b.toUInt8]) else numB b
def innB (b : Nat) : List UInt8 := if vis b && !specI b then [b.toUInt8] else numB b
def runB (lo hi : Nat) : List UInt8 := if hi = lo then innB lo else if hi = lo + 1 then innB lo ++ innB hi else innB lo ++ [45] ++ innB hi
/-- What a call answers that makes a text; nothing old has turned. -/
def RetS (w : World) (l : List UInt8) (e : Ending) (w' : World) : Prop := e = .returned (.string ⟨l.toArray⟩) ∧ Below w.heap.size w w'
set_option maxRecDepth 100000 in
set_option maxHeartbeats 1000000 in
theorem literal_any (b : Nat) (w : World) (hb : b < 256) : Calls Tryd.prog 22 #[.int .u8 (b : Nat)] w (RetS w (litB b)) := by
  cases hv : vis b with
  | false =>
    have e : litB b = numB b := by unfold litB; rw [hv]; rfl
    rw [e]
    go_enter Tryd.func22, Tryd.ntmps22
    go_wp2_with (first | (go_at_call 33; refine (isVisible_any b _).mono ?_; rintro e w' ⟨rfl, rfl⟩) | (go_at_call 34; refine (number_any b _ hb).mono ?_; rintro e w' ⟨rfl, hB⟩))
    go_ret
    exact ⟨rfl, hB⟩
  | true =>
    have hlt : b ≤ 126 := by unfold vis at hv; simp at hv; omega
    have en := enc_one b (by omega)
    have hx := Tryd.strings_IndexByte ⟨#[46, 91, 93, 40, 41, 123, 125, 124, 42, 43, 63, 94, 36, 92]⟩ b
    simp only [Int.toNat_natCast] at hx
    cases hs : spec b with
    | true =>
      have e : litB b = [92, b.toUInt8] := by unfold litB; rw [hv, hs]; rfl
      rw [e]
      unfold spec at hs
      generalize hi : Lib.indexByte _ b.toUInt8 = z at hs
      rw [hi] at hx
      have hz : 0 ≤ z := by simpa using hs
      clear hs hi e
      generalize b.toUInt8 = u at *
      go_enter Tryd.func22, Tryd.ntmps22
      go_wp2_with (first | (go_at_call 33; refine (isVisible_any b _).mono ?_; rintro e w1 ⟨rfl, rfl⟩))
      refine (hx _).mono ?_
      rintro e w1 ⟨rfl, rfl⟩
      go_wp2
      go_ret
      exact ⟨rfl, Below.refl _ _⟩
    | false =>
      have e : litB b = [b.toUInt8] := by unfold litB; rw [hv, hs]; rfl
      rw [e]
      unfold spec at hs
      generalize hi : Lib.indexByte _ b.toUInt8 = z at hs
      rw [hi] at hx
      have hz : decide (0 ≤ z) = false := hs
      clear hs hi e
      generalize b.toUInt8 = u at *
      go_enter Tryd.func22, Tryd.ntmps22
      go_wp2_with (first | (go_at_call 33; refine (isVisible_any b _).mono ?_; rintro e w1 ⟨rfl, rfl⟩))
      refine (hx _).mono ?_
      rintro e w1 ⟨rfl, rfl⟩
      go_wp2
      go_ret
      exact ⟨rfl, Below.refl _ _⟩
set_option maxRecDepth 100000 in
set_option maxHeartbeats 1000000 in
theorem inner_any (b : Nat) (w : World) (hb : b < 256) : Calls Tryd.prog 39 #[.int .u8 (b : Nat)] w (RetS w (innB b)) := by
  cases hv : vis b with
  | false =>
    have e : innB b = numB b := by unfold innB; rw [hv]; rfl
    rw [e]
    go_enter Tryd.func39, Tryd.ntmps39
    go_wp2_with (first | (go_at_call 33; refine (isVisible_any b _).mono ?_; rintro e w' ⟨rfl, rfl⟩) | (go_at_call 34; refine (number_any b _ hb).mono ?_; rintro e w' ⟨rfl, hB⟩))
    go_ret
    exact ⟨rfl, hB⟩
  | true =>
    have hlt : b ≤ 126 := by unfold vis at hv; simp at hv; omega
    have en := enc_one b (by omega)
    have hx := Tryd.strings_IndexByte ⟨#[93, 91, 92, 94, 45]⟩ b
    simp only [Int.toNat_natCast] at hx
    cases hs : specI b with
    | true =>
      have e : innB b = numB b := by unfold innB; rw [hv, hs]; rfl
      rw [e]
      unfold specI at hs
      generalize hi : Lib.indexByte _ b.toUInt8 = z at hs
      rw [hi] at hx
      have hz : 0 ≤ z := by simpa using hs
      clear hs hi e
      generalize b.toUInt8 = u at *
      go_enter Tryd.func39, Tryd.ntmps39
      go_wp2_with (first | (go_at_call 33; refine (isVisible_any b _).mono ?_; rintro e w' ⟨rfl, rfl⟩) | (go_at_call 35; refine (hx _).mono ?_; rintro e w' ⟨rfl, rfl⟩) | (go_at_call 34; refine (number_any b _ hb).mono ?_; rintro e w' ⟨rfl, hB⟩))
      go_ret
      exact ⟨rfl, hB⟩
    | false =>
      have e : innB b = [b.toUInt8] := by unfold innB; rw [hv, hs]; rfl
      rw [e]
      unfold specI at hs
      generalize hi : Lib.indexByte _ b.toUInt8 = z at hs
      rw [hi] at hx
      have hz : decide (0 ≤ z) = false := hs
      clear hs hi e
      generalize b.toUInt8 = u at *
      go_enter Tryd.func39, Tryd.ntmps39
      go_wp2_with (first | (go_at_call 33; refine (isVisible_any b _).mono ?_; rintro e w1 ⟨rfl, rfl⟩))
      refine (hx _).mono ?_
      rintro e w1 ⟨rfl, rfl⟩
      go_wp2
      go_ret
      exact ⟨rfl, Below.refl _ _⟩
end Go.Proofs.YtkbeiadbolihiaaDoor
