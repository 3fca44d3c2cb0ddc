/- A region that draws its order, all of whose operations but a forced last row are quiet in a class of worlds: one walk in the text's order serves every order. token: has, isDigit, isLetter, hexDigit, hex, mayRepeat, isDash: the walks. token: hexDigit, hex, isDash, mayClass: the walks. -/
import Derived.StillTail
import Derived.Test.YtkbeiadbolihiaaM01Eq
import Derived.Deep.QuietTactic
import Derived.BigQuiet
import Derived.Deep.RegionHeld3
namespace Go.Proofs.Ytkbeiadbolihiaa
open Go

section
variable {P : Program} {ops : Array Oper} {md : Region.Mode} {C : World → Prop}

/-- The operations below n come up in whatever order, each quiet in the class; behind f of them L holds. -/
def headQ (P : Program) (md : Region.Mode) (ops : Array Oper) (C : World → Prop) (n : Nat) (L : Array Bool → Act → Prop) : Nat → Array Bool → Act → Prop
  | 0, done, a => L done a
  | f + 1, done, a => Region.ready md ops done ≠ [] ∧ ∀ i ∈ Region.ready md ops done, i < n ∧ qOp P ops C i (headQ P md ops C n L f (done.setIfInBounds i true)) a

theorem any_of_headQ {n g : Nat} {L : Array Bool → Act → Prop} {Q : Exit → Act → World → Prop} (hL : ∀ done a w, C w → L done a → wpAny P md ops Q g done a w) :
    ∀ (f : Nat) (done : Array Bool) (a : Act) (w : World), C w → headQ P md ops C n L f done a → wpAny P md ops Q (f + g) done a w := by
  intro f
  induction f with
  | zero => intro done a w hw h; rw [Nat.zero_add]; exact hL done a w hw h
  | succ f ih =>
    intro done a w hw h
    rw [show f + 1 + g = (f + g) + 1 by omega]
    exact ⟨fun h0 => absurd h0 h.1, fun i hi => wpOp_of_qOp hw (fun a' w' hw' h' => ih _ a' w' hw' h') (h.2 i hi).2⟩

/-- One that may come up now and is quiet may be taken first. -/
theorem headQ_first {n i : Nat} {oi : Oper} {v : Value} {L : Array Bool → Act → Prop} (hi : ops[i]? = some oi) (hsel : ∀ (j : Nat) (o : Oper) cs b, ops[j]? = some o → o.op ≠ .select cs b)
    (hs : Region.sinkB md ops n = true) (hc : Region.chainB md ops n = true) (hn : n < ops.size) (hin : i < n)
    (hend : ∀ done a, L done a → ∀ j ∈ Region.ready md ops done, n ≤ j) :
    ∀ (f : Nat) (done : Array Bool) (a : Act), HeadInv md ops n done →
      (∀ j oj, ops[j]? = some oj → j ≠ i → done.getD j true = false → (∀ e ∈ oj.after, Region.binds md e = true → e.on ≠ i) → oi.apart ops oj = true) →
      i ∈ Region.ready md ops done → YieldsIn P ops C oi v a → headQ P md ops C n L f (done.setIfInBounds i true) (a.put oi.dst v) → headQ P md ops C n L (f + 1) done a := by
  intro f
  induction f with
  | zero =>
    intro done a inv _ hr hy H
    refine ⟨fun h => (by rw [h] at hr; cases hr), fun j hj => ?_⟩
    have hjn : j < n := Nat.lt_of_not_le fun h => tail_waits hs hc hn inv _ i rfl hin (mem_ready.1 hr).1 j h hj
    refine ⟨hjn, ?_⟩
    by_cases hji : j = i
    · subst hji; exact hy.qOp hi H
    · exact absurd (hend _ _ H j (ready_mono hj hji)) (by omega)
  | succ f ih =>
    intro done a inv hfree hr hy H
    have hun := (mem_ready.1 hr).1
    refine ⟨fun h => (by rw [h] at hr; cases hr), fun j hj => ?_⟩
    have hjn : j < n := Nat.lt_of_not_le fun h => tail_waits hs hc hn inv _ i rfl hin hun j h hj
    refine ⟨hjn, ?_⟩
    by_cases hji : j = i
    · subst hji; exact hy.qOp hi H
    · obtain ⟨hjun, oj, hoj, hall⟩ := mem_ready.1 hj
      have hnot : ∀ e ∈ oj.after, Region.binds md e = true → e.on ≠ i := fun e he hb heq => by
        have := hall e he hb
        rw [heq, getD_both hun] at this
        cases this
      have h2 := qOp_put hoj (hfree j oj hoj hji hjun hnot) (fun cs b => hsel i oi cs b hi) (fun cs b => hsel j oj cs b hoj) hy (H.2 j (ready_mono hj hji)).2
      refine qOp_mono (fun a' h3 => ih (done.setIfInBounds j true) a' (inv.set hj hjn) (fun k ok hk hki hu hno => hfree k ok hk hki ?_ hno) (ready_mono hr (Ne.symm hji)) h3.1 ?_) h2
      · by_cases hjk : j = k
        · subst hjk; exact hjun
        · rw [getD_set_ne true hjk] at hu; exact hu
      · rw [Array.setIfInBounds_comm _ _ hji]; exact h3.2

theorem headQ_lex {n g : Nat} {Lq : Act → Prop} (hsel : Region.noSelect ops = true) (hs : Region.sinkB md ops n = true) (hc : Region.chainB md ops n = true) (hn : n < ops.size) :
    ∀ (l : List Oper) (k : Nat) (done : Array Bool) (a : Act), (∀ j, j < l.length → l[j]? = ops[k + j]?) → k + l.length = n → HeadInv md ops n done →
      Region.lexHead md ops g l.length k done = true → wpQuiet P ops C Lq l a → headQ P md ops C n (fun d a' => Region.seqB md ops g n d = true ∧ Lq a') l.length done a := by
  intro l
  induction l with
  | nil =>
    intro k done a _ hk _ hB h
    obtain rfl : k = n := by simpa using hk
    exact ⟨by simpa [Region.lexHead] using hB, h⟩
  | cons o l ih =>
    intro k done a hl hk inv hB h
    have h0 : ops[k]? = some o := by simpa using (hl 0 (by simp)).symm
    simp only [List.length_cons, Region.lexHead, Bool.and_eq_true] at hB
    simp only [List.length_cons] at hk
    have hr : k ∈ Region.ready md ops done := by simpa using hB.1.1
    obtain ⟨v, hy, hK⟩ := yieldsIn_of_qOp (i := k) (K := wpQuiet P ops C Lq l) h0 (by unfold qOp; simp only [h0]; exact h)
    refine headQ_first h0 (Region.noSelect_spec hsel) hs hc hn (by omega) (fun d a' hL => seqB_ready hL.1) l.length done a inv (Region.free_spec h0 hB.1.2) hr hy ?_
    exact ih (k + 1) _ _ (fun j hj => by have := hl (j + 1) (by simp; omega); simpa [Nat.add_assoc, Nat.add_comm 1 j] using this) (by omega) (inv.set hr (by omega)) hB.2 hK

/-- THE LAW: the first n operations quiet in C, in the text's order; then the last ones one after another, from whatever world of C. -/
theorem wp_region_quiet_tail {id : Nat} {Q : Exit → Act → World → Prop} {a : Act} {w : World} {l : List Oper} (n : Nat) (C : World → Prop) (hm : P.follows .mixedOrders = true) (hB : Region.lexTailB .any l.toArray n = true)
    (hC : C { w with drawn := w.drawn + 1 })
    (h : wpQuiet P l.toArray C (fun a' => ∀ w', C w' → wpList P l.toArray Q (l.drop n) a' w') (l.take n) a) : (Code.region id l.toArray true).wp P Q a w := by
  simp only [Region.lexTailB, Bool.and_eq_true, decide_eq_true_eq] at hB
  obtain ⟨⟨⟨⟨hsel, hn⟩, hs⟩, hc⟩, hlex⟩ := hB
  have hn' : n < l.length := by simpa using hn
  have htl : (l.take n).length = n := by simp; omega
  have hdl : (l.drop n).length = l.toArray.size - n := by simp
  have inv0 : HeadInv .any l.toArray n (Array.replicate l.toArray.size false) :=
    ⟨by simp, fun j oj _ hl => (by rw [getD_replicate_false] at hl; cases hl), fun t _ ht => getD_in (by simpa using ht) (getD_replicate_false _ _)⟩
  have H := headQ_lex (md := .any) (g := l.toArray.size - n) hsel hs hc hn (l.take n) 0 _ a
    (fun j hj => by have hj' : j < n := by rw [htl] at hj; exact hj
                    simp [hj']) (by simpa using htl) inv0 (by rw [htl]; exact hlex) h
  have := any_of_headQ (Q := Q) (g := l.toArray.size - n) (fun d a' w' hw' hL => by
    have := wpAny_of_seq (md := .any) (Q' := Q) (l.drop n) n d a' w' (fun j => by simp [List.getElem?_drop]) (by rw [hdl]; exact hL.1) (hL.2 w' hw')
    rwa [hdl] at this) _ _ _ _ hC H
  rw [htl, show n + (l.toArray.size - n) = l.toArray.size by omega] at this
  exact wp_region_any hm this
end
open Go.RowKit
/-- u, but all that was there in W is as it was. -/
def near (W u : World) : World := { u with os := W.os, tape := W.tape, output := W.output, heap := W.heap ++ u.heap.extract W.heap.size }
theorem near_below (W u : World) : Below W.heap.size W (near W u) := by
  refine ⟨rfl, rfl, rfl, ?_, fun k hk => ?_⟩
  · show W.heap.size ≤ (W.heap ++ u.heap.extract W.heap.size).size
    rw [Array.size_append]; omega
  · show (W.heap ++ u.heap.extract W.heap.size)[k]? = _
    rw [Array.getElem?_append_left hk]
theorem near_self {W w : World} (h : Below W.heap.size W w) : near W w = w := by
  have e : W.heap ++ w.heap.extract W.heap.size = w.heap := by
    apply Array.ext_getElem?
    intro i
    by_cases hi : i < W.heap.size
    · rw [Array.getElem?_append_left hi, h.block i hi]
    · rw [Array.getElem?_append_right (by omega), Array.getElem?_extract]
      have := h.size
      by_cases h2 : i < w.heap.size
      · rw [if_pos (by omega), show W.heap.size + (i - W.heap.size) = i by omega]
      · rw [if_neg (by omega), Array.getElem?_eq_none (by omega)]
  unfold near
  rw [e, ← h.os, ← h.tape, ← h.output]
theorem Near.cell {W : World} {b o : Nat} {v : Value} (hc : W.cell? ⟨b, o, none⟩ = some v) (hb : b < W.heap.size) : ∀ u : World, (near W u).cell? ⟨b, o, none⟩ = some v := fun u => by
  rw [(near_below W u).cell (p := ⟨b, o, none⟩) hb]; exact hc
theorem Near.frozen {W : World} {b o : Nat} {v : Bool} (hc : W.frozen? ⟨b, o, none⟩ = v) (hb : b < W.heap.size) : ∀ u : World, (near W u).frozen? ⟨b, o, none⟩ = v := fun u => by
  rw [(near_below W u).frozen (p := ⟨b, o, none⟩) hb]; exact hc
theorem Near.start (W : World) : ∃ u : World, { W with drawn := W.drawn + 1 } = near W u := ⟨W.drew, (near_self (Below.refl _ _).drew).symm⟩
theorem Near.call {P : Program} {f : FuncId} {args : Array Value} {W : World} {u : World} {v : Value} (h : Calls P f args (near W u) fun e w' => e = .returned v ∧ Below (near W u).heap.size (near W u) w') :
    Calls P f args (near W u) fun e w' => e = .returned v ∧ ∃ u' : World, w' = near W u' :=
  h.mono fun _ w' h => ⟨h.1, w', (near_self ((near_below W u).trans (h.2.mono (near_below W u).size))).symm⟩
theorem Near.same {P : Program} {f : FuncId} {args : Array Value} {W : World} {u : World} {v : Value} (h : Calls P f args (near W u) fun e w' => e = .returned v ∧ w' = near W u) :
    Calls P f args (near W u) fun e w' => e = .returned v ∧ ∃ u' : World, w' = near W u' :=
  h.mono fun _ _ h => ⟨h.1, u, h.2⟩
end Go.Proofs.Ytkbeiadbolihiaa
namespace Go.Proofs.Ytkbeiadbolihiaa
open Go.RowKit
/-- Whether b stands at a place of a pattern of n bytes. -/
def hasP (z : Nat → Nat) (n at_ b : Nat) : Bool := decide (at_ < n) && (z at_ == b)
def digP (b : Nat) : Bool := decide (48 ≤ b) && decide (b ≤ 57)
def letP (b : Nat) : Bool := (decide (97 ≤ b) && decide (b ≤ 122)) || (decide (65 ≤ b) && decide (b ≤ 90))
/-- A digit of sixteen: its number, and whether it is one. -/
def hexP (b : Nat) : Nat × Bool := if digP b then (b - 48, true) else if decide (97 ≤ b) && decide (b ≤ 102) then (b - 87, true) else if decide (65 ≤ b) && decide (b ≤ 70) then (b - 55, true) else (0, false)
def repP (least most : Int) : Bool := decide (0 ≤ least) && decide (least ≤ if most = -1 then 1000 else most) && decide ((if most = -1 then 1000 else most) ≤ 1000)
set_option maxHeartbeats 400000 in
theorem has_any (ao : Option Addr) (n cap at_ b : Nat) (z : Nat → Nat) (w : World) (hr : Rd w ao n z) : Calls Try.prog 32 #[.slice ao n cap, .int .i64 (at_ : Nat), .int .u8 (b : Nat)] w fun e w' => e = .returned (.bool (hasP z n at_ b)) ∧ w' = w := by
  by_cases h : at_ < n
  · obtain ⟨bb, off, rfl, hbb, hc⟩ := hr.at_ (by omega)
    have t := hc at_ h
    have hi : (at_ : Int) < (n : Int) := by omega
    have e : (((z at_ : Nat) : Int) == (b : Int)) = hasP z n at_ b := by
      unfold hasP
      rw [decide_eq_true h, Bool.true_and, Bool.eq_iff_iff]
      simp; omega
    have hE : Hid ((((z at_ : Nat) : Int) == (b : Int)) = hasP z n at_ b) := e
    clear hc e
    go_enter Try.func32, Try.ntmps32
    go_wp2
    go_ret
    exact ⟨by rw [← hE.out]; rfl, rfl⟩
  · have hi : ¬ (at_ : Int) < (n : Int) := by omega
    have e : hasP z n at_ b = false := by unfold hasP; rw [decide_eq_false h, Bool.false_and]
    rw [e]
    go_enter Try.func32, Try.ntmps32
    go_wp2
    go_ret
    exact ⟨rfl, rfl⟩
set_option maxHeartbeats 400000 in
theorem isDigit_any (b : Nat) (w : World) : Calls Try.prog 31 #[.int .u8 (b : Nat)] w fun e w' => e = .returned (.bool (digP b)) ∧ w' = w := by
  by_cases h1 : 48 ≤ b
  · have g1 : (48 : Int) ≤ (b : Int) := by omega
    have e : decide ((b : Int) ≤ 57) = digP b := by unfold digP; rw [decide_eq_true h1, Bool.true_and, decide_eq_decide]; omega
    go_enter Try.func31, Try.ntmps31
    go_wp2
    go_ret
    exact ⟨rfl, rfl⟩
  · have g1 : ¬ (48 : Int) ≤ (b : Int) := by omega
    have e : digP b = false := by unfold digP; rw [decide_eq_false h1, Bool.false_and]
    rw [e]
    go_enter Try.func31, Try.ntmps31
    go_wp2
    go_ret
    exact ⟨rfl, rfl⟩
set_option maxHeartbeats 400000 in
theorem isLetter_any (b : Nat) (w : World) : Calls Try.prog 30 #[.int .u8 (b : Nat)] w fun e w' => e = .returned (.bool (letP b)) ∧ w' = w := by
  have key : ∀ x : Bool, letP b = x → Calls Try.prog 30 #[.int .u8 (b : Nat)] w fun e w' => e = .returned (.bool x) ∧ w' = w := by
    intro x hx
    by_cases h1 : 97 ≤ b
    · have g1 : (97 : Int) ≤ (b : Int) := by omega
      by_cases h2 : b ≤ 122
      · have g2 : (b : Int) ≤ 122 := by omega
        have e : x = true := by rw [← hx]; unfold letP; simp [h1, h2]
        subst e
        clear hx
        go_enter Try.func30, Try.ntmps30
        go_wp2
        go_ret
        exact ⟨rfl, rfl⟩
      · have g2 : ¬ (b : Int) ≤ 122 := by omega
        have g3 : (65 : Int) ≤ (b : Int) := by omega
        have g4 : ¬ (b : Int) ≤ 90 := by omega
        have e : x = false := by rw [← hx]; unfold letP; simp; omega
        subst e
        clear hx
        go_enter Try.func30, Try.ntmps30
        go_wp2
        go_ret
        exact ⟨rfl, rfl⟩
    · have g1 : ¬ (97 : Int) ≤ (b : Int) := by omega
      by_cases h2 : 65 ≤ b
      · have g2 : (65 : Int) ≤ (b : Int) := by omega
        by_cases h3 : b ≤ 90
        · have g3 : (b : Int) ≤ 90 := by omega
          have e : x = true := by rw [← hx]; unfold letP; simp [h2, h3]
          subst e
          clear hx
          go_enter Try.func30, Try.ntmps30
          go_wp2
          go_ret
          exact ⟨rfl, rfl⟩
        · have g3 : ¬ (b : Int) ≤ 90 := by omega
          have e : x = false := by rw [← hx]; unfold letP; simp; omega
          subst e
          clear hx
          go_enter Try.func30, Try.ntmps30
          go_wp2
          go_ret
          exact ⟨rfl, rfl⟩
      · have g2 : ¬ (65 : Int) ≤ (b : Int) := by omega
        have e : x = false := by rw [← hx]; unfold letP; simp; omega
        subst e
        clear hx
        go_enter Try.func30, Try.ntmps30
        go_wp2
        go_ret
        exact ⟨rfl, rfl⟩
  exact key _ rfl
set_option maxHeartbeats 400000 in
theorem mayRepeat_any (l m : Int) (w : World) : Calls Try.prog 62 #[.int .i64 l, .int .i64 m] w fun e w' => e = .returned (.bool (repP l m)) ∧ w' = w := by
  have key : ∀ x : Bool, repP l m = x → Calls Try.prog 62 #[.int .i64 l, .int .i64 m] w fun e w' => e = .returned (.bool x) ∧ w' = w := by
    intro x hx
    by_cases hm : m = -1
    · subst hm
      by_cases h0 : 0 ≤ l
      · by_cases h1 : l ≤ 1000
        · have e : x = true := by rw [← hx]; unfold repP; simp [h0, h1]
          subst e
          clear hx
          go_enter Try.func62, Try.ntmps62
          go_wp2
          go_ret
          exact ⟨rfl, rfl⟩
        · have e : x = false := by rw [← hx]; unfold repP; simp [h1]
          subst e
          clear hx
          go_enter Try.func62, Try.ntmps62
          go_wp2
          go_ret
          exact ⟨rfl, rfl⟩
      · have e : x = false := by rw [← hx]; unfold repP; simp [h0]
        subst e
        clear hx
        go_enter Try.func62, Try.ntmps62
        go_wp2
        go_ret
        exact ⟨rfl, rfl⟩
    · have hb : (m == -1) = false := by simpa using hm
      by_cases h0 : 0 ≤ l
      · by_cases h1 : l ≤ m
        · have e : decide (m ≤ 1000) = x := by rw [← hx]; unfold repP; simp [h0, h1, hm]
          clear hx
          go_enter Try.func62, Try.ntmps62
          go_wp2
          go_ret
          exact ⟨rfl, rfl⟩
        · have e : x = false := by rw [← hx]; unfold repP; simp [h1, hm]
          subst e
          clear hx
          go_enter Try.func62, Try.ntmps62
          go_wp2
          go_ret
          exact ⟨rfl, rfl⟩
      · have e : x = false := by rw [← hx]; unfold repP; simp [h0]
        subst e
        clear hx
        go_enter Try.func62, Try.ntmps62
        go_wp2
        go_ret
        exact ⟨rfl, rfl⟩
  exact key _ rfl
end Go.Proofs.Ytkbeiadbolihiaa
namespace Go.Proofs.Ytkbeiadbolihiaa
open Go.RowKit
set_option maxHeartbeats 400000 in
theorem hexDigit_any (b : Nat) (w : World) (hb : b < 256) : Calls Try.prog 55 #[.int .u8 (b : Nat)] w fun e w' => e = .returned (.tuple #[.int .u8 ((hexP b).1 : Nat), .bool (hexP b).2]) ∧ w' = w := by
  have hd := fun W => isDigit_any b W
  cases h0 : digP b with
  | true =>
    have h48 : 48 ≤ b := by unfold digP at h0; simp at h0; omega
    have e : hexP b = (b - 48, true) := by unfold hexP; rw [h0]; rfl
    have en : ((b - 48 : Nat) : Int) = (b : Int) - 48 := by omega
    rw [h0] at hd
    rw [e]
    have g1 : (48 : Int) ≤ (b : Int) := by omega
    have g2 : (b : Int) < 256 := by omega
    clear e h0
    go_enter Try.func55, Try.ntmps55
    go_wp2_with (go_at_call 31; refine (hd _).mono ?_; rintro e w' ⟨rfl, rfl⟩)
    exact bodyPost_ret (v := .tuple #[.int .u8 ((b : Int) - 48), .bool true]) (by simp [results, Try.results55, go_sem]) rfl ⟨by rw [en], rfl⟩
  | false =>
    rw [h0] at hd
    by_cases h1 : 97 ≤ b ∧ b ≤ 102
    · have e : hexP b = (b - 87, true) := by unfold hexP; rw [h0]; simp [h1]
      have en : ((b - 87 : Nat) : Int) = (b : Int) - 97 + 10 := by omega
      rw [e]
      have g1 : (97 : Int) ≤ (b : Int) := by omega
      have g2 : (b : Int) ≤ 102 := by omega
      clear e h0
      go_enter Try.func55, Try.ntmps55
      go_wp2_with (go_at_call 31; refine (hd _).mono ?_; rintro e w' ⟨rfl, rfl⟩)
      exact bodyPost_ret (v := .tuple #[.int .u8 ((b : Int) - 97 + 10), .bool true]) (by simp [results, Try.results55, go_sem]) rfl ⟨by rw [en], rfl⟩
    · by_cases h2 : 65 ≤ b ∧ b ≤ 70
      · have e : hexP b = (b - 55, true) := by unfold hexP; rw [h0]; simp [h2]; omega
        have en : ((b - 55 : Nat) : Int) = (b : Int) - 65 + 10 := by omega
        rw [e]
        have g1 : ¬ (97 : Int) ≤ (b : Int) := by omega
        have g2 : (65 : Int) ≤ (b : Int) := by omega
        have g3 : (b : Int) ≤ 70 := by omega
        clear e h0
        go_enter Try.func55, Try.ntmps55
        go_wp2_with (go_at_call 31; refine (hd _).mono ?_; rintro e w' ⟨rfl, rfl⟩)
        exact bodyPost_ret (v := .tuple #[.int .u8 ((b : Int) - 65 + 10), .bool true]) (by simp [results, Try.results55, go_sem]) rfl ⟨rfl, rfl⟩
      · have e : hexP b = (0, false) := by
          unfold hexP
          rw [h0]
          have e1 : (decide (97 ≤ b) && decide (b ≤ 102)) = false := by simp; omega
          have e2 : (decide (65 ≤ b) && decide (b ≤ 70)) = false := by simp; omega
          rw [e1, e2]; rfl
        rw [e]
        clear e h0
        by_cases g1 : (97 : Int) ≤ (b : Int)
        · have g2 : ¬ (b : Int) ≤ 102 := by omega
          have g3 : (65 : Int) ≤ (b : Int) := by omega
          have g4 : ¬ (b : Int) ≤ 70 := by omega
          go_enter Try.func55, Try.ntmps55
          go_wp2_with (go_at_call 31; refine (hd _).mono ?_; rintro e w' ⟨rfl, rfl⟩)
          exact bodyPost_ret (v := .tuple #[.int .u8 0, .bool false]) (by simp [results, Try.results55, go_sem]) rfl ⟨rfl, rfl⟩
        · by_cases g3 : (65 : Int) ≤ (b : Int)
          · have g4 : ¬ (b : Int) ≤ 70 := by omega
            go_enter Try.func55, Try.ntmps55
            go_wp2_with (go_at_call 31; refine (hd _).mono ?_; rintro e w' ⟨rfl, rfl⟩)
            exact bodyPost_ret (v := .tuple #[.int .u8 0, .bool false]) (by simp [results, Try.results55, go_sem]) rfl ⟨rfl, rfl⟩
          · go_enter Try.func55, Try.ntmps55
            go_wp2_with (go_at_call 31; refine (hd _).mono ?_; rintro e w' ⟨rfl, rfl⟩)
            exact bodyPost_ret (v := .tuple #[.int .u8 0, .bool false]) (by simp [results, Try.results55, go_sem]) rfl ⟨rfl, rfl⟩
theorem hexP_lt (b : Nat) : (hexP b).1 < 16 := by
  unfold hexP digP
  split
  · rename_i h; simp at h; show b - 48 < 16; omega
  · split
    · rename_i h; simp at h; show b - 87 < 16; omega
    · split
      · rename_i h; simp at h; show b - 55 < 16; omega
      · decide
/-- The byte of two digits of sixteen at a place, and whether they are digits. -/
def hexV (z : Nat → Nat) (n at_ : Nat) : Nat × Bool := if at_ + 2 ≤ n then ((hexP (z at_)).1 * 16 ||| (hexP (z (at_ + 1))).1, (hexP (z at_)).2 && (hexP (z (at_ + 1))).2) else (0, false)
set_option maxHeartbeats 400000 in
theorem hex_any (ao : Option Addr) (n cap at_ : Nat) (z : Nat → Nat) (w : World) (hr : Rd w ao n z) (hn : (n : Int) ≤ 1024) (ha : (at_ : Int) ≤ 2048) : Calls Try.prog 29 #[.slice ao n cap, .int .i64 (at_ : Nat)] w fun e w' => e = .returned (.tuple #[.int .u8 ((hexV z n at_).1 : Nat), .bool (hexV z n at_).2]) ∧ w' = w := by
  by_cases h : at_ + 2 ≤ n
  · obtain ⟨bb, off, rfl, hbb, hc⟩ := hr.at_ (by omega)
    have t1 := hc at_ (by omega)
    have t2 := hc (at_ + 1) (by omega)
    have s1 := hr.small at_ (by omega)
    have s2 := hr.small (at_ + 1) (by omega)
    have e : hexV z n at_ = ((hexP (z at_)).1 * 16 ||| (hexP (z (at_ + 1))).1, (hexP (z at_)).2 && (hexP (z (at_ + 1))).2) := by unfold hexV; rw [if_pos h]
    rw [e]
    have d1 := fun W => hexDigit_any (z at_) W s1
    have d2 := fun W => hexDigit_any (z (at_ + 1)) W s2
    have l1 := hexP_lt (z at_)
    have l2 := hexP_lt (z (at_ + 1))
    generalize (hexP (z at_)).1 = x at *
    generalize (hexP (z at_)).2 = bx at *
    generalize (hexP (z (at_ + 1))).1 = y at *
    generalize (hexP (z (at_ + 1))).2 = b_y at *
    generalize z at_ = p at *
    generalize z (at_ + 1) = q at *
    have D1 : Hid (∀ W, Calls Try.prog 55 #[.int .u8 (p : Nat)] W fun e w' => e = .returned (.tuple #[.int .u8 (x : Nat), .bool bx]) ∧ w' = W) := d1
    have D2 : Hid (∀ W, Calls Try.prog 55 #[.int .u8 (q : Nat)] W fun e w' => e = .returned (.tuple #[.int .u8 (y : Nat), .bool b_y]) ∧ w' = W) := d2
    have i1 : (at_ : Int) < (n : Int) := by omega
    have i2 : (at_ : Int) + 1 < (n : Int) := by omega
    have i3 : (at_ : Int) + 2 ≤ (n : Int) := by omega
    have ob : bits BinOp.or IntKind.u8 ((x : Int) * 16) (y : Int) = ((x * 16 ||| y : Nat) : Int) := by
      rw [show (x : Int) * 16 = ((x * 16 : Nat) : Int) by omega, u8_or_nat _ _ (by omega) (by omega)]
    clear e d1 d2 hc h hr
    go_enter Try.func29, Try.ntmps29
    go_wp2_with fail
    refine (D1.out _).mono ?_
    rintro e w1 ⟨rfl, rfl⟩
    go_wp2_with fail
    refine (D2.out _).mono ?_
    rintro e w2 ⟨rfl, rfl⟩
    cases bx with
    | true =>
      go_wp2
      exact bodyPost_ret (v := .tuple #[.int .u8 ((x * 16 ||| y : Nat) : Int), .bool b_y]) (by simp [results, Try.results29, go_sem]) rfl ⟨by simp, rfl⟩
    | false =>
      go_wp2
      exact bodyPost_ret (v := .tuple #[.int .u8 ((x * 16 ||| y : Nat) : Int), .bool false]) (by simp [results, Try.results29, go_sem]) rfl ⟨by simp, rfl⟩
  · have e : hexV z n at_ = (0, false) := by unfold hexV; rw [if_neg h]
    rw [e]
    have i3 : (n : Int) < (at_ : Int) + 2 := by omega
    clear e
    go_enter Try.func29, Try.ntmps29
    go_wp2
    exact bodyPost_ret (v := .tuple #[.int .u8 0, .bool false]) (by simp [results, Try.results29, go_sem]) rfl ⟨rfl, rfl⟩
/-- Whether a dash at a place makes a range of the unit ahead of it. -/
def dashP (z : Nat → Nat) (n at_ : Nat) : Bool := hasP z n at_ 45 && decide (at_ + 1 < n) && !(z (at_ + 1) == 93)
set_option maxHeartbeats 400000 in
theorem isDash_any (ao : Option Addr) (n cap at_ : Nat) (z : Nat → Nat) (w : World) (hr : Rd w ao n z) (hn : (n : Int) ≤ 1024) (ha : (at_ : Int) ≤ 2048) : Calls Try.prog 57 #[.slice ao n cap, .int .i64 (at_ : Nat)] w fun e w' => e = .returned (.bool (dashP z n at_)) ∧ w' = w := by
  have hh : ∀ W, Rd W ao n z → Calls Try.prog 32 #[.slice ao n cap, .int .i64 (at_ : Nat), .int .u8 45] W fun e w' => e = .returned (.bool (hasP z n at_ 45)) ∧ w' = W := fun W h => has_any ao n cap at_ 45 z W h
  cases h0 : hasP z n at_ 45 with
  | false =>
    have e : dashP z n at_ = false := by unfold dashP; rw [h0]; rfl
    rw [e]
    rw [h0] at hh
    go_enter Try.func57, Try.ntmps57
    go_wp2_with (go_at_call 32; refine (hh _ hr).mono ?_; rintro e w' ⟨rfl, rfl⟩)
    go_ret
    exact ⟨rfl, rfl⟩
  | true =>
    rw [h0] at hh
    have h1 : at_ < n := by unfold hasP at h0; simp at h0; omega
    by_cases h2 : at_ + 1 < n
    · obtain ⟨bb, off, rfl, hbb, hc⟩ := hr.at_ (by omega)
      have t := hc (at_ + 1) h2
      have e : dashP z n at_ = !(z (at_ + 1) == 93) := by unfold dashP; rw [h0, decide_eq_true h2]; rfl
      rw [e]
      have i2 : (at_ : Int) + 1 < (n : Int) := by omega
      have en : (((z (at_ + 1) : Nat) : Int) != 93) = !(z (at_ + 1) == 93) := by
        rw [Bool.eq_iff_iff]; simp; omega
      have EN : Hid ((((z (at_ + 1) : Nat) : Int) != 93) = !(z (at_ + 1) == 93)) := en
      generalize z (at_ + 1) = q at *
      have HR := Hid.out (p := Rd w (some ⟨bb, off, none⟩) n z) hr
      clear hc e en
      go_enter Try.func57, Try.ntmps57
      go_wp2_with (go_at_call 32; refine (hh _ HR).mono ?_; rintro e w' ⟨rfl, rfl⟩)
      go_ret
      exact ⟨by rw [← EN.out]; rfl, rfl⟩
    · have e : dashP z n at_ = false := by unfold dashP; rw [decide_eq_false h2]; simp
      rw [e]
      have i2 : ¬ (at_ : Int) + 1 < (n : Int) := by omega
      go_enter Try.func57, Try.ntmps57
      go_wp2_with (go_at_call 32; refine (hh _ hr).mono ?_; rintro e w' ⟨rfl, rfl⟩)
      go_ret
      exact ⟨rfl, rfl⟩
end Go.Proofs.Ytkbeiadbolihiaa
