/- The reference's Text: the walk. token: the text of a class: the walk. -/
import Derived.Test.YtkbeiadbolihiaaDoorM24Lt
import Derived.Test.YtkbeiadbolihiaaDoorM20Bt
import Derived.Test.YtkbeiadbolihiaaDoorM04Tx
import Derived.Deep.RegionHeld3
namespace Go.Proofs.YtkbeiadbolihiaaDoor
open Go.RowKit
/-- The text as far as it is written. -/
def acc (l : List (Nat × Nat)) (k : Nat) : List UInt8 := [91] ++ ((l.take k).flatMap fun r => runB r.1 r.2)
theorem acc_succ (l : List (Nat × Nat)) (k : Nat) (h : k < l.length) : acc l (k + 1) = acc l k ++ runB (l.getD k (0, 0)).1 (l.getD k (0, 0)).2 := by
  have e : l.getD k (0, 0) = l[k] := by rw [List.getD_eq_getElem?_getD, List.getElem?_eq_getElem h]; rfl
  unfold acc
  rw [e, ← List.take_append_getElem h, List.flatMap_append, List.flatMap_singleton, List.append_assoc]
theorem acc_len (l : List (Nat × Nat)) (k : Nat) : (acc l k).length ≤ 1 + 9 * k := by
  induction k with
  | zero => simp [acc]
  | succ k ih =>
    by_cases h : k < l.length
    · rw [acc_succ l k h, List.length_append]
      have := runB_len (l.getD k (0, 0)).1 (l.getD k (0, 0)).2
      omega
    · have : acc l (k + 1) = acc l k := by
        unfold acc
        rw [List.take_of_length_le (by omega), List.take_of_length_le (by omega)]
      rw [this]; omega
/-- A run that can be read, whatever comes. -/
structure RelX (w : World) (ao : Option Addr) (N cap : Nat) (R : List (Nat × Nat)) (wr : World) : Prop where
  bel : Below w.heap.size w wr
  own : wr.ownsRow w.heap.size 65 2 (.slice ao N cap) N (runV R)
theorem RelX.next {w wr W : World} {ao : Option Addr} {N cap : Nat} {R : List (Nat × Nat)} (h : RelX w ao N cap R wr) (hb : Below wr.heap.size wr W) : RelX w ao N cap R W :=
  ⟨h.bel.trans (hb.mono h.bel.size), row52_below h.own hb⟩
theorem RelX.cells {w wr : World} {ao : Option Addr} {N cap : Nat} {R : List (Nat × Nat)} (h : RelX w ao N cap R wr) (hN : R.length = N) (k : Nat) (hk : k < N) : ∃ g, ao = some ⟨g, 0, none⟩ ∧ g < wr.heap.size ∧ wr.cell? ⟨g, k * 2, none⟩ = some (.int .u8 ((R.getD k (0, 0)).1 : Nat)) ∧ wr.cell? ⟨g, k * 2 + 1, none⟩ = some (.int .u8 ((R.getD k (0, 0)).2 : Nat)) := by
  obtain ⟨g, e, hg, hc⟩ := (RdR.own h.own N (Nat.le_refl _) hN).at_ (by omega)
  exact ⟨g, e, hg, hc k hk⟩
theorem RelX.quiet {w wr : World} {ao : Option Addr} {N cap : Nat} {R : List (Nat × Nat)} (h : RelX w ao N cap R wr) (q : Nat) : RelX w ao N cap R (wr.drewN q) := h.next (lbel_drewN _ _)
def oneR (R : List (Nat × Nat)) : Bool := decide (R.length = 1) && decide ((R.getD 0 (0, 0)).1 = (R.getD 0 (0, 0)).2)
theorem oneR_one (R : List (Nat × Nat)) (h : R.length = 1) : oneR R = decide ((R.getD 0 (0, 0)).1 = (R.getD 0 (0, 0)).2) := by
  unfold oneR
  rw [decide_eq_true h, Bool.true_and]
theorem oneR_not (R : List (Nat × Nat)) (h : ¬ R.length = 1) : oneR R = false := by
  unfold oneR
  rw [decide_eq_false h, Bool.false_and]
theorem refB_one (R : List (Nat × Nat)) (h : oneR R = true) : R.length = 1 ∧ refB R = litB (R.getD 0 (0, 0)).1 := by
  unfold oneR at h
  simp only [Bool.and_eq_true, decide_eq_true_eq] at h
  refine ⟨h.1, ?_⟩
  match R, h with
  | [r], h =>
    show (if r.1 = r.2 then litB r.1 else _) = _
    rw [if_pos (by simpa using h.2)]
    rfl
theorem refB_more (R : List (Nat × Nat)) (h : oneR R = false) : refB R = acc R R.length ++ [93] := by
  unfold acc
  rw [List.take_length]
  unfold refB
  split
  · rename_i r
    rw [if_neg]
    intro e
    simp [oneR, e] at h
  · rfl
set_option maxRecDepth 100000 in
set_option maxHeartbeats 8000000 in
theorem rtext_c {P : Nat → Bool} {a b c d : Nat} (h4 : C4 P a b c d) (w : World) : Calls Tryd.prog 26 #[.agg #[.int .u64 (a : Nat), .int .u64 (b : Nat), .int .u64 (c : Nat), .int .u64 (d : Nat)]] w (RetS w (textB P)) := by
  have hB0 : Below w.heap.size w (w.alloc (.cells #[.int .u64 (a : Nat), .int .u64 (b : Nat), .int .u64 (c : Nat), .int .u64 (d : Nat)] 24)) := (Below.refl _ _).alloc (Nat.le_refl _) _
  obtain ⟨p0, p1, p2, p3, _⟩ := (Bx.new w (.int .u64 (a : Nat)) (.int .u64 (b : Nat)) (.int .u64 (c : Nat)) (.int .u64 (d : Nat))).cells
  rw [text_ref]
  have hlen := rs_len P 257
  have hle := runs_le P
  have H35 : ∀ W, Calls Tryd.prog 43 #[.agg #[.int .u64 (a : Nat), .int .u64 (b : Nat), .int .u64 (c : Nat), .int .u64 (d : Nat)]] W (RetRn W (rs P 257).1) := fun W => rruns_c h4 W
  generalize (rs P 257).1 = R at *
  obtain ⟨N, hN⟩ : ∃ N, R.length = N := ⟨_, rfl⟩
  have h35 : Hid (∀ W, Calls Tryd.prog 43 #[.agg #[.int .u64 (a : Nat), .int .u64 (b : Nat), .int .u64 (c : Nat), .int .u64 (d : Nat)]] W (RetR2 W R N)) := fun W => (H35 W).mono (retR2 hN)
  have hN257 : N ≤ 257 := by omega
  have HN : Hid (R.length = N) := hN
  have hrun : Hid (∀ k, k < N → (R.getD k (0, 0)).1 ≤ (R.getD k (0, 0)).2 ∧ (R.getD k (0, 0)).2 < 256) := fun k hk => by
    have hk' : k < R.length := by omega
    rw [List.getD_eq_getElem?_getD, List.getElem?_eq_getElem hk']
    exact hle _ (List.getElem_mem hk')
  clear H35 hlen hle hN
  go_enter Tryd.func26, Tryd.ntmps26
  go_wp2_with fail
  refine (h35.out _).mono ?_
  rintro e w1 ⟨ao, cap, rfl, hown, hb⟩
  have t : RelX w ao N cap R w1 := ⟨hB0.trans (hb.mono hB0.size), row2_mono hown (by simp)⟩
  clear hb hown p0 p1 p2 p3 hB0 h35
  go_wp2_with fail
  go_cut [21] from 8 to 21 (fun v wx => v = .bool (oneR R) ∧ RelX w ao N cap R wx)
  case first =>
    by_cases h1 : N = 1
    · subst h1
      obtain ⟨g, rfl, _, c0, c1⟩ := t.cells HN.out 0 (by omega)
      have e : Hid (oneR R = decide ((R.getD 0 (0, 0)).1 = (R.getD 0 (0, 0)).2)) := oneR_one R HN.out
      generalize (R.getD 0 (0, 0)).1 = lo at *
      generalize (R.getD 0 (0, 0)).2 = hi at *
      have hd : ((lo : Int) == (hi : Int)) = decide (lo = hi) := by rw [Bool.eq_iff_iff]; simp; omega
      have t : Hid (∀ q, RelX w (some ⟨g, 0, none⟩) 1 cap R (w1.drewN q)) := t.quiet
      go_quiet (fail)
      go_wp2_with fail
      go_meet
      exact ⟨by rw [e.out], t.out _⟩
    · have e : Hid (oneR R = false) := oneR_not R (by rw [HN.out]; exact h1)
      have hne : ((N : Int) == 1) = false := by simp; omega
      have t : Hid (∀ q, RelX w ao N cap R (w1.drewN q)) := t.quiet
      go_quiet (fail)
      go_wp2_with fail
      go_meet
      exact ⟨by rw [e.out], t.out _⟩
  case rest =>
    obtain ⟨rfl, t⟩ := hcut
    cases ho : oneR R with
    | true =>
      have hr : Hid (R.length = 1 ∧ refB R = litB (R.getD 0 (0, 0)).1) := refB_one R ho
      obtain rfl : N = 1 := by have := HN.out; have := hr.out.1; omega
      obtain ⟨g, rfl, _, c0, c1⟩ := t.cells HN.out 0 (by omega)
      have hlo := hrun.out 0 (by omega)
      generalize (R.getD 0 (0, 0)).1 = lo at *
      have hl : lo < 256 := by omega
      clear c1 ho hlo
      go_wp2_with (go_at_call 25; refine (rliteral_any lo _ hl).mono ?_; rintro e w2 ⟨rfl, hB⟩)
      go_ret
      exact ⟨by rw [hr.out.2]; rfl, t.bel.trans (hB.mono t.bel.size)⟩
    | false =>
      have hr : Hid (refB R = acc R N ++ [93]) := by show refB R = _; rw [refB_more R ho, HN.out]
      go_wp2_with fail
      go_loopw [4, 5] (fun s i wr => ∃ k : Nat, k ≤ N ∧ i = .int .i64 k ∧ s = .string ⟨(acc R k).toArray⟩ ∧ RelX w ao N cap R wr) (fun _ i _ => N - (intOf i).toNat)
      case atStart => exact ⟨0, Nat.zero_le _, rfl, rfl, t⟩
      case round =>
        clear t
        obtain ⟨k, hk, rfl, rfl, t⟩ := hrel
        by_cases hlt : k < N
        · have hki : (k : Int) < (N : Int) := by omega
          obtain ⟨g, rfl, hg, c0, c1⟩ := t.cells HN.out k hlt
          have hrn := hrun.out k hlt
          have hs : Hid (acc R (k + 1) = acc R k ++ runB (R.getD k (0, 0)).1 (R.getD k (0, 0)).2) := acc_succ R k (by rw [HN.out]; exact hlt)
          have hsz : (⟨(acc R k).toArray⟩ : ByteArray).size ≤ 3000 := by rw [size_str]; have := acc_len R k; omega
          generalize (R.getD k (0, 0)).1 = lo at *
          generalize (R.getD k (0, 0)).2 = hi at *
          generalize hS : (⟨(acc R k).toArray⟩ : ByteArray) = S at *
          obtain ⟨p, hp⟩ : ∃ p : ByteArray, p = ⟨(innB lo).toArray⟩ := ⟨_, rfl⟩
          obtain ⟨q, hq⟩ : ∃ q : ByteArray, q = ⟨(innB hi).toArray⟩ := ⟨_, rfl⟩
          have hlo : lo < 256 := by omega
          have i1 : Hid (∀ w, Calls Tryd.prog 28 #[.int .u8 (lo : Nat)] w fun e w' => e = .returned (.string p) ∧ Below w.heap.size w w') := fun w => by rw [hp]; exact rinner_any lo w hlo
          have i2 : Hid (∀ w, Calls Tryd.prog 28 #[.int .u8 (hi : Nat)] w fun e w' => e = .returned (.string q) ∧ Below w.heap.size w w') := fun w => by rw [hq]; exact rinner_any hi w hrn.2
          have hp4 : p.size ≤ 4 := by rw [hp, size_str]; exact innB_len lo
          have hq4 : q.size ≤ 4 := by rw [hq, size_str]; exact innB_len hi
          have hsa : ∀ x y : ByteArray, (x ++ y).size = x.size + y.size := fun x y => ByteArray.size_append
          have hd1 : (⟨#[45]⟩ : ByteArray).size = 1 := rfl
          have hl2 : lo ≤ hi := hrn.1
          have hh2 : hi < 256 := hrn.2
          by_cases h0 : hi = lo
          · have HE : Hid (Value.string (S ++ p) = .string ⟨(acc R (k + 1)).toArray⟩) := by
              show Value.string (S ++ p) = .string ⟨(acc R (k + 1)).toArray⟩
              rw [hs.out, ← hS, hp, str_app]; unfold runB; rw [if_pos h0]
            subst h0
            clear hp hq hS hs hrn i2 hq4 hl2
            have n1 : ((hi : Int) != (hi : Int)) = false := by simp
            have n2 : ¬ (1 : Int) < (hi : Int) - (hi : Int) := by omega
            go_wp2_with fail
            refine (i1.out _).mono ?_
            rintro e w2 ⟨rfl, hb⟩
            have d0 : w2.cell? ⟨g, k * 2, none⟩ = some (.int .u8 (hi : Nat)) := by rw [hb.cell (p := ⟨g, k * 2, none⟩) hg]; exact c0
            have d1 : w2.cell? ⟨g, k * 2 + 1, none⟩ = some (.int .u8 (hi : Nat)) := by rw [hb.cell (p := ⟨g, k * 2 + 1, none⟩) hg]; exact c1
            have t : Hid (RelX w (some ⟨g, 0, none⟩) N cap R w2) := t.next hb
            clear hb c0 c1 i1 hg
            go_wp2
            go_quiet (fail)
            go_wp2
            go_quiet (fail)
            go_wp2
            go_roundw
            case rel => exact ⟨k + 1, by omega, by go_num, HE.out, t.out.quiet _⟩
            case measure => simp [intOf]; omega
          · by_cases h1 : hi = lo + 1
            · have HE : Hid (Value.string (S ++ p ++ q) = .string ⟨(acc R (k + 1)).toArray⟩) := by
                show Value.string (S ++ p ++ q) = .string ⟨(acc R (k + 1)).toArray⟩
                rw [hs.out, ← hS, hp, hq, str_app, str_app]; unfold runB; rw [if_neg h0, if_pos h1, List.append_assoc]
              clear hp hq hS hs hrn
              have n1 : ((hi : Int) != (lo : Int)) = true := by simp; omega
              have n2 : ¬ (1 : Int) < (hi : Int) - (lo : Int) := by omega
              clear h0 h1
              go_wp2_with fail
              refine (i1.out _).mono ?_
              rintro e w2 ⟨rfl, hb⟩
              have d0 : w2.cell? ⟨g, k * 2, none⟩ = some (.int .u8 (lo : Nat)) := by rw [hb.cell (p := ⟨g, k * 2, none⟩) hg]; exact c0
              have d1 : w2.cell? ⟨g, k * 2 + 1, none⟩ = some (.int .u8 (hi : Nat)) := by rw [hb.cell (p := ⟨g, k * 2 + 1, none⟩) hg]; exact c1
              have t : Hid (RelX w (some ⟨g, 0, none⟩) N cap R w2) := t.next hb
              clear hb c0 c1 i1 hg
              go_wp2
              go_quiet (fail)
              go_wp2
              go_quiet (fail)
              go_wp2_with (go_at_call 28; refine (i2.out _).mono ?_; rintro e w3 ⟨rfl, hb⟩)
              go_roundw
              case rel => exact ⟨k + 1, by omega, by go_num, HE.out, (t.out.quiet _).next hb⟩
              case measure => simp [intOf]; omega
            · have HE : Hid (Value.string (S ++ p ++ ⟨#[45]⟩ ++ q) = .string ⟨(acc R (k + 1)).toArray⟩) := by
                show Value.string (S ++ p ++ ⟨#[45]⟩ ++ q) = .string ⟨(acc R (k + 1)).toArray⟩
                rw [hs.out, ← hS, hp, hq, str_app, show (⟨#[45]⟩ : ByteArray) = ⟨([45] : List UInt8).toArray⟩ from rfl, str_app, str_app]; unfold runB; rw [if_neg h0, if_neg h1, List.append_assoc, List.append_assoc, List.append_assoc]
              clear hp hq hS hs hrn
              have n1 : ((hi : Int) != (lo : Int)) = true := by simp; omega
              have n2 : (1 : Int) < (hi : Int) - (lo : Int) := by omega
              clear h0 h1
              go_wp2_with fail
              refine (i1.out _).mono ?_
              rintro e w2 ⟨rfl, hb⟩
              have d0 : w2.cell? ⟨g, k * 2, none⟩ = some (.int .u8 (lo : Nat)) := by rw [hb.cell (p := ⟨g, k * 2, none⟩) hg]; exact c0
              have d1 : w2.cell? ⟨g, k * 2 + 1, none⟩ = some (.int .u8 (hi : Nat)) := by rw [hb.cell (p := ⟨g, k * 2 + 1, none⟩) hg]; exact c1
              have t : Hid (RelX w (some ⟨g, 0, none⟩) N cap R w2) := t.next hb
              clear hb c0 c1 i1 hg
              go_wp2
              go_quiet (fail)
              go_wp2
              go_quiet (fail)
              go_wp2_with (go_at_call 28; refine (i2.out _).mono ?_; rintro e w3 ⟨rfl, hb⟩)
              go_roundw
              case rel => exact ⟨k + 1, by omega, by go_num, HE.out, (t.out.quiet _).next hb⟩
              case measure => simp [intOf]; omega
        · have hki : ¬ (k : Int) < (N : Int) := by omega
          have hk' : k = N := by omega
          have HE : Hid (Value.string ((⟨(acc R k).toArray⟩ : ByteArray) ++ ⟨#[93]⟩) = .string ⟨(refB R).toArray⟩) := by
            show Value.string ((⟨(acc R k).toArray⟩ : ByteArray) ++ ⟨#[93]⟩) = .string ⟨(refB R).toArray⟩
            rw [hr.out, hk', show (⟨#[93]⟩ : ByteArray) = ⟨([93] : List UInt8).toArray⟩ from rfl, str_app]
          have hsz : (⟨(acc R k).toArray⟩ : ByteArray).size ≤ 3000 := by rw [size_str]; have := acc_len R k; omega
          have hd1 : (⟨#[93]⟩ : ByteArray).size = 1 := rfl
          generalize (⟨(acc R k).toArray⟩ : ByteArray) = S at *
          clear hk'
          go_wp2
          go_ret
          exact ⟨congrArg Ending.returned HE.out, t.bel⟩
end Go.Proofs.YtkbeiadbolihiaaDoor
namespace Go.Proofs.YtkbeiadbolihiaaDoor
open Go.RowKit Go.Shelf
/-- The text of a class, one byte in brackets too. -/
def clsS (P : Nat → Bool) : List UInt8 := match (List.range 256).find? P with
  | some k => if eqC P (ofN (fun _ => k) 1) then [91] ++ innB k ++ [93] else textB P
  | none => textB P
def clsB (P : Nat → Bool) (nt : Bool) : List UInt8 := if nt then [91, 94] ++ (clsS P).drop 1 else clsS P
theorem ext_drop (l : List UInt8) : (⟨l.toArray⟩ : ByteArray).extract 1 l.length = ⟨(l.drop 1).toArray⟩ := by
  apply ByteArray.ext
  simp [ByteArray.data_extract]
  rw [List.take_of_length_le (by simp)]
theorem fl_len (l : List (Nat × Nat)) : (l.flatMap fun r => runB r.1 r.2).length ≤ 9 * l.length := by
  induction l with
  | nil => simp
  | cons r l ih =>
    have := runB_len r.1 r.2
    rw [List.flatMap_cons, List.length_append, List.length_cons]
    omega
theorem text_len (P : Nat → Bool) : 1 ≤ (textB P).length ∧ (textB P).length ≤ 3000 := by
  have h1 : 1 ≤ (brk P).length ∧ (brk P).length ≤ 3000 := by
    have h2 := fl_len (rs P 257).1
    have h3 := rs_len P 257
    unfold brk
    simp only [List.length_append, List.length_singleton]
    omega
  have h4 : ∀ k, 1 ≤ (litB k).length ∧ (litB k).length ≤ 3000 := fun k => by
    unfold litB numB
    repeat' split
    all_goals simp
  unfold textB
  split
  · split
    · exact h4 _
    · exact h1
  · exact h1
theorem cls_len (P : Nat → Bool) : 1 ≤ (clsS P).length ∧ (clsS P).length ≤ 3000 := by
  have h := text_len P
  unfold clsS
  split
  · split
    · rename_i k _ _
      have := innB_len k
      simp only [List.length_append, List.length_singleton]
      omega
    · exact h
  · exact h
set_option maxRecDepth 100000 in
set_option maxHeartbeats 4000000 in
theorem classText_c {P : Nat → Bool} {a b c d k : Nat} (h4 : C4 P a b c d) (nt : Bool) (w : World) (hT : Tab w) (hk : k < 256) (hP : P k = true) : Calls Tryd.prog 23 #[.agg #[.int .u64 (a : Nat), .int .u64 (b : Nat), .int .u64 (c : Nat), .int .u64 (d : Nat)], .bool nt] w (RetS w (clsB P nt)) := by
  have hB0 : Below w.heap.size w (w.alloc (.cells #[.int .u64 (a : Nat), .int .u64 (b : Nat), .int .u64 (c : Nat), .int .u64 (d : Nat)] 24)) := (Below.refl _ _).alloc (Nat.le_refl _) _
  have bx := Bx.new w (.int .u64 (a : Nat)) (.int .u64 (b : Nat)) (.int .u64 (c : Nat)) (.int .u64 (d : Nat))
  have HT1 := text_c h4 _ (hT.below hB0)
  have htl := text_len P
  obtain ⟨S, hS⟩ : ∃ S : ByteArray, S = ⟨(textB P).toArray⟩ := ⟨_, rfl⟩
  unfold RetS at HT1
  rw [← hS] at HT1
  have hss : S.size = (textB P).length := by rw [hS, size_str]
  have HS : Hid (S = ⟨(textB P).toArray⟩) := hS
  have hs1' : 1 ≤ S.size := by omega
  have hs2' : S.size ≤ 3000 := by omega
  have HSS : Hid (S.size = (textB P).length) := hss
  clear hS hss
  obtain ⟨c0, c1, c2, c3, _⟩ := bx.cells
  go_enter Tryd.func23, Tryd.ntmps23
  go_wp2_with fail
  refine HT1.mono ?_
  rintro e w1 ⟨rfl, hb1⟩
  clear HT1 c0 c1 c2 c3
  have hx1 := bx.below hb1
  have hB1 := hB0.trans (hb1.mono hB0.size)
  obtain ⟨c0, c1, c2, c3, _⟩ := hx1.cells
  go_wp2_with fail
  refine (first_c h4 _ (hT.below hB1)).mono ?_
  rintro e w2 ⟨(⟨k', hk', rfl, hPk, hmin⟩ | ⟨rfl, hno⟩), hb2⟩
  rotate_left
  · rw [hno k hk] at hP; cases hP
  have hf := find_some hk' hPk hmin
  clear c0 c1 c2 c3 hP hk hPk hmin bx hB0 hT
  have hx2 := hx1.below hb2
  have hB2 := hB1.trans (hb2.mono hB1.size)
  clear hx1 hB1 hb1 hb2
  have hO := of_one h4 hx2 hB2 hk'
  obtain ⟨c0, c1, c2, c3, _⟩ := hx2.cells
  have hc : w2.drew.cell? ⟨w.heap.size, 0, none⟩ = some (.int .u64 (a : Nat)) ∧ w2.drew.cell? ⟨w.heap.size, 1, none⟩ = some (.int .u64 (b : Nat)) ∧ w2.drew.cell? ⟨w.heap.size, 2, none⟩ = some (.int .u64 (c : Nat)) ∧ w2.drew.cell? ⟨w.heap.size, 3, none⟩ = some (.int .u64 (d : Nat)) := ⟨c0, c1, c2, c3⟩
  obtain ⟨c4, c5, c6, c7, _⟩ := (hx2.alloc (.cells #[.int .u8 (k' : Nat)] 5)).cells
  have hca : (w2.alloc (.cells #[.int .u8 (k' : Nat)] 5)).drew.cell? ⟨w.heap.size, 0, none⟩ = some (.int .u64 (a : Nat)) ∧ (w2.alloc (.cells #[.int .u8 (k' : Nat)] 5)).drew.cell? ⟨w.heap.size, 1, none⟩ = some (.int .u64 (b : Nat)) ∧ (w2.alloc (.cells #[.int .u8 (k' : Nat)] 5)).drew.cell? ⟨w.heap.size, 2, none⟩ = some (.int .u64 (c : Nat)) ∧ (w2.alloc (.cells #[.int .u8 (k' : Nat)] 5)).drew.cell? ⟨w.heap.size, 3, none⟩ = some (.int .u64 (d : Nat)) := ⟨c4, c5, c6, c7⟩
  clear c0 c1 c2 c3 c4 c5 c6 c7
  have hcl := cls_len P
  have hcs : clsS P = if eqC P (ofN (fun _ => k') 1) then [91] ++ innB k' ++ [93] else textB P := by unfold clsS; rw [hf]
  clear hf
  have hs1 : (⟨#[91]⟩ : ByteArray).size = 1 := rfl
  have hs2 : (⟨#[93]⟩ : ByteArray).size = 1 := rfl
  have hs3 : (⟨#[91, 94]⟩ : ByteArray).size = 2 := rfl
  have hsa := sz_app
  go_wp2_with fail
  cases hq1 : eqC P (ofN (fun _ => k') 1) with
  | true =>
    rw [hq1] at hO hcs
    rw [if_pos rfl] at hcs
    have hil := innB_len k'
    obtain ⟨V, hV⟩ : ∃ V : ByteArray, V = ⟨(innB k').toArray⟩ := ⟨_, rfl⟩
    have hvs : V.size ≤ 4 := by rw [hV, size_str]; exact hil
    have HIn : Hid (∀ W, Calls Tryd.prog 39 #[.int .u8 (k' : Nat)] W fun e w' => e = .returned (.string V) ∧ Below W.heap.size W w') := fun W => by
      have := inner_any k' W hk'
      unfold RetS at this
      rw [← hV] at this
      exact this
    have HV : Hid ((⟨#[91]⟩ : ByteArray) ++ V ++ ⟨#[93]⟩ = ⟨(clsS P).toArray⟩) := by
      show (⟨#[91]⟩ : ByteArray) ++ V ++ ⟨#[93]⟩ = ⟨(clsS P).toArray⟩
      rw [hcs, hV, ← str_app, ← str_app]
    have HX : Hid ((⟨#[91, 94]⟩ : ByteArray) ++ ((⟨#[91]⟩ : ByteArray) ++ V ++ ⟨#[93]⟩).extract 1 (1 + V.size + 1) = ⟨(clsB P true).toArray⟩) := by
      have hz : 1 + V.size + 1 = (clsS P).length := by
        have := congrArg ByteArray.size HV.out
        rw [hsa, hsa, hs1, hs2] at this
        exact this.trans (size_str _)
      show (⟨#[91, 94]⟩ : ByteArray) ++ ((⟨#[91]⟩ : ByteArray) ++ V ++ ⟨#[93]⟩).extract 1 (1 + V.size + 1) = ⟨(clsB P true).toArray⟩
      rw [HV.out, hz, ext_drop]
      exact str_app [91, 94] _
    clear hcs hV
    go_region_held3 (fun w' => w'.cell? ⟨w.heap.size, 0, none⟩ = some (.int .u64 (a : Nat)) ∧ w'.cell? ⟨w.heap.size, 1, none⟩ = some (.int .u64 (b : Nat)) ∧ w'.cell? ⟨w.heap.size, 2, none⟩ = some (.int .u64 (c : Nat)) ∧ w'.cell? ⟨w.heap.size, 3, none⟩ = some (.int .u64 (d : Nat))) (first | exact hc | exact hca) (first | (go_at_call 38; refine hO.mono ?_; rintro e w3 hO2; clear hc; obtain ⟨a', b', c', d', rfl, hq, hc, hx3, hB3⟩ := hO2.ex; clear hO2))
    all_goals have HB3 : Hid (∀ w4, Below w3.heap.size w3 w4 → Below w.heap.size w w4) := fun w4 h => hB3.out.trans (h.mono hB3.out.size)
    all_goals clear hB3 hx3 hc hca hq hO h4 hx2 hB2
    all_goals cases nt
    all_goals go_wp2_with (go_at_call 39; refine (HIn.out _).mono ?_; rintro e w4 ⟨rfl, hb4⟩)
    all_goals go_ret
    all_goals first | exact ⟨by rw [show clsB P false = clsS P from rfl, ← HV.out]; rfl, HB3.out _ hb4⟩ | exact ⟨by rw [← HX.out]; rfl, HB3.out _ hb4⟩
  | false =>
    rw [hq1] at hO hcs
    rw [if_neg (by simp)] at hcs
    have HV : Hid (S = ⟨(clsS P).toArray⟩) := by
      show S = ⟨(clsS P).toArray⟩
      rw [hcs]; exact HS.out
    have HX : Hid ((⟨#[91, 94]⟩ : ByteArray) ++ S.extract 1 S.size = ⟨(clsB P true).toArray⟩) := by
      show (⟨#[91, 94]⟩ : ByteArray) ++ S.extract 1 S.size = ⟨(clsB P true).toArray⟩
      rw [HSS.out, ← hcs, HV.out, ext_drop]
      exact str_app [91, 94] _
    clear hcs
    go_region_held3 (fun w' => w'.cell? ⟨w.heap.size, 0, none⟩ = some (.int .u64 (a : Nat)) ∧ w'.cell? ⟨w.heap.size, 1, none⟩ = some (.int .u64 (b : Nat)) ∧ w'.cell? ⟨w.heap.size, 2, none⟩ = some (.int .u64 (c : Nat)) ∧ w'.cell? ⟨w.heap.size, 3, none⟩ = some (.int .u64 (d : Nat))) (first | exact hc | exact hca) (first | (go_at_call 38; refine hO.mono ?_; rintro e w3 hO2; clear hc; obtain ⟨a', b', c', d', rfl, hq, hc, hx3, hB3⟩ := hO2.ex; clear hO2))
    all_goals clear hx3 hc hca hq hO h4 hx2 hB2
    all_goals cases nt
    all_goals go_wp2
    all_goals go_ret
    all_goals first | exact ⟨by rw [show clsB P false = clsS P from rfl, ← HV.out]; rfl, hB3.out⟩ | exact ⟨by rw [← HX.out]; rfl, hB3.out⟩
end Go.Proofs.YtkbeiadbolihiaaDoor
