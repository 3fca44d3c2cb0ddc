/- The reference's Text: the walk. -/
import Derived.Test.YthgjklhjfpillaaDoorTl
import Derived.Test.YthgjklhjfpillaaDoorRq
import Derived.Test.YthgjklhjfpillaaDoorLt
namespace Go.Proofs.YthgjklhjfpillaaDoor
open Go.RowKit
/-- The text as far as it is written. -/
def acc (l : List (Nat × Nat)) (k : Nat) : List UInt8 := [91] ++ ((l.take k).flatMap fun r => runB r.1 r.2)
theorem acc_succ (l : List (Nat × Nat)) (k : Nat) (h : k < l.length) : acc l (k + 1) = acc l k ++ runB (l.getD k (0, 0)).1 (l.getD k (0, 0)).2 := by
  have e : l.getD k (0, 0) = l[k] := by rw [List.getD_eq_getElem?_getD, List.getElem?_eq_getElem h]; rfl
  unfold acc
  rw [e, ← List.take_append_getElem h, List.flatMap_append, List.flatMap_singleton, List.append_assoc]
theorem acc_len (l : List (Nat × Nat)) (k : Nat) : (acc l k).length ≤ 1 + 9 * k := by
  induction k with
  | zero => simp [acc]
  | succ k ih =>
    by_cases h : k < l.length
    · rw [acc_succ l k h, List.length_append]
      have := runB_len (l.getD k (0, 0)).1 (l.getD k (0, 0)).2
      omega
    · have : acc l (k + 1) = acc l k := by
        unfold acc
        rw [List.take_of_length_le (by omega), List.take_of_length_le (by omega)]
      rw [this]; omega
/-- A run that can be read, whatever comes. -/
structure RelX (w : World) (ao : Option Addr) (N cap : Nat) (R : List (Nat × Nat)) (wr : World) : Prop where
  bel : Below w.heap.size w wr
  own : wr.ownsRow w.heap.size 52 2 (.slice ao N cap) N (runV R)
theorem RelX.next {w wr W : World} {ao : Option Addr} {N cap : Nat} {R : List (Nat × Nat)} (h : RelX w ao N cap R wr) (hb : Below wr.heap.size wr W) : RelX w ao N cap R W :=
  ⟨h.bel.trans (hb.mono h.bel.size), row52_below h.own hb⟩
theorem RelX.cells {w wr : World} {ao : Option Addr} {N cap : Nat} {R : List (Nat × Nat)} (h : RelX w ao N cap R wr) (hN : R.length = N) (k : Nat) (hk : k < N) : ∃ g, ao = some ⟨g, 0, none⟩ ∧ g < wr.heap.size ∧ wr.cell? ⟨g, k * 2, none⟩ = some (.int .u8 ((R.getD k (0, 0)).1 : Nat)) ∧ wr.cell? ⟨g, k * 2 + 1, none⟩ = some (.int .u8 ((R.getD k (0, 0)).2 : Nat)) := by
  obtain ⟨g, e, hg, hc⟩ := (RdR.own h.own N (Nat.le_refl _) hN).at_ (by omega)
  exact ⟨g, e, hg, hc k hk⟩
theorem RelX.quiet {w wr : World} {ao : Option Addr} {N cap : Nat} {R : List (Nat × Nat)} (h : RelX w ao N cap R wr) (q : Nat) : RelX w ao N cap R (wr.drewN q) := h.next (bel_drewN _ _)
def oneR (R : List (Nat × Nat)) : Bool := decide (R.length = 1) && decide ((R.getD 0 (0, 0)).1 = (R.getD 0 (0, 0)).2)
theorem oneR_one (R : List (Nat × Nat)) (h : R.length = 1) : oneR R = decide ((R.getD 0 (0, 0)).1 = (R.getD 0 (0, 0)).2) := by
  unfold oneR
  rw [decide_eq_true h, Bool.true_and]
theorem oneR_not (R : List (Nat × Nat)) (h : ¬ R.length = 1) : oneR R = false := by
  unfold oneR
  rw [decide_eq_false h, Bool.false_and]
theorem refB_one (R : List (Nat × Nat)) (h : oneR R = true) : R.length = 1 ∧ refB R = litB (R.getD 0 (0, 0)).1 := by
  unfold oneR at h
  simp only [Bool.and_eq_true, decide_eq_true_eq] at h
  refine ⟨h.1, ?_⟩
  match R, h with
  | [r], h =>
    show (if r.1 = r.2 then litB r.1 else _) = _
    rw [if_pos (by simpa using h.2)]
    rfl
theorem refB_more (R : List (Nat × Nat)) (h : oneR R = false) : refB R = acc R R.length ++ [93] := by
  unfold acc
  rw [List.take_length]
  unfold refB
  split
  · rename_i r
    rw [if_neg]
    intro e
    simp [oneR, e] at h
  · rfl
set_option maxRecDepth 100000 in
set_option maxHeartbeats 8000000 in
theorem rtext_c {P : Nat → Bool} {a b c d : Nat} (h4 : C4 P a b c d) (w : World) : Calls Tryd.prog 47 #[.agg #[.int .u64 (a : Nat), .int .u64 (b : Nat), .int .u64 (c : Nat), .int .u64 (d : Nat)]] w (RetS w (textB P)) := by
  have hB0 : Below w.heap.size w (w.alloc (.cells #[.int .u64 (a : Nat), .int .u64 (b : Nat), .int .u64 (c : Nat), .int .u64 (d : Nat)] 26)) := (Below.refl _ _).alloc (Nat.le_refl _) _
  obtain ⟨p0, p1, p2, p3, _⟩ := (Bx.new w (.int .u64 (a : Nat)) (.int .u64 (b : Nat)) (.int .u64 (c : Nat)) (.int .u64 (d : Nat))).cells
  rw [text_ref]
  have hlen := rs_len P 257
  have hle := runs_le P
  have H35 : ∀ W, Calls Tryd.prog 35 #[.agg #[.int .u64 (a : Nat), .int .u64 (b : Nat), .int .u64 (c : Nat), .int .u64 (d : Nat)]] W (RetRn W (rs P 257).1) := fun W => rruns_c h4 W
  generalize (rs P 257).1 = R at *
  obtain ⟨N, hN⟩ : ∃ N, R.length = N := ⟨_, rfl⟩
  have h35 : Hid (∀ W, Calls Tryd.prog 35 #[.agg #[.int .u64 (a : Nat), .int .u64 (b : Nat), .int .u64 (c : Nat), .int .u64 (d : Nat)]] W (RetR2 W R N)) := fun W => (H35 W).mono (retR2 hN)
  have hN257 : N ≤ 257 := by omega
  have HN : Hid (R.length = N) := hN
  have hrun : Hid (∀ k, k < N → (R.getD k (0, 0)).1 ≤ (R.getD k (0, 0)).2 ∧ (R.getD k (0, 0)).2 < 256) := fun k hk => by
    have hk' : k < R.length := by omega
    rw [List.getD_eq_getElem?_getD, List.getElem?_eq_getElem hk']
    exact hle _ (List.getElem_mem hk')
  clear H35 hlen hle hN
  go_enter Tryd.func47, Tryd.ntmps47
  go_wp2_with fail
  refine (h35.out _).mono ?_
  rintro e w1 ⟨ao, cap, rfl, hown, hb⟩
  have t : RelX w ao N cap R w1 := ⟨hB0.trans (hb.mono hB0.size), row2_mono hown (by simp)⟩
  clear hb hown p0 p1 p2 p3 hB0 h35
  go_wp2_with fail
  go_cut [21] from 8 to 21 (fun v wx => v = .bool (oneR R) ∧ RelX w ao N cap R wx)
  case first =>
    by_cases h1 : N = 1
    · subst h1
      obtain ⟨g, rfl, _, c0, c1⟩ := t.cells HN.out 0 (by omega)
      have e : Hid (oneR R = decide ((R.getD 0 (0, 0)).1 = (R.getD 0 (0, 0)).2)) := oneR_one R HN.out
      generalize (R.getD 0 (0, 0)).1 = lo at *
      generalize (R.getD 0 (0, 0)).2 = hi at *
      have hd : ((lo : Int) == (hi : Int)) = decide (lo = hi) := by rw [Bool.eq_iff_iff]; simp; omega
      have t : Hid (∀ q, RelX w (some ⟨g, 0, none⟩) 1 cap R (w1.drewN q)) := t.quiet
      go_quiet (fail)
      go_wp2_with fail
      go_meet
      exact ⟨by rw [e.out], t.out _⟩
    · have e : Hid (oneR R = false) := oneR_not R (by rw [HN.out]; exact h1)
      have hne : ((N : Int) == 1) = false := by simp; omega
      have t : Hid (∀ q, RelX w ao N cap R (w1.drewN q)) := t.quiet
      go_quiet (fail)
      go_wp2_with fail
      go_meet
      exact ⟨by rw [e.out], t.out _⟩
  case rest =>
    obtain ⟨rfl, t⟩ := hcut
    cases ho : oneR R with
    | true =>
      have hr : Hid (R.length = 1 ∧ refB R = litB (R.getD 0 (0, 0)).1) := refB_one R ho
      obtain rfl : N = 1 := by have := HN.out; have := hr.out.1; omega
      obtain ⟨g, rfl, _, c0, c1⟩ := t.cells HN.out 0 (by omega)
      have hlo := hrun.out 0 (by omega)
      generalize (R.getD 0 (0, 0)).1 = lo at *
      have hl : lo < 256 := by omega
      clear c1 ho hlo
      go_wp2_with (go_at_call 43; refine (rliteral_any lo _ hl).mono ?_; rintro e w2 ⟨rfl, hB⟩)
      go_ret
      exact ⟨by rw [hr.out.2]; rfl, t.bel.trans (hB.mono t.bel.size)⟩
    | false =>
      have hr : Hid (refB R = acc R N ++ [93]) := by show refB R = _; rw [refB_more R ho, HN.out]
      go_wp2_with fail
      go_loopw [4, 5] (fun s i wr => ∃ k : Nat, k ≤ N ∧ i = .int .i64 k ∧ s = .string ⟨(acc R k).toArray⟩ ∧ RelX w ao N cap R wr) (fun _ i _ => N - (intOf i).toNat)
      case atStart => exact ⟨0, Nat.zero_le _, rfl, rfl, t⟩
      case round =>
        clear t
        obtain ⟨k, hk, rfl, rfl, t⟩ := hrel
        by_cases hlt : k < N
        · have hki : (k : Int) < (N : Int) := by omega
          obtain ⟨g, rfl, hg, c0, c1⟩ := t.cells HN.out k hlt
          have hrn := hrun.out k hlt
          have hs : Hid (acc R (k + 1) = acc R k ++ runB (R.getD k (0, 0)).1 (R.getD k (0, 0)).2) := acc_succ R k (by rw [HN.out]; exact hlt)
          have hsz : (⟨(acc R k).toArray⟩ : ByteArray).size ≤ 3000 := by rw [size_str]; have := acc_len R k; omega
          generalize (R.getD k (0, 0)).1 = lo at *
          generalize (R.getD k (0, 0)).2 = hi at *
          generalize hS : (⟨(acc R k).toArray⟩ : ByteArray) = S at *
          obtain ⟨p, hp⟩ : ∃ p : ByteArray, p = ⟨(innB lo).toArray⟩ := ⟨_, rfl⟩
          obtain ⟨q, hq⟩ : ∃ q : ByteArray, q = ⟨(innB hi).toArray⟩ := ⟨_, rfl⟩
          have hlo : lo < 256 := by omega
          have i1 : Hid (∀ w, Calls Tryd.prog 45 #[.int .u8 (lo : Nat)] w fun e w' => e = .returned (.string p) ∧ Below w.heap.size w w') := fun w => by rw [hp]; exact rinner_any lo w hlo
          have i2 : Hid (∀ w, Calls Tryd.prog 45 #[.int .u8 (hi : Nat)] w fun e w' => e = .returned (.string q) ∧ Below w.heap.size w w') := fun w => by rw [hq]; exact rinner_any hi w hrn.2
          have hp4 : p.size ≤ 4 := by rw [hp, size_str]; exact innB_len lo
          have hq4 : q.size ≤ 4 := by rw [hq, size_str]; exact innB_len hi
          have hsa : ∀ x y : ByteArray, (x ++ y).size = x.size + y.size := fun x y => ByteArray.size_append
          have hd1 : (⟨#[45]⟩ : ByteArray).size = 1 := rfl
          have hl2 : lo ≤ hi := hrn.1
          have hh2 : hi < 256 := hrn.2
          by_cases h0 : hi = lo
          · have HE : Hid (Value.string (S ++ p) = .string ⟨(acc R (k + 1)).toArray⟩) := by
              show Value.string (S ++ p) = .string ⟨(acc R (k + 1)).toArray⟩
              rw [hs.out, ← hS, hp, str_app]; unfold runB; rw [if_pos h0]
            subst h0
            clear hp hq hS hs hrn i2 hq4 hl2
            have n1 : ((hi : Int) != (hi : Int)) = false := by simp
            have n2 : ¬ (1 : Int) < (hi : Int) - (hi : Int) := by omega
            go_wp2_with fail
            refine (i1.out _).mono ?_
            rintro e w2 ⟨rfl, hb⟩
            have d0 : w2.cell? ⟨g, k * 2, none⟩ = some (.int .u8 (hi : Nat)) := by rw [hb.cell (p := ⟨g, k * 2, none⟩) hg]; exact c0
            have d1 : w2.cell? ⟨g, k * 2 + 1, none⟩ = some (.int .u8 (hi : Nat)) := by rw [hb.cell (p := ⟨g, k * 2 + 1, none⟩) hg]; exact c1
            have t : Hid (RelX w (some ⟨g, 0, none⟩) N cap R w2) := t.next hb
            clear hb c0 c1 i1 hg
            go_wp2
            go_quiet (fail)
            go_wp2
            go_quiet (fail)
            go_wp2
            go_roundw
            case rel => exact ⟨k + 1, by omega, by go_num, HE.out, t.out.quiet _⟩
            case measure => simp [intOf]; omega
          · by_cases h1 : hi = lo + 1
            · have HE : Hid (Value.string (S ++ p ++ q) = .string ⟨(acc R (k + 1)).toArray⟩) := by
                show Value.string (S ++ p ++ q) = .string ⟨(acc R (k + 1)).toArray⟩
                rw [hs.out, ← hS, hp, hq, str_app, str_app]; unfold runB; rw [if_neg h0, if_pos h1, List.append_assoc]
              clear hp hq hS hs hrn
              have n1 : ((hi : Int) != (lo : Int)) = true := by simp; omega
              have n2 : ¬ (1 : Int) < (hi : Int) - (lo : Int) := by omega
              clear h0 h1
              go_wp2_with fail
              refine (i1.out _).mono ?_
              rintro e w2 ⟨rfl, hb⟩
              have d0 : w2.cell? ⟨g, k * 2, none⟩ = some (.int .u8 (lo : Nat)) := by rw [hb.cell (p := ⟨g, k * 2, none⟩) hg]; exact c0
              have d1 : w2.cell? ⟨g, k * 2 + 1, none⟩ = some (.int .u8 (hi : Nat)) := by rw [hb.cell (p := ⟨g, k * 2 + 1, none⟩) hg]; exact c1
              have t : Hid (RelX w (some ⟨g, 0, none⟩) N cap R w2) := t.next hb
              clear hb c0 c1 i1 hg
              go_wp2
              go_quiet (fail)
              go_wp2
              go_quiet (fail)
              go_wp2_with (go_at_call 45; refine (i2.out _).mono ?_; rintro e w3 ⟨rfl, hb⟩)
              go_roundw
              case rel => exact ⟨k + 1, by omega, by go_num, HE.out, (t.out.quiet _).next hb⟩
              case measure => simp [intOf]; omega
            · have HE : Hid (Value.string (S ++ p ++ ⟨#[45]⟩ ++ q) = .string ⟨(acc R (k + 1)).toArray⟩) := by
                show Value.string (S ++ p ++ ⟨#[45]⟩ ++ q) = .string ⟨(acc R (k + 1)).toArray⟩
                rw [hs.out, ← hS, hp, hq, str_app, show (⟨#[45]⟩ : ByteArray) = ⟨([45] : List UInt8).toArray⟩ from rfl, str_app, str_app]; unfold runB; rw [if_neg h0, if_neg h1, List.append_assoc, List.append_assoc, List.append_assoc]
              clear hp hq hS hs hrn
              have n1 : ((hi : Int) != (lo : Int)) = true := by simp; omega
              have n2 : (1 : Int) < (hi : Int) - (lo : Int) := by omega
              clear h0 h1
              go_wp2_with fail
              refine (i1.out _).mono ?_
              rintro e w2 ⟨rfl, hb⟩
              have d0 : w2.cell? ⟨g, k * 2, none⟩ = some (.int .u8 (lo : Nat)) := by rw [hb.cell (p := ⟨g, k * 2, none⟩) hg]; exact c0
              have d1 : w2.cell? ⟨g, k * 2 + 1, none⟩ = some (.int .u8 (hi : Nat)) := by rw [hb.cell (p := ⟨g, k * 2 + 1, none⟩) hg]; exact c1
              have t : Hid (RelX w (some ⟨g, 0, none⟩) N cap R w2) := t.next hb
              clear hb c0 c1 i1 hg
              go_wp2
              go_quiet (fail)
              go_wp2
              go_quiet (fail)
              go_wp2_with (go_at_call 45; refine (i2.out _).mono ?_; rintro e w3 ⟨rfl, hb⟩)
              go_roundw
              case rel => exact ⟨k + 1, by omega, by go_num, HE.out, (t.out.quiet _).next hb⟩
              case measure => simp [intOf]; omega
        · have hki : ¬ (k : Int) < (N : Int) := by omega
          have hk' : k = N := by omega
          have HE : Hid (Value.string ((⟨(acc R k).toArray⟩ : ByteArray) ++ ⟨#[93]⟩) = .string ⟨(refB R).toArray⟩) := by
            show Value.string ((⟨(acc R k).toArray⟩ : ByteArray) ++ ⟨#[93]⟩) = .string ⟨(refB R).toArray⟩
            rw [hr.out, hk', show (⟨#[93]⟩ : ByteArray) = ⟨([93] : List UInt8).toArray⟩ from rfl, str_app]
          have hsz : (⟨(acc R k).toArray⟩ : ByteArray).size ≤ 3000 := by rw [size_str]; have := acc_len R k; omega
          have hd1 : (⟨#[93]⟩ : ByteArray).size = 1 := rfl
          generalize (⟨(acc R k).toArray⟩ : ByteArray) = S at *
          clear hk'
          go_wp2
          go_ret
          exact ⟨congrArg Ending.returned HE.out, t.bel⟩
end Go.Proofs.YthgjklhjfpillaaDoor
