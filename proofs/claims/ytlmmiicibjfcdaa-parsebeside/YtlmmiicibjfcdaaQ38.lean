/- The reference of token: one as a whole, given what brackets says. The reference of token: first, given what one says. The reference of token: Lex, given what first says. The reference of token: brackets: what it holds between rounds, pure parts. -/
import Derived.Test.YtlmmiicibjfcdaaQ37
import Derived.Test.YtlmmiicibjfcdaaQ11
namespace Go.Proofs.Ytlmmiicibjfcdaa.X
open Go.RowKit
theorem tokOf_bad (en : Nat) (er : Int) : tokOf (TokS.bad en er).z = tokV 0 0 0 0 0 0 false 0 0 false 0 := by rw [tokOf_none _ rfl]; rfl
theorem tokOf_sgn (k : Int) (b a e : Nat) : tokOf (TokS.sgn k b a e).z = tokV k b 0 0 0 0 false 0 0 false 0 := by rw [tokOf_none _ rfl]; rfl
theorem escS_two (z : Nat → Nat) (n at_ : Nat) : (escS z n at_).er = 0 ∧ 0 < (escS z n at_).en ∨ escS z n at_ = .bad at_ 40 := by
  unfold escS
  repeat' split
  all_goals first | (right; rfl) | (left; refine ⟨rfl, ?_⟩; simp [TokS.cls, TokS.sgn])
theorem cntV_two (z : Nat → Nat) (n fr : Nat) : (cntV z n fr).2.2.2 = 0 ∨ cntV z n fr = (0, 0, fr, 43) := by
  unfold cntV
  repeat' split
  all_goals first | (right; rfl) | (left; rfl)
theorem repS_two (z : Nat → Nat) (n at_ : Nat) : (repS z n at_).2.2.2 = 0 ∧ 0 < (repS z n at_).2.2.1 ∨ repS z n at_ = (0, 0, at_, 43) ∧ z at_ ≠ 42 ∧ z at_ ≠ 43 ∧ z at_ ≠ 63 := by
  unfold repS
  split
  · left; exact ⟨rfl, by simp⟩
  split
  · left; exact ⟨rfl, by simp⟩
  split
  · left; exact ⟨rfl, by simp⟩
  rcases cntV_two z n at_ with h | h
  · left; exact ⟨h, by have := cntV_lt h; omega⟩
  · right; exact ⟨h, by omega⟩
theorem rptS_two (z : Nat → Nat) (n at_ : Nat) : (rptS z n at_).er = 0 ∧ 0 < (rptS z n at_).en ∨ rptS z n at_ = .bad at_ 43 ∧ z at_ ≠ 42 ∧ z at_ ≠ 43 ∧ z at_ ≠ 63 := by
  unfold rptS
  rcases repS_two z n at_ with ⟨h, h2⟩ | ⟨h, h2⟩
  · rw [if_neg (by simp [h])]
    split
    · left; exact ⟨rfl, by simp [TokS.rep]⟩
    · left; exact ⟨rfl, h2⟩
  · right; rw [h, if_pos (by simp)]; exact ⟨rfl, h2⟩
theorem rone_any (ao : Option Addr) (n cap at_ : Nat) (z : Nat → Nat) (w : World) (hr : Rd w ao n z) (hn : (n : Int) ≤ 1024) (ha : at_ < n) (br : TokS) (hbr : z at_ = 91 → ∀ W, Below w.heap.size w W → Calls Try.prog 90 #[.slice ao n cap, .int .i64 (at_ : Nat)] W (RetO W (tokOf br.z) br.en br.er)) : Calls Try.prog 79 #[.slice ao n cap, .int .i64 (at_ : Nat)] w (RetO w (tokOf (wrdS br z n at_).z) (wrdS br z n at_).en (wrdS br z n at_).er) := by
  have hE := fun W (hb : Below w.heap.size w W) => rescape_any ao n cap at_ z W (hr.below hb) hn ha
  have hP := fun (hq : z at_ = 42 ∨ z at_ = 43 ∨ z at_ = 63 ∨ z at_ = 123) W (hb : Below w.heap.size w W) => rrepeat_any ao n cap at_ z W (hr.below hb) hn ha hq
  obtain ⟨bb, off, rfl, _, _⟩ := hr.at_ (by omega)
  unfold wrdS
  by_cases h92 : z at_ = 92
  · rw [if_pos h92]
    clear hP hbr
    rcases escS_two z n at_ with ⟨he, h0⟩ | he
    · generalize escS z n at_ = s at *
      unfold refR at hE
      simp only [if_pos he] at hE
      rw [he]
      exact ro_esc bb off n cap at_ z w hr ha h92 _ _ _ _ _ _ _ _ _ _ _ _ h0 hE
    · rw [he] at hE ⊢
      rw [refR_bad (by simp [TokS.bad])] at hE
      rw [tokOf_bad]
      exact ro_esc_bad bb off n cap at_ z w hr ha h92 0 0 0 0 0 0 false 0 0 false 0 hE
  rw [if_neg h92]
  clear hE
  by_cases h91 : z at_ = 91
  · rw [if_pos h91]
    exact ro_brk bb off n cap at_ z w hr ha h91 _ _ _ _ _ _ _ _ _ _ _ _ _ (hbr h91)
  rw [if_neg h91]
  clear hbr
  by_cases h40 : z at_ = 40
  · rw [if_pos h40]
    clear hP
    unfold opnS
    by_cases h1 : at_ + 1 < n
    · by_cases h63 : z (at_ + 1) = 63
      · rw [if_neg (by rw [hasP_eq h1 h63]; decide)]
        by_cases h2 : at_ + 2 < n
        · by_cases h58 : z (at_ + 2) = 58
          · rw [if_pos (hasP_eq h2 h58), tokOf_sgn]
            exact ro_open_yes bb off n cap at_ z w hr hn ha h40 h1 h63 h2 h58
          · rw [if_neg (by rw [hasP_ne h58]; decide), tokOf_bad]
            exact ro_open_bad bb off n cap at_ z w hr hn ha h40 h1 h63 h2 _ rfl h58
        · rw [if_neg (by rw [hasP_out h2]; decide), tokOf_bad]
          exact ro_open_bad_end bb off n cap at_ z w hr hn ha h40 h1 h63 h2
      · rw [if_pos (hasP_ne h63), tokOf_sgn]
        exact ro_open_no bb off n cap at_ z w hr hn ha h40 h1 _ rfl h63
    · rw [if_pos (hasP_out h1), tokOf_sgn]
      exact ro_open_end bb off n cap at_ z w hr hn ha h40 h1
  rw [if_neg h40]
  by_cases hq : z at_ = 42 ∨ z at_ = 43 ∨ z at_ = 63 ∨ z at_ = 123
  · rw [if_pos hq]
    have hP := hP hq
    rcases rptS_two z n at_ with ⟨he, h0⟩ | ⟨he, h1, h2, h3⟩
    · generalize rptS z n at_ = s at *
      unfold refR at hP
      simp only [if_pos he] at hP
      rw [he]
      rcases hq with hq | hq | hq | hq
      · exact ro_star bb off n cap at_ z w hr ha hq _ _ _ _ _ _ _ _ _ _ _ _ h0 hP
      · exact ro_plus bb off n cap at_ z w hr ha hq _ _ _ _ _ _ _ _ _ _ _ _ h0 hP
      · exact ro_quest bb off n cap at_ z w hr ha hq _ _ _ _ _ _ _ _ _ _ _ _ h0 hP
      · exact ro_cnt bb off n cap at_ z w hr ha hq _ _ _ _ _ _ _ _ _ _ _ _ h0 hP
    · rw [he] at hP ⊢
      rw [refR_bad (by simp [TokS.bad])] at hP
      rw [tokOf_bad]
      exact ro_cnt_bad bb off n cap at_ z w hr ha (by omega) 0 0 0 0 0 0 false 0 0 false 0 hP
  rw [if_neg hq]
  clear hP
  unfold sgnS signK
  by_cases q1 : z at_ = 41
  · rw [q1, tokOf_sgn]; exact ro_close bb off n cap at_ z w hr hn ha q1
  by_cases q2 : z at_ = 124
  · rw [q2, tokOf_sgn]; exact ro_bar bb off n cap at_ z w hr hn ha q2
  by_cases q3 : z at_ = 46
  · rw [q3, tokOf_sgn]; exact ro_dot bb off n cap at_ z w hr hn ha q3
  by_cases q4 : z at_ = 94
  · rw [q4, tokOf_sgn]; exact ro_hat bb off n cap at_ z w hr hn ha q4
  by_cases q5 : z at_ = 36
  · rw [q5, tokOf_sgn]; exact ro_dollar bb off n cap at_ z w hr hn ha q5
  have := ro_byte bb off n cap at_ z w hr hn ha _ rfl (by omega)
  rw [if_neg q3, if_neg q1, if_neg q2, if_neg q4, if_neg q5, if_pos rfl, tokOf_sgn]
  exact this
end Go.Proofs.Ytlmmiicibjfcdaa.X
namespace Go.Proofs.Ytlmmiicibjfcdaa.X
open Go.RowKit Go.Shelf
/-- What first answers: the good tokens, and the first that is bad. -/
def RetF (w : World) (z : Nat → Nat) (n : Nat) (e : Ending) (w' : World) : Prop :=
  ∃ pre ao cap, (∀ s, s ∈ pre → s.er = 0) ∧ w'.ownsRow w.heap.size 42 11 (.slice ao pre.length cap) pre.length (tokL pre) ∧ Below w.heap.size w w' ∧
    ((wl z n 1100 0 = pre ∧ e = .returned (.tuple #[.slice ao pre.length cap, .int .i64 (n : Nat), .int .i64 0])) ∨
     ∃ s, s.er ≠ 0 ∧ wl z n 1100 0 = pre ++ [s] ∧ e = .returned (.tuple #[.slice ao pre.length cap, .int .i64 (s.en : Nat), .int .i64 s.er]))
/-- What first holds between rounds. -/
structure FtI (w : World) (z : Nat → Nat) (n at_ : Nat) (v : Value) (pre : List TokS) (W : World) : Prop where
  le : at_ ≤ n
  len : pre.length ≤ at_
  good : ∀ s, s ∈ pre → s.er = 0
  rest : wl z n 1100 0 = pre ++ wl z n (1100 - pre.length) at_
  row : W.ownsRow w.heap.size 42 11 v pre.length (tokL pre)
  bel : Below w.heap.size w W
theorem wlO {z : Nat → Nat} {n i : Nat} (f : Nat) (h : n ≤ i) : wl z n f i = [] := by
  cases f with
  | zero => rfl
  | succ f => rw [wl, if_pos h]
theorem wlB {z : Nat → Nat} {n i f : Nat} (hf : 0 < f) (h : i < n) (e : (wrd z n i).er ≠ 0) : wl z n f i = [wrd z n i] := by
  obtain ⟨f, rfl⟩ : ∃ g, f = g + 1 := ⟨f - 1, by omega⟩
  rw [wl, if_neg (by omega), if_neg e]
theorem wlG {z : Nat → Nat} {n i f : Nat} (hf : 0 < f) (h : i < n) (e : (wrd z n i).er = 0) : wl z n f i = wrd z n i :: wl z n (f - 1) (wrd z n i).en := by
  obtain ⟨f, rfl⟩ : ∃ g, f = g + 1 := ⟨f - 1, by omega⟩
  rw [wl, if_neg (by omega), if_pos e]; rfl
set_option maxRecDepth 20000 in
set_option maxHeartbeats 2000000 in
theorem rfirst_any (ao : Option Addr) (n cap : Nat) (z : Nat → Nat) (w : World) (hn : (n : Int) ≤ 1024) (HO : Hid (∀ at_, at_ < n → ∀ W, Below w.heap.size w W → Calls Try.prog 79 #[.slice ao n cap, .int .i64 (at_ : Nat)] W (RetO W (tokOf (wrd z n at_).z) (wrd z n at_).en (wrd z n at_).er))) : Calls Try.prog 62 #[.slice ao n cap] w (RetF w z n) := by
  obtain ⟨i0, hi, hz0, hz1, hz2⟩ := info_parts b_tok
  have hI0 : FtI w z n 0 (.slice none 0 0) [] w := by
    refine ⟨by omega, by simp, ?_, rfl, World.ownsRow_nil _ _ _ _, Below.refl _ _⟩
    intro s hs; cases hs
  go_enter Try.func62, Try.ntmps62
  go_wp2
  go_loopw [5, 6] (fun l i wr => ∃ (k : Nat) (pre : List TokS), i = .int .i64 (k : Nat) ∧ FtI w z n k l pre wr) (fun _ i _ => n - (intOf i).toNat)
  case atStart => exact ⟨0, [], rfl, hI0⟩
  case round =>
    obtain ⟨k, pre, rfl, hI⟩ := hrel
    obtain ⟨ao', cap', rfl⟩ := ownsRow_slice hI.row
    have hle := hI.le
    have hlen := hI.len
    by_cases hlt : k < n
    · have hki : (k : Int) < (n : Int) := by omega
      have HC := HO.out k hlt wr hI.bel
      have HW : Hid (∃ x, wrd z n k = x) := ⟨_, rfl⟩
      obtain ⟨x, hx⟩ := HW.out
      clear HW
      rw [hx] at HC
      unfold RetO at HC
      by_cases he : x.er = 0
      · have h9 : (x.er != 0) = false := by simp [he]
        have hw := wrd_lt hlt (by rw [hx]; exact he)
        rw [hx] at hw
        obtain ⟨hw1, hw2, hw3⟩ := hw
        have HS : Hid (∀ W v', Below w.heap.size w W → W.ownsRow w.heap.size 42 11 v' (pre.length + 1) (tokL pre ++ [.int .i64 x.k, .int .u8 (x.b : Nat), .int .u64 (wds x.P 0 : Nat), .int .u64 (wds x.P 1 : Nat), .int .u64 (wds x.P 2 : Nat), .int .u64 (wds x.P 3 : Nat), .bool x.nt, .int .i64 x.l, .int .i64 x.m, .bool x.lz, .int .i64 (k : Nat)]) → FtI w z n x.en v' (pre ++ [x]) W) := by
          intro W v' hb ho
          refine ⟨hw2, by simp; omega, ?_, ?_, ?_, hb⟩
          · intro s hs
            rcases List.mem_append.1 hs with hs | hs
            · exact hI.good s hs
            · rw [List.mem_singleton.1 hs]; exact he
          · rw [hI.rest, wlG (by omega) hlt (by rw [hx]; exact he), hx, List.append_assoc, List.length_append]
            rfl
          · rw [List.length_append, List.length_singleton, tokL_snoc]
            unfold tokC
            rw [hw3]
            exact ho
        have hrow := hI.row
        have hbel := hI.bel
        have hp1 : (pre.length : Int) < 1024 := by omega
        have hx2 : Hid (k < x.en ∧ x.en ≤ n) := ⟨hw1, hw2⟩
        clear hI hw1 hw2 hw3 he hx HO hI0
        unfold tokOf tokV TokS.z at HC
        simp only [] at HC
        generalize wds x.P 0 = a0 at *
        generalize wds x.P 1 = a1 at *
        generalize wds x.P 2 = a2 at *
        generalize wds x.P 3 = a3 at *
        go_wp2_with fail
        refine HC.mono ?_
        rintro e w1 ⟨rfl, hb⟩
        replace hbel := hbel.trans (hb.mono hbel.size)
        replace hrow := ownsRow_at hrow (fun g _ hg => hb.block g hg)
        clear HC hb
        have E := eleven_new (w1.alloc (.cells #[.int .i64 x.k, .int .u8 (x.b : Nat), .int .u64 (a0 : Nat), .int .u64 (a1 : Nat), .int .u64 (a2 : Nat), .int .u64 (a3 : Nat), .bool x.nt, .int .i64 x.l, .int .i64 x.m, .bool x.lz, .int .i64 (k : Nat)] 42)) (.int .i64 x.k) (.int .u8 (x.b : Nat)) (.int .u64 (a0 : Nat)) (.int .u64 (a1 : Nat)) (.int .u64 (a2 : Nat)) (.int .u64 (a3 : Nat)) (.bool x.nt) (.int .i64 x.l) (.int .i64 x.m) (.bool x.lz) (.int .i64 (k : Nat)) 42
        rw [World.size_alloc] at E
        have hsz := hbel.size
        go_wp2_with (at_builtin; refine wpList_append_own _ rfl _ _ 24 rfl w.heap.size 42 i0 (.agg #[.int .i64 0, .int .u8 0, .int .u64 0, .int .u64 0, .int .u64 0, .int .u64 0, .bool false, .int .i64 0, .int .i64 0, .bool false, .int .i64 0]) 11 88 Try.underlying24 hi hz0 hz1 hz2 rfl (by decide) _ _ _ rfl ((hrow.alloc _).alloc _) ⟨w1.heap.size + 1, 0, none⟩ 1 1 [.int .i64 x.k, .int .u8 (x.b : Nat), .int .u64 (a0 : Nat), .int .u64 (a1 : Nat), .int .u64 (a2 : Nat), .int .u64 (a3 : Nat), .bool x.nt, .int .i64 x.l, .int .i64 x.m, .bool x.lz, .int .i64 (k : Nat)] rfl rfl E (by simp [Value.oneCell']) (by unfold maxLen; omega) (by omega) (by simp; omega) ?_)
        intro v' w3 hown' hgrow _
        have hB3 : Below w.heap.size w w3 := Below.grown ((hbel.alloc hsz _).alloc (by simp; omega) _) hgrow (by simp; omega) (fun j e => (hrow.lt j e).1)
        have HN : Hid (FtI w z n x.en v' (pre ++ [x]) w3) := HS.out w3 v' hB3 hown'
        clear hown' hgrow hB3 HS hrow hbel E hsz
        go_wp2
        go_roundw
        case rel => exact ⟨x.en, pre ++ [x], rfl, HN.out⟩
        case measure => have := hx2.out; simp [intOf]; omega
      · have h9 : (x.er != 0) = true := by simp [he]
        have HF : Hid (∀ W, Below wr.heap.size wr W → ∀ o, RetF w z n (.returned (.tuple #[.slice ao' pre.length cap', .int .i64 (x.en : Nat), .int .i64 x.er])) (W.alloc o)) := by
          intro W hb o
          refine ⟨pre, ao', cap', hI.good, ownsRow_at (ownsRow_at hI.row fun g _ hg => hb.block g hg) (fun g _ hg => Below.heap_alloc W o g hg), (hI.bel.trans (hb.mono hI.bel.size)).alloc (Nat.le_trans hI.bel.size hb.size) o, .inr ⟨x, he, ?_, rfl⟩⟩
          rw [hI.rest, wlB (by omega) hlt (by rw [hx]; exact he), hx]
        clear hI he hx HO hI0
        unfold tokOf tokV at HC
        go_wp2_with fail
        refine HC.mono ?_
        rintro e w1 ⟨rfl, hb⟩
        go_wp2
        exact bodyPost_ret (v := .tuple #[.slice ao' pre.length cap', .int .i64 (x.en : Nat), .int .i64 x.er]) (by simp [results, Try.results62, go_sem]) rfl (HF.out _ hb _)
    · have hki : ¬ (k : Int) < (n : Int) := by omega
      obtain rfl : k = n := by omega
      have HF : Hid (RetF w z k (.returned (.tuple #[.slice ao' pre.length cap', .int .i64 (k : Nat), .int .i64 0])) wr) := ⟨pre, ao', cap', hI.good, hI.row, hI.bel, .inl ⟨by rw [hI.rest, wlO _ (Nat.le_refl _), List.append_nil], rfl⟩⟩
      clear hI HO hI0
      go_wp2
      exact bodyPost_ret (v := .tuple #[.slice ao' pre.length cap', .int .i64 (k : Nat), .int .i64 0]) (by simp [results, Try.results62, go_sem]) rfl HF.out
end Go.Proofs.Ytlmmiicibjfcdaa.X
namespace Go.Proofs.Ytlmmiicibjfcdaa.X
open Go.RowKit Go.Shelf
set_option maxRecDepth 20000 in
set_option maxHeartbeats 2000000 in
theorem rlex_short (ao : Option Addr) (n cap : Nat) (z : Nat → Nat) (w : World) (hn : (n : Int) ≤ 1024) (hF : Calls Try.prog 62 #[.slice ao n cap] w (RetF w z n)) : Calls Try.prog 38 #[.slice ao n cap] w (RetLx w z n) := by
  have hgt : ¬ ((n : Int) > 1024) := by omega
  go_enter Try.func38, Try.ntmps38
  go_wp2_with fail
  refine hF.mono ?_
  rintro e w1 ⟨pre, ao', cap', hg, hrow, hb, ⟨hw, rfl⟩ | ⟨s, hs, hw, rfl⟩⟩
  · have HR : Hid (RetLx w z n (.returned (.tuple #[.slice ao' pre.length cap', .int .i64 (n : Nat), .int .i64 0])) w1) := by
      refine .inl ⟨ao', cap', ?_⟩
      rw [hw]
      exact ⟨hg, rfl, hrow, hb⟩
    clear hg hrow hb hw hF
    generalize pre.length = len at *
    go_wp2
    exact bodyPost_ret (v := .tuple #[.slice ao' len cap', .int .i64 (n : Nat), .int .i64 0]) (by simp [results, Try.results38, go_sem]) rfl HR.out
  · have h9 : (s.er != 0) = true := by simp [hs]
    have HR : Hid (RetLx w z n (.returned (.tuple #[.slice none 0 0, .int .i64 (s.en : Nat), .int .i64 s.er])) w1) := .inr ⟨s, by rw [hw]; simp, hs, rfl, hb⟩
    clear hg hrow hb hw hF hs
    go_wp2
    exact bodyPost_ret (v := .tuple #[.slice none 0 0, .int .i64 (s.en : Nat), .int .i64 s.er]) (by simp [results, Try.results38, go_sem]) rfl HR.out
end Go.Proofs.Ytlmmiicibjfcdaa.X
namespace Go.Proofs.Ytlmmiicibjfcdaa.X
open Go.RowKit Go.Shelf
theorem uniS_two (z : Nat → Nat) (n k : Nat) : (uniS z n k).er = 0 ∨ uniS z n k = .bad k 40 := by
  unfold uniS
  split
  · rcases escS_two z n k with h | h
    · exact .inl h.1
    · exact .inr h
  · exact .inl rfl
theorem namP_some (q : Nat) (h : q = 100 ∨ q = 119 ∨ q = 115 ∨ q = 68 ∨ q = 87 ∨ q = 83) : ∃ x, x < 256 ∧ namP q x = true := by
  rcases h with rfl | rfl | rfl | rfl | rfl | rfl
  · exact ⟨48, by decide, by decide⟩
  · exact ⟨48, by decide, by decide⟩
  · exact ⟨32, by decide, by decide⟩
  · exact ⟨32, by decide, by decide⟩
  · exact ⟨32, by decide, by decide⟩
  · exact ⟨48, by decide, by decide⟩
theorem one_sgn (b a e : Nat) (hb : b < 256) : ∃ x, x < 256 ∧ oneS (.sgn 1 b a e) x = true := by
  refine ⟨b, hb, ?_⟩
  have : oneS (.sgn 1 b a e) = ofN (fun _ => b) 1 := rfl
  rw [this, ofN_iff]
  exact ⟨0, by decide, rfl⟩
theorem uniS_some (z : Nat → Nat) (n k : Nat) (hz : ∀ i, i < n → z i < 256) (hk : k < n) (h : (uniS z n k).er = 0) : ∃ x, x < 256 ∧ oneS (uniS z n k) x = true := by
  have hu := uniS_unit z n k hz hk h
  obtain ⟨_, _, ⟨b, hb, e⟩ | ⟨P, e⟩⟩ := hu
  · rw [e]; exact one_sgn _ _ _ hb
  · have e1 : oneS (uniS z n k) = (uniS z n k).P := by rw [e]; rfl
    rw [e1]
    have hk2 : (uniS z n k).k = 2 := by rw [e]; rfl
    clear e e1
    unfold uniS escS at *
    split at hk2
    · rename_i g0
      rw [if_pos g0]
      split at hk2
      · cases hk2
      rename_i g1
      rw [if_neg g1]
      split at hk2
      · rename_i g2
        rw [if_pos g2]
        exact namP_some _ g2
      · exfalso
        repeat' split at hk2
        all_goals cases hk2
    · cases hk2
/-- What brackets holds between rounds. -/
structure BrI (w : World) (z : Nat → Nat) (n op : Nat) (nt : Bool) (k u : Nat) (P : Nat → Bool) (W : World) : Prop where
  le : k ≤ n
  ub : u ≤ k
  rest : ∃ f, n - k < f ∧ brkS z n op = brkG z n op nt f k P
  un : (u = 0 ∧ P = fun _ => false) ∨ (0 < u ∧ ∃ x, x < 256 ∧ P x = true)
  res : Cl W w.heap.size 42 [.int .i64 0, .int .u8 0, .int .u64 0, .int .u64 0, .int .u64 0, .int .u64 0, .bool false, .int .i64 0, .int .i64 0, .bool false, .int .i64 0]
  box : ∃ a b c d, C4 P a b c d ∧ Bx W (w.heap.size + 1) (.int .u64 (a : Nat)) (.int .u64 (b : Nat)) (.int .u64 (c : Nat)) (.int .u64 (d : Nat))
  bel : Below w.heap.size w W
theorem brk_end {w W : World} {z : Nat → Nat} {n op k u : Nat} {nt : Bool} {P : Nat → Bool} (h : BrI w z n op nt k u P W) (hk : n ≤ k) : brkS z n op = .bad op 41 := by
  obtain ⟨f, hf, e⟩ := h.rest
  obtain ⟨f, rfl⟩ : ∃ g, f = g + 1 := ⟨f - 1, by omega⟩
  rw [e, brkG, if_pos hk]
theorem brk_close {w W : World} {z : Nat → Nat} {n op k u : Nat} {nt : Bool} {P : Nat → Bool} (h : BrI w z n op nt k u P W) (hk : k < n) (hq : z k = 93) : brkS z n op = if mayP P nt = true then .cls P nt op (k + 1) else .bad op 41 := by
  obtain ⟨f, hf, e⟩ := h.rest
  obtain ⟨f, rfl⟩ : ∃ g, f = g + 1 := ⟨f - 1, by omega⟩
  rw [e, brkG, if_neg (by omega), if_pos hq]
theorem brk_bad {w W : World} {z : Nat → Nat} {n op k u : Nat} {nt : Bool} {P : Nat → Bool} (h : BrI w z n op nt k u P W) (hk : k < n) (hq : z k ≠ 93) (he : (untS z n k).2.2 ≠ 0) : brkS z n op = .bad (untS z n k).2.1 (untS z n k).2.2 := by
  obtain ⟨f, hf, e⟩ := h.rest
  obtain ⟨f, rfl⟩ : ∃ g, f = g + 1 := ⟨f - 1, by omega⟩
  rw [e, brkG, if_neg (by omega), if_neg hq, if_pos he]
/-- A round that goes well. -/
theorem BrI.next {w W W' : World} {z : Nat → Nat} {n op k u : Nat} {nt : Bool} {P Q R : Nat → Bool} {a b c d : Nat} (h : BrI w z n op nt k u P W) (hk : k < n) (hq : z k ≠ 93) (he : (untS z n k).2.2 = 0) (hQ : (untS z n k).1 = Q) (hR : ∀ x, x < 256 → R x = (P x || Q x)) (hs : ∃ x, x < 256 ∧ Q x = true) (hb : Below W.heap.size W W') (h4 : C4 R a b c d) :
    BrI w z n op nt (untS z n k).2.1 (u + 1) (fun x => P x || Q x) (put4 W' (w.heap.size + 1) (.int .u64 (a : Nat)) (.int .u64 (b : Nat)) (.int .u64 (c : Nat)) (.int .u64 (d : Nat))) := by
  have hl := untS_lt hk he
  have hu := h.ub
  obtain ⟨f, hf, e⟩ := h.rest
  obtain ⟨f, rfl⟩ : ∃ g, f = g + 1 := ⟨f - 1, by omega⟩
  obtain ⟨p, q, r, s, _, hx⟩ := h.box
  refine ⟨hl.2, by omega, ⟨f, by omega, ?_⟩, .inr ⟨by omega, ?_⟩, ?_, ⟨a, b, c, d, h4.congr hR, (hx.below hb).set _ _ _ _⟩, below_put4 (h.bel.trans (hb.mono h.bel.size)) (by omega) _ _ _ _⟩
  · rw [e, brkG, if_neg (by omega), if_neg hq, if_neg (by simp [he]), hQ]
  · obtain ⟨x, hx, hy⟩ := hs
    exact ⟨x, hx, by simp [hy]⟩
  · have hc := h.res.below hb
    unfold put4
    exact (((hc.other (by omega) 0 _).other (by omega) 1 _).other (by omega) 2 _).other (by omega) 3 _
theorem may_none (nt : Bool) : mayP (fun _ => false) nt = false := by
  unfold mayP
  rw [(eqC_iff _ _).2 (fun _ _ => rfl)]; rfl
theorem may_some {P : Nat → Bool} (nt : Bool) (h : ∃ x, x < 256 ∧ P x = true) : mayP P nt = !(nt && eqC P (fun _ => true)) := by
  unfold mayP
  have : eqC P (fun _ => false) = false := by
    cases e : eqC P (fun _ => false)
    · rfl
    · obtain ⟨x, hx, hy⟩ := h
      have := (eqC_iff _ _).1 e x hx
      rw [hy] at this; cases this
  rw [this]; rfl
end Go.Proofs.Ytlmmiicibjfcdaa.X
