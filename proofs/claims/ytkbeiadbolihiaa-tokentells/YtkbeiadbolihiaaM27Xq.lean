/- begun: the walk. TokenLexes: the law's walk, given what the reference's brackets says. The reference of token: brackets: what it holds between rounds, pure parts. -/
import Derived.Test.YtkbeiadbolihiaaM26Xo
import Derived.Lib.SlBytesConst
namespace Go.Proofs.Ytkbeiadbolihiaa
open Go.RowKit
/-- The small pattern's bytes. -/
def zb (i : Nat) : Nat := ([97, 123, 50, 44, 125, 63, 91, 94, 120, 45, 122, 93, 36] : List Nat).getD i 0
theorem rd_zb (w : World) : Rd (w.alloc (.cells #[.int .u8 97, .int .u8 123, .int .u8 50, .int .u8 44, .int .u8 125, .int .u8 63, .int .u8 91, .int .u8 94, .int .u8 120, .int .u8 45, .int .u8 122, .int .u8 93, .int .u8 36] 5 (13, 14))) (some ⟨w.heap.size, 0, none⟩) 13 zb := by
  refine ⟨by decide, fun _ => ⟨w.heap.size, 0, rfl, by simp, fun i hi => ?_⟩⟩
  rw [Nat.zero_add, cell_of_row _ w.heap.size i #[.int .u8 97, .int .u8 123, .int .u8 50, .int .u8 44, .int .u8 125, .int .u8 63, .int .u8 91, .int .u8 94, .int .u8 120, .int .u8 45, .int .u8 122, .int .u8 93, .int .u8 36] 5 (13, 14) (heap_alloc_new w _)]
  obtain rfl | rfl | rfl | rfl | rfl | rfl | rfl | rfl | rfl | rfl | rfl | rfl | rfl : i = 0 ∨ i = 1 ∨ i = 2 ∨ i = 3 ∨ i = 4 ∨ i = 5 ∨ i = 6 ∨ i = 7 ∨ i = 8 ∨ i = 9 ∨ i = 10 ∨ i = 11 ∨ i = 12 := by omega
  all_goals rfl
theorem zb0 : wrd zb 13 0 = .sgn 1 97 0 1 := by kernel_rfl
theorem zb1 : wrd zb 13 1 = .rep 2 (-1) true 1 6 := by kernel_rfl
theorem zb2 : (wrd zb 13 6).er = 0 ∧ (wrd zb 13 6).en = 12 := by constructor <;> kernel_rfl
theorem zb3 : wrd zb 13 12 = .sgn 9 0 12 13 := by kernel_rfl
theorem zb_all : wl zb 13 1100 0 = [wrd zb 13 0, wrd zb 13 1, wrd zb 13 6, wrd zb 13 12] := by
  rw [show (1100 : Nat) = 1096 + 1 + 1 + 1 + 1 from rfl, wl_go (by decide) (by rw [zb0]; rfl), show (wrd zb 13 0).en = 1 by rw [zb0]; rfl, wl_go (by decide) (by rw [zb1]; rfl), show (wrd zb 13 1).en = 6 by rw [zb1]; rfl, wl_go (by decide) zb2.1, zb2.2, wl_go (by decide) (by rw [zb3]; rfl), show (wrd zb 13 12).en = 13 by rw [zb3]; rfl, wl_end (by decide)]
theorem wds_none : wds (fun _ => false) 0 = 0 ∧ wds (fun _ => false) 1 = 0 ∧ wds (fun _ => false) 2 = 0 ∧ wds (fun _ => false) 3 = 0 := (wds_is _).uniq c4_none
set_option maxRecDepth 20000 in
set_option maxHeartbeats 1000000 in
theorem begun_any (w : World) : Calls Try.prog 7 #[] w (RetB w true) := by
  have HL : Hid (∀ W : World, Calls Try.prog 5 #[.slice (some ⟨W.heap.size, 0, none⟩) 13 13] (W.alloc (.cells #[.int .u8 97, .int .u8 123, .int .u8 50, .int .u8 44, .int .u8 125, .int .u8 63, .int .u8 91, .int .u8 94, .int .u8 120, .int .u8 45, .int .u8 122, .int .u8 93, .int .u8 36] 5 (13, 14))) (RetLx (W.alloc (.cells #[.int .u8 97, .int .u8 123, .int .u8 50, .int .u8 44, .int .u8 125, .int .u8 63, .int .u8 91, .int .u8 94, .int .u8 120, .int .u8 45, .int .u8 122, .int .u8 93, .int .u8 36] 5 (13, 14))) zb 13)) := fun W => lex_short _ 13 13 zb _ (rd_zb W) (by decide)
  have hcv : (convert 22 22 (.slice (some ⟨w.heap.size, 0, none⟩) 13 13)).run Try.prog (w.alloc (.cells #[.int .u8 97, .int .u8 123, .int .u8 50, .int .u8 44, .int .u8 125, .int .u8 63, .int .u8 91, .int .u8 94, .int .u8 120, .int .u8 45, .int .u8 122, .int .u8 93, .int .u8 36] 5)) = .ok (.slice (some ⟨w.heap.size, 0, none⟩) 13 13) (w.alloc (.cells #[.int .u8 97, .int .u8 123, .int .u8 50, .int .u8 44, .int .u8 125, .int .u8 63, .int .u8 91, .int .u8 94, .int .u8 120, .int .u8 45, .int .u8 122, .int .u8 93, .int .u8 36] 5 (13, 14))) := Lib.run_convert_bytes_const w 22 5 #[.int .u8 97, .int .u8 123, .int .u8 50, .int .u8 44, .int .u8 125, .int .u8 63, .int .u8 91, .int .u8 94, .int .u8 120, .int .u8 45, .int .u8 122, .int .u8 93, .int .u8 36] 13 13 Try.underlying22 Try.underlying5
  go_enter Try.func7, Try.ntmps7
  go_wp2_with fail
  refine (HL.out _).mono ?_
  rintro e w1 (⟨ao, cap, hg, rfl, hrow, hb⟩ | ⟨s, hs, he, _⟩)
  · rw [zb_all] at hrow
    obtain ⟨g, rfl, hgl, _, hc⟩ := row_cell hrow (by decide)
    have h1 := fun j (hj : j < 11) u (hu : (tokC (wrd zb 13 1))[j]? = some u) => hc (1 * 11 + j) u (by rw [tokL_get _ 1 j (by decide) hj]; exact hu)
    have h3 := fun j (hj : j < 11) u (hu : (tokC (wrd zb 13 12))[j]? = some u) => hc (3 * 11 + j) u (by rw [tokL_get _ 3 j (by decide) hj]; exact hu)
    rw [zb1] at h1
    rw [zb3] at h3
    obtain ⟨e0, e1, e2, e3⟩ := wds_none
    simp only [tokC, TokS.rep, TokS.sgn, e0, e1, e2, e3] at h1 h3
    have u0 := h1 0 (by decide) _ rfl
    have u1 := h1 1 (by decide) _ rfl
    have u2 := h1 2 (by decide) _ rfl
    have u3 := h1 3 (by decide) _ rfl
    have u4 := h1 4 (by decide) _ rfl
    have u5 := h1 5 (by decide) _ rfl
    have u6 := h1 6 (by decide) _ rfl
    have u7 := h1 7 (by decide) _ rfl
    have u8 := h1 8 (by decide) _ rfl
    have u9 := h1 9 (by decide) _ rfl
    have u10 := h1 10 (by decide) _ rfl
    have v0 := h3 0 (by decide) _ rfl
    have v1 := h3 1 (by decide) _ rfl
    have v2 := h3 2 (by decide) _ rfl
    have v3 := h3 3 (by decide) _ rfl
    have v4 := h3 4 (by decide) _ rfl
    have v5 := h3 5 (by decide) _ rfl
    have v6 := h3 6 (by decide) _ rfl
    have v7 := h3 7 (by decide) _ rfl
    have v8 := h3 8 (by decide) _ rfl
    have v9 := h3 9 (by decide) _ rfl
    have v10 := h3 10 (by decide) _ rfl
    simp only [Nat.reduceMul, Nat.reduceAdd] at u0 u1 u2 u3 u4 u5 u6 u7 u8 u9 u10 v0 v1 v2 v3 v4 v5 v6 v7 v8 v9 v10
    have q1 : ∀ W, (Go.binOp BinOp.eql 33 (.agg #[.int .i64 7, .int .u8 0, .int .u64 0, .int .u64 0, .int .u64 0, .int .u64 0, .bool false, .int .i64 2, .int .i64 (-1), .bool true, .int .i64 1]) (.agg #[.int .i64 7, .int .u8 0, .int .u64 0, .int .u64 0, .int .u64 0, .int .u64 0, .bool false, .int .i64 2, .int .i64 (-1), .bool true, .int .i64 1])).run Try.prog W = .ok (.bool true) W := eql32_same 7 0 0 0 0 0 false 2 (-1) true 1
    have q2 : ∀ W, (Go.binOp BinOp.eql 33 (.agg #[.int .i64 9, .int .u8 0, .int .u64 0, .int .u64 0, .int .u64 0, .int .u64 0, .bool false, .int .i64 0, .int .i64 0, .bool false, .int .i64 12]) (.agg #[.int .i64 9, .int .u8 0, .int .u64 0, .int .u64 0, .int .u64 0, .int .u64 0, .bool false, .int .i64 0, .int .i64 0, .bool false, .int .i64 12])).run Try.prog W = .ok (.bool true) W := eql32_same 9 0 0 0 0 0 false 0 0 false 12
    have HB : Hid (Below w.heap.size w w1) := ((Below.refl _ _).alloc (Nat.le_refl _) _).trans (hb.mono (by simp))
    clear h1 h3 hc hrow hb hg hgl e0 e1 e2 e3 HL
    rw [zb_all]
    simp only [List.length_cons, List.length_nil, Nat.reduceAdd]
    go_wp2_with fail
    go_ret
    exact ⟨rfl, HB.out⟩
  · exfalso
    rw [zb_all] at hs
    simp only [List.mem_cons, List.not_mem_nil, or_false] at hs
    rcases hs with rfl | rfl | rfl | rfl
    · rw [zb0] at he; exact he rfl
    · rw [zb1] at he; exact he rfl
    · exact he zb2.1
    · rw [zb3] at he; exact he rfl
end Go.Proofs.Ytkbeiadbolihiaa
namespace Go.Proofs.Ytkbeiadbolihiaa
open Go.RowKit Go.Shelf
/-- Tokens, a place and an error in this ending. -/
def RetTs (w : World) (ts : List TokS) (en er : Int) (e : Ending) (w' : World) : Prop :=
  ∃ a c, e = .returned (.tuple #[.slice a ts.length c, .int .i64 en, .int .i64 er]) ∧ w'.ownsRow w.heap.size 33 11 (.slice a ts.length c) ts.length (tokL ts) ∧ Below w.heap.size w w'
theorem wl_len {z : Nat → Nat} {n : Nat} : ∀ f i, (wl z n f i).length ≤ f := by
  intro f
  induction f with
  | zero => intro i; exact Nat.le_refl _
  | succ f ih =>
    intro i
    rw [wl]
    split
    · simp
    · rw [List.length_cons]
      split
      · have := ih (wrd z n i).en; omega
      · simp
/-- At most one word is bad. -/
theorem wl_one {z : Nat → Nat} {n : Nat} : ∀ f i s t, s ∈ wl z n f i → t ∈ wl z n f i → s.er ≠ 0 → t.er ≠ 0 → s = t := by
  intro f
  induction f with
  | zero => intro i s t hs; cases hs
  | succ f ih =>
    intro i s t hs ht es et
    rw [wl] at hs ht
    split at hs
    · cases hs
    rename_i h1
    rw [if_neg h1] at ht
    by_cases e : (wrd z n i).er = 0
    · rw [if_pos e] at hs ht
      rcases List.mem_cons.1 hs with rfl | hs
      · exact absurd e es
      rcases List.mem_cons.1 ht with rfl | ht
      · exact absurd e et
      exact ih _ s t hs ht es et
    · rw [if_neg e] at hs ht
      rw [List.mem_singleton.1 hs, List.mem_singleton.1 ht]
theorem RetLx.good {w : World} {z : Nat → Nat} {n : Nat} {e : Ending} {w' : World} (h : RetLx w z n e w') (hg : ∀ s, s ∈ wl z n 1100 0 → s.er = 0) : RetTs w (wl z n 1100 0) (n : Nat) 0 e w' := by
  rcases h with ⟨a, c, _, he, hr, hb⟩ | ⟨s, hs, he, _⟩
  · exact ⟨a, c, he, hr, hb⟩
  · exact absurd (hg s hs) he
theorem RetLx.bad {w : World} {z : Nat → Nat} {n : Nat} {e : Ending} {w' : World} (h : RetLx w z n e w') {s : TokS} (hs : s ∈ wl z n 1100 0) (es : s.er ≠ 0) : RetTs w [] (s.en : Nat) s.er e w' := by
  rcases h with ⟨a, c, hg, _⟩ | ⟨t, ht, et, he, hb⟩
  · exact absurd (hg s hs) es
  · rw [wl_one _ _ s t hs ht es et]
    exact ⟨none, 0, he, World.ownsRow_nil _ _ _ _, hb⟩
set_option maxRecDepth 20000 in
set_option maxHeartbeats 2000000 in
theorem law_walk (ao : Option Addr) (n cap : Nat) (w : World) (ts : List TokS) (en er : Int) (hm : (ts.length : Int) ≤ 65535) (hL : Calls Try.prog 5 #[.slice ao n cap] w (RetTs w ts en er)) (hR : ∀ W, Below w.heap.size w W → Calls Try.prog 6 #[.slice ao n cap] W (RetTs W ts en er)) : Calls Try.prog 3 #[.slice ao n cap] w (RetB w true) := by
  have HR := Hid.out (p := ∀ W, Below w.heap.size w W → Calls Try.prog 6 #[.slice ao n cap] W (RetTs W ts en er)) hR
  clear hR
  have eN : (en == en) = true := by simp
  have eR : (er == er) = true := by simp
  go_enter Try.func3, Try.ntmps3
  go_wp2_with fail
  refine hL.mono ?_
  rintro e w1 ⟨a1, c1, rfl, hr1, hb1⟩
  clear hL
  go_wp2_with fail
  refine (HR w1 hb1).mono ?_
  rintro e w2 ⟨a2, c2, rfl, hr2, hb2⟩
  replace hr1 := ownsRow_at hr1 (fun g _ hg => hb2.block g hg)
  replace hb1 := hb1.trans (hb2.mono hb1.size)
  clear hb2
  go_wp2_with fail
  refine (begun_any w2).mono ?_
  rintro e w3 ⟨rfl, hb3⟩
  replace hr1 := ownsRow_at hr1 (fun g _ hg => hb3.block g hg)
  replace hr2 := ownsRow_at hr2 (fun g _ hg => hb3.block g hg)
  replace hb1 := hb1.trans (hb3.mono hb1.size)
  clear hb3
  have HE := equalT_same a1 a2 ts.length c1 c2 _ _ ts w3 hr1 hr2 rfl hm
  clear hr1 hr2
  generalize ts.length = len at *
  go_wp2_with fail
  refine HE.mono ?_
  rintro e w4 ⟨rfl, q, rfl⟩
  have HB : Hid (Below w.heap.size w (w3.drewN q)) := hb1.trans ((bel_drewN w3 q).mono hb1.size)
  clear hb1 HE
  go_wp2
  go_ret
  exact ⟨rfl, HB.out⟩
/-- The law's answer, given what brackets says. -/
theorem lexes_any (ao : Option Addr) (n cap : Nat) (z : Nat → Nat) (w : World) (hr : Rd w ao n z) (hB : ∀ at_, at_ < n → z at_ = 91 → (n : Int) ≤ 1024 → ∀ W, Below w.heap.size w W → Calls Try.prog 25 #[.slice ao n cap, .int .i64 (at_ : Nat)] W (RetO W (tokOf (brkS z n at_).z) (brkS z n at_).en (brkS z n at_).er)) : Calls Try.prog 3 #[.slice ao n cap] w (RetB w true) := by
  by_cases hn : n ≤ 1024
  · have hL := lex_short ao n cap z w hr (by omega)
    have hR : ∀ W, Below w.heap.size w W → Calls Try.prog 6 #[.slice ao n cap] W (RetLx W z n) := fun W hb =>
      rlex_short ao n cap z W (by omega) (rfirst_any ao n cap z W (by omega) (fun at_ ha V hV => rone_any ao n cap at_ z V ((hr.below hb).below hV) (by omega) ha (brkS z n at_) fun hq U hU => hB at_ ha hq (by omega) U ((hb.trans (hV.mono hb.size)).trans (hU.mono (Nat.le_trans hb.size hV.size)))))
    by_cases hg : ∀ s, s ∈ wl z n 1100 0 → s.er = 0
    · refine law_walk ao n cap w (wl z n 1100 0) n 0 ?_ (hL.mono fun _ _ h => h.good hg) fun W hb => (hR W hb).mono fun _ _ h => h.good hg
      have := wl_len (z := z) (n := n) 1100 0
      omega
    · obtain ⟨s, hs, es⟩ : ∃ s, s ∈ wl z n 1100 0 ∧ s.er ≠ 0 := by
        apply Classical.byContradiction
        intro h
        exact hg fun s hs => Classical.byContradiction fun e => h ⟨s, hs, e⟩
      exact law_walk ao n cap w [] s.en s.er (by decide) (hL.mono fun _ _ h => h.bad hs es) fun W hb => (hR W hb).mono fun _ _ h => h.bad hs es
  · exact law_walk ao n cap w [] 0 3 (by decide) ((lex_long ao n cap w (by omega)).mono fun _ _ ⟨he, hb⟩ => ⟨none, 0, he, World.ownsRow_nil _ _ _ _, hb⟩) fun W _ => (rlex_long ao n cap W (by omega)).mono fun _ _ ⟨he, hb⟩ => ⟨none, 0, he, World.ownsRow_nil _ _ _ _, hb⟩
end Go.Proofs.Ytkbeiadbolihiaa
namespace Go.Proofs.Ytkbeiadbolihiaa
open Go.RowKit Go.Shelf
theorem uniS_two (z : Nat → Nat) (n k : Nat) : (uniS z n k).er = 0 ∨ uniS z n k = .bad k 40 := by
  unfold uniS
  split
  · rcases escS_two z n k with h | h
    · exact .inl h.1
    · exact .inr h
  · exact .inl rfl
theorem namP_some (q : Nat) (h : q = 100 ∨ q = 119 ∨ q = 115 ∨ q = 68 ∨ q = 87 ∨ q = 83) : ∃ x, x < 256 ∧ namP q x = true := by
  rcases h with rfl | rfl | rfl | rfl | rfl | rfl
  · exact ⟨48, by decide, by decide⟩
  · exact ⟨48, by decide, by decide⟩
  · exact ⟨32, by decide, by decide⟩
  · exact ⟨32, by decide, by decide⟩
  · exact ⟨32, by decide, by decide⟩
  · exact ⟨48, by decide, by decide⟩
theorem one_sgn (b a e : Nat) (hb : b < 256) : ∃ x, x < 256 ∧ oneS (.sgn 1 b a e) x = true := by
  refine ⟨b, hb, ?_⟩
  have : oneS (.sgn 1 b a e) = ofN (fun _ => b) 1 := rfl
  rw [this, ofN_iff]
  exact ⟨0, by decide, rfl⟩
theorem uniS_some (z : Nat → Nat) (n k : Nat) (hz : ∀ i, i < n → z i < 256) (hk : k < n) (h : (uniS z n k).er = 0) : ∃ x, x < 256 ∧ oneS (uniS z n k) x = true := by
  have hu := uniS_unit z n k hz hk h
  obtain ⟨_, _, ⟨b, hb, e⟩ | ⟨P, e⟩⟩ := hu
  · rw [e]; exact one_sgn _ _ _ hb
  · have e1 : oneS (uniS z n k) = (uniS z n k).P := by rw [e]; rfl
    rw [e1]
    have hk2 : (uniS z n k).k = 2 := by rw [e]; rfl
    clear e e1
    unfold uniS escS at *
    split at hk2
    · rename_i g0
      rw [if_pos g0]
      split at hk2
      · cases hk2
      rename_i g1
      rw [if_neg g1]
      split at hk2
      · rename_i g2
        rw [if_pos g2]
        exact namP_some _ g2
      · exfalso
        repeat' split at hk2
        all_goals cases hk2
    · cases hk2
/-- What brackets holds between rounds. -/
structure BrI (w : World) (z : Nat → Nat) (n op : Nat) (nt : Bool) (k u : Nat) (P : Nat → Bool) (W : World) : Prop where
  le : k ≤ n
  ub : u ≤ k
  rest : ∃ f, n - k < f ∧ brkS z n op = brkG z n op nt f k P
  un : (u = 0 ∧ P = fun _ => false) ∨ (0 < u ∧ ∃ x, x < 256 ∧ P x = true)
  res : Cl W w.heap.size 33 [.int .i64 0, .int .u8 0, .int .u64 0, .int .u64 0, .int .u64 0, .int .u64 0, .bool false, .int .i64 0, .int .i64 0, .bool false, .int .i64 0]
  box : ∃ a b c d, C4 P a b c d ∧ Bx W (w.heap.size + 1) (.int .u64 (a : Nat)) (.int .u64 (b : Nat)) (.int .u64 (c : Nat)) (.int .u64 (d : Nat))
  bel : Below w.heap.size w W
theorem brk_end {w W : World} {z : Nat → Nat} {n op k u : Nat} {nt : Bool} {P : Nat → Bool} (h : BrI w z n op nt k u P W) (hk : n ≤ k) : brkS z n op = .bad op 41 := by
  obtain ⟨f, hf, e⟩ := h.rest
  obtain ⟨f, rfl⟩ : ∃ g, f = g + 1 := ⟨f - 1, by omega⟩
  rw [e, brkG, if_pos hk]
theorem brk_close {w W : World} {z : Nat → Nat} {n op k u : Nat} {nt : Bool} {P : Nat → Bool} (h : BrI w z n op nt k u P W) (hk : k < n) (hq : z k = 93) : brkS z n op = if mayP P nt = true then .cls P nt op (k + 1) else .bad op 41 := by
  obtain ⟨f, hf, e⟩ := h.rest
  obtain ⟨f, rfl⟩ : ∃ g, f = g + 1 := ⟨f - 1, by omega⟩
  rw [e, brkG, if_neg (by omega), if_pos hq]
theorem brk_bad {w W : World} {z : Nat → Nat} {n op k u : Nat} {nt : Bool} {P : Nat → Bool} (h : BrI w z n op nt k u P W) (hk : k < n) (hq : z k ≠ 93) (he : (untS z n k).2.2 ≠ 0) : brkS z n op = .bad (untS z n k).2.1 (untS z n k).2.2 := by
  obtain ⟨f, hf, e⟩ := h.rest
  obtain ⟨f, rfl⟩ : ∃ g, f = g + 1 := ⟨f - 1, by omega⟩
  rw [e, brkG, if_neg (by omega), if_neg hq, if_pos he]
/-- A round that goes well. -/
theorem BrI.next {w W W' : World} {z : Nat → Nat} {n op k u : Nat} {nt : Bool} {P Q R : Nat → Bool} {a b c d : Nat} (h : BrI w z n op nt k u P W) (hk : k < n) (hq : z k ≠ 93) (he : (untS z n k).2.2 = 0) (hQ : (untS z n k).1 = Q) (hR : ∀ x, x < 256 → R x = (P x || Q x)) (hs : ∃ x, x < 256 ∧ Q x = true) (hb : Below W.heap.size W W') (h4 : C4 R a b c d) :
    BrI w z n op nt (untS z n k).2.1 (u + 1) (fun x => P x || Q x) (put4 W' (w.heap.size + 1) (.int .u64 (a : Nat)) (.int .u64 (b : Nat)) (.int .u64 (c : Nat)) (.int .u64 (d : Nat))) := by
  have hl := untS_lt hk he
  have hu := h.ub
  obtain ⟨f, hf, e⟩ := h.rest
  obtain ⟨f, rfl⟩ : ∃ g, f = g + 1 := ⟨f - 1, by omega⟩
  obtain ⟨p, q, r, s, _, hx⟩ := h.box
  refine ⟨hl.2, by omega, ⟨f, by omega, ?_⟩, .inr ⟨by omega, ?_⟩, ?_, ⟨a, b, c, d, h4.congr hR, (hx.below hb).set _ _ _ _⟩, below_put4 (h.bel.trans (hb.mono h.bel.size)) (by omega) _ _ _ _⟩
  · rw [e, brkG, if_neg (by omega), if_neg hq, if_neg (by simp [he]), hQ]
  · obtain ⟨x, hx, hy⟩ := hs
    exact ⟨x, hx, by simp [hy]⟩
  · have hc := h.res.below hb
    unfold put4
    exact (((hc.other (by omega) 0 _).other (by omega) 1 _).other (by omega) 2 _).other (by omega) 3 _
theorem may_none (nt : Bool) : mayP (fun _ => false) nt = false := by
  unfold mayP
  rw [(eqC_iff _ _).2 (fun _ _ => rfl)]; rfl
theorem may_some {P : Nat → Bool} (nt : Bool) (h : ∃ x, x < 256 ∧ P x = true) : mayP P nt = !(nt && eqC P (fun _ => true)) := by
  unfold mayP
  have : eqC P (fun _ => false) = false := by
    cases e : eqC P (fun _ => false)
    · rfl
    · obtain ⟨x, hx, hy⟩ := h
      have := (eqC_iff _ _).1 e x hx
      rw [hy] at this; cases this
  rw [this]; rfl
end Go.Proofs.Ytkbeiadbolihiaa
