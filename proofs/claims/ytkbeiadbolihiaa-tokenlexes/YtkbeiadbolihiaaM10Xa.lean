/- token: what a token is, by one record; escape, unit, open, repeat, sign by it. Tokens as values. The reference of token: digit, letter, hex, aByte, aClass: the walks. -/
import Derived.Test.YtkbeiadbolihiaaM09Kk
namespace Go.Proofs.Ytkbeiadbolihiaa
open Go.RowKit
/-- A token with its class as a predicate, the place behind it, and the error. -/
structure TokS where
  k : Int
  b : Nat
  P : Nat → Bool
  nt : Bool
  l : Int
  m : Int
  lz : Bool
  at_ : Nat
  en : Nat
  er : Int
def TokS.bad (en : Nat) (er : Int) : TokS := ⟨0, 0, fun _ => false, false, 0, 0, false, 0, en, er⟩
def TokS.sgn (k : Int) (b at_ en : Nat) : TokS := ⟨k, b, fun _ => false, false, 0, 0, false, at_, en, 0⟩
def TokS.cls (P : Nat → Bool) (nt : Bool) (at_ en : Nat) : TokS := ⟨2, 0, P, nt, 0, 0, false, at_, en, 0⟩
def TokS.rep (l m : Int) (lz : Bool) (at_ en : Nat) : TokS := ⟨7, 0, fun _ => false, false, l, m, lz, at_, en, 0⟩
/-- A token in words is the record's. -/
def TokS.is (s : TokS) (k : Int) (b a0 a1 a2 a3 : Nat) (nt : Bool) (l m : Int) (lz : Bool) (at' en : Nat) (er : Int) : Prop :=
  k = s.k ∧ b = s.b ∧ C4 s.P a0 a1 a2 a3 ∧ nt = s.nt ∧ l = s.l ∧ m = s.m ∧ lz = s.lz ∧ at' = s.at_ ∧ en = s.en ∧ er = s.er
/-- A call's answer is the record's token. -/
def RetT (w : World) (s : TokS) : Ending → World → Prop := RetG w s.is
theorem retT_k {w : World} (s : TokS) {e : Ending} {w' : World} (hP : s.P = fun _ => false) (h : RetK w (tokV s.k s.b 0 0 0 0 s.nt s.l s.m s.lz s.at_) (markV s.en s.er) e w') : RetT w s e w' :=
  ⟨_, _, _, _, _, _, _, _, _, _, _, _, _, h.1, ⟨rfl, rfl, by rw [hP]; exact c4_none, rfl, rfl, rfl, rfl, rfl, rfl, rfl⟩, h.2⟩
theorem retT_c {w : World} {P : Nat → Bool} {nt : Bool} {at_ en : Nat} {e : Ending} {w' : World} (h : RetKC w P nt at_ en e w') : RetT w (.cls P nt at_ en) e w' := by
  obtain ⟨a, b, c, d, he, h4, hb⟩ := h
  exact ⟨_, _, _, _, _, _, _, _, _, _, _, _, _, he, ⟨rfl, rfl, h4, rfl, rfl, rfl, rfl, rfl, rfl, rfl⟩, hb⟩
/-- What escape says. -/
def escS (z : Nat → Nat) (n at_ : Nat) : TokS :=
  if n < at_ + 2 then .bad at_ 40
  else if z (at_ + 1) = 100 ∨ z (at_ + 1) = 119 ∨ z (at_ + 1) = 115 ∨ z (at_ + 1) = 68 ∨ z (at_ + 1) = 87 ∨ z (at_ + 1) = 83 then .cls (namP (z (at_ + 1))) false at_ (at_ + 2)
  else if z (at_ + 1) = 110 then .sgn 1 10 at_ (at_ + 2)
  else if z (at_ + 1) = 114 then .sgn 1 13 at_ (at_ + 2)
  else if z (at_ + 1) = 116 then .sgn 1 9 at_ (at_ + 2)
  else if z (at_ + 1) = 120 then (if (hexV z n (at_ + 2)).2 = true then .sgn 1 (hexV z n (at_ + 2)).1 at_ (at_ + 4) else .bad at_ 40)
  else if letP (z (at_ + 1)) = true then .bad at_ 40
  else if digP (z (at_ + 1)) = true then .bad at_ 40
  else .sgn 1 (z (at_ + 1)) at_ (at_ + 2)
theorem esc_any (ao : Option Addr) (n cap at_ : Nat) (z : Nat → Nat) (w : World) (hr : Rd w ao n z) (hn : (n : Int) ≤ 1024) (ha : at_ < n) : Calls Try.prog 19 #[.slice ao n cap, .int .i64 (at_ : Nat)] w (RetT w (escS z n at_)) := by
  unfold escS
  split
  · rename_i h; exact (esc_short ao n cap at_ z w hr hn ha h).mono fun _ _ h => retT_k (.bad at_ 40) rfl h
  rename_i h
  have h2 : at_ + 2 ≤ n := by omega
  split
  · rename_i hq; exact (esc_class ao n cap at_ z w hr hn h2 _ rfl hq).mono fun _ _ h => retT_c h
  rename_i hne
  split
  · rename_i hq; exact (esc_110 ao n cap at_ z w hr hn h2 hq).mono fun _ _ h => retT_k (.sgn 1 10 at_ (at_ + 2)) rfl h
  split
  · rename_i hq; exact (esc_114 ao n cap at_ z w hr hn h2 hq).mono fun _ _ h => retT_k (.sgn 1 13 at_ (at_ + 2)) rfl h
  split
  · rename_i hq; exact (esc_116 ao n cap at_ z w hr hn h2 hq).mono fun _ _ h => retT_k (.sgn 1 9 at_ (at_ + 2)) rfl h
  split
  · rename_i hq
    split
    · rename_i hx; exact (esc_hex ao n cap at_ z w hr hn h2 hq (hexV z n (at_ + 2)).1 (Prod.ext rfl hx)).mono fun _ _ h => retT_k (.sgn 1 (hexV z n (at_ + 2)).1 at_ (at_ + 4)) rfl h
    · rename_i hx; exact (esc_nohex ao n cap at_ z w hr hn h2 hq (hexV z n (at_ + 2)).1 (Prod.ext rfl (by simpa using hx))).mono fun _ _ h => retT_k (.bad at_ 40) rfl h
  rename_i h110 h114 h116 h120
  have hne' : z (at_ + 1) ≠ 100 ∧ z (at_ + 1) ≠ 119 ∧ z (at_ + 1) ≠ 115 ∧ z (at_ + 1) ≠ 68 ∧ z (at_ + 1) ≠ 87 ∧ z (at_ + 1) ≠ 83 ∧ z (at_ + 1) ≠ 110 ∧ z (at_ + 1) ≠ 114 ∧ z (at_ + 1) ≠ 116 ∧ z (at_ + 1) ≠ 120 := by omega
  split
  · rename_i hl; exact (esc_letter ao n cap at_ z w hr hn h2 _ rfl hne' hl).mono fun _ _ h => retT_k (.bad at_ 40) rfl h
  rename_i hl
  split
  · rename_i hd; exact (esc_digit ao n cap at_ z w hr hn h2 _ rfl hne' (by simpa using hl) hd).mono fun _ _ h => retT_k (.bad at_ 40) rfl h
  · rename_i hd; exact (esc_plain ao n cap at_ z w hr hn h2 _ rfl hne' (by simpa using hl) (by simpa using hd)).mono fun _ _ h => retT_k (.sgn 1 (z (at_ + 1)) at_ (at_ + 2)) rfl h
/-- What unit says. -/
def uniS (z : Nat → Nat) (n at_ : Nat) : TokS := if z at_ = 92 then escS z n at_ else .sgn 1 (z at_) at_ (at_ + 1)
theorem unit_any (ao : Option Addr) (n cap at_ : Nat) (z : Nat → Nat) (w : World) (hr : Rd w ao n z) (hn : (n : Int) ≤ 1024) (ha : at_ < n) : Calls Try.prog 56 #[.slice ao n cap, .int .i64 (at_ : Nat)] w (RetT w (uniS z n at_)) := by
  unfold uniS
  split
  · rename_i hq; exact unit_esc ao n cap at_ z w hr ha hq _ fun W hb => esc_any ao n cap at_ z W (hr.below hb) hn ha
  · rename_i hq; exact (unit_byte ao n cap at_ z w hr hn ha _ rfl hq).mono fun _ _ h => retT_k (.sgn 1 (z at_) at_ (at_ + 1)) rfl h
/-- What open says. -/
def opnS (z : Nat → Nat) (n at_ : Nat) : TokS := if hasP z n (at_ + 1) 63 = false then .sgn 4 0 at_ (at_ + 1) else if hasP z n (at_ + 2) 58 = true then .sgn 4 0 at_ (at_ + 3) else .bad at_ 44
theorem open_any (ao : Option Addr) (n cap at_ : Nat) (z : Nat → Nat) (w : World) (hr : Rd w ao n z) (hn : (n : Int) ≤ 1024) (ha : at_ < n) : Calls Try.prog 21 #[.slice ao n cap, .int .i64 (at_ : Nat)] w (RetT w (opnS z n at_)) := by
  unfold opnS
  split
  · rename_i h1; exact (open_plain ao n cap at_ z w hr hn ha h1).mono fun _ _ h => retT_k (.sgn 4 0 at_ (at_ + 1)) rfl h
  rename_i h1
  split
  · rename_i h2; exact (open_group ao n cap at_ z w hr hn ha (by simpa using h1) h2).mono fun _ _ h => retT_k (.sgn 4 0 at_ (at_ + 3)) rfl h
  · rename_i h2; exact (open_wrong ao n cap at_ z w hr hn ha (by simpa using h1) (by simpa using h2)).mono fun _ _ h => retT_k (.bad at_ 44) rfl h
/-- What repeat says. -/
def rptS (z : Nat → Nat) (n at_ : Nat) : TokS :=
  if (repS z n at_).2.2.2 ≠ 0 then .bad (repS z n at_).2.2.1 (repS z n at_).2.2.2
  else if hasP z n (repS z n at_).2.2.1 63 = true then .rep (repS z n at_).1 (repS z n at_).2.1 true at_ ((repS z n at_).2.2.1 + 1)
  else .rep (repS z n at_).1 (repS z n at_).2.1 false at_ (repS z n at_).2.2.1
theorem repeat_any (ao : Option Addr) (n cap at_ : Nat) (z : Nat → Nat) (w : World) (hr : Rd w ao n z) (hn : (n : Int) ≤ 1024) (ha : at_ < n) (hq : z at_ = 42 ∨ z at_ = 43 ∨ z at_ = 63 ∨ z at_ = 123) : Calls Try.prog 22 #[.slice ao n cap, .int .i64 (at_ : Nat)] w (RetT w (rptS z n at_)) := by
  have h := rep_any ao n cap at_ z w hr hn ha hq
  unfold rptS
  unfold RetRp at h
  split
  · rename_i h1; rw [if_pos h1] at h; exact h.mono fun _ _ h => retT_k (.bad (repS z n at_).2.2.1 (repS z n at_).2.2.2) rfl h
  rename_i h1
  rw [if_neg h1] at h
  split
  · rename_i h2; rw [if_pos h2] at h; exact h.mono fun _ _ h => retT_k (.rep (repS z n at_).1 (repS z n at_).2.1 true at_ ((repS z n at_).2.2.1 + 1)) rfl h
  · rename_i h2; rw [if_neg h2] at h; exact h.mono fun _ _ h => retT_k (.rep (repS z n at_).1 (repS z n at_).2.1 false at_ (repS z n at_).2.2.1) rfl h
/-- What sign says. -/
def sgnS (z : Nat → Nat) (at_ : Nat) : TokS := .sgn (signK (z at_) : Nat) (if signK (z at_) = 1 then z at_ else 0) at_ (at_ + 1)
theorem sign_t (ao : Option Addr) (n cap at_ : Nat) (z : Nat → Nat) (w : World) (hr : Rd w ao n z) (hn : (n : Int) ≤ 1024) (ha : at_ < n) : Calls Try.prog 23 #[.slice ao n cap, .int .i64 (at_ : Nat)] w (RetT w (sgnS z at_)) :=
  (sign_any ao n cap at_ z w hr hn ha).mono fun _ _ h => retT_k (sgnS z at_) rfl h
/-- What word says, given what bracket says. -/
def wrdS (br : TokS) (z : Nat → Nat) (n at_ : Nat) : TokS :=
  if z at_ = 92 then escS z n at_
  else if z at_ = 91 then br
  else if z at_ = 40 then opnS z n at_
  else if z at_ = 42 ∨ z at_ = 43 ∨ z at_ = 63 ∨ z at_ = 123 then rptS z n at_
  else sgnS z at_
theorem word_t (ao : Option Addr) (n cap at_ : Nat) (z : Nat → Nat) (w : World) (hr : Rd w ao n z) (hn : (n : Int) ≤ 1024) (ha : at_ < n) (br : TokS) (hbr : z at_ = 91 → ∀ W, Below w.heap.size w W → Calls Try.prog 20 #[.slice ao n cap, .int .i64 (at_ : Nat)] W (RetT W br)) : Calls Try.prog 17 #[.slice ao n cap, .int .i64 (at_ : Nat)] w (RetT w (wrdS br z n at_)) := by
  unfold wrdS
  split
  · rename_i hq; exact word_esc ao n cap at_ z w hr ha hq _ fun W hb => esc_any ao n cap at_ z W (hr.below hb) hn ha
  rename_i h92
  split
  · rename_i hq; exact word_bracket ao n cap at_ z w hr ha hq _ (hbr hq)
  rename_i h91
  split
  · rename_i hq; exact word_open ao n cap at_ z w hr ha hq _ fun W hb => open_any ao n cap at_ z W (hr.below hb) hn ha
  rename_i h40
  split
  · rename_i hq
    have hR : ∀ W, Below w.heap.size w W → Calls Try.prog 22 #[.slice ao n cap, .int .i64 (at_ : Nat)] W (RetG W (rptS z n at_).is) := fun W hb => repeat_any ao n cap at_ z W (hr.below hb) hn ha hq
    rcases hq with hq | hq | hq | hq
    · exact word_rep42 ao n cap at_ z w hr ha hq _ hR
    · exact word_rep43 ao n cap at_ z w hr ha hq _ hR
    · exact word_rep63 ao n cap at_ z w hr ha hq _ hR
    · exact word_rep123 ao n cap at_ z w hr ha hq _ hR
  · rename_i hne
    exact word_sign ao n cap at_ z w hr ha _ rfl (by omega) _ fun W hb => sign_t ao n cap at_ z W (hr.below hb) hn ha
end Go.Proofs.Ytkbeiadbolihiaa
namespace Go.Proofs.Ytkbeiadbolihiaa
open Go.RowKit
/-- The number whose lowest n bits are f's. -/
def wordN (f : Nat → Bool) (n : Nat) : Nat := if h : n = 0 then 0 else (if f (n - 1) = true then 2 ^ (n - 1) else 0) + wordN f (n - 1)
theorem wordN_zero (f : Nat → Bool) : wordN f 0 = 0 := by rw [wordN, dif_pos rfl]
theorem wordN_succ (f : Nat → Bool) (n : Nat) : wordN f (n + 1) = (if f n = true then 2 ^ n else 0) + wordN f n := by
  rw [wordN, dif_neg (by omega)]
  simp only [Nat.add_sub_cancel]
theorem wordN_is (f : Nat → Bool) (n : Nat) : wordN f n < 2 ^ n ∧ ∀ j, j < n → (wordN f n).testBit j = f j := by
  induction n with
  | zero => exact ⟨by rw [wordN_zero]; decide, fun j h => by omega⟩
  | succ n ih =>
    obtain ⟨ha, hb⟩ := ih
    rw [wordN_succ]
    generalize wordN f n = a at *
    cases hf : f n with
    | false =>
      rw [if_neg (by decide), Nat.zero_add]
      refine ⟨by rw [Nat.pow_succ]; omega, fun j hj => ?_⟩
      by_cases e : j = n
      · subst e; rw [hf]; exact Nat.testBit_lt_two_pow ha
      · exact hb j (by omega)
    | true =>
      rw [if_pos rfl]
      refine ⟨by rw [Nat.pow_succ]; omega, fun j hj => ?_⟩
      by_cases e : j = n
      · subst e
        rw [Nat.testBit_two_pow_add_eq, Nat.testBit_lt_two_pow ha, hf]; rfl
      · rw [Nat.testBit_two_pow_add_gt (by omega)]
        exact hb j (by omega)
/-- The four words of a class. -/
def wds (P : Nat → Bool) (i : Nat) : Nat := wordN (fun j => P (64 * i + j)) 64
theorem wds_is (P : Nat → Bool) : C4 P (wds P 0) (wds P 1) (wds P 2) (wds P 3) := by
  have h := fun i => wordN_is (fun j => P (64 * i + j)) 64
  exact ⟨(h 0).1, (h 1).1, (h 2).1, (h 3).1, fun j hj => by have := (h 0).2 j hj; rw [Nat.mul_zero, Nat.zero_add] at this; exact this, fun j hj => (h 1).2 j hj, fun j hj => (h 2).2 j hj, fun j hj => (h 3).2 j hj⟩
/-- A token's cells, and the token as a value. -/
def tokC (s : TokS) : List Value := [.int .i64 s.k, .int .u8 (s.b : Nat), .int .u64 (wds s.P 0 : Nat), .int .u64 (wds s.P 1 : Nat), .int .u64 (wds s.P 2 : Nat), .int .u64 (wds s.P 3 : Nat), .bool s.nt, .int .i64 s.l, .int .i64 s.m, .bool s.lz, .int .i64 (s.at_ : Nat)]
def tokOf (s : TokS) : Value := tokV s.k s.b (wds s.P 0) (wds s.P 1) (wds s.P 2) (wds s.P 3) s.nt s.l s.m s.lz s.at_
def RetD (w : World) (s : TokS) (e : Ending) (w' : World) : Prop := e = .returned (.tuple #[tokOf s, markV s.en s.er]) ∧ Below w.heap.size w w'
theorem RetT.d {w : World} {s : TokS} {e : Ending} {w' : World} (h : RetT w s e w') : RetD w s e w' := by
  obtain ⟨k, b, a0, a1, a2, a3, nt, l, m, lz, at', en, er, rfl, ⟨rfl, rfl, h4, rfl, rfl, rfl, rfl, rfl, rfl, rfl⟩, hb⟩ := h
  obtain ⟨rfl, rfl, rfl, rfl⟩ := h4.uniq (wds_is s.P)
  exact ⟨rfl, hb⟩
end Go.Proofs.Ytkbeiadbolihiaa
namespace Go.Proofs.Ytkbeiadbolihiaa
open Go.RowKit
set_option maxHeartbeats 400000 in
theorem rdigit_b (b : Nat) (w : World) : Calls Try.prog 44 #[.int .u8 (b : Nat)] w fun e w' => e = .returned (.bool (digP b)) ∧ w' = w := by
  by_cases h1 : 48 ≤ b
  · have g1 : (48 : Int) ≤ (b : Int) := by omega
    have e : decide ((b : Int) ≤ 57) = digP b := by unfold digP; rw [decide_eq_true h1, Bool.true_and, decide_eq_decide]; omega
    go_enter Try.func44, Try.ntmps44
    go_wp2
    go_ret
    exact ⟨rfl, rfl⟩
  · have g1 : ¬ (48 : Int) ≤ (b : Int) := by omega
    have e : digP b = false := by unfold digP; rw [decide_eq_false h1, Bool.false_and]
    rw [e]
    go_enter Try.func44, Try.ntmps44
    go_wp2
    go_ret
    exact ⟨rfl, rfl⟩
set_option maxHeartbeats 400000 in
theorem rletter_b (b : Nat) (w : World) : Calls Try.prog 43 #[.int .u8 (b : Nat)] w fun e w' => e = .returned (.bool (letP b)) ∧ w' = w := by
  have key : ∀ x : Bool, letP b = x → Calls Try.prog 43 #[.int .u8 (b : Nat)] w fun e w' => e = .returned (.bool x) ∧ w' = w := by
    intro x hx
    by_cases h1 : 97 ≤ b
    · have g1 : (97 : Int) ≤ (b : Int) := by omega
      by_cases h2 : b ≤ 122
      · have g2 : (b : Int) ≤ 122 := by omega
        have e : x = true := by rw [← hx]; unfold letP; simp [h1, h2]
        subst e
        clear hx
        go_enter Try.func43, Try.ntmps43
        go_wp2
        go_ret
        exact ⟨rfl, rfl⟩
      · have g2 : ¬ (b : Int) ≤ 122 := by omega
        have g3 : (65 : Int) ≤ (b : Int) := by omega
        have g4 : ¬ (b : Int) ≤ 90 := by omega
        have e : x = false := by rw [← hx]; unfold letP; simp; omega
        subst e
        clear hx
        go_enter Try.func43, Try.ntmps43
        go_wp2
        go_ret
        exact ⟨rfl, rfl⟩
    · have g1 : ¬ (97 : Int) ≤ (b : Int) := by omega
      by_cases h2 : 65 ≤ b
      · have g2 : (65 : Int) ≤ (b : Int) := by omega
        by_cases h3 : b ≤ 90
        · have g3 : (b : Int) ≤ 90 := by omega
          have e : x = true := by rw [← hx]; unfold letP; simp [h2, h3]
          subst e
          clear hx
          go_enter Try.func43, Try.ntmps43
          go_wp2
          go_ret
          exact ⟨rfl, rfl⟩
        · have g3 : ¬ (b : Int) ≤ 90 := by omega
          have e : x = false := by rw [← hx]; unfold letP; simp; omega
          subst e
          clear hx
          go_enter Try.func43, Try.ntmps43
          go_wp2
          go_ret
          exact ⟨rfl, rfl⟩
      · have g2 : ¬ (65 : Int) ≤ (b : Int) := by omega
        have e : x = false := by rw [← hx]; unfold letP; simp; omega
        subst e
        clear hx
        go_enter Try.func43, Try.ntmps43
        go_wp2
        go_ret
        exact ⟨rfl, rfl⟩
  exact key _ rfl
/-- A digit's value, -1 of what is none. -/
def hexR (b : Nat) : Int := if (hexP b).2 = true then ((hexP b).1 : Int) else -1
theorem conv53 (x : Int) (h : 0 ≤ x ∧ x < 256) (W : World) : (convert 5 3 (.int .u8 x)).run Try.prog W = .ok (.int .i64 x) W := by
  have hk : Try.prog.intKind 3 = .i64 := by kernel_rfl
  rw [run_convert_int W 5 3 .u8 _ (by rw [Try.underlying5]; rfl) (by rw [hk]; exact Try.underlying3), hk, show IntKind.i64.wrap x = x by rw [IntKind.wrap_i64]; omega]
set_option maxHeartbeats 400000 in
theorem rhex_any (b : Nat) (w : World) (hb : b < 256) : Calls Try.prog 42 #[.int .u8 (b : Nat)] w fun e w' => e = .returned (.int .i64 (hexR b)) ∧ w' = w := by
  have hd := fun W => rdigit_b b W
  cases h0 : digP b with
  | true =>
    have h48 : 48 ≤ b ∧ b ≤ 57 := by unfold digP at h0; simp at h0; omega
    have e : hexR b = (b : Int) - 48 := by unfold hexR hexP; rw [h0]; simp; omega
    rw [h0] at hd
    rw [e]
    have g1 : (48 : Int) ≤ (b : Int) := by omega
    have g2 : (b : Int) ≤ 57 := by omega
    have hcv := conv53 ((b : Int) - 48) (by omega)
    clear e h0 h48
    go_enter Try.func42, Try.ntmps42
    go_wp2_with (go_at_call 44; refine (hd _).mono ?_; rintro e w' ⟨rfl, rfl⟩)
    go_ret
    exact ⟨rfl, rfl⟩
  | false =>
    rw [h0] at hd
    by_cases h1 : 97 ≤ b ∧ b ≤ 102
    · have e : hexR b = (b : Int) - 97 + 10 := by unfold hexR hexP; rw [h0]; simp [h1]; omega
      rw [e]
      have g1 : (97 : Int) ≤ (b : Int) := by omega
      have g2 : (b : Int) ≤ 102 := by omega
      have hcv := conv53 ((b : Int) - 97) (by omega)
      clear e h0
      go_enter Try.func42, Try.ntmps42
      go_wp2_with (go_at_call 44; refine (hd _).mono ?_; rintro e w' ⟨rfl, rfl⟩)
      go_ret
      exact ⟨rfl, rfl⟩
    · by_cases h2 : 65 ≤ b ∧ b ≤ 70
      · have e : hexR b = (b : Int) - 65 + 10 := by
          unfold hexR hexP
          have e1 : (decide (97 ≤ b) && decide (b ≤ 102)) = false := by simp; omega
          rw [h0, e1]; simp [h2]; omega
        rw [e]
        have g1 : ¬ (97 : Int) ≤ (b : Int) := by omega
        have g2 : (65 : Int) ≤ (b : Int) := by omega
        have g3 : (b : Int) ≤ 70 := by omega
        have hcv := conv53 ((b : Int) - 65) (by omega)
        clear e h0
        go_enter Try.func42, Try.ntmps42
        go_wp2_with (go_at_call 44; refine (hd _).mono ?_; rintro e w' ⟨rfl, rfl⟩)
        go_ret
        exact ⟨rfl, rfl⟩
      · have e : hexR b = -1 := by
          unfold hexR hexP
          have e1 : (decide (97 ≤ b) && decide (b ≤ 102)) = false := by simp; omega
          have e2 : (decide (65 ≤ b) && decide (b ≤ 70)) = false := by simp; omega
          rw [h0, e1, e2]; rfl
        rw [e]
        clear e h0
        by_cases g1 : (97 : Int) ≤ (b : Int)
        · have g2 : ¬ (b : Int) ≤ 102 := by omega
          have g3 : (65 : Int) ≤ (b : Int) := by omega
          have g4 : ¬ (b : Int) ≤ 70 := by omega
          go_enter Try.func42, Try.ntmps42
          go_wp2_with (go_at_call 44; refine (hd _).mono ?_; rintro e w' ⟨rfl, rfl⟩)
          go_ret
          exact ⟨rfl, rfl⟩
        · by_cases g3 : (65 : Int) ≤ (b : Int)
          · have g4 : ¬ (b : Int) ≤ 70 := by omega
            go_enter Try.func42, Try.ntmps42
            go_wp2_with (go_at_call 44; refine (hd _).mono ?_; rintro e w' ⟨rfl, rfl⟩)
            go_ret
            exact ⟨rfl, rfl⟩
          · go_enter Try.func42, Try.ntmps42
            go_wp2_with (go_at_call 44; refine (hd _).mono ?_; rintro e w' ⟨rfl, rfl⟩)
            go_ret
            exact ⟨rfl, rfl⟩
/-- A token's answer by the reference: the token, nothing old has turned. -/
def RetA (w : World) (s : TokS) (e : Ending) (w' : World) : Prop := e = .returned (tokOf s) ∧ Below w.heap.size w w'
theorem tokOf_none (s : TokS) (h : s.P = fun _ => false) : tokOf s = tokV s.k s.b 0 0 0 0 s.nt s.l s.m s.lz s.at_ := by
  obtain ⟨e0, e1, e2, e3⟩ := (wds_is (fun _ => false)).uniq c4_none
  unfold tokOf
  rw [h, e0, e1, e2, e3]
set_option maxRecDepth 10000 in
set_option maxHeartbeats 400000 in
theorem aByte_any (b : Nat) (w : World) : Calls Try.prog 27 #[.int .u8 (b : Nat)] w (RetA w (.sgn 1 b 0 0)) := by
  unfold RetA
  rw [tokOf_none _ rfl]
  go_enter Try.func27, Try.ntmps27
  go_wp2
  exact bodyPost_ret (v := tokV 1 b 0 0 0 0 false 0 0 false 0) (by simp [results, Try.results27, go_sem, tokV]) rfl ⟨rfl, bel1 _ _⟩
set_option maxRecDepth 10000 in
set_option maxHeartbeats 400000 in
theorem aClass_any {P : Nat → Bool} {a b c d : Nat} (h4 : C4 P a b c d) (w : World) : Calls Try.prog 37 #[.agg #[.int .u64 (a : Nat), .int .u64 (b : Nat), .int .u64 (c : Nat), .int .u64 (d : Nat)]] w (RetA w (.cls P false 0 0)) := by
  obtain ⟨rfl, rfl, rfl, rfl⟩ := h4.uniq (wds_is P)
  show Calls Try.prog 37 _ w fun e w' => e = .returned (tokV 2 0 (wds P 0) (wds P 1) (wds P 2) (wds P 3) false 0 0 false 0) ∧ Below w.heap.size w w'
  clear h4
  generalize wds P 0 = a
  generalize wds P 1 = b
  generalize wds P 2 = c
  generalize wds P 3 = d
  go_enter Try.func37, Try.ntmps37
  go_wp2
  exact bodyPost_ret (v := tokV 2 0 a b c d false 0 0 false 0) (by simp [results, Try.results37, go_sem, tokV]) rfl ⟨rfl, bel2 _ _ _⟩
end Go.Proofs.Ytkbeiadbolihiaa
